/- Contract of slices.partialInsertionSortOrdered at rows of 32 bits. -/
import Derived.Test.YtblinhncklpidaaS5
namespace Go.Proofs.Ytblinhncklpidaa
open Go.RowKit

theorem ssorted_go {d : Array Nat} {b i : Nat} (h : i < b) (hl : lt32 d[i]! d[i - 1]! = false) : Go.Sort.scanSorted lt32 d b (i + 1) = Go.Sort.scanSorted lt32 d b i := by
  conv => rhs; rw [Go.Sort.scanSorted]
  rw [hl, decide_eq_true h]; rfl
theorem ssorted_end {d : Array Nat} {b i : Nat} (h : ¬ i < b ∨ lt32 d[i]! d[i - 1]! = true) : Go.Sort.scanSorted lt32 d b i = i := by
  rw [Go.Sort.scanSorted]
  rcases h with h | h
  · rw [decide_eq_false h]; rfl
  · rw [h]; simp
theorem ssorted_bd (d : Array Nat) (b : Nat) : ∀ (n i : Nat), b - i ≤ n → i ≤ b → i ≤ Go.Sort.scanSorted lt32 d b i ∧ Go.Sort.scanSorted lt32 d b i ≤ b := by
  intro n
  induction n with
  | zero => intro i h1 h2; rw [ssorted_end (.inl (by omega))]; omega
  | succ n ih =>
    intro i h1 h2
    by_cases hl : i < b
    · cases hls : lt32 d[i]! d[i - 1]!
      · rw [← ssorted_go hl hls]
        have := ih (i + 1) (by omega) (by omega)
        omega
      · rw [ssorted_end (.inr hls)]; omega
    · rw [ssorted_end (.inl hl)]; omega
theorem shiftDown_size : ∀ (j : Nat) (d : Array Nat), (Go.Sort.shiftDown lt32 j d).size = d.size
  | 0, d => rfl
  | j + 1, d => by
    rw [Go.Sort.shiftDown]
    split
    · rfl
    · rw [shiftDown_size j, Go.Sort.size_swp]
theorem shiftUp_size (b : Nat) : ∀ (n j : Nat) (d : Array Nat), b - j ≤ n → (Go.Sort.shiftUp lt32 b j d).size = d.size := by
  intro n
  induction n with
  | zero => intro j d h; rw [Go.Sort.shiftUp, if_neg (by omega)]
  | succ n ih =>
    intro j d h
    rw [Go.Sort.shiftUp]
    split
    · split
      · rfl
      · rw [ih _ _ (by omega), Go.Sort.size_swp]
    · rfl

set_option maxRecDepth 100000 in
set_option maxHeartbeats 6000000 in
theorem partial_any (g cap : Nat) (d : Array Nat) (n a b : Nat) (w : World) (hn : n = d.size) (hb : b ≤ d.size) (hab : a + 12 < b) (hd : d.size ≤ 4096) (h : Arr w g cap d) :
    Calls Try.prog 56 #[.slice (some ⟨g, 0, none⟩) n cap, .int .i64 (a : Int), .int .i64 (b : Int)] w fun e w' => e = .returned (.bool (Go.Sort.partialInsertionSort lt32 d a b).2) ∧ Arr w' g cap (Go.Sort.partialInsertionSort lt32 d a b).1 ∧ w.grownBy w' (some g) := by
  subst hn
  have HR : Hid (Go.Sort.partialIns lt32 a b 5 (a + 1) d = Go.Sort.partialInsertionSort lt32 d a b) := rfl
  generalize Go.Sort.partialInsertionSort lt32 d a b = res at *
  have hb' : (b : Int) ≤ 4096 := by omega
  have hbd : (b : Int) ≤ (d.size : Int) := by omega
  have ha' : (a : Int) + 12 < (b : Int) := by omega
  go_enter Try.func56, Try.ntmps56
  go_wp2
  go_loopg [7, 8, 9, 10] 5 (fun gg s7 s8 s9 s10 wr => ∃ (t i : Nat) (d1 : Array Nat), t ≤ 5 ∧ 5 - t ≤ gg ∧ a + 1 ≤ i ∧ i ≤ b ∧ s7 = .int .i64 (i : Int) ∧ s8 = .int .i64 (t : Int) ∧ d1.size = d.size ∧ Arr wr g cap d1 ∧ w.grownBy wr (some g) ∧ Hid (Go.Sort.partialIns lt32 a b (5 - t) i d1 = res))
  case atStart => exact ⟨0, a + 1, d, by omega, by omega, Nat.le_refl _, by omega, by go_num, rfl, rfl, h, World.grownBy.refl _ _, HR⟩
  case round =>
    obtain ⟨t, i, d1, ht, htg, hi1, hi2, rfl, rfl, hsz, hA, hG, HE⟩ := hrel
    by_cases hlt : t < 5
    · have hlt' : (t : Int) < 5 := by omega
      obtain ⟨st, hst⟩ : ∃ st, 5 - t = st + 1 := ⟨4 - t, by omega⟩
      have heq := HE.out
      rw [hst, Go.Sort.partialIns_succ] at heq
      have HQ := hidMk heq
      have HST := hidMk hst
      clear heq HE hst
      go_upto_block 2 with fail
      go_cut [7] (fun s7 wx => s7 = .int .i64 ((Go.Sort.scanSorted lt32 d1 b i : Nat) : Int) ∧ Arr wx g cap d1 ∧ w.grownBy wx (some g))
      case first =>
        go_wp2
        go_loopg [7] (b - i) (fun gg s7 wr => ∃ i' : Nat, i ≤ i' ∧ i' ≤ b ∧ b - i' ≤ gg ∧ s7 = .int .i64 (i' : Int) ∧ Arr wr g cap d1 ∧ w.grownBy wr (some g) ∧ Hid (Go.Sort.scanSorted lt32 d1 b i' = Go.Sort.scanSorted lt32 d1 b i))
        case atStart => exact ⟨i, Nat.le_refl _, hi2, Nat.le_refl _, rfl, hA, hG, rfl⟩
        case round =>
          clear hA hG
          obtain ⟨i', h1, h2, hg2, rfl, hA, hG, HS⟩ := hrel
          by_cases hl : i' < b
          · obtain ⟨k, rfl⟩ : ∃ k, i' = k + 1 := ⟨i' - 1, by omega⟩
            have hl' : (k : Int) + 1 < (b : Int) := by omega
            have c1 := hA.cell (j := k + 1) (by omega)
            have c0 := hA.cell (j := k) (by omega)
            have HLE := hidMk (less_any d1[k + 1]! d1[k]!)
            cases hls : lt32 d1[k + 1]! d1[k]!
            · rw [hls] at HLE
              have HS2 := hidMk ((ssorted_go (i := k + 1) hl (by simpa using hls)).trans HS.out)
              clear hls
              generalize d1[k + 1]! = x at *
              generalize d1[k]! = y at *
              go_wp2
              go_quiet ((go_at_call 57; exact Calls.quiet_of_same (HLE.out _)))
              go_wp2
              go_roundg (b - (k + 1 + 1))
              case measure => omega
              case rel => exact ⟨k + 1 + 1, by omega, by omega, Nat.le_refl _, by go_num, hA.drewN _, turned_drewN hG _, HS2⟩
            · rw [hls] at HLE
              have HS2 := hidMk ((ssorted_end (b := b) (i := k + 1) (.inr (by simpa using hls))).symm.trans HS.out)
              clear hls
              generalize d1[k + 1]! = x at *
              generalize d1[k]! = y at *
              go_wp2
              go_quiet ((go_at_call 57; exact Calls.quiet_of_same (HLE.out _)))
              go_wp2
              go_meet
              case rel => exact ⟨by rw [← HS2.out], hA.drewN _, turned_drewN hG _⟩
          · have hl' : decide ((i' : Int) < (b : Int)) = false := by simp; omega
            have HS2 := hidMk ((ssorted_end (d := d1) (b := b) (i := i') (.inl hl)).symm.trans HS.out)
            go_wp2
            go_quiet ((go_at_call 57; exact Calls.quiet_of_same (less_any _ _ _)))
            go_wp2
            go_meet
            case rel => exact ⟨by rw [← HS2.out], hA.drewN _, turned_drewN hG _⟩
      case rest =>
        clear hA hG
        obtain ⟨rfl, hA, hG⟩ := hcut
        have hbd2 := ssorted_bd d1 b _ i (Nat.le_refl _) hi2
        obtain ⟨I1, hI1⟩ : ∃ I1, Go.Sort.scanSorted lt32 d1 b i = I1 := ⟨_, rfl⟩
        have hq := HQ.out
        rw [hI1] at hq hbd2 ⊢
        clear hI1 HQ
        by_cases hIb : I1 = b
        · rw [if_pos hIb] at hq
          subst hIb
          have HQ := hidMk hq
          clear hq
          go_wp2
          go_ret
          exact ⟨by rw [← HQ.out]; rfl, by rw [← HQ.out]; exact hA, hG⟩
        · rw [if_neg hIb] at hq
          have hIb' : ((I1 : Int) == (b : Int)) = false := by simp; omega
          by_cases h50 : b - a < 50
          · rw [if_pos h50] at hq
            have HQ := hidMk hq
            clear hq
            have h50' : (b : Int) - (a : Int) < 50 := by omega
            go_wp2
            go_ret
            exact ⟨by rw [← HQ.out]; rfl, by rw [← HQ.out]; exact hA, hG⟩
          · rw [if_neg h50] at hq
            have h50' : (50 : Int) ≤ (b : Int) - (a : Int) := by omega
            obtain ⟨k, hk⟩ : ∃ k, I1 = k + 1 := ⟨I1 - 1, by omega⟩
            subst hk
            rw [Nat.add_sub_cancel] at hq
            have hkb : (k : Int) + 1 < (b : Int) := by omega
            have c1 := hA.cell (j := k + 1) (by omega)
            have c0 := hA.cell (j := k) (by omega)
            have f1 := hA.frozen (k + 1)
            have f0 := hA.frozen k
            have HSW := hidMk (hA.swapD (k + 1) k (by omega) (by omega))
            have hs2 : (Go.Sort.swp d1 (k + 1) k).size = d.size := by rw [Go.Sort.size_swp]; exact hsz
            generalize Go.Sort.swp d1 (k + 1) k = d2 at *
            generalize d1[k + 1]! = x at *
            generalize d1[k]! = y at *
            go_upto_region 11 with fail
            go_cut [7] (fun s7 wx => s7 = .int .i64 ((k + 1 : Nat) : Int) ∧ Arr wx g cap d2 ∧ w.grownBy wx (some g))
            case first =>
              go_region
              go_wp2
              go_meet
              case rel => exact ⟨rfl, HSW.out, turned_swapD hG _ _ _ _⟩
            case rest =>
              clear hA hG c1 c0 f1 f0 HSW
              obtain ⟨rfl, hA, hG⟩ := hcut
              have hs3 : (Go.Sort.fixDown lt32 a (k + 1) d2).size = d.size := by
                unfold Go.Sort.fixDown
                split
                · rw [shiftDown_size]; exact hs2
                · exact hs2
              have HF : Hid (Go.Sort.fixDown lt32 a (k + 1) d2 = if k + 1 - a ≥ 2 then Go.Sort.shiftDown lt32 k d2 else d2) := rfl
              generalize Go.Sort.fixDown lt32 a (k + 1) d2 = d3 at *
              go_upto_if 61 with fail
              go_cut [9] (fun s9 wx => Arr wx g cap d3 ∧ w.grownBy wx (some g))
              case first =>
                by_cases h2 : k + 1 - a ≥ 2
                · have hf := HF.out
                  rw [if_pos h2] at hf
                  have HF2 := hidMk hf
                  clear hf
                  have h2' : (2 : Int) ≤ (k : Int) + 1 - (a : Int) := by omega
                  go_wp2
                  go_loopg [9] k (fun gg s9 wr => ∃ (j : Nat) (e1 : Array Nat), j ≤ k ∧ j ≤ gg ∧ s9 = .int .i64 (j : Int) ∧ e1.size = d.size ∧ Arr wr g cap e1 ∧ w.grownBy wr (some g) ∧ Hid (Go.Sort.shiftDown lt32 j e1 = d3))
                  case atStart => exact ⟨k, d2, Nat.le_refl _, Nat.le_refl _, by first | rfl | go_num, hs2, hA, hG, hidMk HF2.out.symm⟩
                  case round =>
                    clear hA hG
                    obtain ⟨j, e1, hj, hjg, rfl, hse, hA, hG, HS⟩ := hrel
                    cases j with
                    | zero =>
                      have HS2 : Hid (e1 = d3) := HS.out
                      go_wp2
                      go_meet
                      case rel => exact ⟨by rw [← HS2.out]; exact hA, hG⟩
                    | succ m =>
                      have hmb : (m : Int) + 1 < (d.size : Int) := by omega
                      have c1 := hA.cell (j := m + 1) (by omega)
                      have c0 := hA.cell (j := m) (by omega)
                      have f1 := hA.frozen (m + 1)
                      have f0 := hA.frozen m
                      have HSW := hidMk (hA.swapN (m + 1) m (by omega) (by omega))
                      have hs4 : (Go.Sort.swp e1 (m + 1) m).size = d.size := by rw [Go.Sort.size_swp]; exact hse
                      have HLE := hidMk (less_any e1[m + 1]! e1[m]!)
                      have hdef : Go.Sort.shiftDown lt32 (m + 1) e1 = if !lt32 e1[m + 1]! e1[m]! then e1 else Go.Sort.shiftDown lt32 m (Go.Sort.swp e1 (m + 1) m) := rfl
                      rw [HS.out] at hdef
                      cases hls : lt32 e1[m + 1]! e1[m]!
                      · rw [hls] at HLE hdef
                        have HS2 : Hid (e1 = d3) := by show e1 = d3; simpa using hdef.symm
                        clear hls hdef HSW
                        generalize e1[m + 1]! = x at *
                        generalize e1[m]! = y at *
                        go_wp2
                        go_quiet ((go_at_call 57; exact Calls.quiet_of_same (HLE.out _)))
                        go_wp2
                        go_meet
                        case rel => exact ⟨by rw [← HS2.out]; exact hA.drewN _, turned_drewN hG _⟩
                      · rw [hls] at HLE hdef
                        have HS2 : Hid (Go.Sort.shiftDown lt32 m (Go.Sort.swp e1 (m + 1) m) = d3) := by show Go.Sort.shiftDown lt32 m (Go.Sort.swp e1 (m + 1) m) = d3; simpa using hdef.symm
                        clear hls hdef
                        generalize Go.Sort.swp e1 (m + 1) m = e2 at *
                        generalize e1[m + 1]! = x at *
                        generalize e1[m]! = y at *
                        go_wp2
                        go_quiet ((go_at_call 57; exact Calls.quiet_of_same (HLE.out _)))
                        go_wp2
                        go_region
                        go_wp2
                        go_roundg m
                        case measure => omega
                        case rel => exact ⟨m, e2, by omega, Nat.le_refl _, by go_num, hs4, HSW.out _, turned_swapN hG _ _ _ _ _, HS2⟩
                · have hf := HF.out
                  rw [if_neg h2] at hf
                  have HF2 := hidMk hf
                  clear hf
                  have h2' : (k : Int) + 1 - (a : Int) < 2 := by omega
                  go_wp2
                  go_meet
                  case rel => exact ⟨by rw [HF2.out]; exact hA, hG⟩
              case rest =>
                clear hA hG HF
                obtain ⟨hA, hG⟩ := hcut
                have hs4 : (Go.Sort.fixUp lt32 b (k + 1) d3).size = d.size := by
                  unfold Go.Sort.fixUp
                  split
                  · rw [shiftUp_size b _ _ _ (Nat.le_refl _)]; exact hs3
                  · exact hs3
                have HF : Hid (Go.Sort.fixUp lt32 b (k + 1) d3 = if b - (k + 1) ≥ 2 then Go.Sort.shiftUp lt32 b (k + 1 + 1) d3 else d3) := rfl
                generalize Go.Sort.fixUp lt32 b (k + 1) d3 = d4 at *
                have HQ := hidMk hq
                clear hq
                have HEnd : Hid (Go.Sort.partialIns lt32 a b (5 - (t + 1)) (k + 1) d4 = res) := by
                  show Go.Sort.partialIns lt32 a b (5 - (t + 1)) (k + 1) d4 = res
                  have e2 : 5 - (t + 1) = st := by have := HST.out; omega
                  rw [e2]; exact HQ.out
                by_cases h2 : b - (k + 1) ≥ 2
                · have hf := HF.out
                  rw [if_pos h2] at hf
                  have HF2 := hidMk hf
                  clear hf
                  have h2' : (2 : Int) ≤ (b : Int) - ((k : Int) + 1) := by omega
                  go_wp2
                  go_loopg [10] b (fun gg s10 wr => ∃ (j : Nat) (e1 : Array Nat), k + 2 ≤ j ∧ j ≤ b ∧ b - j ≤ gg ∧ s10 = .int .i64 (j : Int) ∧ e1.size = d.size ∧ Arr wr g cap e1 ∧ w.grownBy wr (some g) ∧ Hid (Go.Sort.shiftUp lt32 b j e1 = d4))
                  case atStart => exact ⟨k + 1 + 1, d3, Nat.le_refl _, by omega, by omega, by go_num, hs3, hA, hG, hidMk HF2.out.symm⟩
                  case round =>
                    clear hA hG
                    obtain ⟨j, e1, hj1, hj2, hjg, rfl, hse, hA, hG, HS⟩ := hrel
                    have hdef := HS.out
                    rw [Go.Sort.shiftUp] at hdef
                    by_cases hjb : j < b
                    · rw [if_pos hjb] at hdef
                      obtain ⟨m, rfl⟩ : ∃ m, j = m + 1 := ⟨j - 1, by omega⟩
                      rw [Nat.add_sub_cancel] at hdef
                      have hjb' : (m : Int) + 1 < (b : Int) := by omega
                      have c1 := hA.cell (j := m + 1) (by omega)
                      have c0 := hA.cell (j := m) (by omega)
                      have f1 := hA.frozen (m + 1)
                      have f0 := hA.frozen m
                      have HSW := hidMk (hA.swapN (m + 1) m (by omega) (by omega))
                      have hs5 : (Go.Sort.swp e1 (m + 1) m).size = d.size := by rw [Go.Sort.size_swp]; exact hse
                      have HLE := hidMk (less_any e1[m + 1]! e1[m]!)
                      cases hls : lt32 e1[m + 1]! e1[m]!
                      · rw [hls] at HLE hdef
                        have HS2 : Hid (e1 = d4) := by show e1 = d4; simpa using hdef
                        clear hls hdef HSW
                        generalize e1[m + 1]! = x at *
                        generalize e1[m]! = y at *
                        go_wp2
                        go_quiet ((go_at_call 57; exact Calls.quiet_of_same (HLE.out _)))
                        go_wp2
                        go_roundg (5 - (t + 1))
                        case measure => omega
                        case rel => exact ⟨t + 1, k + 1, d4, by omega, Nat.le_refl _, by omega, by omega, rfl, by go_num, hs4, by rw [← HS2.out]; exact hA.drewN _, turned_drewN hG _, HEnd⟩
                      · rw [hls] at HLE hdef
                        have HS2 : Hid (Go.Sort.shiftUp lt32 b (m + 1 + 1) (Go.Sort.swp e1 (m + 1) m) = d4) := by show Go.Sort.shiftUp lt32 b (m + 1 + 1) (Go.Sort.swp e1 (m + 1) m) = d4; simpa using hdef
                        clear hls hdef
                        generalize Go.Sort.swp e1 (m + 1) m = e2 at *
                        generalize e1[m + 1]! = x at *
                        generalize e1[m]! = y at *
                        go_wp2
                        go_quiet ((go_at_call 57; exact Calls.quiet_of_same (HLE.out _)))
                        go_wp2
                        go_region
                        go_wp2
                        go_roundg (b - (m + 1 + 1))
                        case measure => omega
                        case rel => exact ⟨m + 1 + 1, e2, by omega, by omega, Nat.le_refl _, by go_num, hs5, HSW.out _, turned_swapN hG _ _ _ _ _, HS2⟩
                    · rw [if_neg hjb] at hdef
                      have HS2 := hidMk hdef
                      clear hdef
                      have hjb' : ¬ (j : Int) < (b : Int) := by omega
                      go_wp2
                      go_roundg (5 - (t + 1))
                      case measure => omega
                      case rel => exact ⟨t + 1, k + 1, d4, by omega, Nat.le_refl _, by omega, by omega, rfl, by go_num, hs4, by rw [← HS2.out]; exact hA, hG, HEnd⟩
                · have hf := HF.out
                  rw [if_neg h2] at hf
                  have HF2 := hidMk hf
                  clear hf
                  have h2' : (b : Int) - ((k : Int) + 1) < 2 := by omega
                  go_wp2
                  go_roundg (5 - (t + 1))
                  case measure => omega
                  case rel => exact ⟨t + 1, k + 1, d4, by omega, Nat.le_refl _, by omega, by omega, rfl, by go_num, hs4, by rw [HF2.out]; exact hA, hG, HEnd⟩
    · obtain rfl : t = 5 := by omega
      have heq : (d1, false) = res := HE.out
      have HQ := hidMk heq
      clear heq
      go_wp2
      go_ret
      exact ⟨by rw [← HQ.out]; rfl, by rw [← HQ.out]; exact hA, hG⟩
end Go.Proofs.Ytblinhncklpidaa
