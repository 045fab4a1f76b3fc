/- Contracts of slices.heapSortOrdered and reverseRangeOrdered at rows of 32 bits. -/
import Derived.Test.YtblinhncklpidaaS2
import Derived.Deep.LoopGhost
import Derived.Deep.DeepCutAuto
import Derived.Deep.CutBlock
namespace Go.Proofs.Ytblinhncklpidaa
open Go.RowKit

theorem size_sift (hi first : Nat) : ∀ (n root : Nat) (d : Array Nat), hi - root ≤ n → (Go.Sort.siftDown lt32 hi first root d).size = d.size := by
  intro n
  induction n with
  | zero =>
    intro root d h
    rw [sift_stop (by omega)]
  | succ n ih =>
    intro root d h
    by_cases hs : 2 * root + 1 ≥ hi
    · rw [sift_stop hs]
    · rw [sift_go hs]
      have hc := childOf_lt (first := first) (d := d) hs
      split
      · rfl
      · rw [ih _ _ (by omega), Go.Sort.size_swp]

set_option maxRecDepth 100000 in
set_option maxHeartbeats 4000000 in
theorem heap_any (g cap : Nat) (d : Array Nat) (n a b : Nat) (w : World) (hn : n = d.size) (hb : b ≤ d.size) (hab : a < b) (hd : d.size ≤ 4096) (h : Arr w g cap d) :
    Calls Try.prog 52 #[.slice (some ⟨g, 0, none⟩) n cap, .int .i64 (a : Int), .int .i64 (b : Int)] w fun e w' => (∃ v, e = .returned v) ∧ Arr w' g cap (Go.Sort.heapSort lt32 d a b) ∧ w.grownBy w' (some g) := by
  subst hn
  have HR : Hid (Go.Sort.heapPop lt32 a (b - a) (Go.Sort.heapBuild lt32 (b - a) a ((b - a - 1) / 2 + 1) d) = Go.Sort.heapSort lt32 d a b) := rfl
  generalize Go.Sort.heapSort lt32 d a b = res at *
  obtain ⟨H, hH⟩ : ∃ H, b - a = H := ⟨_, rfl⟩
  rw [hH] at HR
  have hHe : (b : Int) - (a : Int) = (H : Int) := by omega
  obtain ⟨K0, hK0⟩ : ∃ K0, (H - 1) / 2 = K0 := ⟨_, rfl⟩
  rw [hK0] at HR
  have hKe : ((H : Int) - 1) / 2 = (K0 : Int) := by omega
  have hK1 : K0 < H := by omega
  have ha' : (a : Int) ≤ 4096 := by omega
  have hH' : (H : Int) ≤ 4096 := by omega
  have hH1 : (1 : Int) ≤ (H : Int) := by omega
  have hbh : a + H ≤ d.size := by omega
  have HK := hidMk hKe
  clear hH hK0 hKe
  obtain ⟨dB, hdB⟩ : ∃ dB, Go.Sort.heapBuild lt32 H a (K0 + 1) d = dB := ⟨_, rfl⟩
  rw [hdB] at HR
  have HB := hidMk hdB
  clear hdB
  go_enter Try.func52, Try.ntmps52
  go_wp2
  go_loopg [9] (K0 + 1) (fun gg s9 wr => ∃ (k : Nat) (d1 : Array Nat), k ≤ K0 + 1 ∧ k ≤ gg ∧ s9 = .int .i64 ((k : Int) - 1) ∧ d1.size = d.size ∧ Arr wr g cap d1 ∧ w.grownBy wr (some g) ∧ Hid (Go.Sort.heapBuild lt32 H a k d1 = dB))
  case atStart => exact ⟨K0 + 1, d, Nat.le_refl _, Nat.le_refl _, by rw [HK.out]; go_num, rfl, h, World.grownBy.refl _ _, HB⟩
  case round =>
    obtain ⟨k, d1, hk, hkg, rfl, hsz, hA, hG, HE⟩ := hrel
    cases k with
    | succ m =>
      rw [show (((m + 1 : Nat) : Int) - 1) = (m : Int) by omega]
      have HS := hidMk (sift_any g cap d1 d.size m H a wr hsz.symm (by omega) (by omega) (by omega) hA)
      have hs2 : (Go.Sort.siftDown lt32 H a m d1).size = d.size := (size_sift H a _ m d1 (Nat.le_refl _)).trans hsz
      have HE2 : Hid (Go.Sort.heapBuild lt32 H a m (Go.Sort.siftDown lt32 H a m d1) = dB) := HE.out
      clear HE
      generalize Go.Sort.siftDown lt32 H a m d1 = d2 at *
      go_wp2_with (go_at_call 62; refine (HS.out).mono ?_; rintro e w2 ⟨⟨v, rfl⟩, hA2, hG2⟩)
      go_roundg m
      case measure => omega
      case rel => exact ⟨m, d2, by omega, Nat.le_refl _, rfl, hs2, hA2, hG.trans hG2, HE2⟩
    | zero =>
      rw [show (((0 : Nat) : Int) - 1) = -1 by omega]
      have hdd : d1 = dB := HE.out
      subst hdd
      go_wp2
      go_loopg [10] H (fun gg s10 wr => ∃ (k : Nat) (d2 : Array Nat), k ≤ H ∧ k ≤ gg ∧ s10 = .int .i64 ((k : Int) - 1) ∧ d2.size = d.size ∧ Arr wr g cap d2 ∧ w.grownBy wr (some g) ∧ Hid (Go.Sort.heapPop lt32 a k d2 = res))
      case atStart => exact ⟨H, d1, Nat.le_refl _, Nat.le_refl _, rfl, hsz, hA, hG, HR⟩
      case round =>
        clear hA hG hsz
        obtain ⟨k, d2, hk2, hkg2, rfl, hsz, hA, hG, HE2⟩ := hrel
        cases k with
        | zero =>
          rw [show (((0 : Nat) : Int) - 1) = -1 by omega]
          have hdd : d2 = res := HE2.out
          subst hdd
          go_wp2
          go_end0
          exact ⟨⟨_, rfl⟩, hA, hG⟩
        | succ m =>
          rw [show (((m + 1 : Nat) : Int) - 1) = (m : Int) by omega]
          have hm' : (m : Int) < (H : Int) := by omega
          have cF := hA.cell (j := a) (by omega)
          have cI := hA.cell (j := a + m) (by omega)
          have fF := hA.frozen a
          have fI := hA.frozen (a + m)
          have HSW := hidMk (hA.swapD a (a + m) (by omega) (by omega))
          have hs3 : (Go.Sort.swp d2 a (a + m)).size = d.size := by rw [Go.Sort.size_swp]; exact hsz
          have w1 := wrap_i64 ((a : Int) + (m : Int)) (by omega) (by omega)
          have b1 : (a : Int) + (m : Int) < (d.size : Int) := by omega
          have n1 : 0 ≤ (a : Int) + (m : Int) := by omega
          have t1 : ((a : Int) + (m : Int)).toNat = a + m := by omega
          have had : (a : Int) < (d.size : Int) := by omega
          have HP : Hid (Go.Sort.heapPop lt32 a m (Go.Sort.siftDown lt32 m a 0 (Go.Sort.swp d2 a (a + m))) = res) := HE2.out
          clear HE2
          generalize hd3 : Go.Sort.swp d2 a (a + m) = d3 at *
          clear hd3
          go_upto_region 10 with fail
          go_cut [9] (fun s9 wx => s9 = .int .i64 (-1) ∧ Arr wx g cap d3 ∧ w.grownBy wx (some g))
          case first =>
            by_cases hm0 : m = 0
            · subst hm0
              generalize d2[a]! = x at *
              go_region
              go_wp2
              go_meet
              case rel => exact ⟨rfl, HSW.out, turned_swapD hG _ _ _ _⟩
            · have e1 : ¬ a = a + m := by omega
              have e2 : ¬ a + m = a := by omega
              have e3 : ¬ m = 0 := hm0
              generalize d2[a]! = x at *
              generalize d2[a + m]! = y at *
              go_region
              go_wp2
              go_meet
              case rel => exact ⟨rfl, HSW.out, turned_swapD hG _ _ _ _⟩
          case rest =>
            clear hA hG
            obtain ⟨rfl, hA, hG⟩ := hcut
            have HS := hidMk (sift_any g cap d3 d.size 0 m a wc hs3.symm (by omega) (by omega) (by omega) hA)
            have hs2 : (Go.Sort.siftDown lt32 m a 0 d3).size = d.size := (size_sift m a _ 0 d3 (Nat.le_refl _)).trans hs3
            clear cF cI fF fI HSW w1 b1 n1 t1
            generalize Go.Sort.siftDown lt32 m a 0 d3 = d4 at *
            go_wp2_with (go_at_call 62; refine (HS.out).mono ?_; rintro e w2 ⟨⟨v, rfl⟩, hA2, hG2⟩)
            go_roundg m
            case measure => omega
            case rel => exact ⟨m, d4, by omega, Nat.le_refl _, rfl, hs2, hA2, hG.trans hG2, HP⟩

set_option maxHeartbeats 1000000 in
theorem reverse_any (g cap : Nat) (d : Array Nat) (n a b : Nat) (w : World) (hn : n = d.size) (hb : b ≤ d.size) (hab : a < b) (hd : d.size ≤ 4096) (h : Arr w g cap d) :
    Calls Try.prog 55 #[.slice (some ⟨g, 0, none⟩) n cap, .int .i64 (a : Int), .int .i64 (b : Int)] w fun e w' => (∃ v, e = .returned v) ∧ Arr w' g cap (Go.Sort.reverseRange d a b) ∧ w.grownBy w' (some g) := by
  subst hn
  have HR : Hid (Go.Sort.reverseLoop a (b - 1) d = Go.Sort.reverseRange d a b) := rfl
  generalize Go.Sort.reverseRange d a b = res at *
  have hb' : (b : Int) ≤ 4096 := by omega
  have hbd : (b : Int) ≤ (d.size : Int) := by omega
  have ha' : (a : Int) < (b : Int) := by omega
  go_enter Try.func55, Try.ntmps55
  go_wp2
  go_loopg [6, 7] b (fun gg s6 s7 wr => ∃ (i j : Nat) (d1 : Array Nat), i ≤ b ∧ j < b ∧ j - i ≤ gg ∧ s6 = .int .i64 (i : Int) ∧ s7 = .int .i64 (j : Int) ∧ d1.size = d.size ∧ Arr wr g cap d1 ∧ w.grownBy wr (some g) ∧ Hid (Go.Sort.reverseLoop i j d1 = res))
  case atStart => exact ⟨a, b - 1, d, by omega, by omega, by omega, rfl, by rw [Int.ofNat_sub (by omega)]; rfl, rfl, h, World.grownBy.refl _ _, HR⟩
  case round =>
    obtain ⟨i, j, d1, hi, hj, hgg, rfl, rfl, hsz, hA, hG, HE⟩ := hrel
    have heq := HE.out
    rw [Go.Sort.reverseLoop] at heq
    by_cases hlt : i < j
    · rw [if_pos hlt] at heq
      have HQ := hidMk heq
      clear heq
      have hlt' : (i : Int) < (j : Int) := by omega
      have hjd : (j : Int) < (d.size : Int) := by omega
      have cI := hA.cell (j := i) (by omega)
      have cJ := hA.cell (j := j) (by omega)
      have fI := hA.frozen i
      have fJ := hA.frozen j
      have HSW := hidMk (hA.swapD i j (by omega) (by omega))
      have hs3 : (Go.Sort.swp d1 i j).size = d.size := by rw [Go.Sort.size_swp]; exact hsz
      have e1 : ¬ i = j := by omega
      have e2 : ¬ j = i := by omega
      generalize Go.Sort.swp d1 i j = d2 at *
      generalize d1[i]! = x at *
      generalize d1[j]! = y at *
      go_wp2
      go_region
      go_wp2
      go_roundg (j - 1 - (i + 1))
      case measure => omega
      case rel => exact ⟨i + 1, j - 1, d2, by omega, by omega, Nat.le_refl _, by go_num, by rw [Int.ofNat_sub (by omega)]; rfl, hs3, HSW.out, turned_swapD hG _ _ _ _, HQ⟩
    · rw [if_neg hlt] at heq
      have HQ := hidMk heq
      clear heq
      have hlt' : ¬ (i : Int) < (j : Int) := by omega
      go_wp2
      go_end0
      exact ⟨⟨_, rfl⟩, by rw [← HQ.out]; exact hA, hG⟩
end Go.Proofs.Ytblinhncklpidaa
