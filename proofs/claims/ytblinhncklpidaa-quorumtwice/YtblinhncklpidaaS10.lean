/- Contracts of slices.Sort and slices.Compact at rows of 32 bits. -/
import Derived.Test.YtblinhncklpidaaS9
import Derived.Lib.SliceRun
namespace Go.Proofs.Ytblinhncklpidaa
open Go.RowKit

theorem sorts_all (m : Nat) : Sorts m := by
  induction m using Nat.strongRecOn with
  | _ m ih => exact pdq_step m ih

set_option maxHeartbeats 400000 in
theorem sort_any (g cap : Nat) (d : Array Nat) (n : Nat) (w : World) (hn : n = d.size) (hd : d.size ≤ 64) (h : Arr w g cap d) :
    Calls Try.prog 39 #[.slice (some ⟨g, 0, none⟩) n cap] w fun e w' => (∃ v, e = .returned v) ∧ (∃ d', Arr w' g cap d' ∧ Go.Sort.PermIn 0 d.size d d' ∧ Go.Sort.SortedIn lt32 0 d.size d') ∧ w.grownBy w' (some g) := by
  subst hn
  have HL := hidMk (len_any d.size (by omega))
  have hL : Lib.bitLen d.size ≤ 8 := Lib.bitLen_le8 ⟨d.size, by omega⟩
  have HP := hidMk (sorts_all d.size g cap d d.size 0 d.size (Lib.bitLen d.size) w rfl (Nat.le_refl _) (Nat.zero_le _) (by omega) hd (by omega) (.inl rfl) h)
  have hdd : (d.size : Int) ≤ 64 := by omega
  generalize Lib.bitLen d.size = L at *
  go_enter Try.func39, Try.ntmps39
  go_wp2_with (first | (go_at_call 49; refine (HL.out _).mono ?_; rintro e w' ⟨rfl, hw⟩; obtain rfl := hw.symm) | (go_at_call 48; refine (HP.out).mono ?_; rintro e w2 ⟨⟨v, rfl⟩, hD, hG⟩))
  go_end0
  exact ⟨⟨_, rfl⟩, hD, hG⟩

/-- Of the first k numbers, each that is not what stands ahead of it. -/
def compTo (d : Array Nat) : Nat → List Nat
  | 0 => []
  | k + 1 => if k ≠ 0 ∧ d[k]! = d[k - 1]! then compTo d k else compTo d k ++ [d[k]!]

theorem compTo_same {d : Array Nat} {k : Nat} (h0 : k ≠ 0) (h : d[k]! = d[k - 1]!) : compTo d (k + 1) = compTo d k := by
  show (if k ≠ 0 ∧ d[k]! = d[k - 1]! then compTo d k else compTo d k ++ [d[k]!]) = _
  rw [if_pos ⟨h0, h⟩]
theorem compTo_new {d : Array Nat} {k : Nat} (h : k = 0 ∨ d[k]! ≠ d[k - 1]!) : compTo d (k + 1) = compTo d k ++ [d[k]!] := by
  show (if k ≠ 0 ∧ d[k]! = d[k - 1]! then compTo d k else compTo d k ++ [d[k]!]) = _
  rw [if_neg (by rintro ⟨h1, h2⟩; rcases h with h | h; exact h1 h; exact h h2)]
theorem compTo_len (d : Array Nat) (k : Nat) : (compTo d k).length ≤ k := by
  induction k with
  | zero => exact Nat.le_refl _
  | succ k ih =>
    by_cases h : k ≠ 0 ∧ d[k]! = d[k - 1]!
    · rw [compTo_same h.1 h.2]; omega
    · rw [compTo_new (by by_cases h0 : k = 0; exact .inl h0; exact .inr fun e => h ⟨h0, e⟩), List.length_append]
      simp; omega
theorem take_snoc (d : Array Nat) (k : Nat) (hk : k < d.size) : d.toList.take (k + 1) = d.toList.take k ++ [d[k]!] := by
  rw [List.take_succ_eq_append_getElem (by simpa using hk), getElem!_pos d k hk]
  simp

theorem Arr.pre {w : World} {g cap : Nat} {d : Array Nat} (h : Arr w g cap d) (L : List Nat) (hl : L.length ≤ d.size) (hL : d.toList.take L.length = L) : Arr w g cap L.toArray := by
  obtain ⟨cur, h1, h2, h3, h4⟩ := h
  refine ⟨cur, h1, h2, by simp; omega, fun j hj => ?_⟩
  have hj' : j < L.length := by simpa using hj
  rw [h4 j (by omega), getElem!_pos d j (by omega), getElem!_pos L.toArray j hj]
  have e : (d.toList.take L.length)[j]? = L[j]? := by rw [hL]
  rw [List.getElem?_take_of_lt hj', Array.getElem?_toList, Array.getElem?_eq_getElem (by omega), List.getElem?_eq_getElem hj'] at e
  have e2 := Option.some.inj e
  rw [e2]; simp

theorem Arr.zeros {g cap : Nat} : ∀ (n o : Nat) (w : World) (d : Array Nat), Arr w g cap d → o + n ≤ d.size →
    (∃ d', Arr (w.setCells g o (List.replicate n (.int .u32 0))) g cap d' ∧ d'.size = d.size ∧ ∀ j, j < o → d'[j]! = d[j]!) ∧ w.grownBy (w.setCells g o (List.replicate n (.int .u32 0))) (some g)
  | 0, o, w, d, h, _ => ⟨⟨d, h, rfl, fun _ _ => rfl⟩, World.grownBy.refl _ _⟩
  | n + 1, o, w, d, h, hb => by
    obtain ⟨⟨d', h1, h2, h3⟩, h4⟩ := Arr.zeros n (o + 1) (w.setCell ⟨g, o, none⟩ (.int .u32 ((0 : Nat) : Int))) (d.setIfInBounds o 0) (h.set o 0 (by omega)) (by simp; omega)
    refine ⟨⟨d', h1, by simpa using h2, fun j hj => ?_⟩, (turned_setCell w g o _).trans h4⟩
    rw [h3 j (by omega)]
    by_cases hjs : j < d.size
    · rw [getElem!_pos _ j (by simpa using hjs), getElem!_pos d j hjs, Array.getElem_setIfInBounds hjs, if_neg (by omega)]
    · omega

theorem zero32 : ∀ w, (zeroValue 34).run Try.prog w = .ok (.int .u32 0) w := fun w => by kernel_rfl

set_option maxRecDepth 100000 in
set_option maxHeartbeats 2000000 in
theorem compact_any (g cap : Nat) (d : Array Nat) (n : Nat) (w : World) (hn : n = d.size) (hd : d.size ≤ 64) (h1 : 1 ≤ d.size) (h : Arr w g cap d) :
    Calls Try.prog 40 #[.slice (some ⟨g, 0, none⟩) n cap] w fun e w' => e = .returned (.slice (some ⟨g, 0, none⟩) (compTo d d.size).length cap) ∧ Arr w' g cap (compTo d d.size).toArray ∧ w.grownBy w' (some g) := by
  subst hn
  have hdd : (d.size : Int) ≤ 64 := by omega
  have hcap : d.size ≤ cap := by obtain ⟨cur, _, _, h3, _⟩ := h; exact h3
  by_cases h2 : d.size < 2
  · have h2' : (d.size : Int) < 2 := by omega
    have e1 : compTo d d.size = d.toList := by
      have e : d.size = 1 := by omega
      rw [e, compTo_new (.inl rfl)]
      have := take_snoc d 0 (by omega)
      rw [List.take_of_length_le (by simp; omega)] at this
      rw [this]; rfl
    have HE := hidMk e1
    clear e1
    go_enter Try.func40, Try.ntmps40
    go_wp2
    go_ret
    exact ⟨by rw [HE.out]; simp, by rw [HE.out]; simpa using h, World.grownBy.refl _ _⟩
  · have h2' : (2 : Int) ≤ (d.size : Int) := by omega
    go_enter Try.func40, Try.ntmps40
    go_wp2
    go_loopg [3] d.size (fun gg s3 wr => ∃ k : Nat, 1 ≤ k ∧ k ≤ d.size ∧ d.size - k ≤ gg ∧ s3 = .int .i64 (k : Int) ∧ Arr wr g cap d ∧ w.grownBy wr (some g) ∧ Hid (compTo d k = d.toList.take k))
    case atStart => exact ⟨1, Nat.le_refl _, h1, by omega, rfl, h, World.grownBy.refl _ _, by
      show compTo d 1 = d.toList.take 1
      rw [compTo_new (.inl rfl), take_snoc d 0 (by omega)]; rfl⟩
    case round =>
      obtain ⟨k, hk1, hk2, hgg, rfl, hA, hG, HC⟩ := hrel
      by_cases hlt : k < d.size
      · obtain ⟨m, rfl⟩ : ∃ m, k = m + 1 := ⟨k - 1, by omega⟩
        have hlt' : (m : Int) + 1 < (d.size : Int) := by omega
        have c1 := hA.cell (j := m + 1) (by omega)
        have c0 := hA.cell (j := m) (by omega)
        by_cases he : d[m + 1]! = d[m]!
        · have heq : (((d[m + 1]! : Nat) : Int) == ((d[m]! : Nat) : Int)) = true := by simp; omega
          have HC2 : Hid (compTo d (m + 1 + 1) = d.toList.take (m + 1)) := by
            show compTo d (m + 1 + 1) = d.toList.take (m + 1)
            rw [compTo_same (by omega) (by simpa using he), HC.out]
          clear he HC
          have hce : cap - (m + 1) ≥ d.size - (m + 1) := by omega
          generalize hx1 : d[m + 1]! = x at c1 heq
          generalize hx2 : d[m]! = y at c0 heq
          clear hx1 hx2
          go_wp2
          go_quiet (fail)
          go_wp2
          clear c1 c0 heq
          go_loopg [3, 5] d.size (fun gg s3 s5 wr => ∃ (k k2 : Nat) (e : Array Nat), 1 ≤ k2 ∧ k2 ≤ d.size - (m + 1) ∧ m + 1 ≤ k ∧ k + 1 ≤ m + 1 + k2 ∧ d.size - k2 ≤ gg ∧ s3 = .int .i64 (k : Int) ∧ s5 = .int .i64 (k2 : Int) ∧ e.size = d.size ∧ Arr wr g cap e ∧ w.grownBy wr (some g) ∧ Hid ((∀ j, m + 1 + k2 ≤ j + 1 → j < d.size → e[j]! = d[j]!) ∧ e.toList.take k = compTo d (m + 1 + k2) ∧ (compTo d (m + 1 + k2)).length = k))
          case atStart => exact ⟨m + 1, 1, d, Nat.le_refl _, by omega, Nat.le_refl _, by omega, by omega, by first | rfl | go_num, rfl, rfl, hA.drewN _, turned_drewN hG _, fun _ _ _ => rfl, HC2.out.symm, by rw [HC2.out]; simp; omega⟩
          case round =>
            clear hA hG HC2
            obtain ⟨k, k2, e, q1, q2, q3, q4, q5, rfl, rfl, hse, hA, hG, HQ⟩ := hrel
            by_cases hl2 : k2 < d.size - (m + 1)
            · obtain ⟨q, rfl⟩ : ∃ q, k2 = q + 1 := ⟨k2 - 1, by omega⟩
              have hl2' : (q : Int) + 1 < ((d.size - (m + 1) : Nat) : Int) := by omega
              have c1 := hA.cell (j := m + 1 + (q + 1)) (by omega)
              have c0 := hA.cell (j := m + 1 + q) (by omega)
              have fk := hA.frozen k
              have ck := hA.cell (j := k) (by omega)
              have hkd : (k : Int) < (d.size : Int) := by omega
              have e1 : e[m + 1 + (q + 1)]! = d[m + 1 + (q + 1)]! := HQ.out.1 _ (by omega) (by omega)
              have e0 : e[m + 1 + q]! = d[m + 1 + q]! := HQ.out.1 _ (by omega) (by omega)
              by_cases hd2 : e[m + 1 + (q + 1)]! = e[m + 1 + q]!
              · have hb2 : (((e[m + 1 + (q + 1)]! : Nat) : Int) != ((e[m + 1 + q]! : Nat) : Int)) = false := by simp; omega
                have HN : Hid ((∀ j, m + 1 + (q + 1 + 1) ≤ j + 1 → j < d.size → e[j]! = d[j]!) ∧ e.toList.take k = compTo d (m + 1 + (q + 1 + 1)) ∧ (compTo d (m + 1 + (q + 1 + 1))).length = k) := by
                  have es : compTo d (m + 1 + (q + 1 + 1)) = compTo d (m + 1 + (q + 1)) := compTo_same (k := m + 1 + (q + 1)) (by omega) (by rw [e1, e0] at hd2; exact hd2)
                  exact ⟨fun j h1 h2 => HQ.out.1 j (by omega) h2, by rw [es]; exact HQ.out.2.1, by rw [es]; exact HQ.out.2.2⟩
                clear hd2 e1 e0
                generalize e[m + 1 + (q + 1)]! = x1 at *
                generalize e[m + 1 + q]! = x0 at *
                go_wp2
                go_quiet (fail)
                go_wp2
                go_roundg (d.size - (q + 1 + 1))
                case measure => omega
                case rel => exact ⟨k, q + 1 + 1, e, by omega, by omega, by omega, by omega, Nat.le_refl _, rfl, by go_num, hse, hA.drewN _, turned_drewN hG _, HN⟩
              · have hb2 : (((e[m + 1 + (q + 1)]! : Nat) : Int) != ((e[m + 1 + q]! : Nat) : Int)) = true := by simp; omega
                have HSET := hidMk (fun nq => (hA.drewN nq).set k e[m + 1 + (q + 1)]! (by omega))
                have HN : Hid ((∀ j, m + 1 + (q + 1 + 1) ≤ j + 1 → j < d.size → (e.setIfInBounds k e[m + 1 + (q + 1)]!)[j]! = d[j]!) ∧ (e.setIfInBounds k e[m + 1 + (q + 1)]!).toList.take (k + 1) = compTo d (m + 1 + (q + 1 + 1)) ∧ (compTo d (m + 1 + (q + 1 + 1))).length = k + 1) := by
                  have es : compTo d (m + 1 + (q + 1 + 1)) = compTo d (m + 1 + (q + 1)) ++ [d[m + 1 + (q + 1)]!] := compTo_new (k := m + 1 + (q + 1)) (.inr (by rw [e1, e0] at hd2; exact hd2))
                  refine ⟨fun j h1 h2 => ?_, ?_, by rw [es, List.length_append, HQ.out.2.2]; rfl⟩
                  · rw [getElem!_pos _ j (by simp; omega), Array.getElem_setIfInBounds (by omega), if_neg (by omega), ← getElem!_pos e j (by omega)]
                    exact HQ.out.1 j (by omega) h2
                  · rw [take_snoc _ k (by simp; omega), getElem!_pos _ k (by simp; omega), Array.getElem_setIfInBounds (by omega), if_pos rfl, es, ← e1, ← HQ.out.2.1]
                    congr 1
                    rw [Array.toList_setIfInBounds, List.take_set_of_le (Nat.le_refl _)]
                have hse2 : (e.setIfInBounds k e[m + 1 + (q + 1)]!).size = d.size := by simpa using hse
                clear hd2 e1 e0
                generalize e.setIfInBounds k e[m + 1 + (q + 1)]! = e2 at *
                generalize e[m + 1 + (q + 1)]! = x1 at *
                generalize e[m + 1 + q]! = x0 at *
                go_wp2
                go_quiet (fail)
                go_wp2
                go_roundg (d.size - (q + 1 + 1))
                case measure => omega
                case rel => exact ⟨k + 1, q + 1 + 1, e2, by omega, by omega, by omega, by omega, Nat.le_refl _, by go_num, by go_num, hse2, HSET.out _, (turned_drewN hG _).trans (turned_setCell _ g k _), HN⟩
            · obtain rfl : k2 = d.size - (m + 1) := by omega
              have hkn : m + 1 + (d.size - (m + 1)) = d.size := by omega
              have hq := HQ.out
              rw [hkn] at hq
              have HQ2 := hidMk hq
              clear hq HQ
              have hkd : (k : Int) < (d.size : Int) := by omega
              have hcl : ∀ ty, (Builtin.clear_ #[22] ty #[.slice (some ⟨g, k, none⟩) (d.size - k) (cap - k)]).run Try.prog wr = .ok (.tuple #[]) (wr.setCells g k (List.replicate (d.size - k) (.int .u32 0))) :=
                fun ty => Lib.run_clear_slice wr _ _ ty _ Try.underlying22 zero32 rfl rfl g k (d.size - k) (cap - k) (by omega) (fun j hj => by rw [hA.cell (by omega)]; rfl) (fun j _ => hA.frozen _)
              obtain ⟨⟨e2, z1, z2, z3⟩, z4⟩ := Arr.zeros (d.size - k) k wr e hA (by omega)
              have HZ := hidMk z1
              have HZ3 := hidMk z3
              have HZ4 := hidMk z4
              clear z1 z3 z4
              have HFin : Hid (e2.toList.take (compTo d d.size).length = compTo d d.size) := by
                show e2.toList.take (compTo d d.size).length = compTo d d.size
                rw [HQ2.out.2.2]
                refine Eq.trans ?_ HQ2.out.2.1
                apply List.ext_getElem
                · simp; omega
                · intro j h1 h2
                  have hj : j < k := by simp at h1; omega
                  have hz := HZ3.out j hj
                  rw [getElem!_pos e2 j (by omega), getElem!_pos e j (by omega)] at hz
                  simpa using hz
              go_wp2
              go_ret
              exact ⟨by rw [HQ2.out.2.2]; rfl, HZ.out.pre _ (by rw [HQ2.out.2.2]; omega) HFin.out, hG.trans HZ4.out⟩
        · have hne : (((d[m + 1]! : Nat) : Int) == ((d[m]! : Nat) : Int)) = false := by simp; omega
          have HC2 : Hid (compTo d (m + 1 + 1) = d.toList.take (m + 1 + 1)) := by
            show compTo d (m + 1 + 1) = d.toList.take (m + 1 + 1)
            rw [compTo_new (.inr (by simpa using he)), take_snoc d (m + 1) hlt, HC.out]
          clear he
          generalize d[m + 1]! = x at *
          generalize d[m]! = y at *
          go_wp2
          go_quiet (fail)
          go_wp2
          go_roundg (d.size - (m + 1 + 1))
          case measure => omega
          case rel => exact ⟨m + 1 + 1, by omega, by omega, Nat.le_refl _, by go_num, hA.drewN _, turned_drewN hG _, HC2⟩
      · obtain rfl : k = d.size := by omega
        have e := HC.out
        rw [List.take_of_length_le (by simp)] at e
        have HE := hidMk e
        clear e
        go_wp2
        go_ret
        exact ⟨by rw [HE.out]; simp, by rw [HE.out]; simpa using hA, hG⟩
end Go.Proofs.Ytblinhncklpidaa
