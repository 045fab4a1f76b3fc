/- Machines in a ring: what a move makes. -/
import Derived.Test.YtflmbhjighnicaaJa2
namespace Go.Proofs.Ytflmbhjighnicaa
open Go.RowKit
set_option linter.unusedVariables false

def intsJ (l : List Int) : List Value := l.map fun z => .int .i64 z
theorem intsJ_len (l : List Int) : (intsJ l).length = l.length := by simp [intsJ]
theorem intsJ_at {l : List Int} {j : Nat} {u : Value} (h : (intsJ l)[j]? = some u) : ∃ z, l[j]? = some z ∧ u = .int .i64 z := by
  simp only [intsJ, List.getElem?_map, Option.map_eq_some_iff] at h
  obtain ⟨z, h1, h2⟩ := h
  exact ⟨z, h1, h2.symm⟩
theorem intsJ_one (l : List Int) : ∀ u ∈ intsJ l, u.oneCell' = true := by
  intro u hu
  simp only [intsJ, List.mem_map] at hu
  obtain ⟨z, _, rfl⟩ := hu
  rfl
theorem seg_rowJ {W : World} {ok : Nat → Prop} {e : TypeId} {a : Option Addr} {n c : Nat} {l : List Int} (h : Seg W ok e 1 (.slice a n c) n (intsJ l)) : RowI W a n c l := by
  obtain ⟨h1, ⟨h2, h3⟩ | ⟨g, off, cap, cur, h2, h3, h4, h5, h6, h7, h8⟩⟩ := h
  · subst h3
    cases h2
    exact ⟨by simpa [intsJ] using h1, Nat.le_refl _, Nat.zero_le _, .inl rfl⟩
  · cases h2
    refine ⟨by simpa [intsJ] using h1, h5, by omega, .inr ⟨g, off, rfl, (Array.getElem?_eq_some_iff.1 h4).1, fun j x hx => ?_⟩⟩
    rw [cell_of_row W _ _ _ _ _ h4]
    exact h8 j _ (by simp [intsJ, hx])
theorem rwJ_set (k : Int) (n : Nat) (s : Nat → Int) {i : Nat} (hi : i < n) : intsJ (rwJ n (mvJ k s i)) = (intsJ (rwJ n s)).set i (.int .i64 (mvJ k s i i)) := by
  apply List.ext_getElem?
  intro j
  rw [List.getElem?_set]
  by_cases e : i = j
  · subst e
    rw [if_pos rfl, if_pos (by rw [intsJ_len, rwJ_len]; exact hi)]
    simp [intsJ, rwJ, hi]
  · rw [if_neg e]
    have e2 : mvJ k s i j = s j := by unfold mvJ; rw [if_neg (fun h => e h.symm)]
    by_cases hj : j < n
    · simp [intsJ, rwJ, hj, e2]
    · simp [intsJ, rwJ, hj]
theorem wrapJ {z : Int} (h : I64 z) : IntKind.i64.wrap z = z := by
  obtain ⟨h0, h1⟩ := h
  simp [IntKind.wrap, IntKind.bits, IntKind.signed]
  split <;> omega
theorem own_ltJ {p : Prop} {g n c k : Nat} (e : (Value.slice (some ⟨g, 0, none⟩) n c).ownBlock = some k) (hk : k < g) : p := by
  simp [Value.ownBlock] at e
  omega

theorem not_nilJ (b off len cap : Nat) (W : World) : (binOp .eql 22 (.slice (some ⟨b, off, none⟩) len cap) (.slice none 0 0)).run Try.prog W = .ok (.bool false) W := by kernel_rfl
set_option maxRecDepth 100000 in
set_option maxHeartbeats 4000000 in
theorem clone_any {W : World} {a : Option Addr} {len cap : Nat} {zs : List Int} (h : RowI W a len cap zs) (h0 : 0 < len) (h6 : len ≤ 100) :
    Calls Try.prog 22 #[.slice a len cap] W fun e W2 => ∃ v, e = .returned v ∧ Seg W2 (fun g => W.heap.size ≤ g) 3 1 v len (intsJ zs) ∧ Keep (fun _ => False) W W2 := by
  obtain ⟨h1, h2, h3, h4 | ⟨b, off, rfl, hlt, hc⟩⟩ := h
  · omega
  obtain ⟨i0, hi, hz0, hz1, hz2⟩ := info_parts cInfoInt
  have hs : Seg (W.alloc (.cells #[] 3)) (fun g => g = W.heap.size) 3 1 (.slice (some ⟨W.heap.size, 0, none⟩) 0 0) 0 [] := ⟨by simp, .inr ⟨_, 0, 0, #[], rfl, rfl, al_new _ _, Nat.le_refl _, Nat.zero_le _, by simp, by simp⟩⟩
  have hn : ∀ j u, (intsJ zs)[j]? = some u → (W.alloc (.cells #[] 3)).cell? ((⟨b, off, none⟩ : Addr).add j) = some u := fun j u hu => by
    obtain ⟨z, hz, rfl⟩ := intsJ_at hu
    rw [addr_add, World.cell?_of_block (al_old _ _ _ hlt)]
    exact hc j z hz
  have hl : (intsJ zs).length = len * 1 := by rw [intsJ_len]; omega
  have h1c := intsJ_one zs
  clear hc h1
  generalize intsJ zs = xs at *
  have hnil := not_nilJ b off len cap W
  go_enter Try.func22, Try.ntmps22
  go_wp2_with (at_builtin; refine wpList_append_seg _ rfl _ _ 22 rfl 3 i0 (.int .i64 0) 1 8 Try.underlying22 hi hz0 hz1 hz2 rfl (by decide) _ _ _ rfl hs ⟨b, off, none⟩ len cap xs rfl hl hn h1c (by unfold maxLen; omega) (by omega) ?_)
  intro v3 w3 hs3 hg3
  have HS : Hid (Seg w3 (fun g => W.heap.size ≤ g) 3 1 v3 len xs) := by
    have h5 := hs3.mono (ok2 := fun g => W.heap.size ≤ g) (fun g _ e => by
      rcases e with ⟨_, e⟩ | e
      · omega
      · rw [e]; simp)
    show Seg w3 (fun g => W.heap.size ≤ g) 3 1 v3 len xs
    simpa using h5
  have HK : Hid (Keep (fun _ => False) W w3) := ((Keep.refl (fun _ => False) W).alloc _).grown hg3 (fun k e hk => own_ltJ e hk)
  clear hs3 hg3
  go_wp2
  go_ret
  exact ⟨v3, rfl, HS, HK⟩

/-- A copy of the states, of which one is laid anew. -/
def CopyJ (w w5 : World) (g off n cap : Nat) (k : Int) (s : Nat → Int) (i : Nat) : Prop :=
  RowI (w5.setCell ⟨g, off + i, none⟩ (.int .i64 (mvJ k s i i))) (some ⟨g, off, none⟩) n cap (rwJ n (mvJ k s i)) ∧ Stil w (w5.setCell ⟨g, off + i, none⟩ (.int .i64 (mvJ k s i i)))
theorem copy_move {w w1 w5 : World} {v : Value} {n : Nat} {k : Int} {s : Nat → Int} {i : Nat} (hi : i < n) (h0 : Stil w w1) (hs : Seg w5 (fun g => w1.heap.size ≤ g) 3 1 v n (intsJ (rwJ n s))) (hk : Stil w1 w5) :
    ∃ g off cap, v = .slice (some ⟨g, off, none⟩) n cap ∧ n ≤ cap ∧ w5.cell? ⟨g, off + i, none⟩ = some (.int .i64 (s i)) ∧ w5.frozen? ⟨g, off + i, none⟩ = false ∧ CopyJ w w5 g off n cap k s i := by
  obtain ⟨g, off, cap, rfl, hg, hgl, hn, hc, hcell, hfz, hset⟩ := hs.at (by omega)
  refine ⟨g, off, cap, rfl, hn, hcell i _ (by simp [intsJ, rwJ, hi]), hfz _, seg_rowJ (e := 3) (ok := fun g => w1.heap.size ≤ g) ?_, (h0.tr hk).setCell _ _ _ (fun h => ?_)⟩
  · rw [rwJ_set k n s hi]
    exact hset i _ (by omega)
  · have := h0.size; omega

set_option maxRecDepth 100000 in
set_option maxHeartbeats 4000000 in
theorem move_bad {w : World} {a : Option Addr} {n c : Nat} {zs : List Int} {k : Int} (h : RowI w a n c zs) (hz : codeJ k zs ≠ 0) (i : Int) :
    Calls Try.prog 14 #[.int .i64 k, .slice a n c, .int .i64 i] w fun e w2 => e = .returned (.tuple #[.slice none 0 0, .int .i64 (codeJ k zs)]) ∧ Stil w w2 := by
  have HC := hidMk (check_any h k)
  generalize codeJ k zs = rc at *
  have q1 : (rc != 0) = true := by simpa using hz
  clear h hz
  go_enter Try.func14, Try.ntmps14
  go_wp2_with (go_at_call 9; refine (HC.out).mono ?_; rintro e w1 ⟨rfl, hk1⟩)
  go_ret2
  exact ⟨rfl, hk1⟩

set_option maxRecDepth 100000 in
set_option maxHeartbeats 4000000 in
theorem move_arg {w : World} {a : Option Addr} {n c : Nat} {zs : List Int} {k : Int} (h : RowI w a n c zs) (hz : codeJ k zs = 0) (i : Int) (hi : i < 0 ∨ (n : Int) ≤ i) :
    Calls Try.prog 14 #[.int .i64 k, .slice a n c, .int .i64 i] w fun e w2 => e = .returned (.tuple #[.slice none 0 0, .int .i64 2]) ∧ Stil w w2 := by
  have HC : Hid (Calls Try.prog 9 #[.int .i64 k, .slice a n c] w fun e w2 => e = .returned (.int .i64 0) ∧ Stil w w2) := by
    have := check_any h k
    rw [hz] at this
    exact this
  have hzl := codeJ_zero hz
  have hl := h.1
  have hn6 : (n : Int) ≤ 6 := by omega
  clear h hz hzl hl
  by_cases h0 : i < 0
  · clear hi
    go_enter Try.func14, Try.ntmps14
    go_wp2_with (go_at_call 9; refine (HC.out).mono ?_; rintro e w1 ⟨rfl, hk1⟩)
    go_ret2
    exact ⟨rfl, hk1⟩
  · have h1 : (n : Int) ≤ i := by omega
    have h0' : 0 ≤ i := by omega
    clear hi
    go_enter Try.func14, Try.ntmps14
    go_wp2_with (go_at_call 9; refine (HC.out).mono ?_; rintro e w1 ⟨rfl, hk1⟩)
    go_ret2
    exact ⟨rfl, hk1⟩

set_option maxRecDepth 100000 in
set_option maxHeartbeats 4000000 in
theorem move_hold {w : World} {a : Option Addr} {n c : Nat} {s : Nat → Int} {k : Int} (h : RowI w a n c (rwJ n s)) (h2 : 2 ≤ n) (h6 : n ≤ 6) (k2 : 2 ≤ k) (k3 : k ≤ 1000) (hv : OkJ k n s) {i : Nat} (hi : i < n) (hf : frJ n s i = false) :
    Calls Try.prog 14 #[.int .i64 k, .slice a n c, .int .i64 (i : Int)] w fun e w2 => e = .returned (.tuple #[.slice none 0 0, .int .i64 6]) ∧ Stil w w2 := by
  have HC : Hid (Calls Try.prog 9 #[.int .i64 k, .slice a n c] w fun e w2 => e = .returned (.int .i64 0) ∧ Stil w w2) := by
    have := check_any h k
    rw [codeJ_ok h2 h6 k2 k3 hv] at this
    exact this
  have HA : Hid (∀ w1, Stil w w1 → Calls Try.prog 21 #[.slice a n c] w1 fun e w2 => Stil w1 w2 ∧ ∃ B1 B2, e = .returned (.func (.func 26) #[] #[.pointer (some ⟨B1, 0, none⟩), .pointer (some ⟨B2, 0, none⟩)]) ∧
      w2.cell? ⟨B1, 0, none⟩ = some (.slice a n c) ∧ w2.cell? ⟨B2, 0, none⟩ = some (.int .i64 (s (n - 1)))) := hidMk (fun w1 hs => freeAmong_any (h.still hs) h2 h6)
  have HR := hidMk h
  have hn6 : (n : Int) ≤ 6 := by omega
  have hi' : (i : Int) < (n : Int) := by omega
  have HI := hidMk hi
  have HF0 := hidMk hf
  clear h hv k2 k3 hf hi
  go_enter Try.func14, Try.ntmps14
  go_wp2_with (first | (go_at_call 9; refine (HC.out).mono ?_; rintro e w1 ⟨rfl, hk1⟩) | (go_at_call 21; refine (HA.out _ hk1).mono ?_; rintro e w2 ⟨hk2, B1, B2, rfl, b1, b2⟩) | (have hF := freeFn_any (HR.out.still (hk1.tr hk2)) h2 h6 b1 b2 HI.out; rw [HF0.out] at hF; refine hF.mono ?_; rintro e w3 ⟨rfl, hk3⟩))
  go_ret2
  exact ⟨rfl, (hk1.tr hk2).tr hk3⟩

set_option maxRecDepth 100000 in
set_option maxHeartbeats 8000000 in
theorem move_ok {w : World} {a : Option Addr} {n c : Nat} {s : Nat → Int} {k : Int} (h : RowI w a n c (rwJ n s)) (h2 : 2 ≤ n) (h6 : n ≤ 6) (k2 : 2 ≤ k) (k3 : k ≤ 1000) (hv : OkJ k n s) {i : Nat} (hi : i < n) (hf : frJ n s i = true) :
    Calls Try.prog 14 #[.int .i64 k, .slice a n c, .int .i64 (i : Int)] w fun e w2 => ∃ a2 c2, e = .returned (.tuple #[.slice a2 n c2, .int .i64 0]) ∧ RowI w2 a2 n c2 (rwJ n (mvJ k s i)) ∧ Stil w w2 := by
  have HC : Hid (Calls Try.prog 9 #[.int .i64 k, .slice a n c] w fun e w2 => e = .returned (.int .i64 0) ∧ Stil w w2) := by
    have := check_any h k
    rw [codeJ_ok h2 h6 k2 k3 hv] at this
    exact this
  have HA : Hid (∀ w1, Stil w w1 → Calls Try.prog 21 #[.slice a n c] w1 fun e w2 => Stil w1 w2 ∧ ∃ B1 B2, e = .returned (.func (.func 26) #[] #[.pointer (some ⟨B1, 0, none⟩), .pointer (some ⟨B2, 0, none⟩)]) ∧
      w2.cell? ⟨B1, 0, none⟩ = some (.slice a n c) ∧ w2.cell? ⟨B2, 0, none⟩ = some (.int .i64 (s (n - 1)))) := hidMk (fun w1 hs => freeAmong_any (h.still hs) h2 h6)
  have HR := hidMk h
  have hn6 : (n : Int) ≤ 6 := by omega
  have hi' : (i : Int) < (n : Int) := by omega
  have HI := hidMk hi
  have HF0 := hidMk hf
  have hcap : n ≤ c := h.2.1
  obtain ⟨b, off, rfl, hb, hc⟩ := rowJ_cells h (by omega)
  by_cases h0 : i = 0
  · subst h0
    have d0 := hc 0 hi
    obtain ⟨z0, z1⟩ := hv 0 hi
    have em : mvJ k s 0 0 = if s 0 + 1 = k then 0 else s 0 + 1 := by simp [mvJ]
    have HD : Hid (w.cell? ⟨b, off + 0, none⟩ = some (.int .i64 (s 0))) := d0
    obtain ⟨y, hy⟩ : ∃ y, y = mvJ k s 0 0 := ⟨_, rfl⟩
    have HY := hidMk hy
    rw [em] at hy
    have y0 : 0 ≤ y ∧ y < k := by split at hy <;> omega
    have hmod2 : (s 0 + 1) % k = y := by
      split at hy
      · rename_i e; rw [e, hy, Int.emod_self]
      · rw [hy]; exact Int.emod_eq_of_lt (by omega) (by omega)
    have hmod : (s 0 + 1).tmod k = y := by rw [Int.tmod_eq_emod_of_nonneg (by omega)]; exact hmod2
    have hwr : IntKind.i64.wrap (s 0 + 1) = s 0 + 1 := wrapJ ⟨by omega, by omega⟩
    have hwy : IntKind.i64.wrap y = y := wrapJ ⟨by omega, by omega⟩
    have hk0 : (k == 0) = false := by simp; omega
    have q2 : 0 < n := by omega
    clear h hv hf hi hc d0 em hy
    generalize hz : s 0 = z at *
    have HZ := hidMk hz
    clear hz
    go_enter Try.func14, Try.ntmps14
    go_wp2_with (first | (go_at_call 9; refine (HC.out).mono ?_; rintro e w1 ⟨rfl, hk1⟩) | (go_at_call 21; refine (HA.out _ hk1).mono ?_; rintro e w2 ⟨hk2, B1, B2, rfl, b1, b2⟩) | (have hF := freeFn_any (HR.out.still (hk1.tr hk2)) h2 h6 b1 b2 HI.out; rw [HF0.out] at hF; refine hF.mono ?_; rintro e w3 ⟨rfl, hk3⟩; have HK3 : Hid (Stil w w3) := hidMk ((hk1.tr hk2).tr hk3); clear hF) | (go_at_call 22; refine (clone_any (HR.out.still HK3.out) (by omega) (by omega)).mono ?_; rintro e w5 ⟨v5, rfl, hs5, hk5⟩; obtain ⟨g, o5, cap, rfl, hcp, hc5, hf5, hcopy⟩ := copy_move (k := k) HI.out HK3.out hs5 hk5; have d5 := (HK3.out.tr hk5).cell HD.out; rw [HZ.out] at hc5; rw [Nat.add_zero] at hc5 hf5 d5; clear hs5 hk5; unfold CopyJ at hcopy; rw [← HY.out, Nat.add_zero] at hcopy; have HCO := hidMk hcopy; clear hcopy))
    go_ret2
    exact ⟨_, _, rfl, HCO.out.1, HCO.out.2⟩
  · obtain ⟨j, rfl⟩ : ∃ j, i = j + 1 := ⟨i - 1, by omega⟩
    have d0 := hc j (by omega)
    have em : mvJ k s (j + 1) (j + 1) = s j := by simp [mvJ]
    have HY := hidMk em
    clear em h hv hf hc hi'
    generalize hz : s j = z at *
    have HD : Hid (w.cell? ⟨b, off + j, none⟩ = some (.int .i64 z)) := d0
    clear hz d0 h0
    have hj : j = 0 ∨ j = 1 ∨ j = 2 ∨ j = 3 ∨ j = 4 := by omega
    rcases hj with rfl | rfl | rfl | rfl | rfl
    · have q1 : (1 : Int) < (n : Int) := by omega
      have q2 : 1 < n := by omega
      have q3 : (0 : Int) < (n : Int) := by omega
      have q4 : 0 < n := by omega
      have q5 : IntKind.i64.wrap 0 = 0 := by decide
      have q6 : decide ((n : Int) ≤ 1) = false := by simp; omega
      clear hi
      go_enter Try.func14, Try.ntmps14
      go_wp2_with (first | (go_at_call 9; refine (HC.out).mono ?_; rintro e w1 ⟨rfl, hk1⟩) | (go_at_call 21; refine (HA.out _ hk1).mono ?_; rintro e w2 ⟨hk2, B1, B2, rfl, b1, b2⟩) | (have hF := freeFn_any (HR.out.still (hk1.tr hk2)) h2 h6 b1 b2 HI.out; rw [HF0.out] at hF; refine hF.mono ?_; rintro e w3 ⟨rfl, hk3⟩; have HK3 : Hid (Stil w w3) := hidMk ((hk1.tr hk2).tr hk3); clear hF) | (go_at_call 22; refine (clone_any (HR.out.still HK3.out) (by omega) (by omega)).mono ?_; rintro e w5 ⟨v5, rfl, hs5, hk5⟩; obtain ⟨g, o5, cap, rfl, hcp, hc5, hf5, hcopy⟩ := copy_move (k := k) HI.out HK3.out hs5 hk5; have d5 := (HK3.out.tr hk5).cell HD.out; rw [Nat.add_zero] at d5; have r1 : 1 < cap := (by omega); have r2 : (1 : Int) < (cap : Int) := (by omega); clear hs5 hk5; unfold CopyJ at hcopy; rw [HY.out] at hcopy; have HCO := hidMk hcopy; clear hcopy))
      go_ret2
      exact ⟨_, _, rfl, HCO.out.1, HCO.out.2⟩
    · have q1 : (2 : Int) < (n : Int) := by omega
      have q2 : 2 < n := by omega
      have q3 : (1 : Int) < (n : Int) := by omega
      have q4 : 1 < n := by omega
      have q5 : IntKind.i64.wrap 1 = 1 := by decide
      have q6 : decide ((n : Int) ≤ 2) = false := by simp; omega
      clear hi
      go_enter Try.func14, Try.ntmps14
      go_wp2_with (first | (go_at_call 9; refine (HC.out).mono ?_; rintro e w1 ⟨rfl, hk1⟩) | (go_at_call 21; refine (HA.out _ hk1).mono ?_; rintro e w2 ⟨hk2, B1, B2, rfl, b1, b2⟩) | (have hF := freeFn_any (HR.out.still (hk1.tr hk2)) h2 h6 b1 b2 HI.out; rw [HF0.out] at hF; refine hF.mono ?_; rintro e w3 ⟨rfl, hk3⟩; have HK3 : Hid (Stil w w3) := hidMk ((hk1.tr hk2).tr hk3); clear hF) | (go_at_call 22; refine (clone_any (HR.out.still HK3.out) (by omega) (by omega)).mono ?_; rintro e w5 ⟨v5, rfl, hs5, hk5⟩; obtain ⟨g, o5, cap, rfl, hcp, hc5, hf5, hcopy⟩ := copy_move (k := k) HI.out HK3.out hs5 hk5; have d5 := (HK3.out.tr hk5).cell HD.out;  have r1 : 2 < cap := (by omega); have r2 : (2 : Int) < (cap : Int) := (by omega); clear hs5 hk5; unfold CopyJ at hcopy; rw [HY.out] at hcopy; have HCO := hidMk hcopy; clear hcopy))
      go_ret2
      exact ⟨_, _, rfl, HCO.out.1, HCO.out.2⟩
    · have q1 : (3 : Int) < (n : Int) := by omega
      have q2 : 3 < n := by omega
      have q3 : (2 : Int) < (n : Int) := by omega
      have q4 : 2 < n := by omega
      have q5 : IntKind.i64.wrap 2 = 2 := by decide
      have q6 : decide ((n : Int) ≤ 3) = false := by simp; omega
      clear hi
      go_enter Try.func14, Try.ntmps14
      go_wp2_with (first | (go_at_call 9; refine (HC.out).mono ?_; rintro e w1 ⟨rfl, hk1⟩) | (go_at_call 21; refine (HA.out _ hk1).mono ?_; rintro e w2 ⟨hk2, B1, B2, rfl, b1, b2⟩) | (have hF := freeFn_any (HR.out.still (hk1.tr hk2)) h2 h6 b1 b2 HI.out; rw [HF0.out] at hF; refine hF.mono ?_; rintro e w3 ⟨rfl, hk3⟩; have HK3 : Hid (Stil w w3) := hidMk ((hk1.tr hk2).tr hk3); clear hF) | (go_at_call 22; refine (clone_any (HR.out.still HK3.out) (by omega) (by omega)).mono ?_; rintro e w5 ⟨v5, rfl, hs5, hk5⟩; obtain ⟨g, o5, cap, rfl, hcp, hc5, hf5, hcopy⟩ := copy_move (k := k) HI.out HK3.out hs5 hk5; have d5 := (HK3.out.tr hk5).cell HD.out;  have r1 : 3 < cap := (by omega); have r2 : (3 : Int) < (cap : Int) := (by omega); clear hs5 hk5; unfold CopyJ at hcopy; rw [HY.out] at hcopy; have HCO := hidMk hcopy; clear hcopy))
      go_ret2
      exact ⟨_, _, rfl, HCO.out.1, HCO.out.2⟩
    · have q1 : (4 : Int) < (n : Int) := by omega
      have q2 : 4 < n := by omega
      have q3 : (3 : Int) < (n : Int) := by omega
      have q4 : 3 < n := by omega
      have q5 : IntKind.i64.wrap 3 = 3 := by decide
      have q6 : decide ((n : Int) ≤ 4) = false := by simp; omega
      clear hi
      go_enter Try.func14, Try.ntmps14
      go_wp2_with (first | (go_at_call 9; refine (HC.out).mono ?_; rintro e w1 ⟨rfl, hk1⟩) | (go_at_call 21; refine (HA.out _ hk1).mono ?_; rintro e w2 ⟨hk2, B1, B2, rfl, b1, b2⟩) | (have hF := freeFn_any (HR.out.still (hk1.tr hk2)) h2 h6 b1 b2 HI.out; rw [HF0.out] at hF; refine hF.mono ?_; rintro e w3 ⟨rfl, hk3⟩; have HK3 : Hid (Stil w w3) := hidMk ((hk1.tr hk2).tr hk3); clear hF) | (go_at_call 22; refine (clone_any (HR.out.still HK3.out) (by omega) (by omega)).mono ?_; rintro e w5 ⟨v5, rfl, hs5, hk5⟩; obtain ⟨g, o5, cap, rfl, hcp, hc5, hf5, hcopy⟩ := copy_move (k := k) HI.out HK3.out hs5 hk5; have d5 := (HK3.out.tr hk5).cell HD.out;  have r1 : 4 < cap := (by omega); have r2 : (4 : Int) < (cap : Int) := (by omega); clear hs5 hk5; unfold CopyJ at hcopy; rw [HY.out] at hcopy; have HCO := hidMk hcopy; clear hcopy))
      go_ret2
      exact ⟨_, _, rfl, HCO.out.1, HCO.out.2⟩
    · have q1 : (5 : Int) < (n : Int) := by omega
      have q2 : 5 < n := by omega
      have q3 : (4 : Int) < (n : Int) := by omega
      have q4 : 4 < n := by omega
      have q5 : IntKind.i64.wrap 4 = 4 := by decide
      have q6 : decide ((n : Int) ≤ 5) = false := by simp; omega
      clear hi
      go_enter Try.func14, Try.ntmps14
      go_wp2_with (first | (go_at_call 9; refine (HC.out).mono ?_; rintro e w1 ⟨rfl, hk1⟩) | (go_at_call 21; refine (HA.out _ hk1).mono ?_; rintro e w2 ⟨hk2, B1, B2, rfl, b1, b2⟩) | (have hF := freeFn_any (HR.out.still (hk1.tr hk2)) h2 h6 b1 b2 HI.out; rw [HF0.out] at hF; refine hF.mono ?_; rintro e w3 ⟨rfl, hk3⟩; have HK3 : Hid (Stil w w3) := hidMk ((hk1.tr hk2).tr hk3); clear hF) | (go_at_call 22; refine (clone_any (HR.out.still HK3.out) (by omega) (by omega)).mono ?_; rintro e w5 ⟨v5, rfl, hs5, hk5⟩; obtain ⟨g, o5, cap, rfl, hcp, hc5, hf5, hcopy⟩ := copy_move (k := k) HI.out HK3.out hs5 hk5; have d5 := (HK3.out.tr hk5).cell HD.out;  have r1 : 5 < cap := (by omega); have r2 : (5 : Int) < (cap : Int) := (by omega); clear hs5 hk5; unfold CopyJ at hcopy; rw [HY.out] at hcopy; have HCO := hidMk hcopy; clear hcopy))
      go_ret2
      exact ⟨_, _, rfl, HCO.out.1, HCO.out.2⟩
end Go.Proofs.Ytflmbhjighnicaa
