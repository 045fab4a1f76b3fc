/- The causes of a message; what a question asks of all of a slice. -/
import Derived.Test.YtpdccjhabolccaaCa1
import Derived.Test.YtpdccjhabolccaaT7
import Derived.BigRegion
import Derived.BigQuiet
import Derived.Shelf.Abstract
namespace Go.Proofs.Ytpdccjhabolccaa
open Go.RowKit Go.WideMaps
set_option linter.unusedVariables false

variable {W W2 : World} {mb n : Nat} {s : CS} {h h2 : CSh}
/-- Nothing that was there has changed. -/
abbrev Still (A B : World) : Prop := Keep (fun _ => False) A B
theorem Still.cell {A B : World} (hs : Still A B) {g i : Nat} {v : Value} (hv : A.cell? ⟨g, i, none⟩ = some v) : B.cell? ⟨g, i, none⟩ = some v := by
  have hg : g < A.heap.size := by
    apply Nat.lt_of_not_le
    intro hle
    have : A.heap[g]? = none := Array.getElem?_eq_none hle
    simp [World.cell?, this] at hv
  have hb := hs.block g hg (fun e => e)
  have e : B.cell? ⟨g, i, none⟩ = A.cell? ⟨g, i, none⟩ := by unfold World.cell?; simp only [hb]
  rw [e]; exact hv
theorem Cmov.still {A B : World} (m : Cmov A mb n s h) (hs : Still A B) : Cmov B mb n s h := m.keep hs (fun _ _ e => e.elim)
theorem Still.tr {A B C : World} (x : Still A B) (y : Still B C) : Still A C := x.trans y (fun _ _ e => e) (fun _ _ e => e)
theorem Still.step {A B : World} (x : Still A B) (h : CSh) : CStp A h B h 0 := ⟨x.mono (fun _ _ e => e.elim), fun _ _ => rfl, Nat.le_refl _, rfl, rfl⟩

theorem cAnyTake (p : Nat → Bool) : ∀ (qs : List Nat) {k x : Nat}, qs[k]? = some x → (qs.take (k + 1)).any p = ((qs.take k).any p || p x)
  | [], k, x, h => by simp at h
  | q :: r, 0, x, h => by simp at h; subst h; simp
  | q :: r, k + 1, x, h => by
    have := cAnyTake p r (k := k) (x := x) (by simpa using h)
    simp [this, Bool.or_assoc]
def cFirst (p : Nat → Bool) (qs : List Nat) : Int := match qs.findIdx? p with
  | some k => (k : Int)
  | none => -1
theorem cFirst_none {p : Nat → Bool} {qs : List Nat} (hn : qs.any p = false) : cFirst p qs = -1 := by
  have : qs.findIdx? p = none := by
    rw [List.findIdx?_eq_none_iff]
    intro x hx
    simpa using List.any_eq_false.1 hn x hx
  unfold cFirst; rw [this]
theorem cFirst_hit {p : Nat → Bool} {qs : List Nat} {k x : Nat} (hx : qs[k]? = some x) (hn : (qs.take k).any p = false) (hp : p x = true) : cFirst p qs = (k : Int) := by
  have hk : k < qs.length := (List.getElem?_eq_some_iff.1 hx).1
  have e : qs[k] = x := (List.getElem?_eq_some_iff.1 hx).2
  have : qs.findIdx? p = some k := by
    rw [List.findIdx?_eq_some_iff_getElem]
    refine ⟨hk, by rw [e]; exact hp, fun j hj => ?_⟩
    have h1 := List.any_eq_false.1 hn (qs[j]'(by omega)) (by rw [List.mem_iff_getElem]; exact ⟨j, by simp; omega, by simp⟩)
    simpa using h1
  unfold cFirst; rw [this]
theorem cFirst_ge (p : Nat → Bool) (qs : List Nat) : decide (0 ≤ cFirst p qs) = qs.any p := by
  cases h : qs.any p
  · rw [cFirst_none h]; rfl
  · unfold cFirst
    cases e : qs.findIdx? p with
    | none =>
      rw [List.findIdx?_eq_none_iff] at e
      obtain ⟨x, hx, hp⟩ := List.any_eq_true.1 h
      have := e x hx
      rw [hp] at this; cases this
    | some k => simp

theorem cret_int {a b : Int} (e : a = b) : Ending.returned (.int .i64 a) = Ending.returned (.int .i64 b) := by rw [e]
theorem cret_bool {a b : Bool} (e : a = b) : Ending.returned (.bool a) = Ending.returned (.bool b) := by rw [e]
def AsksC (w : World) (g : Nat) (c c' : Value) (p : Nat → Bool) : Prop :=
  ∀ (x : Nat) (w1 : World), x < 1000 → Still w w1 → Calls Try.prog g #[.int .i64 (x : Int), c, c'] w1 fun e w' => e = .returned (.bool (p x)) ∧ Still w1 w'

set_option maxHeartbeats 800000 in
theorem indexFuncC_row (g : Nat) (c c' : Value) (p : Nat → Bool) (b off len cap : Nat) (qs : List Nat) (w : World) (eg : ∀ args w, (callFunc g args).run Try.prog w = .ok (.enter g args) w) (hl : qs.length = len) (hl2 : len ≤ 1000)
    (hq : ∀ (k x : Nat), qs[k]? = some x → x < 1000 ∧ w.cell? ⟨b, off + k, none⟩ = some (.int .i64 (x : Int))) (hA : AsksC w g c c' p) :
    Calls Try.prog 53 #[.slice (some ⟨b, off, none⟩) len cap, .func (.func g) #[] #[c, c']] w fun e w' => e = .returned (.int .i64 (cFirst p qs)) ∧ Still w w' := by
  have HL : Hid (qs.length = len) := hl
  clear hl
  have hl2' : (len : Int) ≤ 1000 := by omega
  go_enter Try.func53, Try.ntmps53
  go_wp2
  go_loopw [8] (fun i wr => ∃ k : Nat, k ≤ len ∧ i = .int .i64 k ∧ Hid (Still w wr) ∧ Hid ((qs.take k).any p = false)) (fun i _ => len - (intOf i).toNat)
  case atStart => exact ⟨0, Nat.zero_le _, rfl, hidMk (Keep.refl _ _), by simp [Hid]⟩
  case round =>
    obtain ⟨k, hk, rfl, hB, hall⟩ := hrel
    by_cases hlt : k < len
    · obtain ⟨x, hx⟩ : ∃ x, qs[k]? = some x := ⟨qs[k]'(by rw [HL.out]; exact hlt), List.getElem?_eq_getElem _⟩
      obtain ⟨hxb, hc0⟩ := hq k x hx
      have hc := hB.out.cell hc0
      have HX : Hid (qs[k]? = some x) := hx
      clear hx hc0
      have hcall := hA x wr hxb hB.out
      cases h0 : p x
      · have H0 : Hid (p x = false) := h0
        rw [h0] at hcall
        clear h0
        have HC : Hid (Calls Try.prog g #[.int .i64 (x : Int), c, c'] wr fun e w' => e = .returned (.bool false) ∧ Still wr w') := hcall
        clear hcall
        go_wp2_with (go_at_fn g; refine (HC.out).mono ?_; rintro e w' ⟨rfl, hB2⟩)
        go_roundw
        case rel => exact ⟨k + 1, by omega, by go_num, hidMk (hB.out.tr hB2), by
          show (qs.take (k + 1)).any p = false
          rw [cAnyTake _ _ HX.out, hall.out, H0.out]; rfl⟩
        case measure => simp [intOf]; omega
      · have H0 : Hid (p x = true) := h0
        rw [h0] at hcall
        clear h0
        have HC : Hid (Calls Try.prog g #[.int .i64 (x : Int), c, c'] wr fun e w' => e = .returned (.bool true) ∧ Still wr w') := hcall
        clear hcall
        go_wp2_with (go_at_fn g; refine (HC.out).mono ?_; rintro e w' ⟨rfl, hB2⟩)
        go_ret
        exact ⟨cret_int (cFirst_hit HX.out hall.out H0.out).symm, hB.out.tr hB2⟩
    · obtain rfl : k = len := by omega
      go_wp2
      go_ret
      have e := hall.out
      rw [List.take_of_length_le (by rw [HL.out]; exact Nat.le_refl _)] at e
      exact ⟨cret_int (cFirst_none e).symm, hB.out⟩

set_option maxHeartbeats 800000 in
theorem containsFuncC_row (g : Nat) (c c' : Value) (p : Nat → Bool) (b off len cap : Nat) (qs : List Nat) (w : World) (eg : ∀ args w, (callFunc g args).run Try.prog w = .ok (.enter g args) w) (hl : qs.length = len) (hl2 : len ≤ 1000)
    (hq : ∀ (k x : Nat), qs[k]? = some x → x < 1000 ∧ w.cell? ⟨b, off + k, none⟩ = some (.int .i64 (x : Int))) (hA : AsksC w g c c' p) :
    Calls Try.prog 51 #[.slice (some ⟨b, off, none⟩) len cap, .func (.func g) #[] #[c, c']] w fun e w' => e = .returned (.bool (qs.any p)) ∧ Still w w' := by
  have HL : Hid (qs.length = len) := hl
  clear hl
  go_enter Try.func51, Try.ntmps51
  go_wp2_with (go_at_call 53; refine (indexFuncC_row g c c' p b off len cap qs _ eg HL.out hl2 hq hA).mono ?_; rintro e w' ⟨rfl, hB⟩)
  go_ret
  exact ⟨cret_bool (cFirst_ge _ _), hB⟩

-- The question of hearWaiting: is it unheard?
set_option maxRecDepth 100000 in
set_option maxHeartbeats 4000000 in
theorem unheard_any (m : Cmov W mb n s h) {i x B1 B2 : Nat} (hi : i < n) (hn : n ≤ 6) (hx : x < 1000) (b1 : W.cell? ⟨B1, 0, none⟩ = some (.pointer (some ⟨mb, 0, none⟩))) (b2 : W.cell? ⟨B2, 0, none⟩ = some (.int .i64 (i : Int))) :
    Calls Try.prog 49 #[.int .i64 (x : Int), .pointer (some ⟨B1, 0, none⟩), .pointer (some ⟨B2, 0, none⟩)] W fun e W2 => e = .returned (.bool (s.came i x != 2)) ∧ Still W W2 := by
  obtain ⟨_, c1, _⟩ := m.cells
  have hlk : ∀ q, (Instr.lookup 69 (.map (some h.M)) (.agg #[.int .i64 (i : Int), .int .i64 (x : Int)]) false).run Try.prog (W.drewN q) = .ok (.int .i64 (s.came i x : Int)) (W.drewN q) := fun q => (m.drewN q).map.lookK cameMap (by omega) hx
  have hlk0 := m.map.lookK cameMap (show i < 1000 by omega) hx
  have hlk0 : (Instr.lookup 69 (.map (some h.M)) (.agg #[.int .i64 (i : Int), .int .i64 (x : Int)]) false).run Try.prog W = .ok (.int .i64 (s.came i x : Int)) W := hlk0
  clear m
  go_enter Try.func49, Try.ntmps49
  go_wp2
  go_quiet (fail)
  go_wp2
  go_ret
  refine ⟨?_, ?_⟩
  · show Ending.returned (Value.bool ((s.came i x : Int) != 2)) = _
    congr 2
    rw [Bool.eq_iff_iff]
    simp
    omega
  · exact (Keep.refl _ W).drewN _

theorem Cmov.msg_at (m : Cmov W mb n s h) {k : Nat} {q : Nat × Nat} (hq : s.msgs[k]? = some q) : ∃ g off cap, h.mv = .slice (some ⟨g, off, none⟩) s.msgs.length cap ∧ W.cell? ⟨g, off + k * 2, none⟩ = some (.int .i64 (q.1 : Int)) ∧ W.cell? ⟨g, off + k * 2 + 1, none⟩ = some (.int .i64 (q.2 : Int)) := by
  obtain ⟨g, off, cap, e, _, _, _, _, hc, _⟩ := m.ms.at (by have := get_lt hq; omega)
  obtain ⟨z1, z2⟩ := msgL_at hq
  exact ⟨g, off, cap, e, hc _ _ z1, by have := hc _ _ z2; rw [← Nat.add_assoc] at this; exact this⟩
theorem Cmov.cause_cells (m : Cmov W mb n s h) {k b off cap : Nat} {q : Nat × Nat} (hq : s.msgs[k]? = some q) (hq1 : q.1 < n) (hq2 : q.2 < (s.ls q.1).length) (hf : h.f q.1 = .slice (some ⟨b, off, none⟩) (s.ls q.1).length cap) :
    ∀ (j x : Nat), (causC s k)[j]? = some x → W.cell? ⟨b, off + j, none⟩ = some (.int .i64 (x : Int)) := by
  intro j x hx
  obtain ⟨g', off', cap', e, _, _, _, _, hc, _⟩ := (m.li _ hq1).at (by omega)
  rw [hf] at e
  simp only [Value.slice.injEq, Option.some.injEq, Addr.mk.injEq] at e
  obtain ⟨⟨rfl, rfl, _⟩, _, _⟩ := e
  apply hc
  unfold causC at hx
  rw [hq] at hx
  simp only [List.getElem?_take] at hx
  split at hx
  · unfold natsL; rw [List.getElem?_map, hx]; rfl
  · cases hx
theorem caus_len {k : Nat} {q : Nat × Nat} (hq : s.msgs[k]? = some q) (hq2 : q.2 < (s.ls q.1).length) : (causC s k).length = q.2 := by
  unfold causC; rw [hq]; simp; omega

set_option maxRecDepth 100000 in
set_option maxHeartbeats 4000000 in
theorem causes_any (m : Cmov W mb n s h) {k b off cap : Nat} {q : Nat × Nat} (hq : s.msgs[k]? = some q) (hk : k < 1000) (hq1 : q.1 < n) (hq2 : q.2 < (s.ls q.1).length) (hn : n ≤ 6) (hlen : (s.ls q.1).length ≤ 1000) (hml : s.msgs.length ≤ 1000) (hf : h.f q.1 = .slice (some ⟨b, off, none⟩) (s.ls q.1).length cap) :
    Calls Try.prog 52 #[.pointer (some ⟨mb, 0, none⟩), .int .i64 (k : Int)] W fun e W2 => Still W W2 ∧ e = .returned (.slice (some ⟨b, off, none⟩) q.2 cap) := by
  have hcap : (s.ls q.1).length ≤ cap := by
    obtain ⟨g', off', cap', e, _, _, h5, _⟩ := (m.li _ hq1).at (by omega)
    rw [hf] at e
    simp only [Value.slice.injEq] at e
    omega
  obtain ⟨c0, c1, c2⟩ := m.cells
  have hkl := get_lt hq
  obtain ⟨g, o, cm, em, m1, m2⟩ := m.msg_at hq
  rw [em] at c0
  obtain ⟨q1, q2⟩ := q
  simp only at hq1 hq2 hlen hf hcap m1 m2 ⊢
  generalize (s.ls q1).length = ln at *
  generalize hml : s.msgs.length = ml at *
  have hq1' : (q1 : Int) < (n : Int) := by omega
  have hkl' : (k : Int) < (ml : Int) := by omega
  have hq2' : (q2 : Int) ≤ (cap : Int) := by omega
  have hq3' : q2 ≤ cap := by omega
  obtain ⟨_, _, d2⟩ := (m.alloc (.cells #[.int .i64 (q1 : Int), .int .i64 (q2 : Int)] 93)).cells
  obtain ⟨r1, _⟩ := (m.alloc (.cells #[.int .i64 (q1 : Int), .int .i64 (q2 : Int)] 93)).row hq1
  rw [hf] at r1
  have n1 : (W.alloc (.cells #[.int .i64 (q1 : Int), .int .i64 (q2 : Int)] 93)).cell? ⟨W.heap.size, 0, none⟩ = some (.int .i64 (q1 : Int)) := by
    rw [cell_of_row _ _ _ _ _ _ (al_new W _)]; rfl
  have n2 : (W.alloc (.cells #[.int .i64 (q1 : Int), .int .i64 (q2 : Int)] 93)).cell? ⟨W.heap.size, 1, none⟩ = some (.int .i64 (q2 : Int)) := by
    rw [cell_of_row _ _ _ _ _ _ (al_new W _)]; rfl
  have hst : Hid (Still W (W.alloc (.cells #[.int .i64 (q1 : Int), .int .i64 (q2 : Int)] 93))) := hidMk ((Keep.refl _ W).alloc _)
  clear m hf hq em
  go_enter Try.func52, Try.ntmps52
  go_wp2
  generalize W.alloc (.cells #[.int .i64 (q1 : Int), .int .i64 (q2 : Int)] 93) = w0 at *
  go_quiet (fail)
  go_wp2
  go_ret
  exact ⟨hst.out.drewN _, rfl⟩

theorem enters_unheard : ∀ args w, (callFunc 49 args).run Try.prog w = .ok (.enter 49 args) w :=
  Go.Proofs.enters_of Try.func49 (by kernel_rfl) rfl

set_option maxRecDepth 100000 in
set_option maxHeartbeats 4000000 in
theorem mayBe_any (m : Cmov W mb n s h) {i k B1 B2 B4 : Nat} {q : Nat × Nat} (hi : i < n) (hq : s.msgs[k]? = some q) (hk : k < 1000) (hq1 : q.1 < n) (hq2 : q.2 < (s.ls q.1).length) (hn : n ≤ 6) (hlen : (s.ls q.1).length ≤ 1000) (hml : s.msgs.length ≤ 1000) (hcs : ∀ x ∈ causC s k, x < 1000)
    (b1 : W.cell? ⟨B1, 0, none⟩ = some (.pointer (some ⟨mb, 0, none⟩))) (b2 : W.cell? ⟨B2, 0, none⟩ = some (.int .i64 (i : Int))) (b4 : W.cell? ⟨B4, 0, none⟩ = some (.func (.func 49) #[] #[.pointer (some ⟨B1, 0, none⟩), .pointer (some ⟨B2, 0, none⟩)])) :
    Calls Try.prog 50 #[.int .i64 (k : Int), .pointer (some ⟨B1, 0, none⟩), .pointer (some ⟨B4, 0, none⟩)] W fun e W2 => e = .returned (.bool (okC s i k)) ∧ Still W W2 := by
  obtain ⟨b, off, cap, hf, _⟩ := (m.li _ hq1).at (by omega)
  have HC : Hid (∀ w1, Still W w1 → Calls Try.prog 52 #[.pointer (some ⟨mb, 0, none⟩), .int .i64 (k : Int)] w1 fun e W2 => Still w1 W2 ∧ e = .returned (.slice (some ⟨b, off, none⟩) q.2 cap)) :=
    hidMk (fun w1 hs => causes_any (m.still hs) hq hk hq1 hq2 hn hlen hml hf)
  have HF : Hid (∀ w1, Still W w1 → Calls Try.prog 51 #[.slice (some ⟨b, off, none⟩) q.2 cap, .func (.func 49) #[] #[.pointer (some ⟨B1, 0, none⟩), .pointer (some ⟨B2, 0, none⟩)]] w1 fun e w' => e = .returned (.bool ((causC s k).any fun c => s.came i c != 2)) ∧ Still w1 w') :=
    hidMk (fun w1 hs => containsFuncC_row _ _ _ (fun c => s.came i c != 2) b off q.2 cap (causC s k) w1 enters_unheard (caus_len hq hq2) (by omega) (fun j x hx => ⟨hcs x (List.mem_of_getElem? hx), (m.still hs).cause_cells hq hq1 hq2 hf j x hx⟩)
      (fun x w2 hx hs2 => unheard_any ((m.still hs).still hs2) hi hn hx (hs2.cell (hs.cell b1)) (hs2.cell (hs.cell b2))))
  have hst : Hid (∀ w1, Still W w1 → w1.cell? ⟨B4, 0, none⟩ = some (.func (.func 49) #[] #[.pointer (some ⟨B1, 0, none⟩), .pointer (some ⟨B2, 0, none⟩)])) := hidMk (fun w1 hs => hs.cell b4)
  have e1 : okC s i k = !((causC s k).any fun c => s.came i c != 2) := rfl
  rw [e1]
  generalize ((causC s k).any fun c => s.came i c != 2) = ans at *
  obtain ⟨q1, q2⟩ := q
  simp only at HC HF
  clear m hq hq1 hq2 hlen hml hcs hf e1 b2
  go_enter Try.func50, Try.ntmps50
  go_wp2
  go_region_with (first
    | (go_at_call 51; refine (HF.out _ hB.out).mono ?_; rintro e w'' ⟨rfl, hB3⟩; have hB4 := hidMk (hB.out.tr hB3); clear hB3)
    | (go_at_call 52; refine (HC.out _ ((Keep.refl _ _).drew)).mono ?_; rintro e w' ⟨hB2, rfl⟩; have hB : Hid (Still W w') := hidMk (((Keep.refl _ W).drew).trans hB2 (fun _ _ e => e) (fun _ _ e => e)); have b4' := hst.out _ hB.out; clear hB2))
  all_goals (go_wp2; go_ret; exact ⟨rfl, hB4.out⟩)
end Go.Proofs.Ytpdccjhabolccaa
