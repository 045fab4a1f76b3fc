/- The document's Less and totals, walked. -/
import Derived.Test.YtipoopbkapgfiaaTp1
import Derived.Test.YtipoopbkapgfiaaR4
import Derived.Deep.Cut
import Derived.Deep.CutRange
import Derived.Deep.CutBlock
import Derived.RegionTactic
import Derived.BigRegion
import Derived.BigQuiet
namespace Go.Proofs.Ytipoopbkapgfiaa
open Go.RowKit Go.WideMaps
set_option linter.unusedVariables false

theorem wpAnyC_one_g {P : Program} {ops : Array Oper} {md : Region.Mode} {Q : Exit → Act → World → Prop} {C : World → Prop} {lst : Nat} {fuel : Nat} {listed : Array Bool} {a : Act} {w : World} (i : Nat) {o : Oper} (hr : Region.ready md ops listed = [i]) (ho : ops[i]? = some o) (hw : Region.wanted o (yielded ops a.tmps) = true)
    (h : ∀ K : Act → World → Prop, (∀ a' w', ((i ≠ lst → C w') ∧ wpAnyC P md ops Q C lst fuel (listed.setIfInBounds i true) a' w') → K a' w') → o.wp P a w K Q) : wpAnyC P md ops Q C lst (fuel + 1) listed a w := by
  refine ⟨fun h0 => (by rw [hr] at h0; cases h0), fun j hj => ?_⟩
  rw [hr] at hj
  obtain rfl : j = i := by simpa using hj
  unfold wpOp
  simp only [ho]
  rw [if_pos hw]
  exact .inl (h _ (fun _ _ h => h))
theorem stilDrew (A : World) : Stil A A.drew := (Keep.refl _ A).drew
theorem cOneU (x : Nat) : ∀ u ∈ [Value.int .i64 (x : Int)], u.oneCell' = true := by intro u hu; simp at hu; subst hu; rfl
set_option maxRecDepth 100000 in
set_option maxHeartbeats 4000000 in
theorem less_ref (W : World) (a b c d : Nat) : Calls Try.prog 10 #[.agg #[.int .i64 (a : Int), .int .i64 (b : Int)], .agg #[.int .i64 (c : Int), .int .i64 (d : Int)]] W fun e W2 => e = .returned (.bool (klt a b c d)) ∧ Stil W W2 := by
  have HK : Stil W ((W.alloc (.cells #[.int .i64 (a : Int), .int .i64 (b : Int)] 45)).alloc (.cells #[.int .i64 (c : Int), .int .i64 (d : Int)] 45)) := ((Keep.refl _ W).alloc _).alloc _
  have HK2 := hidMk HK
  clear HK
  by_cases l1 : a < c
  · have e1 : decide ((a : Int) < (c : Int)) = true := decide_eq_true (by omega)
    have e2 : decide (a < c) = true := decide_eq_true l1
    have e3 : klt a b c d = true := by unfold klt; exact decide_eq_true (.inl l1)
    rw [e3]
    clear l1 e3
    go_enter Try.func10, Try.ntmps10
    go_wp2
    go_ret
    exact ⟨rfl, HK2.out⟩
  · have e1 : decide ((a : Int) < (c : Int)) = false := decide_eq_false (by omega)
    have e2 : decide (a < c) = false := decide_eq_false l1
    by_cases l2 : a = c
    · subst l2
      have e4 : ((a : Int) == (a : Int)) = true := by simp
      have e3 : klt a b a d = decide (b < d) := by
        unfold klt
        by_cases hb : b < d
        · rw [decide_eq_true (by omega), decide_eq_true (by omega)]
        · rw [decide_eq_false (by omega), decide_eq_false (by omega)]
      rw [e3]
      clear l1 e3
      go_enter Try.func10, Try.ntmps10
      go_wp2
      go_ret
      exact ⟨rfl, HK2.out⟩
    · have e4 : ((a : Int) == (c : Int)) = false := by rw [beq_eq_false_iff_ne]; omega
      have e5 : (a == c) = false := by rw [beq_eq_false_iff_ne]; omega
      have e3 : klt a b c d = false := by unfold klt; exact decide_eq_false (by omega)
      rw [e3]
      clear l1 l2 e3
      go_enter Try.func10, Try.ntmps10
      go_wp2
      go_ret
      exact ⟨rfl, HK2.out⟩

/-- Does the search take the k-th? -/
def newB (f : Nat → Option En) (k : Nat) : Bool := match f k with
  | none => false
  | some e => !e.heard && beats (leastTo f k) e
theorem least_newB (f : Nat → Option En) (k : Nat) : bestI f (k + 1) = if newB f k = true then (k : Int) else bestI f k := by
  cases hf : f k with
  | none =>
    rw [show newB f k = false by unfold newB; rw [hf], if_neg (by simp)]
    unfold bestI
    rw [best_keep (.inl hf)]
  | some e =>
    have hb : newB f k = (!e.heard && beats (leastTo f k) e) := by unfold newB; rw [hf]
    cases h1 : newB f k with
    | true =>
      rw [hb, Bool.and_eq_true] at h1
      rw [if_pos rfl, best_some (best_new hf (by simpa using h1.1) h1.2)]
    | false =>
      rw [hb] at h1
      rw [if_neg (by simp)]
      unfold bestI
      rw [best_keep (.inr ⟨e, hf, by cases hh : e.heard <;> rw [hh] at h1 <;> simp at h1 ⊢; exact h1⟩)]
theorem upd1_id {α : Type} (f : Nat → α) (i : Nat) : upd1 f i (f i) = f := by
  funext k
  by_cases e : k = i
  · subst e; exact upd1_same _ _ _
  · exact upd1_other _ _ e
theorem upd1_upd {α : Type} (f : Nat → α) (i : Nat) (a b : α) : upd1 (upd1 f i a) i b = upd1 f i b := by
  funext k
  by_cases e : k = i
  · subst e; rw [upd1_same, upd1_same]
  · rw [upd1_other _ _ e, upd1_other _ _ e, upd1_other _ _ e]
variable {ob n many Nb Gb Lb : Nat} {s : TS} {cds : List Int} {h : ZSh} {g : Nat → Nat → Nat}
theorem goAt {w many x f go : Nat} (hgo : go = w * many * 5) : (w * many + x) * 5 + f = go + x * 5 + f := by
  subst hgo
  rw [Nat.add_mul]
theorem Zmv.gotO {W : World} (m : Zmv W ob n many Nb Gb Lb s cds h) {w x go : Nat} (hw : w < n) (hx : x < many) (hgo : go = w * many * 5) :
    W.cell? ⟨Gb, go + x * 5, none⟩ = some (gv (s.ent w x) 0) ∧ W.cell? ⟨Gb, go + x * 5 + 1, none⟩ = some (gv (s.ent w x) 1) ∧ W.cell? ⟨Gb, go + x * 5 + 2, none⟩ = some (gv (s.ent w x) 2) ∧ W.cell? ⟨Gb, go + x * 5 + 3, none⟩ = some (gv (s.ent w x) 3) ∧ W.cell? ⟨Gb, go + x * 5 + 4, none⟩ = some (gv (s.ent w x) 4) ∧ W.frozen? ⟨Gb, go + x * 5 + 4, none⟩ = false := by
  have h0 := (m.got hw hx (f := 0) (by omega)).1
  have h1 := (m.got hw hx (f := 1) (by omega)).1
  have h2 := (m.got hw hx (f := 2) (by omega)).1
  have h3 := (m.got hw hx (f := 3) (by omega)).1
  have h4 := m.got hw hx (f := 4) (by omega)
  rw [goAt hgo] at h0 h1 h2 h3 h4
  exact ⟨h0, h1, h2, h3, h4⟩
set_option maxRecDepth 1000000 in
set_option maxHeartbeats 16000000 in
theorem totals_any {W : World} (m : Zmv W ob n many Nb Gb Lb s cds h) (hi : TInv n s g) {w go gc : Nat} (hw : w < n) (hn : n ≤ 6) (hs : s.sent ≤ many) (hm : many ≤ 120) (hgo : go = w * many * 5) :
    Calls Try.prog 11 #[.slice (some ⟨Gb, go, none⟩) many gc, h.lv w] W fun e W2 => ∃ v3 t3, e = .returned v3 ∧ Zmv W2 ob n many Nb Gb Lb (hearN s w s.sent) cds { h with lv := upd1 h.lv w v3, t := t3 } ∧ ZStp ob W h W2 { h with lv := upd1 h.lv w v3, t := t3 } := by
  have HM := hidMk m
  have HI := hidMk hi
  have HW := hidMk hw
  have HG := hidMk hgo
  have HF := hidMk (hear_many (n := n) (by omega) hi (who := w) hs)
  have hm' : (many : Int) ≤ 120 := by omega
  obtain ⟨i0, hit, hz0, hz1, hz2⟩ := info_parts cInfoInt
  clear m hi hw hgo
  go_enter Try.func11, Try.ntmps11
  go_wp2
  go_loopw [1, 5] (fun v1 u wr => ∃ (k : Nat) (s1 : TS) (t1 : Nat → Option ZT), k ≤ many ∧ u = .int .i64 (k : Int) ∧ Hid (Zmv wr ob n many Nb Gb Lb s1 cds { h with lv := upd1 h.lv w v1, t := t1 }) ∧ Hid (ZStp ob W h wr { h with lv := upd1 h.lv w v1, t := t1 }) ∧ Hid (hearN s w many = hearN s1 w (many - k)) ∧ Hid (TInv n s1 g) ∧ Hid (s1.sent = s.sent)) (fun _ u _ => many - (intOf u).toNat)
  case atStart =>
    refine ⟨0, s, h.t, Nat.zero_le _, rfl, ?_, ?_, rfl, HI, rfl⟩
    · show Zmv _ _ _ _ _ _ _ _ _ _
      rw [upd1_id]
      exact HM.out
    · show ZStp _ _ _ _ _
      rw [upd1_id]
      exact ZStp.refl _ _ _
  case round =>
    obtain ⟨k, s1, t1, hk, rfl, HM1, HS1, HE1, HI1, HZ1⟩ := hrel
    by_cases hlt : k < many
    · have hlt' : (k : Int) < (many : Int) := by omega
      go_wp2
      obtain ⟨wq, hwq⟩ : ∃ w' : World, w' = wr := ⟨_, rfl⟩
      subst hwq
      go_loopw [6, 7] (fun v6 v7 wl => ∃ x : Nat, x ≤ many ∧ v7 = .int .i64 (x : Int) ∧ v6 = .int .i64 (bestI (s1.ent w) x) ∧ Hid (Stil wq wl)) (fun _ u _ => many - (intOf u).toNat)
      case atStart => exact ⟨0, Nat.zero_le _, rfl, rfl, Keep.refl _ _⟩
      case round =>
        obtain ⟨x, hx, rfl, rfl, HKl⟩ := hrel
        by_cases hlx : x < many
        · have hx := hlx
          have hx' : (x : Int) < (many : Int) := by omega
          go_upto_region 8 with fail
          have HBn := hidMk (least_newB (s1.ent w) x)
          generalize hbi : bestI (s1.ent w) x = bi at *
          go_cut [49] from 20 to 49 (fun s49 wx => s49 = .bool (newB (s1.ent w) x) ∧ Stil wr wx)
          case first =>
            obtain ⟨d0, d1, d2, d3, d4, d5⟩ := (HM1.out.still HKl.out).gotO HW.out hx HG.out
            clear d3 d5
            cases hf : s1.ent w x with
            | none =>
              rw [hf] at d2
              have d2 : wr.cell? ⟨Gb, go + x * 5 + 2, none⟩ = some (.bool false) := d2
              have HNb : Hid (newB (s1.ent w) x = false) := by show _ = _; unfold newB; rw [hf]
              clear d0 d1 d4 hf
              have HC : Hid (∀ w9, Stil wr w9 → w9.cell? ⟨Gb, go + x * 5 + 2, none⟩ = some (.bool false)) := fun w9 h9 => h9.cell d2
              have HC0 := hidMk (HC.out _ (stilDrew wr))
              clear d2
              refine wp_region_class (fun w' => w'.cell? ⟨Gb, go + x * 5 + 2, none⟩ = some (.bool false)) 30 (by kernel_rfl) ?_
              refine wpAnyC_take (i := 0) (fuel := 29) (v := .slice (some ⟨Gb, go, none⟩) many gc) rfl (by kernel_rfl) (by kernel_rfl) (by kernel_rfl) (by kernel_rfl) (fun _ _ _ h => h) (.inl ⟨by kernel_rfl, fun w' hC => by have y1 := hC; go_simp⟩) HC0.out ?_
              go_frame
              refine wpAnyC_take (i := 1) (fuel := 28) (v := .int .i64 (x : Int)) rfl (by kernel_rfl) (by kernel_rfl) (by kernel_rfl) (by kernel_rfl) (fun _ _ _ h => h) (.inl ⟨by kernel_rfl, fun w' hC => by have y1 := hC; go_simp⟩) HC0.out ?_
              go_frame
              refine wpAnyC_take (i := 2) (fuel := 27) (v := .pointer (some ⟨Gb, go + x * 5, none⟩)) rfl (by kernel_rfl) (by kernel_rfl) (by kernel_rfl) (by kernel_rfl) (fun _ _ _ h => h) (.inl ⟨by kernel_rfl, fun w' hC => by have y1 := hC; go_simp⟩) HC0.out ?_
              go_frame
              refine wpAnyC_take (i := 3) (fuel := 26) (v := .pointer (some ⟨Gb, go + x * 5 + 2, none⟩)) rfl (by kernel_rfl) (by kernel_rfl) (by kernel_rfl) (by kernel_rfl) (fun _ _ _ h => h) (.inl ⟨by kernel_rfl, fun w' hC => by have y1 := hC; go_simp⟩) HC0.out ?_
              go_frame
              refine wpAnyC_take (i := 4) (fuel := 25) (v := .bool false) rfl (by kernel_rfl) (by kernel_rfl) (by kernel_rfl) (by kernel_rfl) (fun _ _ _ h => h) (.inl ⟨by kernel_rfl, fun w' hC => by have y1 := hC; go_simp⟩) HC0.out ?_
              go_frame
              refine wpAnyC_take (i := 5) (fuel := 24) (v := .bool false) rfl (by kernel_rfl) (by kernel_rfl) (by kernel_rfl) (by kernel_rfl) (fun _ _ _ h => h) (.inl ⟨by kernel_rfl, fun w' hC => by have y1 := hC; go_simp⟩) HC0.out ?_
              go_frame
              refine wpAnyC_take (i := 6) (fuel := 23) (v := undef) rfl (by kernel_rfl) (by kernel_rfl) (by kernel_rfl) (by kernel_rfl) (fun _ _ _ h => h) (.inr ⟨by kernel_rfl, rfl⟩) HC0.out ?_
              go_frame
              refine wpAnyC_take (i := 7) (fuel := 22) (v := undef) rfl (by kernel_rfl) (by kernel_rfl) (by kernel_rfl) (by kernel_rfl) (fun _ _ _ h => h) (.inr ⟨by kernel_rfl, rfl⟩) HC0.out ?_
              go_frame
              refine wpAnyC_take (i := 8) (fuel := 21) (v := undef) rfl (by kernel_rfl) (by kernel_rfl) (by kernel_rfl) (by kernel_rfl) (fun _ _ _ h => h) (.inr ⟨by kernel_rfl, rfl⟩) HC0.out ?_
              go_frame
              refine wpAnyC_take (i := 9) (fuel := 20) (v := undef) rfl (by kernel_rfl) (by kernel_rfl) (by kernel_rfl) (by kernel_rfl) (fun _ _ _ h => h) (.inr ⟨by kernel_rfl, rfl⟩) HC0.out ?_
              go_frame
              refine wpAnyC_take (i := 10) (fuel := 19) (v := undef) rfl (by kernel_rfl) (by kernel_rfl) (by kernel_rfl) (by kernel_rfl) (fun _ _ _ h => h) (.inr ⟨by kernel_rfl, rfl⟩) HC0.out ?_
              go_frame
              refine wpAnyC_take (i := 11) (fuel := 18) (v := undef) rfl (by kernel_rfl) (by kernel_rfl) (by kernel_rfl) (by kernel_rfl) (fun _ _ _ h => h) (.inr ⟨by kernel_rfl, rfl⟩) HC0.out ?_
              go_frame
              refine wpAnyC_take (i := 12) (fuel := 17) (v := .bool false) rfl (by kernel_rfl) (by kernel_rfl) (by kernel_rfl) (by kernel_rfl) (fun _ _ _ h => h) (.inl ⟨by kernel_rfl, fun w' hC => by have y1 := hC; go_simp⟩) HC0.out ?_
              go_frame
              refine wpAnyC_take (i := 13) (fuel := 16) (v := .bool false) rfl (by kernel_rfl) (by kernel_rfl) (by kernel_rfl) (by kernel_rfl) (fun _ _ _ h => h) (.inl ⟨by kernel_rfl, fun w' hC => by have y1 := hC; go_simp⟩) HC0.out ?_
              go_frame
              refine wpAnyC_take (i := 14) (fuel := 15) (v := undef) rfl (by kernel_rfl) (by kernel_rfl) (by kernel_rfl) (by kernel_rfl) (fun _ _ _ h => h) (.inr ⟨by kernel_rfl, rfl⟩) HC0.out ?_
              go_frame
              refine wpAnyC_take (i := 15) (fuel := 14) (v := undef) rfl (by kernel_rfl) (by kernel_rfl) (by kernel_rfl) (by kernel_rfl) (fun _ _ _ h => h) (.inr ⟨by kernel_rfl, rfl⟩) HC0.out ?_
              go_frame
              refine wpAnyC_take (i := 16) (fuel := 13) (v := undef) rfl (by kernel_rfl) (by kernel_rfl) (by kernel_rfl) (by kernel_rfl) (fun _ _ _ h => h) (.inr ⟨by kernel_rfl, rfl⟩) HC0.out ?_
              go_frame
              refine wpAnyC_take (i := 17) (fuel := 12) (v := undef) rfl (by kernel_rfl) (by kernel_rfl) (by kernel_rfl) (by kernel_rfl) (fun _ _ _ h => h) (.inr ⟨by kernel_rfl, rfl⟩) HC0.out ?_
              go_frame
              refine wpAnyC_take (i := 18) (fuel := 11) (v := undef) rfl (by kernel_rfl) (by kernel_rfl) (by kernel_rfl) (by kernel_rfl) (fun _ _ _ h => h) (.inr ⟨by kernel_rfl, rfl⟩) HC0.out ?_
              go_frame
              refine wpAnyC_take (i := 19) (fuel := 10) (v := undef) rfl (by kernel_rfl) (by kernel_rfl) (by kernel_rfl) (by kernel_rfl) (fun _ _ _ h => h) (.inr ⟨by kernel_rfl, rfl⟩) HC0.out ?_
              go_frame
              refine wpAnyC_take (i := 20) (fuel := 9) (v := undef) rfl (by kernel_rfl) (by kernel_rfl) (by kernel_rfl) (by kernel_rfl) (fun _ _ _ h => h) (.inr ⟨by kernel_rfl, rfl⟩) HC0.out ?_
              go_frame
              refine wpAnyC_take (i := 21) (fuel := 8) (v := undef) rfl (by kernel_rfl) (by kernel_rfl) (by kernel_rfl) (by kernel_rfl) (fun _ _ _ h => h) (.inr ⟨by kernel_rfl, rfl⟩) HC0.out ?_
              go_frame
              refine wpAnyC_take (i := 22) (fuel := 7) (v := undef) rfl (by kernel_rfl) (by kernel_rfl) (by kernel_rfl) (by kernel_rfl) (fun _ _ _ h => h) (.inr ⟨by kernel_rfl, rfl⟩) HC0.out ?_
              go_frame
              refine wpAnyC_take (i := 23) (fuel := 6) (v := undef) rfl (by kernel_rfl) (by kernel_rfl) (by kernel_rfl) (by kernel_rfl) (fun _ _ _ h => h) (.inr ⟨by kernel_rfl, rfl⟩) HC0.out ?_
              go_frame
              refine wpAnyC_take (i := 24) (fuel := 5) (v := undef) rfl (by kernel_rfl) (by kernel_rfl) (by kernel_rfl) (by kernel_rfl) (fun _ _ _ h => h) (.inr ⟨by kernel_rfl, rfl⟩) HC0.out ?_
              go_frame
              refine wpAnyC_take (i := 25) (fuel := 4) (v := undef) rfl (by kernel_rfl) (by kernel_rfl) (by kernel_rfl) (by kernel_rfl) (fun _ _ _ h => h) (.inr ⟨by kernel_rfl, rfl⟩) HC0.out ?_
              go_frame
              refine wpAnyC_take (i := 26) (fuel := 3) (v := undef) rfl (by kernel_rfl) (by kernel_rfl) (by kernel_rfl) (by kernel_rfl) (fun _ _ _ h => h) (.inr ⟨by kernel_rfl, rfl⟩) HC0.out ?_
              go_frame
              refine wpAnyC_take (i := 27) (fuel := 2) (v := undef) rfl (by kernel_rfl) (by kernel_rfl) (by kernel_rfl) (by kernel_rfl) (fun _ _ _ h => h) (.inr ⟨by kernel_rfl, rfl⟩) HC0.out ?_
              go_frame
              refine wpAnyC_take (i := 28) (fuel := 1) (v := undef) rfl (by kernel_rfl) (by kernel_rfl) (by kernel_rfl) (by kernel_rfl) (fun _ _ _ h => h) (.inr ⟨by kernel_rfl, rfl⟩) HC0.out ?_
              go_frame
              refine wpAnyC_one 29 (fuel := 0) (by kernel_rfl) rfl rfl (fun K7 hK7 => ?_)
              go_wp2
              refine ⟨fun _ => HC0.out, ?_⟩
              refine wpAnyC_done (by kernel_rfl) ?_
              show Exit.then _ _ Exit.normal _ _
              go_wp2_with fail
              go_meet
              case rel => exact ⟨by rw [HNb.out], stilDrew wr⟩
            | some e =>
              rw [hf] at d0 d1 d2 d4
              obtain ⟨en, ep, et, eh⟩ := e
              have d0 : wr.cell? ⟨Gb, go + x * 5, none⟩ = some (.int .i64 (en : Int)) := d0
              have d1 : wr.cell? ⟨Gb, go + x * 5 + 1, none⟩ = some (.int .i64 (ep : Int)) := d1
              have d2 : wr.cell? ⟨Gb, go + x * 5 + 2, none⟩ = some (.bool true) := d2
              have d4 : wr.cell? ⟨Gb, go + x * 5 + 4, none⟩ = some (.bool eh) := d4
              cases eh with
              | true =>
                have HNb : Hid (newB (s1.ent w) x = false) := by show _ = _; unfold newB; rw [hf]; rfl
                clear d0 d1 hf
                have HC : Hid (∀ w9, Stil wr w9 → w9.cell? ⟨Gb, go + x * 5 + 2, none⟩ = some (.bool true) ∧ w9.cell? ⟨Gb, go + x * 5 + 4, none⟩ = some (.bool true)) := fun w9 h9 => ⟨h9.cell d2, h9.cell d4⟩
                have HC0 := hidMk (HC.out _ (stilDrew wr))
                clear d2 d4
                refine wp_region_class (fun w' => w'.cell? ⟨Gb, go + x * 5 + 2, none⟩ = some (.bool true) ∧ w'.cell? ⟨Gb, go + x * 5 + 4, none⟩ = some (.bool true)) 30 (by kernel_rfl) ?_
                refine wpAnyC_take (i := 0) (fuel := 29) (v := .slice (some ⟨Gb, go, none⟩) many gc) rfl (by kernel_rfl) (by kernel_rfl) (by kernel_rfl) (by kernel_rfl) (fun _ _ _ h => h) (.inl ⟨by kernel_rfl, fun w' hC => by obtain ⟨y1, y2⟩ := hC; go_simp⟩) HC0.out ?_
                go_frame
                refine wpAnyC_take (i := 1) (fuel := 28) (v := .int .i64 (x : Int)) rfl (by kernel_rfl) (by kernel_rfl) (by kernel_rfl) (by kernel_rfl) (fun _ _ _ h => h) (.inl ⟨by kernel_rfl, fun w' hC => by obtain ⟨y1, y2⟩ := hC; go_simp⟩) HC0.out ?_
                go_frame
                refine wpAnyC_take (i := 2) (fuel := 27) (v := .pointer (some ⟨Gb, go + x * 5, none⟩)) rfl (by kernel_rfl) (by kernel_rfl) (by kernel_rfl) (by kernel_rfl) (fun _ _ _ h => h) (.inl ⟨by kernel_rfl, fun w' hC => by obtain ⟨y1, y2⟩ := hC; go_simp⟩) HC0.out ?_
                go_frame
                refine wpAnyC_take (i := 3) (fuel := 26) (v := .pointer (some ⟨Gb, go + x * 5 + 2, none⟩)) rfl (by kernel_rfl) (by kernel_rfl) (by kernel_rfl) (by kernel_rfl) (fun _ _ _ h => h) (.inl ⟨by kernel_rfl, fun w' hC => by obtain ⟨y1, y2⟩ := hC; go_simp⟩) HC0.out ?_
                go_frame
                refine wpAnyC_take (i := 4) (fuel := 25) (v := .bool true) rfl (by kernel_rfl) (by kernel_rfl) (by kernel_rfl) (by kernel_rfl) (fun _ _ _ h => h) (.inl ⟨by kernel_rfl, fun w' hC => by obtain ⟨y1, y2⟩ := hC; go_simp⟩) HC0.out ?_
                go_frame
                refine wpAnyC_take (i := 5) (fuel := 24) (v := .bool true) rfl (by kernel_rfl) (by kernel_rfl) (by kernel_rfl) (by kernel_rfl) (fun _ _ _ h => h) (.inl ⟨by kernel_rfl, fun w' hC => by obtain ⟨y1, y2⟩ := hC; go_simp⟩) HC0.out ?_
                go_frame
                refine wpAnyC_take (i := 6) (fuel := 23) (v := .slice (some ⟨Gb, go, none⟩) many gc) rfl (by kernel_rfl) (by kernel_rfl) (by kernel_rfl) (by kernel_rfl) (fun _ _ _ h => h) (.inl ⟨by kernel_rfl, fun w' hC => by obtain ⟨y1, y2⟩ := hC; go_simp⟩) HC0.out ?_
                go_frame
                refine wpAnyC_take (i := 7) (fuel := 22) (v := .int .i64 (x : Int)) rfl (by kernel_rfl) (by kernel_rfl) (by kernel_rfl) (by kernel_rfl) (fun _ _ _ h => h) (.inl ⟨by kernel_rfl, fun w' hC => by obtain ⟨y1, y2⟩ := hC; go_simp⟩) HC0.out ?_
                go_frame
                refine wpAnyC_take (i := 8) (fuel := 21) (v := .pointer (some ⟨Gb, go + x * 5, none⟩)) rfl (by kernel_rfl) (by kernel_rfl) (by kernel_rfl) (by kernel_rfl) (fun _ _ _ h => h) (.inl ⟨by kernel_rfl, fun w' hC => by obtain ⟨y1, y2⟩ := hC; go_simp⟩) HC0.out ?_
                go_frame
                refine wpAnyC_take (i := 9) (fuel := 20) (v := .pointer (some ⟨Gb, go + x * 5 + 4, none⟩)) rfl (by kernel_rfl) (by kernel_rfl) (by kernel_rfl) (by kernel_rfl) (fun _ _ _ h => h) (.inl ⟨by kernel_rfl, fun w' hC => by obtain ⟨y1, y2⟩ := hC; go_simp⟩) HC0.out ?_
                go_frame
                refine wpAnyC_take (i := 10) (fuel := 19) (v := .bool true) rfl (by kernel_rfl) (by kernel_rfl) (by kernel_rfl) (by kernel_rfl) (fun _ _ _ h => h) (.inl ⟨by kernel_rfl, fun w' hC => by obtain ⟨y1, y2⟩ := hC; go_simp⟩) HC0.out ?_
                go_frame
                refine wpAnyC_take (i := 11) (fuel := 18) (v := .bool false) rfl (by kernel_rfl) (by kernel_rfl) (by kernel_rfl) (by kernel_rfl) (fun _ _ _ h => h) (.inl ⟨by kernel_rfl, fun w' hC => by obtain ⟨y1, y2⟩ := hC; go_simp⟩) HC0.out ?_
                go_frame
                refine wpAnyC_take (i := 12) (fuel := 17) (v := .bool false) rfl (by kernel_rfl) (by kernel_rfl) (by kernel_rfl) (by kernel_rfl) (fun _ _ _ h => h) (.inl ⟨by kernel_rfl, fun w' hC => by obtain ⟨y1, y2⟩ := hC; go_simp⟩) HC0.out ?_
                go_frame
                refine wpAnyC_take (i := 13) (fuel := 16) (v := .bool false) rfl (by kernel_rfl) (by kernel_rfl) (by kernel_rfl) (by kernel_rfl) (fun _ _ _ h => h) (.inl ⟨by kernel_rfl, fun w' hC => by obtain ⟨y1, y2⟩ := hC; go_simp⟩) HC0.out ?_
                go_frame
                refine wpAnyC_take (i := 14) (fuel := 15) (v := undef) rfl (by kernel_rfl) (by kernel_rfl) (by kernel_rfl) (by kernel_rfl) (fun _ _ _ h => h) (.inr ⟨by kernel_rfl, rfl⟩) HC0.out ?_
                go_frame
                refine wpAnyC_take (i := 15) (fuel := 14) (v := undef) rfl (by kernel_rfl) (by kernel_rfl) (by kernel_rfl) (by kernel_rfl) (fun _ _ _ h => h) (.inr ⟨by kernel_rfl, rfl⟩) HC0.out ?_
                go_frame
                refine wpAnyC_take (i := 16) (fuel := 13) (v := undef) rfl (by kernel_rfl) (by kernel_rfl) (by kernel_rfl) (by kernel_rfl) (fun _ _ _ h => h) (.inr ⟨by kernel_rfl, rfl⟩) HC0.out ?_
                go_frame
                refine wpAnyC_take (i := 17) (fuel := 12) (v := undef) rfl (by kernel_rfl) (by kernel_rfl) (by kernel_rfl) (by kernel_rfl) (fun _ _ _ h => h) (.inr ⟨by kernel_rfl, rfl⟩) HC0.out ?_
                go_frame
                refine wpAnyC_take (i := 18) (fuel := 11) (v := undef) rfl (by kernel_rfl) (by kernel_rfl) (by kernel_rfl) (by kernel_rfl) (fun _ _ _ h => h) (.inr ⟨by kernel_rfl, rfl⟩) HC0.out ?_
                go_frame
                refine wpAnyC_take (i := 19) (fuel := 10) (v := undef) rfl (by kernel_rfl) (by kernel_rfl) (by kernel_rfl) (by kernel_rfl) (fun _ _ _ h => h) (.inr ⟨by kernel_rfl, rfl⟩) HC0.out ?_
                go_frame
                refine wpAnyC_take (i := 20) (fuel := 9) (v := undef) rfl (by kernel_rfl) (by kernel_rfl) (by kernel_rfl) (by kernel_rfl) (fun _ _ _ h => h) (.inr ⟨by kernel_rfl, rfl⟩) HC0.out ?_
                go_frame
                refine wpAnyC_take (i := 21) (fuel := 8) (v := undef) rfl (by kernel_rfl) (by kernel_rfl) (by kernel_rfl) (by kernel_rfl) (fun _ _ _ h => h) (.inr ⟨by kernel_rfl, rfl⟩) HC0.out ?_
                go_frame
                refine wpAnyC_take (i := 22) (fuel := 7) (v := undef) rfl (by kernel_rfl) (by kernel_rfl) (by kernel_rfl) (by kernel_rfl) (fun _ _ _ h => h) (.inr ⟨by kernel_rfl, rfl⟩) HC0.out ?_
                go_frame
                refine wpAnyC_take (i := 23) (fuel := 6) (v := undef) rfl (by kernel_rfl) (by kernel_rfl) (by kernel_rfl) (by kernel_rfl) (fun _ _ _ h => h) (.inr ⟨by kernel_rfl, rfl⟩) HC0.out ?_
                go_frame
                refine wpAnyC_take (i := 24) (fuel := 5) (v := undef) rfl (by kernel_rfl) (by kernel_rfl) (by kernel_rfl) (by kernel_rfl) (fun _ _ _ h => h) (.inr ⟨by kernel_rfl, rfl⟩) HC0.out ?_
                go_frame
                refine wpAnyC_take (i := 25) (fuel := 4) (v := undef) rfl (by kernel_rfl) (by kernel_rfl) (by kernel_rfl) (by kernel_rfl) (fun _ _ _ h => h) (.inr ⟨by kernel_rfl, rfl⟩) HC0.out ?_
                go_frame
                refine wpAnyC_take (i := 26) (fuel := 3) (v := undef) rfl (by kernel_rfl) (by kernel_rfl) (by kernel_rfl) (by kernel_rfl) (fun _ _ _ h => h) (.inr ⟨by kernel_rfl, rfl⟩) HC0.out ?_
                go_frame
                refine wpAnyC_take (i := 27) (fuel := 2) (v := undef) rfl (by kernel_rfl) (by kernel_rfl) (by kernel_rfl) (by kernel_rfl) (fun _ _ _ h => h) (.inr ⟨by kernel_rfl, rfl⟩) HC0.out ?_
                go_frame
                refine wpAnyC_take (i := 28) (fuel := 1) (v := undef) rfl (by kernel_rfl) (by kernel_rfl) (by kernel_rfl) (by kernel_rfl) (fun _ _ _ h => h) (.inr ⟨by kernel_rfl, rfl⟩) HC0.out ?_
                go_frame
                refine wpAnyC_one 29 (fuel := 0) (by kernel_rfl) rfl rfl (fun K7 hK7 => ?_)
                go_wp2
                refine ⟨fun _ => HC0.out, ?_⟩
                refine wpAnyC_done (by kernel_rfl) ?_
                show Exit.then _ _ Exit.normal _ _
                go_wp2_with fail
                go_meet
                case rel => exact ⟨by rw [HNb.out], stilDrew wr⟩
              | false =>
                have hN0 : newB (s1.ent w) x = beats (leastTo (s1.ent w) x) ⟨en, ep, et, false⟩ := by unfold newB; rw [hf]; rfl
                cases hl : leastTo (s1.ent w) x with
                | none =>
                  have HNb : Hid (newB (s1.ent w) x = true) := by show _ = _; rw [hN0, hl]; rfl
                  have hb2 : bi = -1 := hbi.symm.trans (best_none hl)
                  subst hb2
                  clear d0 d1 hf hN0 hl hbi
                  have HC : Hid (∀ w9, Stil wr w9 → w9.cell? ⟨Gb, go + x * 5 + 2, none⟩ = some (.bool true) ∧ w9.cell? ⟨Gb, go + x * 5 + 4, none⟩ = some (.bool false)) := fun w9 h9 => ⟨h9.cell d2, h9.cell d4⟩
                  have HC0 := hidMk (HC.out _ (stilDrew wr))
                  clear d2 d4
                  refine wp_region_class (fun w' => w'.cell? ⟨Gb, go + x * 5 + 2, none⟩ = some (.bool true) ∧ w'.cell? ⟨Gb, go + x * 5 + 4, none⟩ = some (.bool false)) 30 (by kernel_rfl) ?_
                  refine wpAnyC_take (i := 0) (fuel := 29) (v := .slice (some ⟨Gb, go, none⟩) many gc) rfl (by kernel_rfl) (by kernel_rfl) (by kernel_rfl) (by kernel_rfl) (fun _ _ _ h => h) (.inl ⟨by kernel_rfl, fun w' hC => by obtain ⟨y1, y2⟩ := hC; go_simp⟩) HC0.out ?_
                  go_frame
                  refine wpAnyC_take (i := 1) (fuel := 28) (v := .int .i64 (x : Int)) rfl (by kernel_rfl) (by kernel_rfl) (by kernel_rfl) (by kernel_rfl) (fun _ _ _ h => h) (.inl ⟨by kernel_rfl, fun w' hC => by obtain ⟨y1, y2⟩ := hC; go_simp⟩) HC0.out ?_
                  go_frame
                  refine wpAnyC_take (i := 2) (fuel := 27) (v := .pointer (some ⟨Gb, go + x * 5, none⟩)) rfl (by kernel_rfl) (by kernel_rfl) (by kernel_rfl) (by kernel_rfl) (fun _ _ _ h => h) (.inl ⟨by kernel_rfl, fun w' hC => by obtain ⟨y1, y2⟩ := hC; go_simp⟩) HC0.out ?_
                  go_frame
                  refine wpAnyC_take (i := 3) (fuel := 26) (v := .pointer (some ⟨Gb, go + x * 5 + 2, none⟩)) rfl (by kernel_rfl) (by kernel_rfl) (by kernel_rfl) (by kernel_rfl) (fun _ _ _ h => h) (.inl ⟨by kernel_rfl, fun w' hC => by obtain ⟨y1, y2⟩ := hC; go_simp⟩) HC0.out ?_
                  go_frame
                  refine wpAnyC_take (i := 4) (fuel := 25) (v := .bool true) rfl (by kernel_rfl) (by kernel_rfl) (by kernel_rfl) (by kernel_rfl) (fun _ _ _ h => h) (.inl ⟨by kernel_rfl, fun w' hC => by obtain ⟨y1, y2⟩ := hC; go_simp⟩) HC0.out ?_
                  go_frame
                  refine wpAnyC_take (i := 5) (fuel := 24) (v := .bool true) rfl (by kernel_rfl) (by kernel_rfl) (by kernel_rfl) (by kernel_rfl) (fun _ _ _ h => h) (.inl ⟨by kernel_rfl, fun w' hC => by obtain ⟨y1, y2⟩ := hC; go_simp⟩) HC0.out ?_
                  go_frame
                  refine wpAnyC_take (i := 6) (fuel := 23) (v := .slice (some ⟨Gb, go, none⟩) many gc) rfl (by kernel_rfl) (by kernel_rfl) (by kernel_rfl) (by kernel_rfl) (fun _ _ _ h => h) (.inl ⟨by kernel_rfl, fun w' hC => by obtain ⟨y1, y2⟩ := hC; go_simp⟩) HC0.out ?_
                  go_frame
                  refine wpAnyC_take (i := 7) (fuel := 22) (v := .int .i64 (x : Int)) rfl (by kernel_rfl) (by kernel_rfl) (by kernel_rfl) (by kernel_rfl) (fun _ _ _ h => h) (.inl ⟨by kernel_rfl, fun w' hC => by obtain ⟨y1, y2⟩ := hC; go_simp⟩) HC0.out ?_
                  go_frame
                  refine wpAnyC_take (i := 8) (fuel := 21) (v := .pointer (some ⟨Gb, go + x * 5, none⟩)) rfl (by kernel_rfl) (by kernel_rfl) (by kernel_rfl) (by kernel_rfl) (fun _ _ _ h => h) (.inl ⟨by kernel_rfl, fun w' hC => by obtain ⟨y1, y2⟩ := hC; go_simp⟩) HC0.out ?_
                  go_frame
                  refine wpAnyC_take (i := 9) (fuel := 20) (v := .pointer (some ⟨Gb, go + x * 5 + 4, none⟩)) rfl (by kernel_rfl) (by kernel_rfl) (by kernel_rfl) (by kernel_rfl) (fun _ _ _ h => h) (.inl ⟨by kernel_rfl, fun w' hC => by obtain ⟨y1, y2⟩ := hC; go_simp⟩) HC0.out ?_
                  go_frame
                  refine wpAnyC_take (i := 10) (fuel := 19) (v := .bool false) rfl (by kernel_rfl) (by kernel_rfl) (by kernel_rfl) (by kernel_rfl) (fun _ _ _ h => h) (.inl ⟨by kernel_rfl, fun w' hC => by obtain ⟨y1, y2⟩ := hC; go_simp⟩) HC0.out ?_
                  go_frame
                  refine wpAnyC_take (i := 11) (fuel := 18) (v := .bool true) rfl (by kernel_rfl) (by kernel_rfl) (by kernel_rfl) (by kernel_rfl) (fun _ _ _ h => h) (.inl ⟨by kernel_rfl, fun w' hC => by obtain ⟨y1, y2⟩ := hC; go_simp⟩) HC0.out ?_
                  go_frame
                  refine wpAnyC_take (i := 12) (fuel := 17) (v := .bool true) rfl (by kernel_rfl) (by kernel_rfl) (by kernel_rfl) (by kernel_rfl) (fun _ _ _ h => h) (.inl ⟨by kernel_rfl, fun w' hC => by obtain ⟨y1, y2⟩ := hC; go_simp⟩) HC0.out ?_
                  go_frame
                  refine wpAnyC_take (i := 13) (fuel := 16) (v := .bool true) rfl (by kernel_rfl) (by kernel_rfl) (by kernel_rfl) (by kernel_rfl) (fun _ _ _ h => h) (.inl ⟨by kernel_rfl, fun w' hC => by obtain ⟨y1, y2⟩ := hC; go_simp⟩) HC0.out ?_
                  go_frame
                  refine wpAnyC_take (i := 14) (fuel := 15) (v := .int .i64 (-1)) rfl (by kernel_rfl) (by kernel_rfl) (by kernel_rfl) (by kernel_rfl) (fun _ _ _ h => h) (.inl ⟨by kernel_rfl, fun w' hC => by obtain ⟨y1, y2⟩ := hC; go_simp⟩) HC0.out ?_
                  go_frame
                  refine wpAnyC_take (i := 15) (fuel := 14) (v := .bool true) rfl (by kernel_rfl) (by kernel_rfl) (by kernel_rfl) (by kernel_rfl) (fun _ _ _ h => h) (.inl ⟨by kernel_rfl, fun w' hC => by obtain ⟨y1, y2⟩ := hC; go_simp⟩) HC0.out ?_
                  go_frame
                  refine wpAnyC_take (i := 16) (fuel := 13) (v := .bool true) rfl (by kernel_rfl) (by kernel_rfl) (by kernel_rfl) (by kernel_rfl) (fun _ _ _ h => h) (.inl ⟨by kernel_rfl, fun w' hC => by obtain ⟨y1, y2⟩ := hC; go_simp⟩) HC0.out ?_
                  go_frame
                  refine wpAnyC_take (i := 17) (fuel := 12) (v := undef) rfl (by kernel_rfl) (by kernel_rfl) (by kernel_rfl) (by kernel_rfl) (fun _ _ _ h => h) (.inr ⟨by kernel_rfl, rfl⟩) HC0.out ?_
                  go_frame
                  refine wpAnyC_take (i := 18) (fuel := 11) (v := undef) rfl (by kernel_rfl) (by kernel_rfl) (by kernel_rfl) (by kernel_rfl) (fun _ _ _ h => h) (.inr ⟨by kernel_rfl, rfl⟩) HC0.out ?_
                  go_frame
                  refine wpAnyC_take (i := 19) (fuel := 10) (v := undef) rfl (by kernel_rfl) (by kernel_rfl) (by kernel_rfl) (by kernel_rfl) (fun _ _ _ h => h) (.inr ⟨by kernel_rfl, rfl⟩) HC0.out ?_
                  go_frame
                  refine wpAnyC_take (i := 20) (fuel := 9) (v := undef) rfl (by kernel_rfl) (by kernel_rfl) (by kernel_rfl) (by kernel_rfl) (fun _ _ _ h => h) (.inr ⟨by kernel_rfl, rfl⟩) HC0.out ?_
                  go_frame
                  refine wpAnyC_take (i := 21) (fuel := 8) (v := undef) rfl (by kernel_rfl) (by kernel_rfl) (by kernel_rfl) (by kernel_rfl) (fun _ _ _ h => h) (.inr ⟨by kernel_rfl, rfl⟩) HC0.out ?_
                  go_frame
                  refine wpAnyC_take (i := 22) (fuel := 7) (v := undef) rfl (by kernel_rfl) (by kernel_rfl) (by kernel_rfl) (by kernel_rfl) (fun _ _ _ h => h) (.inr ⟨by kernel_rfl, rfl⟩) HC0.out ?_
                  go_frame
                  refine wpAnyC_take (i := 23) (fuel := 6) (v := undef) rfl (by kernel_rfl) (by kernel_rfl) (by kernel_rfl) (by kernel_rfl) (fun _ _ _ h => h) (.inr ⟨by kernel_rfl, rfl⟩) HC0.out ?_
                  go_frame
                  refine wpAnyC_take (i := 24) (fuel := 5) (v := undef) rfl (by kernel_rfl) (by kernel_rfl) (by kernel_rfl) (by kernel_rfl) (fun _ _ _ h => h) (.inr ⟨by kernel_rfl, rfl⟩) HC0.out ?_
                  go_frame
                  refine wpAnyC_take (i := 25) (fuel := 4) (v := undef) rfl (by kernel_rfl) (by kernel_rfl) (by kernel_rfl) (by kernel_rfl) (fun _ _ _ h => h) (.inr ⟨by kernel_rfl, rfl⟩) HC0.out ?_
                  go_frame
                  refine wpAnyC_take (i := 26) (fuel := 3) (v := undef) rfl (by kernel_rfl) (by kernel_rfl) (by kernel_rfl) (by kernel_rfl) (fun _ _ _ h => h) (.inr ⟨by kernel_rfl, rfl⟩) HC0.out ?_
                  go_frame
                  refine wpAnyC_take (i := 27) (fuel := 2) (v := undef) rfl (by kernel_rfl) (by kernel_rfl) (by kernel_rfl) (by kernel_rfl) (fun _ _ _ h => h) (.inr ⟨by kernel_rfl, rfl⟩) HC0.out ?_
                  go_frame
                  refine wpAnyC_take (i := 28) (fuel := 1) (v := .bool true) rfl (by kernel_rfl) (by kernel_rfl) (by kernel_rfl) (by kernel_rfl) (fun _ _ _ h => h) (.inl ⟨by kernel_rfl, fun w' hC => by obtain ⟨y1, y2⟩ := hC; go_simp⟩) HC0.out ?_
                  go_frame
                  refine wpAnyC_one 29 (fuel := 0) (by kernel_rfl) rfl rfl (fun K7 hK7 => ?_)
                  go_wp2
                  refine ⟨fun _ => HC0.out, ?_⟩
                  refine wpAnyC_done (by kernel_rfl) ?_
                  show Exit.then _ _ Exit.normal _ _
                  go_wp2_with fail
                  go_meet
                  case rel => exact ⟨by rw [HNb.out], stilDrew wr⟩
                | some qe =>
                  obtain ⟨q, ⟨qn, qp, qt, qh⟩⟩ := qe
                  obtain ⟨hq1, hq2, _⟩ := least_in hl
                  have hq1 : q < x := hq1
                  have hq2 : s1.ent w q = some ⟨qn, qp, qt, qh⟩ := hq2
                  have hqm : q < many := by omega
                  have hqm' : (q : Int) < (many : Int) := by omega
                  obtain ⟨b0, b1, _, _, _, _⟩ := (HM1.out.still HKl.out).gotO HW.out hqm HG.out
                  rw [hq2] at b0 b1
                  have b0 : wr.cell? ⟨Gb, go + q * 5, none⟩ = some (.int .i64 (qn : Int)) := b0
                  have b1 : wr.cell? ⟨Gb, go + q * 5 + 1, none⟩ = some (.int .i64 (qp : Int)) := b1
                  have hb2 : bi = (q : Int) := hbi.symm.trans (best_some hl)
                  subst hb2
                  clear hbi
                  have hN1 : newB (s1.ent w) x = klt en ep qn qp := by rw [hN0, hl]; rfl
                  have qneg : decide ((q : Int) < 0) = false := decide_eq_false (by omega)
                  cases hlt : klt en ep qn qp with
                  | true =>
                    have HNb : Hid (newB (s1.ent w) x = true) := by show _ = _; rw [hN1, hlt]
                    clear hf hN0 hN1 hl hq1 hq2
                    have HC : Hid (∀ w9, Stil wr w9 → w9.cell? ⟨Gb, go + x * 5 + 2, none⟩ = some (.bool true) ∧ w9.cell? ⟨Gb, go + x * 5 + 4, none⟩ = some (.bool false) ∧ w9.cell? ⟨Gb, go + x * 5, none⟩ = some (.int .i64 (en : Int)) ∧ w9.cell? ⟨Gb, go + x * 5 + 1, none⟩ = some (.int .i64 (ep : Int)) ∧ w9.cell? ⟨Gb, go + q * 5, none⟩ = some (.int .i64 (qn : Int)) ∧ w9.cell? ⟨Gb, go + q * 5 + 1, none⟩ = some (.int .i64 (qp : Int))) := fun w9 h9 => ⟨h9.cell d2, h9.cell d4, h9.cell d0, h9.cell d1, h9.cell b0, h9.cell b1⟩
                    have HC0 := hidMk (HC.out _ (stilDrew wr))
                    clear d2 d4 d0 d1 b0 b1
                    refine wp_region_class (fun w' => w'.cell? ⟨Gb, go + x * 5 + 2, none⟩ = some (.bool true) ∧ w'.cell? ⟨Gb, go + x * 5 + 4, none⟩ = some (.bool false) ∧ w'.cell? ⟨Gb, go + x * 5, none⟩ = some (.int .i64 (en : Int)) ∧ w'.cell? ⟨Gb, go + x * 5 + 1, none⟩ = some (.int .i64 (ep : Int)) ∧ w'.cell? ⟨Gb, go + q * 5, none⟩ = some (.int .i64 (qn : Int)) ∧ w'.cell? ⟨Gb, go + q * 5 + 1, none⟩ = some (.int .i64 (qp : Int))) 30 (by kernel_rfl) ?_
                    refine wpAnyC_take (i := 0) (fuel := 29) (v := .slice (some ⟨Gb, go, none⟩) many gc) rfl (by kernel_rfl) (by kernel_rfl) (by kernel_rfl) (by kernel_rfl) (fun _ _ _ h => h) (.inl ⟨by kernel_rfl, fun w' hC => by obtain ⟨y1, y2, y3, y4, y5, y6⟩ := hC; go_simp⟩) HC0.out ?_
                    go_frame
                    refine wpAnyC_take (i := 1) (fuel := 28) (v := .int .i64 (x : Int)) rfl (by kernel_rfl) (by kernel_rfl) (by kernel_rfl) (by kernel_rfl) (fun _ _ _ h => h) (.inl ⟨by kernel_rfl, fun w' hC => by obtain ⟨y1, y2, y3, y4, y5, y6⟩ := hC; go_simp⟩) HC0.out ?_
                    go_frame
                    refine wpAnyC_take (i := 2) (fuel := 27) (v := .pointer (some ⟨Gb, go + x * 5, none⟩)) rfl (by kernel_rfl) (by kernel_rfl) (by kernel_rfl) (by kernel_rfl) (fun _ _ _ h => h) (.inl ⟨by kernel_rfl, fun w' hC => by obtain ⟨y1, y2, y3, y4, y5, y6⟩ := hC; go_simp⟩) HC0.out ?_
                    go_frame
                    refine wpAnyC_take (i := 3) (fuel := 26) (v := .pointer (some ⟨Gb, go + x * 5 + 2, none⟩)) rfl (by kernel_rfl) (by kernel_rfl) (by kernel_rfl) (by kernel_rfl) (fun _ _ _ h => h) (.inl ⟨by kernel_rfl, fun w' hC => by obtain ⟨y1, y2, y3, y4, y5, y6⟩ := hC; go_simp⟩) HC0.out ?_
                    go_frame
                    refine wpAnyC_take (i := 4) (fuel := 25) (v := .bool true) rfl (by kernel_rfl) (by kernel_rfl) (by kernel_rfl) (by kernel_rfl) (fun _ _ _ h => h) (.inl ⟨by kernel_rfl, fun w' hC => by obtain ⟨y1, y2, y3, y4, y5, y6⟩ := hC; go_simp⟩) HC0.out ?_
                    go_frame
                    refine wpAnyC_take (i := 5) (fuel := 24) (v := .bool true) rfl (by kernel_rfl) (by kernel_rfl) (by kernel_rfl) (by kernel_rfl) (fun _ _ _ h => h) (.inl ⟨by kernel_rfl, fun w' hC => by obtain ⟨y1, y2, y3, y4, y5, y6⟩ := hC; go_simp⟩) HC0.out ?_
                    go_frame
                    refine wpAnyC_take (i := 6) (fuel := 23) (v := .slice (some ⟨Gb, go, none⟩) many gc) rfl (by kernel_rfl) (by kernel_rfl) (by kernel_rfl) (by kernel_rfl) (fun _ _ _ h => h) (.inl ⟨by kernel_rfl, fun w' hC => by obtain ⟨y1, y2, y3, y4, y5, y6⟩ := hC; go_simp⟩) HC0.out ?_
                    go_frame
                    refine wpAnyC_take (i := 7) (fuel := 22) (v := .int .i64 (x : Int)) rfl (by kernel_rfl) (by kernel_rfl) (by kernel_rfl) (by kernel_rfl) (fun _ _ _ h => h) (.inl ⟨by kernel_rfl, fun w' hC => by obtain ⟨y1, y2, y3, y4, y5, y6⟩ := hC; go_simp⟩) HC0.out ?_
                    go_frame
                    refine wpAnyC_take (i := 8) (fuel := 21) (v := .pointer (some ⟨Gb, go + x * 5, none⟩)) rfl (by kernel_rfl) (by kernel_rfl) (by kernel_rfl) (by kernel_rfl) (fun _ _ _ h => h) (.inl ⟨by kernel_rfl, fun w' hC => by obtain ⟨y1, y2, y3, y4, y5, y6⟩ := hC; go_simp⟩) HC0.out ?_
                    go_frame
                    refine wpAnyC_take (i := 9) (fuel := 20) (v := .pointer (some ⟨Gb, go + x * 5 + 4, none⟩)) rfl (by kernel_rfl) (by kernel_rfl) (by kernel_rfl) (by kernel_rfl) (fun _ _ _ h => h) (.inl ⟨by kernel_rfl, fun w' hC => by obtain ⟨y1, y2, y3, y4, y5, y6⟩ := hC; go_simp⟩) HC0.out ?_
                    go_frame
                    refine wpAnyC_take (i := 10) (fuel := 19) (v := .bool false) rfl (by kernel_rfl) (by kernel_rfl) (by kernel_rfl) (by kernel_rfl) (fun _ _ _ h => h) (.inl ⟨by kernel_rfl, fun w' hC => by obtain ⟨y1, y2, y3, y4, y5, y6⟩ := hC; go_simp⟩) HC0.out ?_
                    go_frame
                    refine wpAnyC_take (i := 11) (fuel := 18) (v := .bool true) rfl (by kernel_rfl) (by kernel_rfl) (by kernel_rfl) (by kernel_rfl) (fun _ _ _ h => h) (.inl ⟨by kernel_rfl, fun w' hC => by obtain ⟨y1, y2, y3, y4, y5, y6⟩ := hC; go_simp⟩) HC0.out ?_
                    go_frame
                    refine wpAnyC_take (i := 12) (fuel := 17) (v := .bool true) rfl (by kernel_rfl) (by kernel_rfl) (by kernel_rfl) (by kernel_rfl) (fun _ _ _ h => h) (.inl ⟨by kernel_rfl, fun w' hC => by obtain ⟨y1, y2, y3, y4, y5, y6⟩ := hC; go_simp⟩) HC0.out ?_
                    go_frame
                    refine wpAnyC_take (i := 13) (fuel := 16) (v := .bool true) rfl (by kernel_rfl) (by kernel_rfl) (by kernel_rfl) (by kernel_rfl) (fun _ _ _ h => h) (.inl ⟨by kernel_rfl, fun w' hC => by obtain ⟨y1, y2, y3, y4, y5, y6⟩ := hC; go_simp⟩) HC0.out ?_
                    go_frame
                    refine wpAnyC_take (i := 14) (fuel := 15) (v := .int .i64 (q : Int)) rfl (by kernel_rfl) (by kernel_rfl) (by kernel_rfl) (by kernel_rfl) (fun _ _ _ h => h) (.inl ⟨by kernel_rfl, fun w' hC => by obtain ⟨y1, y2, y3, y4, y5, y6⟩ := hC; go_simp⟩) HC0.out ?_
                    go_frame
                    refine wpAnyC_take (i := 15) (fuel := 14) (v := .bool false) rfl (by kernel_rfl) (by kernel_rfl) (by kernel_rfl) (by kernel_rfl) (fun _ _ _ h => h) (.inl ⟨by kernel_rfl, fun w' hC => by obtain ⟨y1, y2, y3, y4, y5, y6⟩ := hC; go_simp⟩) HC0.out ?_
                    go_frame
                    refine wpAnyC_take (i := 16) (fuel := 13) (v := .bool false) rfl (by kernel_rfl) (by kernel_rfl) (by kernel_rfl) (by kernel_rfl) (fun _ _ _ h => h) (.inl ⟨by kernel_rfl, fun w' hC => by obtain ⟨y1, y2, y3, y4, y5, y6⟩ := hC; go_simp⟩) HC0.out ?_
                    go_frame
                    refine wpAnyC_take (i := 17) (fuel := 12) (v := .slice (some ⟨Gb, go, none⟩) many gc) rfl (by kernel_rfl) (by kernel_rfl) (by kernel_rfl) (by kernel_rfl) (fun _ _ _ h => h) (.inl ⟨by kernel_rfl, fun w' hC => by obtain ⟨y1, y2, y3, y4, y5, y6⟩ := hC; go_simp⟩) HC0.out ?_
                    go_frame
                    refine wpAnyC_take (i := 18) (fuel := 11) (v := .int .i64 (x : Int)) rfl (by kernel_rfl) (by kernel_rfl) (by kernel_rfl) (by kernel_rfl) (fun _ _ _ h => h) (.inl ⟨by kernel_rfl, fun w' hC => by obtain ⟨y1, y2, y3, y4, y5, y6⟩ := hC; go_simp⟩) HC0.out ?_
                    go_frame
                    refine wpAnyC_take (i := 19) (fuel := 10) (v := .pointer (some ⟨Gb, go + x * 5, none⟩)) rfl (by kernel_rfl) (by kernel_rfl) (by kernel_rfl) (by kernel_rfl) (fun _ _ _ h => h) (.inl ⟨by kernel_rfl, fun w' hC => by obtain ⟨y1, y2, y3, y4, y5, y6⟩ := hC; go_simp⟩) HC0.out ?_
                    go_frame
                    refine wpAnyC_take (i := 20) (fuel := 9) (v := .pointer (some ⟨Gb, go + x * 5, none⟩)) rfl (by kernel_rfl) (by kernel_rfl) (by kernel_rfl) (by kernel_rfl) (fun _ _ _ h => h) (.inl ⟨by kernel_rfl, fun w' hC => by obtain ⟨y1, y2, y3, y4, y5, y6⟩ := hC; go_simp⟩) HC0.out ?_
                    go_frame
                    refine wpAnyC_take (i := 21) (fuel := 8) (v := .agg #[.int .i64 (en : Int), .int .i64 (ep : Int)]) rfl (by kernel_rfl) (by kernel_rfl) (by kernel_rfl) (by kernel_rfl) (fun _ _ _ h => h) (.inl ⟨by kernel_rfl, fun w' hC => by obtain ⟨y1, y2, y3, y4, y5, y6⟩ := hC; go_simp⟩) HC0.out ?_
                    go_frame
                    refine wpAnyC_take (i := 22) (fuel := 7) (v := .slice (some ⟨Gb, go, none⟩) many gc) rfl (by kernel_rfl) (by kernel_rfl) (by kernel_rfl) (by kernel_rfl) (fun _ _ _ h => h) (.inl ⟨by kernel_rfl, fun w' hC => by obtain ⟨y1, y2, y3, y4, y5, y6⟩ := hC; go_simp⟩) HC0.out ?_
                    go_frame
                    refine wpAnyC_take (i := 23) (fuel := 6) (v := .int .i64 (q : Int)) rfl (by kernel_rfl) (by kernel_rfl) (by kernel_rfl) (by kernel_rfl) (fun _ _ _ h => h) (.inl ⟨by kernel_rfl, fun w' hC => by obtain ⟨y1, y2, y3, y4, y5, y6⟩ := hC; go_simp⟩) HC0.out ?_
                    go_frame
                    refine wpAnyC_take (i := 24) (fuel := 5) (v := .pointer (some ⟨Gb, go + q * 5, none⟩)) rfl (by kernel_rfl) (by kernel_rfl) (by kernel_rfl) (by kernel_rfl) (fun _ _ _ h => h) (.inl ⟨by kernel_rfl, fun w' hC => by obtain ⟨y1, y2, y3, y4, y5, y6⟩ := hC; go_simp⟩) HC0.out ?_
                    go_frame
                    refine wpAnyC_take (i := 25) (fuel := 4) (v := .pointer (some ⟨Gb, go + q * 5, none⟩)) rfl (by kernel_rfl) (by kernel_rfl) (by kernel_rfl) (by kernel_rfl) (fun _ _ _ h => h) (.inl ⟨by kernel_rfl, fun w' hC => by obtain ⟨y1, y2, y3, y4, y5, y6⟩ := hC; go_simp⟩) HC0.out ?_
                    go_frame
                    refine wpAnyC_take (i := 26) (fuel := 3) (v := .agg #[.int .i64 (qn : Int), .int .i64 (qp : Int)]) rfl (by kernel_rfl) (by kernel_rfl) (by kernel_rfl) (by kernel_rfl) (fun _ _ _ h => h) (.inl ⟨by kernel_rfl, fun w' hC => by obtain ⟨y1, y2, y3, y4, y5, y6⟩ := hC; go_simp⟩) HC0.out ?_
                    go_frame
                    refine wpAnyC_one_g 27 (fuel := 2) (by kernel_rfl) rfl (by kernel_rfl) (fun K4 hK4 => ?_)
                    go_wp2_with (go_at_call 10; refine (less_ref wr.drew en ep qn qp).mono ?_; rintro e9 w9 ⟨rfl, hk9⟩)
                    try rw [hlt]
                    refine ⟨fun _ => HC.out _ ((stilDrew wr).tr hk9), ?_⟩
                    refine wpAnyC_take (i := 28) (fuel := 1) (v := .bool true) rfl (by kernel_rfl) (by kernel_rfl) (by kernel_rfl) (by kernel_rfl) (fun _ _ _ h => h) (.inl ⟨by kernel_rfl, fun w' hC => by obtain ⟨y1, y2, y3, y4, y5, y6⟩ := hC; go_simp⟩) (HC.out _ ((stilDrew wr).tr hk9)) ?_
                    go_frame
                    refine wpAnyC_one 29 (fuel := 0) (by kernel_rfl) rfl rfl (fun K7 hK7 => ?_)
                    go_wp2
                    refine ⟨fun _ => (HC.out _ ((stilDrew wr).tr hk9)), ?_⟩
                    refine wpAnyC_done (by kernel_rfl) ?_
                    show Exit.then _ _ Exit.normal _ _
                    go_wp2_with fail
                    go_meet
                    case rel => exact ⟨by rw [HNb.out], (stilDrew wr).tr hk9⟩
                  | false =>
                    have HNb : Hid (newB (s1.ent w) x = false) := by show _ = _; rw [hN1, hlt]
                    clear hf hN0 hN1 hl hq1 hq2
                    have HC : Hid (∀ w9, Stil wr w9 → w9.cell? ⟨Gb, go + x * 5 + 2, none⟩ = some (.bool true) ∧ w9.cell? ⟨Gb, go + x * 5 + 4, none⟩ = some (.bool false) ∧ w9.cell? ⟨Gb, go + x * 5, none⟩ = some (.int .i64 (en : Int)) ∧ w9.cell? ⟨Gb, go + x * 5 + 1, none⟩ = some (.int .i64 (ep : Int)) ∧ w9.cell? ⟨Gb, go + q * 5, none⟩ = some (.int .i64 (qn : Int)) ∧ w9.cell? ⟨Gb, go + q * 5 + 1, none⟩ = some (.int .i64 (qp : Int))) := fun w9 h9 => ⟨h9.cell d2, h9.cell d4, h9.cell d0, h9.cell d1, h9.cell b0, h9.cell b1⟩
                    have HC0 := hidMk (HC.out _ (stilDrew wr))
                    clear d2 d4 d0 d1 b0 b1
                    refine wp_region_class (fun w' => w'.cell? ⟨Gb, go + x * 5 + 2, none⟩ = some (.bool true) ∧ w'.cell? ⟨Gb, go + x * 5 + 4, none⟩ = some (.bool false) ∧ w'.cell? ⟨Gb, go + x * 5, none⟩ = some (.int .i64 (en : Int)) ∧ w'.cell? ⟨Gb, go + x * 5 + 1, none⟩ = some (.int .i64 (ep : Int)) ∧ w'.cell? ⟨Gb, go + q * 5, none⟩ = some (.int .i64 (qn : Int)) ∧ w'.cell? ⟨Gb, go + q * 5 + 1, none⟩ = some (.int .i64 (qp : Int))) 30 (by kernel_rfl) ?_
                    refine wpAnyC_take (i := 0) (fuel := 29) (v := .slice (some ⟨Gb, go, none⟩) many gc) rfl (by kernel_rfl) (by kernel_rfl) (by kernel_rfl) (by kernel_rfl) (fun _ _ _ h => h) (.inl ⟨by kernel_rfl, fun w' hC => by obtain ⟨y1, y2, y3, y4, y5, y6⟩ := hC; go_simp⟩) HC0.out ?_
                    go_frame
                    refine wpAnyC_take (i := 1) (fuel := 28) (v := .int .i64 (x : Int)) rfl (by kernel_rfl) (by kernel_rfl) (by kernel_rfl) (by kernel_rfl) (fun _ _ _ h => h) (.inl ⟨by kernel_rfl, fun w' hC => by obtain ⟨y1, y2, y3, y4, y5, y6⟩ := hC; go_simp⟩) HC0.out ?_
                    go_frame
                    refine wpAnyC_take (i := 2) (fuel := 27) (v := .pointer (some ⟨Gb, go + x * 5, none⟩)) rfl (by kernel_rfl) (by kernel_rfl) (by kernel_rfl) (by kernel_rfl) (fun _ _ _ h => h) (.inl ⟨by kernel_rfl, fun w' hC => by obtain ⟨y1, y2, y3, y4, y5, y6⟩ := hC; go_simp⟩) HC0.out ?_
                    go_frame
                    refine wpAnyC_take (i := 3) (fuel := 26) (v := .pointer (some ⟨Gb, go + x * 5 + 2, none⟩)) rfl (by kernel_rfl) (by kernel_rfl) (by kernel_rfl) (by kernel_rfl) (fun _ _ _ h => h) (.inl ⟨by kernel_rfl, fun w' hC => by obtain ⟨y1, y2, y3, y4, y5, y6⟩ := hC; go_simp⟩) HC0.out ?_
                    go_frame
                    refine wpAnyC_take (i := 4) (fuel := 25) (v := .bool true) rfl (by kernel_rfl) (by kernel_rfl) (by kernel_rfl) (by kernel_rfl) (fun _ _ _ h => h) (.inl ⟨by kernel_rfl, fun w' hC => by obtain ⟨y1, y2, y3, y4, y5, y6⟩ := hC; go_simp⟩) HC0.out ?_
                    go_frame
                    refine wpAnyC_take (i := 5) (fuel := 24) (v := .bool true) rfl (by kernel_rfl) (by kernel_rfl) (by kernel_rfl) (by kernel_rfl) (fun _ _ _ h => h) (.inl ⟨by kernel_rfl, fun w' hC => by obtain ⟨y1, y2, y3, y4, y5, y6⟩ := hC; go_simp⟩) HC0.out ?_
                    go_frame
                    refine wpAnyC_take (i := 6) (fuel := 23) (v := .slice (some ⟨Gb, go, none⟩) many gc) rfl (by kernel_rfl) (by kernel_rfl) (by kernel_rfl) (by kernel_rfl) (fun _ _ _ h => h) (.inl ⟨by kernel_rfl, fun w' hC => by obtain ⟨y1, y2, y3, y4, y5, y6⟩ := hC; go_simp⟩) HC0.out ?_
                    go_frame
                    refine wpAnyC_take (i := 7) (fuel := 22) (v := .int .i64 (x : Int)) rfl (by kernel_rfl) (by kernel_rfl) (by kernel_rfl) (by kernel_rfl) (fun _ _ _ h => h) (.inl ⟨by kernel_rfl, fun w' hC => by obtain ⟨y1, y2, y3, y4, y5, y6⟩ := hC; go_simp⟩) HC0.out ?_
                    go_frame
                    refine wpAnyC_take (i := 8) (fuel := 21) (v := .pointer (some ⟨Gb, go + x * 5, none⟩)) rfl (by kernel_rfl) (by kernel_rfl) (by kernel_rfl) (by kernel_rfl) (fun _ _ _ h => h) (.inl ⟨by kernel_rfl, fun w' hC => by obtain ⟨y1, y2, y3, y4, y5, y6⟩ := hC; go_simp⟩) HC0.out ?_
                    go_frame
                    refine wpAnyC_take (i := 9) (fuel := 20) (v := .pointer (some ⟨Gb, go + x * 5 + 4, none⟩)) rfl (by kernel_rfl) (by kernel_rfl) (by kernel_rfl) (by kernel_rfl) (fun _ _ _ h => h) (.inl ⟨by kernel_rfl, fun w' hC => by obtain ⟨y1, y2, y3, y4, y5, y6⟩ := hC; go_simp⟩) HC0.out ?_
                    go_frame
                    refine wpAnyC_take (i := 10) (fuel := 19) (v := .bool false) rfl (by kernel_rfl) (by kernel_rfl) (by kernel_rfl) (by kernel_rfl) (fun _ _ _ h => h) (.inl ⟨by kernel_rfl, fun w' hC => by obtain ⟨y1, y2, y3, y4, y5, y6⟩ := hC; go_simp⟩) HC0.out ?_
                    go_frame
                    refine wpAnyC_take (i := 11) (fuel := 18) (v := .bool true) rfl (by kernel_rfl) (by kernel_rfl) (by kernel_rfl) (by kernel_rfl) (fun _ _ _ h => h) (.inl ⟨by kernel_rfl, fun w' hC => by obtain ⟨y1, y2, y3, y4, y5, y6⟩ := hC; go_simp⟩) HC0.out ?_
                    go_frame
                    refine wpAnyC_take (i := 12) (fuel := 17) (v := .bool true) rfl (by kernel_rfl) (by kernel_rfl) (by kernel_rfl) (by kernel_rfl) (fun _ _ _ h => h) (.inl ⟨by kernel_rfl, fun w' hC => by obtain ⟨y1, y2, y3, y4, y5, y6⟩ := hC; go_simp⟩) HC0.out ?_
                    go_frame
                    refine wpAnyC_take (i := 13) (fuel := 16) (v := .bool true) rfl (by kernel_rfl) (by kernel_rfl) (by kernel_rfl) (by kernel_rfl) (fun _ _ _ h => h) (.inl ⟨by kernel_rfl, fun w' hC => by obtain ⟨y1, y2, y3, y4, y5, y6⟩ := hC; go_simp⟩) HC0.out ?_
                    go_frame
                    refine wpAnyC_take (i := 14) (fuel := 15) (v := .int .i64 (q : Int)) rfl (by kernel_rfl) (by kernel_rfl) (by kernel_rfl) (by kernel_rfl) (fun _ _ _ h => h) (.inl ⟨by kernel_rfl, fun w' hC => by obtain ⟨y1, y2, y3, y4, y5, y6⟩ := hC; go_simp⟩) HC0.out ?_
                    go_frame
                    refine wpAnyC_take (i := 15) (fuel := 14) (v := .bool false) rfl (by kernel_rfl) (by kernel_rfl) (by kernel_rfl) (by kernel_rfl) (fun _ _ _ h => h) (.inl ⟨by kernel_rfl, fun w' hC => by obtain ⟨y1, y2, y3, y4, y5, y6⟩ := hC; go_simp⟩) HC0.out ?_
                    go_frame
                    refine wpAnyC_take (i := 16) (fuel := 13) (v := .bool false) rfl (by kernel_rfl) (by kernel_rfl) (by kernel_rfl) (by kernel_rfl) (fun _ _ _ h => h) (.inl ⟨by kernel_rfl, fun w' hC => by obtain ⟨y1, y2, y3, y4, y5, y6⟩ := hC; go_simp⟩) HC0.out ?_
                    go_frame
                    refine wpAnyC_take (i := 17) (fuel := 12) (v := .slice (some ⟨Gb, go, none⟩) many gc) rfl (by kernel_rfl) (by kernel_rfl) (by kernel_rfl) (by kernel_rfl) (fun _ _ _ h => h) (.inl ⟨by kernel_rfl, fun w' hC => by obtain ⟨y1, y2, y3, y4, y5, y6⟩ := hC; go_simp⟩) HC0.out ?_
                    go_frame
                    refine wpAnyC_take (i := 18) (fuel := 11) (v := .int .i64 (x : Int)) rfl (by kernel_rfl) (by kernel_rfl) (by kernel_rfl) (by kernel_rfl) (fun _ _ _ h => h) (.inl ⟨by kernel_rfl, fun w' hC => by obtain ⟨y1, y2, y3, y4, y5, y6⟩ := hC; go_simp⟩) HC0.out ?_
                    go_frame
                    refine wpAnyC_take (i := 19) (fuel := 10) (v := .pointer (some ⟨Gb, go + x * 5, none⟩)) rfl (by kernel_rfl) (by kernel_rfl) (by kernel_rfl) (by kernel_rfl) (fun _ _ _ h => h) (.inl ⟨by kernel_rfl, fun w' hC => by obtain ⟨y1, y2, y3, y4, y5, y6⟩ := hC; go_simp⟩) HC0.out ?_
                    go_frame
                    refine wpAnyC_take (i := 20) (fuel := 9) (v := .pointer (some ⟨Gb, go + x * 5, none⟩)) rfl (by kernel_rfl) (by kernel_rfl) (by kernel_rfl) (by kernel_rfl) (fun _ _ _ h => h) (.inl ⟨by kernel_rfl, fun w' hC => by obtain ⟨y1, y2, y3, y4, y5, y6⟩ := hC; go_simp⟩) HC0.out ?_
                    go_frame
                    refine wpAnyC_take (i := 21) (fuel := 8) (v := .agg #[.int .i64 (en : Int), .int .i64 (ep : Int)]) rfl (by kernel_rfl) (by kernel_rfl) (by kernel_rfl) (by kernel_rfl) (fun _ _ _ h => h) (.inl ⟨by kernel_rfl, fun w' hC => by obtain ⟨y1, y2, y3, y4, y5, y6⟩ := hC; go_simp⟩) HC0.out ?_
                    go_frame
                    refine wpAnyC_take (i := 22) (fuel := 7) (v := .slice (some ⟨Gb, go, none⟩) many gc) rfl (by kernel_rfl) (by kernel_rfl) (by kernel_rfl) (by kernel_rfl) (fun _ _ _ h => h) (.inl ⟨by kernel_rfl, fun w' hC => by obtain ⟨y1, y2, y3, y4, y5, y6⟩ := hC; go_simp⟩) HC0.out ?_
                    go_frame
                    refine wpAnyC_take (i := 23) (fuel := 6) (v := .int .i64 (q : Int)) rfl (by kernel_rfl) (by kernel_rfl) (by kernel_rfl) (by kernel_rfl) (fun _ _ _ h => h) (.inl ⟨by kernel_rfl, fun w' hC => by obtain ⟨y1, y2, y3, y4, y5, y6⟩ := hC; go_simp⟩) HC0.out ?_
                    go_frame
                    refine wpAnyC_take (i := 24) (fuel := 5) (v := .pointer (some ⟨Gb, go + q * 5, none⟩)) rfl (by kernel_rfl) (by kernel_rfl) (by kernel_rfl) (by kernel_rfl) (fun _ _ _ h => h) (.inl ⟨by kernel_rfl, fun w' hC => by obtain ⟨y1, y2, y3, y4, y5, y6⟩ := hC; go_simp⟩) HC0.out ?_
                    go_frame
                    refine wpAnyC_take (i := 25) (fuel := 4) (v := .pointer (some ⟨Gb, go + q * 5, none⟩)) rfl (by kernel_rfl) (by kernel_rfl) (by kernel_rfl) (by kernel_rfl) (fun _ _ _ h => h) (.inl ⟨by kernel_rfl, fun w' hC => by obtain ⟨y1, y2, y3, y4, y5, y6⟩ := hC; go_simp⟩) HC0.out ?_
                    go_frame
                    refine wpAnyC_take (i := 26) (fuel := 3) (v := .agg #[.int .i64 (qn : Int), .int .i64 (qp : Int)]) rfl (by kernel_rfl) (by kernel_rfl) (by kernel_rfl) (by kernel_rfl) (fun _ _ _ h => h) (.inl ⟨by kernel_rfl, fun w' hC => by obtain ⟨y1, y2, y3, y4, y5, y6⟩ := hC; go_simp⟩) HC0.out ?_
                    go_frame
                    refine wpAnyC_one_g 27 (fuel := 2) (by kernel_rfl) rfl (by kernel_rfl) (fun K4 hK4 => ?_)
                    go_wp2_with (go_at_call 10; refine (less_ref wr.drew en ep qn qp).mono ?_; rintro e9 w9 ⟨rfl, hk9⟩)
                    try rw [hlt]
                    refine ⟨fun _ => HC.out _ ((stilDrew wr).tr hk9), ?_⟩
                    refine wpAnyC_take (i := 28) (fuel := 1) (v := .bool false) rfl (by kernel_rfl) (by kernel_rfl) (by kernel_rfl) (by kernel_rfl) (fun _ _ _ h => h) (.inl ⟨by kernel_rfl, fun w' hC => by obtain ⟨y1, y2, y3, y4, y5, y6⟩ := hC; go_simp⟩) (HC.out _ ((stilDrew wr).tr hk9)) ?_
                    go_frame
                    refine wpAnyC_one 29 (fuel := 0) (by kernel_rfl) rfl rfl (fun K7 hK7 => ?_)
                    go_wp2
                    refine ⟨fun _ => (HC.out _ ((stilDrew wr).tr hk9)), ?_⟩
                    refine wpAnyC_done (by kernel_rfl) ?_
                    show Exit.then _ _ Exit.normal _ _
                    go_wp2_with fail
                    go_meet
                    case rel => exact ⟨by rw [HNb.out], (stilDrew wr).tr hk9⟩
          case rest =>
          obtain ⟨rfl, hk8⟩ := hcut
          have HK8 := hidMk (Stil.tr HKl.out hk8)
          clear hk8 hbi
          cases hnb : newB (s1.ent w) x with
          | true =>
            rw [hnb, if_pos rfl] at HBn
            clear hnb
            go_wp2
            go_roundw
            case rel => exact ⟨x + 1, by omega, by go_num, by rw [HBn.out], HK8⟩
            case measure => simp [intOf]; omega
          | false =>
            rw [hnb, if_neg (by simp)] at HBn
            clear hnb
            go_wp2
            go_roundw
            case rel => exact ⟨x + 1, by omega, by go_num, by rw [HBn.out], HK8⟩
            case measure => simp [intOf]; omega
        · have hxm : many = x := by omega
          subst hxm
          clear hx hlx
          have hbl : leastTo (s1.ent w) many = leastTo (s1.ent w) s1.sent := least_up (ent_far HI1.out w) many (by rw [HZ1.out]; exact hs)
          cases hl : leastTo (s1.ent w) s1.sent with
          | none =>
            rw [best_none (hbl.trans hl)]
            have HX : Hid (hearN s w s.sent = s1) := (HF.out.symm.trans HE1.out).trans (hearN_stop _ (.inl hl))
            have HMx := hidMk (HM1.out.still HKl.out)
            have HSx := hidMk (HS1.out.trans (ZStp.of_still _ _ HKl.out))
            clear hbl hl
            go_wp2
            go_ret
            first | exact ⟨u1, t1, rfl, by rw [HX.out]; exact HMx.out, HSx.out⟩ | exact ⟨u1, rfl, t1, by rw [HX.out]; exact HMx.out, HSx.out⟩
          | some qe =>
            obtain ⟨q, ⟨qn, qp, qt, qh⟩⟩ := qe
            obtain ⟨hq1, hq2, hq3⟩ := least_in hl
            have hq1 : q < s1.sent := hq1
            have hq2 : s1.ent w q = some ⟨qn, qp, qt, qh⟩ := hq2
            have hq3 : qh = false := hq3
            subst hq3
            have hqm : q < many := by have := HZ1.out; omega
            have hqm' : (q : Int) < (many : Int) := by omega
            obtain ⟨_, _, _, b3, b4, b5⟩ := (HM1.out.still HKl.out).gotO HW.out hqm HG.out
            rw [hq2] at b3 b4
            replace b3 : wr.cell? ⟨Gb, go + q * 5 + 3, none⟩ = some (.bool qt) := b3
            replace b4 : wr.cell? ⟨Gb, go + q * 5 + 4, none⟩ = some (.bool false) := b4
            rw [best_some (hbl.trans hl)]
            have qneg : decide ((q : Int) < 0) = false := decide_eq_false (by omega)
            have HMx := hidMk (HM1.out.still HKl.out)
            have HSx := hidMk (HS1.out.trans (ZStp.of_still _ _ HKl.out))
            cases qt with
            | false =>
              have HX : Hid (hearN s w s.sent = s1) := (HF.out.symm.trans HE1.out).trans (hearN_stop _ (.inr ⟨q, _, hl, rfl⟩))
              clear hbl hl hq1 hq2
              go_wp2
              go_ret
              first | exact ⟨u1, t1, rfl, by rw [HX.out]; exact HMx.out, HSx.out⟩ | exact ⟨u1, rfl, t1, by rw [HX.out]; exact HMx.out, HSx.out⟩
            | true =>
              obtain ⟨M2, S2⟩ := HMx.out.setGot HW.out hqm (f := 4) (by omega) ⟨qn, qp, true, true⟩ (.bool true) rfl (fun f2 h1 h2 => by
                rw [hq2]
                match f2, h1, h2 with
                | 0, _, _ => rfl
                | 1, _, _ => rfl
                | 2, _, _ => rfl
                | 3, _, _ => rfl
                | 4, _, h2 => exact absurd rfl h2
                | n + 5, h1, _ => omega)
              rw [goAt HG.out] at M2 S2
              have HX : Hid (hearN s w many = hearN (hear1 s1 w q ⟨qn, qp, true, false⟩) w (many - (k + 1))) := by
                show _ = _
                rw [HE1.out, show many - k = (many - (k + 1)) + 1 by omega, hearN_go _ hl rfl]
              have HIx := hidMk (inv_hear HI1.out (by omega) hl rfl)
              have hll : (s1.ls w).length ≤ 120 := by have := ls_len HI1.out w; have := HZ1.out; omega
              obtain ⟨va, vc, ev⟩ := segForm (HM1.out.li HW.out)
              have ev : u1 = .slice va (s1.ls w).length vc := (upd1_same h.lv w u1).symm.trans ev
              subst ev
              have HM2 := hidMk M2
              have HS2 := hidMk (HSx.out.trans S2)
              have s5 := M2.li HW.out
              simp only [upd1_same] at s5
              have HGs := hidMk s5
              clear M2 S2 hbl hl hq1 hq2 s5 HE1 HI1 HMx HSx HM1 HS1
              generalize hln : (s1.ls w).length = ln at *
              have HLn := hidMk hln
              clear hln
              go_upto_region 13 with fail
              generalize wr.setCell ⟨Gb, go + q * 5 + 4, none⟩ (.bool true) = w3 at *
              clear b3 b4 b5
              go_wp2_with (at_builtin; refine wpList_append_seg _ rfl _ _ 34 rfl 3 i0 (.int .i64 0) 1 8 Try.underlying34 hit hz0 hz1 hz2 rfl (by decide) (.slice va ln vc) ln (natsL (s1.ls w)) rfl (segAlloc HGs.out _) ⟨w3.heap.size, 0, none⟩ 1 1 [.int .i64 (q : Int)] rfl rfl (cCell1 w3 (.int .i64 (q : Int)) 3 _ rfl) (cOne _) (by unfold maxLen; omega) (by omega) ?_)
              intro v4 w4 hs4 hg4
              obtain ⟨t4, M4, S4⟩ := HM2.out.pushL (x := q) HW.out (wa := w3.alloc (.cells #[.int .i64 (q : Int)] 3)) (Stil.new w3 _) (by simp only [upd1_same]; rw [HLn.out]; exact hs4.mono (fun g _ e => by simpa using e)) (by simp only [upd1_same]; exact hg4)
              have HM4 : Hid (Zmv w4 ob n many Nb Gb Lb (hear1 s1 w q ⟨qn, qp, true, false⟩) cds ⟨h.cdv, upd1 h.lv w v4, h.ov, t4⟩) := by
                have M5 := M4
                simp only [upd1_upd] at M5
                exact M5
              have HS4 : Hid (ZStp ob W h w4 ⟨h.cdv, upd1 h.lv w v4, h.ov, t4⟩) := by
                have S5 := HS2.out.trans S4
                simp only [upd1_upd] at S5
                exact S5
              clear hs4 hg4 M4 S4 HM2 HS2 HGs
              go_wp2
              go_roundw
              case rel => exact ⟨k + 1, _, t4, by omega, by go_num, HM4, HS4, HX, HIx, HZ1⟩
              case measure => simp [intOf]; omega
    · have hkm : many = k := by omega
      subst hkm
      have HX : Hid (hearN s w s.sent = s1) := (HF.out.symm.trans HE1.out).trans (by rw [Nat.sub_self]; rfl)
      go_wp2
      go_ret
      exact ⟨u1, t1, rfl, by rw [HX.out]; exact HM1.out, HS1.out⟩
end Go.Proofs.Ytipoopbkapgfiaa
