/- The document's Snap: a step at its place; a code laid. -/
import Derived.Test.YthadhhconkjpmaaX12
import Derived.Test.YthadhhconkjpmaaV1
namespace Go.Proofs.Ythadhhconkjpmaa
open Go.RowKit Go.WideMaps
set_option linter.unusedVariables false

theorem note_sent (r : Rf) (i a b : Nat) : ((noteR r i).lines a b).sent.length ≤ (r.lines a b).sent.length + 1 := by
  unfold noteR
  split
  · omega
  · show (noteLn i a b (r.lines a b)).sent.length ≤ _
    unfold noteLn
    simp only
    split
    · simp
    · omega
theorem come_sent (r : Rf) (o w a b : Nat) : ((comeR r o w).lines a b).sent = (r.lines a b).sent := by
  show (upd2 r.lines o w _ a b).sent = _
  by_cases e : a = o ∧ b = w
  · obtain ⟨rfl, rfl⟩ := e
    rw [upd2_same]
  · rw [upd2_other _ _ e]
theorem step_sent (n : Nat) (r : Rf) (p : Pass) (a b : Nat) : ((stepR n r p).lines a b).sent.length ≤ (r.lines a b).sent.length + 1 := by
  unfold stepR
  split
  · split
    · exact note_sent r _ a b
    · split
      · show (upd2 r.lines _ _ _ a b).sent.length ≤ _
        by_cases e : a = p.who.toNat ∧ b = p.other.toNat
        · obtain ⟨rfl, rfl⟩ := e
          rw [upd2_same]
          simp
        · rw [upd2_other _ _ e]
          omega
      · unfold takeR
        split
        · split
          · have h := note_sent (comeR r p.other.toNat p.who.toNat) p.who.toNat a b
            rw [come_sent] at h
            exact h
          · show ((comeR r p.other.toNat p.who.toNat).lines a b).sent.length ≤ _
            rw [come_sent]
            omega
        · omega
  · omega
theorem at_sent (n : Nat) (m : Nat → Int) (ps : List Pass) (a b : Nat) : ∀ k, ((rfAt n (rf0 m) ps k).lines a b).sent.length ≤ k
  | 0 => Nat.le_refl _
  | k + 1 => by
    have ih := at_sent n m ps a b k
    show ((match ps[k]? with | some p => stepR n (rfAt n (rf0 m) ps k) p | none => rfAt n (rf0 m) ps k).lines a b).sent.length ≤ _
    cases ps[k]? with
    | none => simp only; omega
    | some p => have := step_sent n (rfAt n (rf0 m) ps k) p a b; simp only; omega
variable {W : World} {ob lb n : Nat} {h : RSh}
theorem rpass_at {zs : List Int} {ps : List Pass} (hzs : ∀ z ∈ zs, 0 ≤ z ∧ z ≤ 1000) (h6 : n ≤ 6) {q : Nat} (hq : q ≤ 120) (p : Pass) (m : RMov W ob lb n (rfAt n (rf0 (monF zs)) ps q) h) :
    Calls Try.prog 13 #[.agg #[.int .i64 p.kind, .int .i64 p.who, .int .i64 p.other, .int .i64 p.n], .int .i64 (n : Int), .pointer (some ⟨ob, 0, none⟩), .slice (some ⟨lb, 0, none⟩) (n * n) (n * n)] W fun e W2 => e = .returned (.int .i64 (codeR n (rfAt n (rf0 (monF zs)) ps q) p)) ∧ ∃ h2, RMov W2 ob lb n (stepR n (rfAt n (rf0 (monF zs)) ps q) p) h2 ∧ RStep W h W2 h2 := by
  have hm : ∀ i, i < n → 0 ≤ monF zs i := fun i _ => (mon_ok hzs i).1
  obtain ⟨h1, h2, _⟩ := at_inv (inv0 (n := n) hm) ps q
  have hb := sumN_bound (f := monF zs) (c := 1000) (n := n) (fun i _ => (mon_ok hzs i).2)
  refine rpass_any m h1 (sim_at hm ps q) h6 ?_ (fun a b _ _ => by have := at_sent n (monF zs) ps a b q; omega) p
  rw [h2, tot0]
  omega
theorem RMov.setCv {r : Rf} (m : RMov W ob lb n r h) (v : Value) : RMov (W.setCell ⟨ob, 0, none⟩ v) ob lb n r ⟨v, h.mv, h.ov, h.bv, h.dv, h.t, h.f⟩ := by
  have hk : Keep (fun g => g = ob) W (W.setCell ⟨ob, 0, none⟩ v) := (Keep.refl _ W).setCell ob _ _ (fun _ => rfl)
  have hlb := (Array.getElem?_eq_some_iff.1 m.lin).1
  have no : ∀ {x : Tag} g, h.t g = x → x ≠ .mb → ¬ g = ob := fun {x} g e hx e2 => by subst e2; rw [m.tob] at e; exact hx e.symm
  refine ⟨fun g hg => m.fresh g (Nat.le_trans hk.size hg), m.tob, ?_, m.mon.keep hk (fun g _ e => no g e (by simp)), m.own.keep hk (fun g _ e => no g e (by simp)), m.tl, (hk.block lb hlb (no lb m.tl (by simp))).trans m.lin, fun i j hi hj => (m.st i j hi hj).keep hk (fun g _ e => no g e (by simp))⟩
  rw [heap_setCell_same W ob _ _ _ _ m.blk]
  rfl
end Go.Proofs.Ythadhhconkjpmaa
