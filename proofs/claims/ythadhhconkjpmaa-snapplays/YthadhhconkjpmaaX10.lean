/- folkmootref.pass: any step. -/
import Derived.Test.YthadhhconkjpmaaX7
import Derived.Test.YthadhhconkjpmaaX6
import Derived.Test.YthadhhconkjpmaaU2
namespace Go.Proofs.Ythadhhconkjpmaa
open Go.RowKit Go.WideMaps
set_option linter.unusedVariables false

variable {W W2 : World} {ob lb n : Nat} {r : Rf} {h h2 : RSh}
theorem inP_natS {n : Nat} {z : Int} (h : inP n z = true) : z = (z.toNat : Int) ∧ z.toNat < n := by
  unfold inP at h
  simp at h
  omega
theorem rpass_any {s : St} (m : RMov W ob lb n r h) (hi : Inv n s) (hs : Sim n s r) (hn : n ≤ 6) (ht : tot n s ≤ 1000000) (hlen : ∀ a b, a < n → b < n → (r.lines a b).sent.length ≤ 900) (p : Pass) :
    Calls Try.prog 13 #[.agg #[.int .i64 p.kind, .int .i64 p.who, .int .i64 p.other, .int .i64 p.n], .int .i64 (n : Int), .pointer (some ⟨ob, 0, none⟩), .slice (some ⟨lb, 0, none⟩) (n * n) (n * n)] W fun e W2 => e = .returned (.int .i64 (codeR n r p)) ∧ ∃ h2, RMov W2 ob lb n (stepR n r p) h2 ∧ RStep W h W2 h2 := by
  obtain ⟨kd, wh, ot, x⟩ := p
  simp only
  have ref : ∀ c : Int, codeR n r ⟨kd, wh, ot, x⟩ = c → c ≠ 0 → Calls Try.prog 13 #[.agg #[.int .i64 kd, .int .i64 wh, .int .i64 ot, .int .i64 x], .int .i64 (n : Int), .pointer (some ⟨ob, 0, none⟩), .slice (some ⟨lb, 0, none⟩) (n * n) (n * n)] W (fun e W2 => e = .returned (.int .i64 c) ∧ Keep (fun _ => False) W W2) →
      Calls Try.prog 13 #[.agg #[.int .i64 kd, .int .i64 wh, .int .i64 ot, .int .i64 x], .int .i64 (n : Int), .pointer (some ⟨ob, 0, none⟩), .slice (some ⟨lb, 0, none⟩) (n * n) (n * n)] W fun e W2 => e = .returned (.int .i64 (codeR n r ⟨kd, wh, ot, x⟩)) ∧ ∃ h2, RMov W2 ob lb n (stepR n r ⟨kd, wh, ot, x⟩) h2 ∧ RStep W h W2 h2 := fun c hc h0 hcall => by
    refine hcall.mono ?_
    rintro e W2 ⟨rfl, hk⟩
    have e1 : stepR n r ⟨kd, wh, ot, x⟩ = r := by unfold stepR; rw [if_neg (by rw [hc]; exact h0)]
    rw [hc, e1]
    exact ⟨rfl, h, m.keep hk (fun _ _ e => e.elim), ⟨hk.mono (fun _ _ e => e.elim), fun _ _ => rfl, rfl, rfl, rfl⟩⟩
  have don : ∀ r2 : Rf, codeR n r ⟨kd, wh, ot, x⟩ = 0 → stepR n r ⟨kd, wh, ot, x⟩ = r2 → Calls Try.prog 13 #[.agg #[.int .i64 kd, .int .i64 wh, .int .i64 ot, .int .i64 x], .int .i64 (n : Int), .pointer (some ⟨ob, 0, none⟩), .slice (some ⟨lb, 0, none⟩) (n * n) (n * n)] W (fun e W2 => e = .returned (.int .i64 0) ∧ ∃ h2, RMov W2 ob lb n r2 h2 ∧ RStep W h W2 h2) →
      Calls Try.prog 13 #[.agg #[.int .i64 kd, .int .i64 wh, .int .i64 ot, .int .i64 x], .int .i64 (n : Int), .pointer (some ⟨ob, 0, none⟩), .slice (some ⟨lb, 0, none⟩) (n * n) (n * n)] W fun e W2 => e = .returned (.int .i64 (codeR n r ⟨kd, wh, ot, x⟩)) ∧ ∃ h2, RMov W2 ob lb n (stepR n r ⟨kd, wh, ot, x⟩) h2 ∧ RStep W h W2 h2 := fun r2 hc h0 hcall => by
    rw [hc, h0]
    exact hcall
  by_cases hk : kd ≠ 1 ∧ kd ≠ 2 ∧ kd ≠ 3
  · exact ref 4 (by unfold codeR; rw [if_pos hk]) (by decide) (rpass_kind kd wh ot x _ _ hk.1 hk.2.1 hk.2.2)
  have hk3 : kd = 1 ∨ kd = 2 ∨ kd = 3 := by omega
  by_cases hw : inP n wh = false
  · exact ref 2 (by unfold codeR; rw [if_neg hk, if_pos hw]) (by decide) (rpass_who kd wh ot x _ _ hk3 hw)
  obtain ⟨ew, hwn⟩ := inP_natS (by simpa using hw : inP n wh = true)
  by_cases k3 : kd = 3
  · subst k3
    by_cases ho : 0 ≤ r.own wh.toNat
    · refine ref 6 (by unfold codeR; rw [if_neg hk, if_neg hw, if_pos rfl, if_pos ho]) (by decide) ?_
      rw [ew]
      exact rpass_held m ot x hwn _ ho
    · have hc : codeR n r ⟨3, wh, ot, x⟩ = 0 := by unfold codeR; rw [if_neg hk, if_neg hw, if_pos rfl, if_neg ho]
      refine don (noteR r wh.toNat) hc (by unfold stepR; rw [if_pos hc, if_pos rfl]) ?_
      have := rpass_begin m ot x hwn hn hlen (by omega)
      rw [← ew] at this
      exact this
  by_cases ho : inP n ot = false ∨ ot = wh
  · refine ref 2 (by unfold codeR; rw [if_neg hk, if_neg hw, if_neg k3, if_pos ho]) (by decide) ?_
    have := rpass_other (W := W) (n := n) kd ot x hwn (.pointer (some ⟨ob, 0, none⟩)) (.slice (some ⟨lb, 0, none⟩) (n * n) (n * n)) (by omega) (by rw [← ew]; exact ho)
    rw [← ew] at this
    exact this
  obtain ⟨eo, hon⟩ := inP_natS (n := n) (z := ot) (by
    cases hh : inP n ot with
    | true => rfl
    | false => exact absurd (.inl hh) ho)
  have hne : ot.toNat ≠ wh.toNat := fun e => ho (.inr (by omega))
  by_cases k1 : kd = 1
  · subst k1
    by_cases hp : x < 1 ∨ r.money wh.toNat < x
    · refine ref 2 (by unfold codeR; rw [if_neg hk, if_neg hw, if_neg k3, if_neg ho, if_pos rfl, if_pos hp]) (by decide) ?_
      have := rpass_poor m x hwn hon hne (.slice (some ⟨lb, 0, none⟩) (n * n) (n * n)) hp
      rw [← ew, ← eo] at this
      exact this
    · have hc : codeR n r ⟨1, wh, ot, x⟩ = 0 := by unfold codeR; rw [if_neg hk, if_neg hw, if_neg k3, if_neg ho, if_pos rfl, if_neg hp]
      refine don (sendR r wh.toNat ot.toNat x) hc (by unfold stepR; rw [if_pos hc, if_neg (show ¬ (1 : Int) = 3 by decide), if_pos rfl]) ?_
      have hm := money_le hi hwn
      have hm2 := hs.money wh.toNat hwn
      have := rpass_send m x hwn hon hne hn hlen (by omega) (by omega) ⟨by omega, by omega⟩
      rw [← ew, ← eo] at this
      exact this
  · have k2 : kd = 2 := by omega
    subst k2
    by_cases hz : (r.lines ot.toNat wh.toNat).come = (r.lines ot.toNat wh.toNat).sent.length
    · refine ref 5 (by unfold codeR; rw [if_neg hk, if_neg hw, if_neg k3, if_neg ho, if_neg k1, if_pos hz]) (by decide) ?_
      have := rpass_none m x hwn hon hne hn hz
      rw [← ew, ← eo] at this
      exact this
    · have hc : codeR n r ⟨2, wh, ot, x⟩ = 0 := by unfold codeR; rw [if_neg hk, if_neg hw, if_neg k3, if_neg ho, if_neg k1, if_neg hz]
      have hle := (hs.le ot.toNat wh.toNat hon hwn).1
      have hx : (r.lines ot.toNat wh.toNat).sent[(r.lines ot.toNat wh.toNat).come]? = some ((r.lines ot.toNat wh.toNat).sent[(r.lines ot.toNat wh.toNat).come]'(by omega)) := List.getElem?_eq_getElem _
      generalize (r.lines ot.toNat wh.toNat).sent[(r.lines ot.toNat wh.toNat).come]'(by omega) = y at hx
      by_cases hy : y < 0
      · refine don (noteR (comeR r ot.toNat wh.toNat) wh.toNat) hc (by unfold stepR; rw [if_pos hc, if_neg (show ¬ (2 : Int) = 3 by decide), if_neg (show ¬ (2 : Int) = 1 by decide)]; unfold takeR; simp only [hx]; rw [if_pos hy]) ?_
        have := rpass_mark m x y hwn hon hne hn hlen hx hy
        rw [← ew, ← eo] at this
        exact this
      · refine don ⟨upd1 r.money wh.toNat (r.money wh.toNat + y), r.own, (comeR r ot.toNat wh.toNat).lines⟩ hc (by unfold stepR; rw [if_pos hc, if_neg (show ¬ (2 : Int) = 3 by decide), if_neg (show ¬ (2 : Int) = 1 by decide)]; unfold takeR; simp only [hx]; rw [if_neg hy]) ?_
        have hm := money_le hi hwn
        have hm0 : 0 ≤ s.money wh.toNat := hi.mon wh.toNat hwn
        have hm2 := hs.money wh.toNat hwn
        have hty : mk0 y ∈ (s.ways ot.toNat wh.toNat).things := by
          rw [hs.th ot.toNat wh.toNat hon hwn, List.mem_map]
          refine ⟨y, ?_, rfl⟩
          rw [List.mem_iff_getElem?]
          exact ⟨0, by rw [List.getElem?_drop, Nat.add_zero]; exact hx⟩
        have hth := thing_le hi hon hwn hty
        have hmk : mk0 y = y := by unfold mk0; rw [if_neg hy]
        rw [hmk] at hth
        have := rpass_pay m x y hwn hon hne hn hlen hx (by omega) ⟨by omega, by omega⟩
        rw [← ew, ← eo] at this
        exact this
end Go.Proofs.Ythadhhconkjpmaa
