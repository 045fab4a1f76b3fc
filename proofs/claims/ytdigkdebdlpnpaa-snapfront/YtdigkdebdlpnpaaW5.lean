/- folkmootkeep.SnapFront, walked. -/
import Derived.Test.YtdigkdebdlpnpaaV5
import Derived.Test.YtdigkdebdlpnpaaU5
namespace Go.Proofs.Ytdigkdebdlpnpaa
open Go.RowKit
set_option linter.unusedVariables false

theorem keep_below5 {A B : World} (h : Keep (fun _ => False) A B) : Below A.heap.size A B := h.below (Nat.le_refl _) (fun _ _ e => e)
theorem u8_of {z : Int} (hz : (Lit.int .u8 z).wf = true) : 0 ≤ z ∧ z ≤ 255 := by
  have h2 : IntKind.u8.min ≤ z ∧ z ≤ IntKind.u8.max := by simpa [Lit.wf] using hz
  have e1 : IntKind.u8.min = 0 := by decide
  have e2 : IntKind.u8.max = 255 := by decide
  omega
/-- A row of what was noted, as a slice. -/
theorem Seen.came {w : World} {lo C B gm om go oo n pl : Nat} {S : St} {cd : Nat → Int} (h : Seen w lo C B gm om go oo n pl S cd) {q : Nat} (hq : q < n * n) (hl : (S.ways (q / n) (q % n)).noted.length ≤ 1000) :
    ∃ a c, w.cell? ⟨B, q, none⟩ = some (.slice a (S.ways (q / n) (q % n)).noted.length c) ∧ CameI w a (S.ways (q / n) (q % n)).noted.length c (S.ways (q / n) (q % n)).noted := by
  obtain ⟨a, c, h1, h2, h3⟩ := h.rows q hq
  refine ⟨a, c, h1, rfl, h2, by unfold maxLen; omega, ?_⟩
  by_cases h0 : (S.ways (q / n) (q % n)).noted.length = 0
  · exact .inl h0
  · obtain ⟨x, hx⟩ : ∃ x, (S.ways (q / n) (q % n)).noted[0]? = some x := ⟨_, List.getElem?_eq_getElem (by omega)⟩
    obtain ⟨g, off, e, h4⟩ := h3 0 x hx
    exact .inr ⟨g, off, e, World.block_lt_of_cell? _ _ (h4 0 x hx), h4⟩

set_option maxRecDepth 100000 in
set_option maxHeartbeats 4000000 in
theorem front_bad {W : World} {ma pa : Option Addr} {mn mc pl pc : Nat} {zs : List Int} {ps : List Pass} {kn : Nat} (hm : CameI W ma mn mc zs) (hp : CameP W pa pl pc ps) (hsz : pl * 32 ≤ 140737488351232) (hk : kn ≤ 255) (hz : snapCode zs pl ≠ 0) :
    Calls Try.prog 6 #[.slice ma mn mc, .slice pa pl pc, .int .u8 (kn : Int)] W fun e W2 => e = .returned (.bool true) ∧ Below W.heap.size W W2 := by
  have HP := hidMk (play_bad (pa := pa) (pc := pc) hm hz)
  unfold zeroSnapped at HP
  generalize hat : kn % (pl + 1) = at0
  have hat1 : at0 ≤ pl := by rw [← hat]; have := Nat.mod_lt kn (show 0 < pl + 1 by omega); omega
  have hmod : (kn : Int).tmod ((pl : Int) + 1) = (at0 : Int) := by rw [← hat]; rfl
  have hmod2 : (kn : Int) % ((pl : Int) + 1) = (at0 : Int) := by rw [← hat]; rfl
  have hpl' : (pl : Int) ≤ 4398046511104 := by omega
  have hcap := hp.2.1
  have hat2 : (at0 : Int) ≤ (pc : Int) := by omega
  have hkn : (kn : Int) ≤ 255 := by omega
  have hz' : (snapCode zs pl != 0) = true := by simpa using hz
  by_cases hz2 : snapCode zs at0 = 0
  · obtain ⟨h0, h6, hp2, hzs⟩ := code_zero hm.1 hz2
    have HP2 : Hid (∀ w1, Keep (fun _ => False) W w1 → Calls Try.prog 8 #[.slice ma mn mc, .slice pa at0 pc] w1 fun e W2 => (∃ C B gm om cm go oo co dn, e = .returned (.tuple #[.agg #[.slice (some ⟨C, 0, none⟩) at0 at0, .slice (some ⟨gm, om, none⟩) mn cm, .slice (some ⟨go, oo, none⟩) mn co, .slice (some ⟨B, 0, none⟩) (mn * mn) (mn * mn), .bool dn], .int .i64 0])) ∧ Keep (fun _ => False) w1 W2) := fun w1 hw1 => by
      refine (play_seen (hm.keep hw1 (fun _ _ e => e)) ((hp.take hat1).keep hw1 (fun _ _ e => e)) hz2 h0 h6 hp2 hzs).mono ?_
      rintro e W2 ⟨⟨C, B, gm, om, cm, go, oo, co, rfl, _⟩, hk⟩
      exact ⟨⟨C, B, gm, om, cm, go, oo, co, _, rfl⟩, hk⟩
    generalize snapCode zs pl = code at *
    clear hm hz hp hat hz2
    go_enter Try.func6, Try.ntmps6
    go_wp2_with (fail)
    go_at_call 8
    refine (HP.out).mono ?_
    rintro e w1 ⟨rfl, hk1⟩
    have HK1 := hidMk (hk1.alloc (.cells #[.slice none 0 0, .slice none 0 0, .slice none 0 0, .slice none 0 0, .bool false] 27))
    clear hk1 HP
    go_wp2_with (fail)
    go_at_call 8
    refine (HP2.out _ HK1.out).mono ?_
    rintro e w2 ⟨⟨C, B, gm, om, cm, go, oo, co, dn, rfl⟩, hk2⟩
    have HK2 := hidMk (HK1.out.trans hk2 (q := fun _ => False) (fun _ _ e => e) (fun _ _ e => e))
    clear hk2 HK1 HP2
    go_wp2
    go_ret
    exact ⟨rfl, keep_below5 (HK2.out.alloc _)⟩
  · have HP2 : Hid (∀ w1, Keep (fun _ => False) W w1 → Calls Try.prog 8 #[.slice ma mn mc, .slice pa at0 pc] w1 fun e W2 => (∃ c2, e = .returned (.tuple #[.agg #[.slice none 0 0, .slice none 0 0, .slice none 0 0, .slice none 0 0, .bool false], .int .i64 c2])) ∧ Keep (fun _ => False) w1 W2) := fun w1 hw1 => by
      refine (play_bad (pa := pa) (pc := pc) (hm.keep hw1 (fun _ _ e => e)) hz2).mono ?_
      rintro e W2 ⟨rfl, hk⟩
      exact ⟨⟨_, rfl⟩, hk⟩
    generalize snapCode zs pl = code at *
    clear hm hz hp hat hz2
    go_enter Try.func6, Try.ntmps6
    go_wp2_with (fail)
    go_at_call 8
    refine (HP.out).mono ?_
    rintro e w1 ⟨rfl, hk1⟩
    have HK1 := hidMk (hk1.alloc (.cells #[.slice none 0 0, .slice none 0 0, .slice none 0 0, .slice none 0 0, .bool false] 27))
    clear hk1 HP
    go_wp2_with (fail)
    go_at_call 8
    refine (HP2.out _ HK1.out).mono ?_
    rintro e w2 ⟨⟨c2, rfl⟩, hk2⟩
    have HK2 := hidMk (HK1.out.trans hk2 (q := fun _ => False) (fun _ _ e => e) (fun _ _ e => e))
    clear hk2 HK1 HP2
    go_wp2
    go_ret
    exact ⟨rfl, keep_below5 (HK2.out.alloc _)⟩
end Go.Proofs.Ytdigkdebdlpnpaa
