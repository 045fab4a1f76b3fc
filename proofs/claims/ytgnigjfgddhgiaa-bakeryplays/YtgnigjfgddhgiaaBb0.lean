/- Numbers as they come in; inside, of any numbers; a play of the bakery, whatever it tells. -/
import Derived.Test.YtgnigjfgddhgiaaBa8
import Derived.Test.YtgnigjfgddhgiaaBa9
import Derived.Deep.Slices
import Derived.ChangeOld
import Derived.ProofKit
import Derived.OpenShut
import Derived.SizedLaws
namespace Go.Proofs.Ytgnigjfgddhgiaa
open Go.RowKit Go.ChangeShapes Go.WideShapes Go.Deep
set_option linter.unusedVariables false

/-- Numbers as a slice that came in. -/
def CameI (w : World) (a : Option Addr) (len cap : Nat) (zs : List Int) : Prop := RowI w a len cap zs
theorem came_ints {w : World} {a : Option Addr} {len cap : Nat} {zs : List Int}
    (h : (a = none ∧ len = 0 ∧ cap = 0 ∧ zs = []) ∨
      ∃ x, a = some x ∧ len ≤ cap ∧ cap ≤ maxLen ∧ zs.length = cap ∧ (∀ i, i < zs.length → w.cell? (x.add i) = some (.int .i64 (zs.getD i 0))) ∧ ∀ n ∈ zs, (Lit.int .i64 n).wf = true) :
    CameI w a len cap (zs.take len) := by
  rcases h with ⟨rfl, rfl, rfl, rfl⟩ | ⟨⟨b, off, spot⟩, rfl, hl, hm, hz, hcell, hwz⟩
  · exact ⟨rfl, Nat.le_refl _, Nat.zero_le _, .inl rfl⟩
  · refine ⟨by simp; omega, hl, Nat.le_trans hl hm, ?_⟩
    by_cases h0 : len = 0
    · exact .inl h0
    · have hc := hcell 0 (by omega)
      have hspot : spot = none := by simpa [Addr.add] using World.cell?_spot hc
      subst hspot
      refine .inr ⟨b, off, rfl, ?_, ?_⟩
      · have hc' : w.cell? ⟨b, off + 0, none⟩ = some (.int .i64 (zs.getD 0 0)) := by simpa [Addr.add] using hc
        exact World.block_lt_of_cell? _ _ hc'
      · intro j x hn
        have hjl : j < (zs.take len).length := (List.getElem?_eq_some_iff.1 hn).1
        rw [List.length_take] at hjl
        have e : zs[j]? = some x := by rw [List.getElem?_take] at hn; split at hn <;> simp_all
        have hj' := hcell j (by omega)
        rw [List.getD_eq_getElem?_getD, e, Option.getD_some, addr_add] at hj'
        exact hj'
theorem ints_len {H : Type} {enc : TypeId × Value → H} {W : World} {a : Option Addr} {len cap fuel : Nat} {d : DataW H} {p : List MemPlace}
    (h : DataW.trod enc Try.prog W 0 (fun _ => true) true fuel 22 [.slice a len cap] = some (d, p)) : len = 0 ∨ ∃ el sp, d = .slice el sp ∧ el.length = len := by
  rcases open_slice Try.underlying22 h with ⟨hcs, _⟩ | ⟨a', len', cap', m, n, D, Pl, hcs, _, hl, hm, hmm, hx, hel⟩
  · simp at hcs
    exact .inl hcs.2.1
  · simp at hcs
    obtain ⟨rfl, rfl, rfl⟩ := hcs
    simp only [Prod.mk.injEq] at hx
    exact .inr ⟨_, _, by first | exact hx.1 | exact hx.2.1, by simp⟩
theorem ints_size {H : Type} {enc : TypeId × Value → H} {W : World} {a : Option Addr} {len cap fuel : Nat} {d : DataW H} {p : List MemPlace} {ts : List TypeId} {ds : List (DataW H)} {j : Nat}
    (h : DataW.trod enc Try.prog W 0 (fun _ => true) true fuel 22 [.slice a len cap] = some (d, p)) (hs : (DataW.weightsEach Try.prog ts ds).all (· ≤ reachBytes) = true) (ht : ts[j]? = some 22) (hd : ds[j]? = some d) : len * 8 ≤ 140737488351232 := by
  rcases ints_len h with e | ⟨el, sp, e, hl⟩
  · omega
  · subst e
    have h1 := sized_slice hs ht hd Try.underlying22
    have h2 : Try.prog.bytesOf 3 = 8 := by kernel_rfl
    rw [h2, hl] at h1
    have h3 : (len + sp.length) * 8 ≤ 140737488351232 := h1
    omega

set_option maxRecDepth 100000 in
set_option maxHeartbeats 2000000 in
theorem inside_any {w : World} {a : Option Addr} {m c : Nat} {xs : List Int} (n : Nat) (h : RowI w a m c xs) (hm : m ≤ 1000) :
    Calls Try.prog 12 #[.int .i64 (n : Int), .slice a m c] w fun e w2 => e = .returned (.bool (xs.all fun z => inP n z)) ∧ w2 = w := by
  obtain ⟨l1, c1, _, r1⟩ := h
  have hn' : (m : Int) ≤ 1000 := by omega
  rcases r1 with r1 | ⟨g, o, rfl, _, k1⟩
  · subst r1
    obtain rfl : xs = [] := List.length_eq_zero_iff.1 l1
    go_enter Try.func12, Try.ntmps12
    go_wp2
    go_loop [9] (fun u => u = .int .i64 0) (fun _ => 0)
    case atStart => rfl
    case round =>
      subst hrel
      go_wp2
      go_ret
      exact ⟨rfl, rfl⟩
  · have H1 := hidMk k1
    have HL := hidMk l1
    clear k1 l1
    go_enter Try.func12, Try.ntmps12
    go_wp2
    go_loop [9] (fun u => ∃ k : Nat, k ≤ m ∧ u = .int .i64 (k : Int) ∧ Hid (∀ j z, j < k → xs[j]? = some z → inP n z = true)) (fun u => m - (intOf u).toNat)
    case atStart => exact ⟨0, Nat.zero_le _, rfl, fun j z hj => by omega⟩
    case round =>
      obtain ⟨k, hk, rfl, HA⟩ := hrel
      by_cases hlt : k < m
      · have hlt' : (k : Int) < (m : Int) := by omega
        have hy : xs[k]? = some (xs[k]'(by rw [HL.out]; exact hlt)) := List.getElem?_eq_getElem _
        generalize xs[k]'(by rw [HL.out]; exact hlt) = y at hy
        have d1 := H1.out k y hy
        have HY := hidMk hy
        clear hy
        by_cases hp : inP n y = true
        · have hp2 := hp
          unfold inP at hp2
          simp at hp2
          obtain ⟨y0, y1⟩ := hp2
          have HP := hidMk hp
          clear hp
          go_wp2
          go_round
          case rel => exact ⟨k + 1, by omega, by go_num, fun j z hj e2 => by
            by_cases ej : j = k
            · subst ej; rw [HY.out] at e2; cases e2; exact HP.out
            · exact HA.out j z (by omega) e2⟩
          case measure => simp [intOf]; omega
        · have HF : Hid (xs.all (fun z => inP n z) = false) := by
            show _ = _
            rw [List.all_eq_false]
            exact ⟨y, List.mem_of_getElem? HY.out, hp⟩
          have hp2 : inP n y = false := by simpa using hp
          clear hp
          by_cases h0 : y < 0
          · have q1 : decide (y < 0) = true := decide_eq_true h0
            go_wp2
            go_ret
            exact ⟨by rw [HF.out]; rfl, rfl⟩
          · have q1 : decide (y < 0) = false := decide_eq_false h0
            have q2 : decide ((n : Int) ≤ y) = true := by
              unfold inP at hp2
              simp at hp2
              exact decide_eq_true (hp2 (by omega))
            clear hp2
            go_wp2
            go_ret
            exact ⟨by rw [HF.out]; rfl, rfl⟩
      · obtain rfl : k = m := by omega
        have HF : Hid (xs.all (fun z => inP n z) = true) := by
          show _ = _
          rw [List.all_eq_true]
          intro z hz
          obtain ⟨j, hj, e⟩ := List.getElem_of_mem hz
          exact HA.out j z (by rw [← HL.out]; exact hj) (by rw [List.getElem?_eq_getElem hj, e])
        go_wp2
        go_ret
        exact ⟨by rw [HF.out]; rfl, rfl⟩
/-- What a play tells, whatever it tells. -/
theorem play_anyB {W : World} {pa : Option Addr} {z : Int} {pl pc : Nat} {zs : List Int} (hp : RowI W pa pl pc zs) :
    Calls Try.prog 8 #[.int .i64 z, .slice pa pl pc] W fun e W2 => (∃ a b c d f g a2 b2 c2 a3 b3 c3 a4 b4 c4 x, e = .returned (.tuple #[.agg #[.slice a b c, .slice d f g, .slice a2 b2 c2, .slice a3 b3 c3, .slice a4 b4 c4], .int .i64 x])) ∧ Stil W W2 := by
  by_cases hz : bakCode z pl = 0
  · obtain ⟨n, rfl, h0, h6, h120⟩ := bakCode_zero hz
    refine (play_seenB hp h0 h6 h120).mono ?_
    rintro e W2 ⟨⟨C, a1, c1, a2, c2, a3, c3, va, vc, rfl, _⟩, hk⟩
    exact ⟨⟨_, _, _, _, _, _, _, _, _, _, _, _, _, _, _, _, rfl⟩, hk⟩
  · refine (play_badB hz hp.2.2.1).mono ?_
    rintro e W2 ⟨rfl, hk⟩
    exact ⟨⟨_, _, _, _, _, _, _, _, _, _, _, _, _, _, _, _, rfl⟩, hk⟩
theorem u8_in {z : Int} (hz : (Lit.int .u8 z).wf = true) : 0 ≤ z ∧ z ≤ 255 := by
  have h2 : IntKind.u8.min ≤ z ∧ z ≤ IntKind.u8.max := by simpa [Lit.wf] using hz
  have e1 : IntKind.u8.min = 0 := by decide
  have e2 : IntKind.u8.max = 255 := by decide
  omega
end Go.Proofs.Ytgnigjfgddhgiaa
