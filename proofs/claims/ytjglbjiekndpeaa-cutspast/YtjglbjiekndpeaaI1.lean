/- Contracts in one form: clocks.Before, Check, folkmootkeep.events, inside. -/
import Derived.Test.YtjglbjiekndpeaaH11
import Derived.Test.YtjglbjiekndpeaaH12
namespace Go.Proofs.Ytjglbjiekndpeaa
open Go.RowKit Go.Shelf
set_option linter.unusedVariables false

theorem below_from {w w1 w2 : World} (h : Below w.heap.size w w1) (k : Below w1.heap.size w1 w2) : Below w.heap.size w w2 := h.trans (k.mono h.size)

theorem check_from (N : Int) (a : Option Addr) (len cap : Nat) (es : List Ev) (w w1 : World) (h : CameEv w a len cap es) (hb : Below w.heap.size w w1) :
    Calls Try.prog 31 #[.int .i64 N, .slice a len cap] w1 fun e w2 => e = .returned (.int .i64 (evsCode N es)) ∧ Below w.heap.size w w2 :=
  (check_any N a len cap es w1 (h.below hb)).mono fun e w2 ⟨h1, h2⟩ => ⟨h1, below_from hb h2⟩
theorem refEvents_from (N : Int) (a : Option Addr) (len cap : Nat) (es : List Ev) (w w1 : World) (h : CameEv w a len cap es) (hb : Below w.heap.size w w1) :
    Calls Try.prog 24 #[.int .i64 N, .slice a len cap] w1 fun e w2 => e = .returned (.int .i64 (evsCode N es)) ∧ Below w.heap.size w w2 :=
  (refEvents_any N a len cap es w1 (h.below hb)).mono fun e w2 ⟨h1, h2⟩ => ⟨h1, below_from hb h2⟩


set_option maxHeartbeats 1000000 in
theorem events_from (N : Int) (a : Option Addr) (len cap : Nat) (es : List Ev) (w w1 : World) (h : CameEv w a len cap es) (hb : Below w.heap.size w w1) :
    Calls Try.prog 17 #[.int .i64 N, .slice a len cap] w1 fun e w2 => e = .returned (.bool (evsCode N es == 0)) ∧ Below w.heap.size w w2 := by
  have HC := hidMk (refEvents_from N a len cap es w w1 h hb)
  generalize evsCode N es = c at HC ⊢
  clear h hb
  go_enter Try.func17, Try.ntmps17
  go_wp2_with (go_at_call 24; refine (HC.out).mono ?_; rintro e w2 ⟨rfl, hB⟩)
  go_ret
  exact ⟨rfl, hB⟩

/-- Are all of them places of a list of so many? -/
def inB (many : Int) (zs : List Int) : Bool := zs.all fun x => decide (0 ≤ x ∧ x < many)
theorem inB_take {many : Int} {zs : List Int} {k : Nat} {z : Int} (hz : zs[k]? = some z) (h : inB many (zs.take k) = true) (h0 : 0 ≤ z) (h1 : z < many) : inB many (zs.take (k + 1)) = true := by
  have hk : k < zs.length := (List.getElem?_eq_some_iff.1 hz).1
  have e : zs[k] = z := (List.getElem?_eq_some_iff.1 hz).2
  unfold inB at *
  rw [List.take_succ_eq_append_getElem hk, e, List.all_append, h]
  simp [h0, h1]
theorem inB_not {many : Int} {zs : List Int} {k : Nat} {z : Int} (hz : zs[k]? = some z) (h : z < 0 ∨ many ≤ z) : inB many zs = false := by
  unfold inB
  rw [List.all_eq_false]
  exact ⟨z, List.mem_of_getElem? hz, by simp; omega⟩

set_option maxHeartbeats 1000000 in
theorem inside_any (many : Int) (g m c : Nat) (zs : List Int) (w : World) (hl : zs.length = m) (hm : m ≤ 10) (hc : ∀ (j : Nat) (z : Int), zs[j]? = some z → w.cell? ⟨g, j, none⟩ = some (.int .i64 z)) :
    Calls Try.prog 22 #[.int .i64 many, .slice (some ⟨g, 0, none⟩) m c] w fun e w2 => e = .returned (.bool (inB many zs)) ∧ w2 = w := by
  have HL := hidMk hl
  have HC := hidMk hc
  have hm' : (m : Int) ≤ 10 := by omega
  clear hl hc
  go_enter Try.func22, Try.ntmps22
  go_wp2
  go_loop [9] (fun i => ∃ k : Nat, k ≤ m ∧ i = .int .i64 (k : Int) ∧ Hid (inB many (zs.take k) = true)) (fun i => m - (intOf i).toNat)
  case atStart => exact ⟨0, Nat.zero_le _, rfl, by simp [Hid, inB]⟩
  case round =>
    obtain ⟨k, hk, rfl, hall⟩ := hrel
    by_cases hlt : k < m
    · have hz : zs[k]? = some (zs[k]'(by rw [HL.out]; exact hlt)) := List.getElem?_eq_getElem _
      generalize zs[k]'(by rw [HL.out]; exact hlt) = z at hz
      have hcz := HC.out k z hz
      have HZ := hidMk hz
      clear hz
      by_cases h0 : z < 0
      · go_wp2
        go_ret
        exact ⟨ret_bool (inB_not HZ.out (.inl h0)).symm, rfl⟩
      · have h0' : 0 ≤ z := by omega
        by_cases h1 : many ≤ z
        · go_wp2
          go_ret
          exact ⟨ret_bool (inB_not HZ.out (.inr h1)).symm, rfl⟩
        · have h1' : z < many := by omega
          go_wp2
          go_round
          case rel => exact ⟨k + 1, by omega, by go_num, inB_take HZ.out hall.out h0' h1'⟩
          case measure => simp [intOf]; omega
    · obtain rfl : k = m := by omega
      go_wp2
      go_ret
      have e := hall.out
      rw [List.take_of_length_le (by rw [HL.out]; exact Nat.le_refl _)] at e
      exact ⟨ret_bool e.symm, rfl⟩
end Go.Proofs.Ytjglbjiekndpeaa
