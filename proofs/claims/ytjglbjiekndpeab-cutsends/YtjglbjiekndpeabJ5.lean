/- Contracts of folkmootref.Ints and Lists: are two lists the same? -/
import Derived.Test.YtjglbjiekndpeabI3
namespace Go.Proofs.Ytjglbjiekndpeab
open Go.RowKit Go.Shelf
set_option linter.unusedVariables false

/-- A list of numbers in memory. -/
def RowZ (w : World) (a : Option Addr) (n : Nat) (zs : List Nat) : Prop :=
  zs.length = n ∧ (n = 0 ∨ ∃ g, a = some ⟨g, 0, none⟩ ∧ ∀ (j z : Nat), zs[j]? = some z → w.cell? ⟨g, j, none⟩ = some (.int .i64 (z : Int)))
theorem RowZ.at {w : World} {a : Option Addr} {n : Nat} {zs : List Nat} (h : RowZ w a n zs) {k : Nat} (hk : k < n) : ∃ g z, a = some ⟨g, 0, none⟩ ∧ zs[k]? = some z ∧ w.cell? ⟨g, k, none⟩ = some (.int .i64 (z : Int)) := by
  obtain ⟨h1, h2 | ⟨g, h2, h3⟩⟩ := h
  · omega
  · have hz : zs[k]? = some (zs[k]'(by omega)) := List.getElem?_eq_getElem _
    exact ⟨g, _, h2, hz, h3 k _ hz⟩
theorem rowZ_of {w : World} {base g n c : Nat} {f : Nat → Nat} (h : w.ownsRow base 3 1 (.slice (some ⟨g, 0, none⟩) n c) n ((rowN n f).map encN)) : RowZ w (some ⟨g, 0, none⟩) n (rowN n f) :=
  ⟨rowN_len n f, .inr ⟨g, rfl, fun j z hz => by
    have hj : j < n := by have := (List.getElem?_eq_some_iff.1 hz).1; rwa [rowN_len] at this
    rw [World.ownsRow.cellAt h j (by omega), List.getElem?_map, hz]; rfl⟩⟩

theorem drew_more {w wr : World} (h : ∃ m, wr = w.drewN m) (q : Nat) : ∃ m, wr.drewN q = w.drewN m := by
  obtain ⟨m, e⟩ := h
  exact ⟨m + q, by rw [e, World.drewN_drewN]⟩
theorem take_same {α : Type} {xs ys : List α} {k : Nat} {x : α} (hx : xs[k]? = some x) (hy : ys[k]? = some x) (h : xs.take k = ys.take k) : xs.take (k + 1) = ys.take (k + 1) := by
  have h1 := (List.getElem?_eq_some_iff.1 hx)
  have h2 := (List.getElem?_eq_some_iff.1 hy)
  obtain ⟨k1, e1⟩ := h1
  obtain ⟨k2, e2⟩ := h2
  rw [List.take_succ_eq_append_getElem k1, List.take_succ_eq_append_getElem k2, h, e1, e2]
theorem beq_at {α : Type} [BEq α] [LawfulBEq α] {xs ys : List α} {k : Nat} {x y : α} (hx : xs[k]? = some x) (hy : ys[k]? = some y) (h : x ≠ y) : (xs == ys) = false := by
  refine beq_eq_false_iff_ne.2 fun e => ?_
  rw [e, hy] at hx
  exact h (Option.some.inj hx).symm
theorem beq_len {α : Type} [BEq α] [LawfulBEq α] {xs ys : List α} (h : xs.length ≠ ys.length) : (xs == ys) = false :=
  beq_eq_false_iff_ne.2 fun e => h (by rw [e])

set_option maxHeartbeats 1000000 in
theorem ints_any (a1 a2 : Option Addr) (n1 n2 c1 c2 : Nat) (z1 z2 : List Nat) (w : World) (h1 : RowZ w a1 n1 z1) (h2 : RowZ w a2 n2 z2) (m1 : n1 ≤ 100) (m2 : n2 ≤ 100) :
    Calls Try.prog 12 #[.slice a1 n1 c1, .slice a2 n2 c2] w fun e w2 => e = .returned (.bool (z1 == z2)) ∧ ∃ m, w2 = w.drewN m := by
  have m1' : (n1 : Int) ≤ 100 := by omega
  have m2' : (n2 : Int) ≤ 100 := by omega
  by_cases hne : n1 = n2
  · subst hne
    have H1 := hidMk h1
    have H2 := hidMk h2
    clear h1 h2
    go_enter Try.func12, Try.ntmps12
    go_wp2
    go_loopw [5] (fun i wr => ∃ k : Nat, k ≤ n1 ∧ i = .int .i64 (k : Int) ∧ Hid (∃ m, wr = w.drewN m) ∧ Hid (z1.take k = z2.take k)) (fun i _ => n1 - (intOf i).toNat)
    case atStart => exact ⟨0, Nat.zero_le _, rfl, ⟨0, rfl⟩, by simp [Hid]⟩
    case round =>
      obtain ⟨k, hk, rfl, HM, HT⟩ := hrel
      by_cases hlt : k < n1
      · have hlt' : (k : Int) < (n1 : Int) := by omega
        obtain ⟨g1, x, rfl, hx, d1⟩ := H1.out.at hlt
        obtain ⟨g2, y, rfl, hy, d2⟩ := H2.out.at hlt
        have HX := hidMk hx
        have HY := hidMk hy
        have d1' : wr.cell? ⟨g1, k, none⟩ = some (.int .i64 (x : Int)) := by obtain ⟨m, e⟩ := HM.out; rw [e]; exact d1
        have d2' : wr.cell? ⟨g2, k, none⟩ = some (.int .i64 (y : Int)) := by obtain ⟨m, e⟩ := HM.out; rw [e]; exact d2
        clear hx hy d1 d2
        by_cases he : x = y
        · have hb : ((x : Int) != (y : Int)) = false := by simp; omega
          have HE := hidMk he
          clear he
          go_wp2
          go_quiet (fail)
          go_wp2
          go_roundw
          case rel => exact ⟨k + 1, by omega, by go_num, drew_more HM.out nq, take_same HX.out (by rw [HE.out]; exact HY.out) HT.out⟩
          case measure => simp [intOf]; omega
        · have hb : ((x : Int) != (y : Int)) = true := by simp; omega
          have HE := hidMk he
          clear he
          go_wp2
          go_quiet (fail)
          go_wp2
          go_ret
          exact ⟨ret_bool (beq_at HX.out HY.out HE.out).symm, drew_more HM.out nq⟩
      · obtain rfl : k = n1 := by omega
        go_wp2
        go_ret
        refine ⟨ret_bool ?_, HM.out⟩
        have e := HT.out
        rw [List.take_of_length_le (by rw [H1.out.1]; exact Nat.le_refl _), List.take_of_length_le (by rw [H2.out.1]; exact Nat.le_refl _)] at e
        rw [e]; simp
  · have hb : ((n1 : Int) != (n2 : Int)) = true := by simp; omega
    have HE : Hid ((z1 == z2) = false) := beq_len (by rw [h1.1, h2.1]; exact hne)
    clear h1 h2 hne
    go_enter Try.func12, Try.ntmps12
    go_wp2
    go_ret
    exact ⟨ret_bool HE.out.symm, 0, rfl⟩

theorem rows2_below {es : List Ev} {w w2 : World} {base O n len : Nat} {R : Nat → Nat} (h : Rows2 es base len n w O R) (hb : Below w.heap.size w w2) : Rows2 es base len n w2 O R :=
  ⟨owns_below h.1 hb, fun j hj => owns_below (h.2 j hj) hb⟩
end Go.Proofs.Ytjglbjiekndpeab
