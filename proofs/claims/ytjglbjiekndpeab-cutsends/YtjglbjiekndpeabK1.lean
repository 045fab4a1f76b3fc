/- Contract of folkmootkeep.leq; folkmootkeep.ClocksMattern, walked. -/
import Derived.Test.YtjglbjiekndpeabJ5
namespace Go.Proofs.Ytjglbjiekndpeab
open Go.RowKit Go.Shelf
set_option linter.unusedVariables false

/-- None of the first n is above the other's. -/
def leN (n : Nat) (f g : Nat → Nat) : Bool := (List.range n).all fun p => decide (f p ≤ g p)
theorem leN_iff {n : Nat} {f g : Nat → Nat} : leN n f g = true ↔ ∀ p, p < n → f p ≤ g p := by
  unfold leN
  rw [List.all_eq_true]
  constructor
  · exact fun h p hp => of_decide_eq_true (h p (List.mem_range.2 hp))
  · exact fun h p hp => decide_eq_true (h p (List.mem_range.1 hp))
theorem leN_not {n p : Nat} {f g : Nat → Nat} (hp : p < n) (h : g p < f p) : leN n f g = false := by
  cases e : leN n f g
  · rfl
  · have := leN_iff.1 e p hp; omega

set_option maxHeartbeats 1000000 in
theorem leq_any (g1 g2 n c1 c2 : Nat) (f h : Nat → Nat) (w : World) (h1 : ∀ p, p < n → w.cell? ⟨g1, p, none⟩ = some (.int .i64 ((f p : Nat) : Int))) (h2 : ∀ p, p < n → w.cell? ⟨g2, p, none⟩ = some (.int .i64 ((h p : Nat) : Int))) (m1 : n ≤ 100) :
    Calls Try.prog 11 #[.slice (some ⟨g1, 0, none⟩) n c1, .slice (some ⟨g2, 0, none⟩) n c2] w fun e w2 => e = .returned (.bool (leN n f h)) ∧ ∃ m, w2 = w.drewN m := by
  have m1' : (n : Int) ≤ 100 := by omega
  have H1 := hidMk h1
  have H2 := hidMk h2
  clear h1 h2
  go_enter Try.func11, Try.ntmps11
  go_wp2
  go_loopw [5] (fun i wr => ∃ k : Nat, k ≤ n ∧ i = .int .i64 (k : Int) ∧ Hid (∃ m, wr = w.drewN m) ∧ Hid (∀ p, p < k → f p ≤ h p)) (fun i _ => n - (intOf i).toNat)
  case atStart => exact ⟨0, Nat.zero_le _, rfl, ⟨0, rfl⟩, fun p hp => by omega⟩
  case round =>
    obtain ⟨k, hk, rfl, HM, HT⟩ := hrel
    by_cases hlt : k < n
    · have hlt' : (k : Int) < (n : Int) := by omega
      have d1 : wr.cell? ⟨g1, k, none⟩ = some (.int .i64 ((f k : Nat) : Int)) := by obtain ⟨m, e⟩ := HM.out; rw [e]; exact H1.out k hlt
      have d2 : wr.cell? ⟨g2, k, none⟩ = some (.int .i64 ((h k : Nat) : Int)) := by obtain ⟨m, e⟩ := HM.out; rw [e]; exact H2.out k hlt
      by_cases he : f k ≤ h k
      · have he' : ((f k : Nat) : Int) ≤ ((h k : Nat) : Int) := by omega
        go_wp2
        go_quiet (fail)
        go_wp2
        go_roundw
        case rel => exact ⟨k + 1, by omega, by go_num, drew_more HM.out nq, fun p hp => by
          by_cases e : p = k
          · subst e; exact he
          · exact HT.out p (by omega)⟩
        case measure => simp [intOf]; omega
      · have he' : ((h k : Nat) : Int) < ((f k : Nat) : Int) := by omega
        go_wp2
        go_quiet (fail)
        go_wp2
        go_ret
        exact ⟨ret_bool (leN_not hlt (by omega)).symm, drew_more HM.out nq⟩
    · obtain rfl : k = n := by omega
      go_wp2
      go_ret
      exact ⟨ret_bool (leN_iff.2 HT.out).symm, HM.out⟩

theorem Vectors_rel (n : Nat) (a : Option Addr) (len cap : Nat) (es : List Ev) (w w1 : World) (h : CameEv w a len cap es) (hz : evsCode (n : Int) es = 0) (hb : Below w.heap.size w w1) :
    Calls Try.prog 19 #[.int .i64 (n : Int), .slice a len cap] w1 fun e w2 => (∃ O R, e = .returned (.tuple #[.slice (some ⟨O, 0, none⟩) len len, .int .i64 0]) ∧ Rows2 es w.heap.size len n w2 O R) ∧ Below w1.heap.size w1 w2 :=
  (Vectors_ok n a len cap es w1 (h.below hb) hz).mono fun e w2 ⟨⟨O, R, h1, h2⟩, h3⟩ => ⟨⟨O, R, h1, owns_le h2.1 hb.size, fun j hj => owns_le (h2.2 j hj) hb.size⟩, h3⟩
theorem rows2_out {es : List Ev} {w : World} {base O n len : Nat} {R : Nat → Nat} (h : Rows2 es base len n w O R) {j : Nat} (hj : j < len) : w.cell? ⟨O, j, none⟩ = some (.slice (some ⟨R j, 0, none⟩) n n) := by
  rw [World.ownsRow.cellAt h.1 j (by omega), outRow_at hj, if_pos hj]
theorem rows2_in {es : List Ev} {w : World} {base O n len : Nat} {R : Nat → Nat} (h : Rows2 es base len n w O R) {j p : Nat} (hj : j < len) (hp : p < n) : w.cell? ⟨R j, p, none⟩ = some (.int .i64 ((vc es p j : Nat) : Int)) := by
  rw [World.ownsRow.cellAt (h.2 j hj) p (by omega), List.getElem?_map, rowN_at hp]; simp [encN]

end Go.Proofs.Ytjglbjiekndpeab
