/- The document's Has and hears. -/
import Derived.Test.YtpdccjhabolccaaCa16
import Derived.Test.YtpdccjhabolccaaCb2
namespace Go.Proofs.Ytpdccjhabolccaa
open Go.RowKit
set_option linter.unusedVariables false

theorem retb {a b : Bool} (e : a = b) : Ending.returned (.bool a) = Ending.returned (.bool b) := by rw [e]
set_option maxRecDepth 100000 in
set_option maxHeartbeats 2000000 in
theorem has_any {w : World} {a : Option Addr} {n c : Nat} {xs : List Int} (h : RowI w a n c xs) (hn : n ≤ 1000) (x : Int) :
    Calls Try.prog 33 #[.slice a n c, .int .i64 x] w fun e w2 => e = .returned (.bool (xs.contains x)) ∧ w2 = w := by
  obtain ⟨l1, c1, _, r1⟩ := h
  have hn' : (n : Int) ≤ 1000 := by omega
  rcases r1 with r1 | ⟨g, o, rfl, _, k1⟩
  · subst r1
    obtain rfl : xs = [] := List.length_eq_zero_iff.1 l1
    go_enter Try.func33, Try.ntmps33
    go_wp2
    go_loop [9] (fun u => u = .int .i64 0) (fun _ => 0)
    case atStart => rfl
    case round =>
      subst hrel
      go_wp2
      go_ret
      exact ⟨rfl, rfl⟩
  · have H1 := hidMk k1
    have HL := hidMk l1
    clear k1 l1
    go_enter Try.func33, Try.ntmps33
    go_wp2
    go_loop [9] (fun u => ∃ k : Nat, k ≤ n ∧ u = .int .i64 (k : Int) ∧ Hid (∀ j, j < k → xs[j]? ≠ some x)) (fun u => n - (intOf u).toNat)
    case atStart => exact ⟨0, Nat.zero_le _, rfl, fun j hj => by omega⟩
    case round =>
      obtain ⟨k, hk, rfl, HN⟩ := hrel
      by_cases hlt : k < n
      · have hlt' : (k : Int) < (n : Int) := by omega
        have hy : xs[k]? = some (xs[k]'(by rw [HL.out]; exact hlt)) := List.getElem?_eq_getElem _
        generalize xs[k]'(by rw [HL.out]; exact hlt) = y at hy
        have d1 := H1.out k y hy
        have HY := hidMk hy
        clear hy
        by_cases e : x = y
        · subst e
          go_wp2
          go_ret
          exact ⟨retb (by simpa using List.mem_of_getElem? HY.out), rfl⟩
        · have e' : (x == y) = false := by simpa using e
          clear e
          go_wp2
          go_round
          case rel => exact ⟨k + 1, by omega, by go_num, fun j hj e2 => by
            by_cases ej : j = k
            · subst ej; rw [HY.out] at e2; cases e2; simp at e'
            · exact HN.out j (by omega) e2⟩
          case measure => simp [intOf]; omega
      · obtain rfl : k = n := by omega
        go_wp2
        go_ret
        refine ⟨retb ?_, rfl⟩
        rw [eq_comm, Bool.eq_false_iff]
        intro hm
        have hm2 : x ∈ xs := by simpa using hm
        obtain ⟨j, hj, e⟩ := List.getElem_of_mem hm2
        exact HN.out j (by rw [← HL.out]; exact hj) (by rw [List.getElem?_eq_getElem hj, e])
theorem natsI_has (l : List Nat) (m : Nat) : (natsI l).contains (m : Int) = l.contains m := by
  rw [Bool.eq_iff_iff]
  simp only [List.contains_iff_mem]
  constructor
  · intro h
    obtain ⟨k, h1, h2⟩ := natsI_mem h
    obtain rfl : m = k := by omega
    exact h1
  · intro h
    exact List.mem_map.2 ⟨m, h, rfl⟩
theorem all_take (p : Nat → Bool) : ∀ (qs : List Nat) {k x : Nat}, qs[k]? = some x → (qs.take (k + 1)).all p = ((qs.take k).all p && p x)
  | [], k, x, h => by simp at h
  | q :: r, 0, x, h => by simp at h; subst h; simp
  | q :: r, k + 1, x, h => by
    have := all_take p r (k := k) (x := x) (by simpa using h)
    simp [this, Bool.and_assoc]
theorem nxt_succ {heard : List Nat} {cs : Nat → List Nat} {come : List Nat} {j m : Nat} {q : Int} (hm : come[j]? = some m) (hq : nxt heard cs come j = q) :
    nxt heard cs come (j + 1) = if ((!heard.contains m && (decide (q < 0) || decide ((m : Int) < q))) && (cs m).all fun c => heard.contains c) = true then (m : Int) else q := by
  rw [nxt, List.getD_eq_getElem?_getD, hm, hq]
  simp only [Option.getD_some]
  unfold readyL
  cases heard.contains m <;> cases (cs m).all (fun c => heard.contains c) <;> simp

/-- What hears reads besides what it lays anew. -/
structure HRows (w1 : World) (ca gk : Option Addr) (cc kl : Nat) (come : List Nat) (cs : Nat → List Nat) : Prop where
  row : RowI w1 ca come.length cc (natsI come)
  caus : ∀ m, m ∈ come → m < kl ∧ ∃ b off a c, gk = some ⟨b, off, none⟩ ∧ w1.cell? ⟨b, off + m, none⟩ = some (.slice a (cs m).length c) ∧ RowI w1 a (cs m).length c (natsI (cs m))
theorem hearsTo_len (heard : List Nat) (cs : Nat → List Nat) (come : List Nat) : ∀ t, (hearsTo heard cs come t).length ≤ heard.length + t
  | 0 => Nat.le_refl _
  | t + 1 => by
    have := hearsTo_len heard cs come t
    unfold hearsTo
    split
    · simp; omega
    · omega
end Go.Proofs.Ytpdccjhabolccaa
