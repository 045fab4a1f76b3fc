/- Contracts of folkmootref.Words and quorum.Blocks, and the statement QuorumBlocks. -/
import Derived.Test.YtblinhncklpidaaC4
import Derived.Laws.OwnMore
namespace Go.Proofs.Ytblinhncklpidaa
open Go.RowKit

theorem made_mono {w : World} {base base' : Nat} {v : Value} {L : List Nat} (h : Made w base v L) (hb : base' ≤ base) : Made w base' v L := by
  have h' : w.ownsRow base 34 1 v L.length (L.map enc32) := h
  refine ⟨h'.1, ?_⟩
  rcases h'.2 with h0 | ⟨g, cap, cur, e, h1, h2⟩
  · exact .inl h0
  · exact .inr ⟨g, cap, cur, e, Nat.le_trans hb h1, h2⟩

theorem came_owned {w : World} {base : Nat} {v : Value} {L : List Nat} (h : Made w base v L) (hL : ∀ x ∈ L, x < 4294967296) :
    ∃ a cap, v = .slice a L.length cap ∧ Came32 w a L.length cap L ∧ (∀ g, a = some g → base ≤ g.block) := by
  have h' : w.ownsRow base 34 1 v L.length (L.map enc32) := h
  rcases h'.2 with ⟨rfl, h0⟩ | ⟨g, cap, cur, rfl, hb, hg, h1, h2, h3, h4⟩
  · refine ⟨none, 0, ?_, ⟨rfl, ?_, ?_, .inl h0⟩, fun g e => by cases e⟩
    · rw [h0]
    · omega
    · rw [h0]; exact Nat.zero_le _
  · refine ⟨_, cap, rfl, ⟨rfl, h1, Nat.le_trans h1 h2, .inr ⟨g, 0, rfl, (Array.getElem?_eq_some_iff.1 hg).1, hL, fun j x hj => ?_⟩⟩, fun g' e => by cases e; exact hb⟩
    have hjl : j < L.length := (List.getElem?_eq_some_iff.1 hj).1
    rw [Nat.zero_add, World.ownsRow.cellAt h' j (by omega), List.getElem?_map, hj]; rfl

theorem words_take {xs ys : List Nat} {k x y : Nat} (hx : xs[k]? = some x) (hy : ys[k]? = some y) (h : xs.take k = ys.take k) (e : x = y) : xs.take (k + 1) = ys.take (k + 1) := by
  obtain ⟨h1, e1⟩ := List.getElem?_eq_some_iff.1 hx
  obtain ⟨h2, e2⟩ := List.getElem?_eq_some_iff.1 hy
  rw [List.take_succ_eq_append_getElem h1, List.take_succ_eq_append_getElem h2, h, e1, e2, e]

set_option maxHeartbeats 1000000 in
theorem words_same (a1 a2 : Option Addr) (n c1 c2 : Nat) (xs ys : List Nat) (w : World) (hn : n ≤ 4096) (h1 : Came32 w a1 n c1 xs) (h2 : Came32 w a2 n c2 ys) :
    Calls Try.prog 12 #[.slice a1 n c1, .slice a2 n c2] w fun e w' => e = .returned (.bool (xs == ys)) ∧ Below w.heap.size w w' := by
  have hn' : (n : Int) ≤ 4096 := by omega
  by_cases h0 : n = 0
  · subst h0
    have e1 : xs = [] := List.length_eq_zero_iff.1 h1.1
    have e2 : ys = [] := List.length_eq_zero_iff.1 h2.1
    subst e1 e2
    clear h1 h2
    go_enter Try.func12, Try.ntmps12
    go_wp2
    go_loop [5] (fun i => i = .int .i64 0) (fun _ => 0)
    case atStart => rfl
    case round =>
      obtain rfl := hrel
      go_wp2
      go_ret
      exact ⟨rfl, Below.refl _ _⟩
  · obtain ⟨b1, o1, rfl, q1⟩ := h1.2.2.2.resolve_left h0
    obtain ⟨b2, o2, rfl, q2⟩ := h2.2.2.2.resolve_left h0
    have HL1 := hidMk h1.1
    have HL2 := hidMk h2.1
    clear h1 h2
    go_enter Try.func12, Try.ntmps12
    go_wp2
    go_loopw [5] (fun i wr => ∃ k : Nat, k ≤ n ∧ i = .int .i64 (k : Int) ∧ Below w.heap.size w wr ∧ Hid (xs.take k = ys.take k)) (fun i _ => n - (intOf i).toNat)
    case atStart => exact ⟨0, Nat.zero_le _, rfl, Below.refl _ _, by simp [Hid]⟩
    case round =>
      obtain ⟨k, hk, rfl, hB, hT⟩ := hrel
      by_cases hlt : k < n
      · obtain ⟨x, hx, _, hxb, hcx⟩ := (q1.below rfl hB).at (k := k) (by rw [HL1.out]; exact hlt)
        obtain ⟨y, hy, _, hyb, hcy⟩ := (q2.below rfl hB).at (k := k) (by rw [HL2.out]; exact hlt)
        have HX := hidMk hx
        have HY := hidMk hy
        clear hx hy
        have hlt' : (k : Int) < (n : Int) := by omega
        by_cases he : x = y
        · have hne : ((x : Int) != (y : Int)) = false := by simp; omega
          have HE := hidMk he
          clear he
          go_wp2
          go_quiet (fail)
          go_wp2
          go_roundw
          case rel => exact ⟨k + 1, by omega, by go_num, below_drewN hB _, words_take HX.out HY.out hT.out HE.out⟩
          case measure => simp [intOf]; omega
        · have hne : ((x : Int) != (y : Int)) = true := by simp; omega
          have HE := hidMk he
          clear he
          go_wp2
          go_quiet (fail)
          go_wp2
          go_ret
          refine ⟨ret_bool ?_, below_drewN hB _⟩
          refine (beq_eq_false_iff_ne.2 fun e => ?_).symm
          have h3 := HX.out
          rw [e, HY.out] at h3
          exact HE.out (Option.some.inj h3).symm
      · obtain rfl : k = n := by omega
        go_wp2
        go_ret
        refine ⟨ret_bool ?_, hB⟩
        have e := hT.out
        rw [List.take_of_length_le (by rw [HL1.out]; exact Nat.le_refl _), List.take_of_length_le (by rw [HL2.out]; exact Nat.le_refl _)] at e
        rw [e]; simp

set_option maxHeartbeats 400000 in
theorem words_lens (a1 a2 : Option Addr) (n1 n2 c1 c2 : Nat) (w : World) (h1 : n1 ≤ 4096) (h2 : n2 ≤ 4096) (hne : n1 ≠ n2) :
    Calls Try.prog 12 #[.slice a1 n1 c1, .slice a2 n2 c2] w fun e w' => e = .returned (.bool false) ∧ w' = w := by
  have h1' : (n1 : Int) ≤ 4096 := by omega
  have h2' : (n2 : Int) ≤ 4096 := by omega
  have hb : ((n1 : Int) != (n2 : Int)) = true := by simp; omega
  go_enter Try.func12, Try.ntmps12
  go_wp2
  go_ret
  exact ⟨rfl, rfl⟩

theorem words_any (a1 a2 : Option Addr) (n1 n2 c1 c2 : Nat) (xs ys : List Nat) (w : World) (hn1 : n1 ≤ 4096) (hn2 : n2 ≤ 4096) (h1 : Came32 w a1 n1 c1 xs) (h2 : Came32 w a2 n2 c2 ys) :
    Calls Try.prog 12 #[.slice a1 n1 c1, .slice a2 n2 c2] w fun e w' => e = .returned (.bool (xs == ys)) ∧ Below w.heap.size w w' := by
  by_cases hne : n1 = n2
  · subst hne; exact words_same a1 a2 n1 c1 c2 xs ys w hn1 h1 h2
  · have hf : (xs == ys) = false := beq_eq_false_iff_ne.2 fun e => hne (by rw [← h1.1, ← h2.1, e])
    rw [hf]
    exact (words_lens a1 a2 n1 n2 c1 c2 w hn1 hn2 hne).mono fun e w' ⟨he, hw⟩ => ⟨he, hw ▸ Below.refl _ _⟩

set_option maxHeartbeats 400000 in
theorem blocks_err (n c : Int) (a : Option Addr) (len cap : Nat) (w : World) (hc : (c != 0) = true)
    (hF : Calls Try.prog 22 #[.int .i64 n, .slice a len cap] w fun e w' => e = .returned (.int .i64 c) ∧ Below w.heap.size w w') :
    Calls Try.prog 19 #[.int .i64 n, .slice a len cap] w fun e w' => e = .returned (.tuple #[.slice none 0 0, .int .i64 c]) ∧ Below w.heap.size w w' := by
  have HF := hidMk hF
  clear hF
  go_enter Try.func19, Try.ntmps19
  go_wp2_with (go_at_call 22; refine (HF.out).mono ?_; rintro e w' ⟨rfl, hB⟩)
  go_ret2
  exact ⟨rfl, hB⟩

set_option maxHeartbeats 400000 in
theorem blocks_row (n b off len cap : Nat) (qs : List Nat) (w : World) (hn : n ≤ 12) (hl : qs.length = len) (hl2 : len ≤ 4096) (hq : Row w b off qs)
    (hF : Calls Try.prog 22 #[.int .i64 n, .slice (some ⟨b, off, none⟩) len cap] w fun e w' => e = .returned (.int .i64 0) ∧ Below w.heap.size w w') :
    Calls Try.prog 19 #[.int .i64 n, .slice (some ⟨b, off, none⟩) len cap] w fun e w' => ∃ v, e = .returned (.tuple #[v, .int .i64 0]) ∧ Made w' w.heap.size v (blocksTo qs (2 ^ n)) ∧ Below w.heap.size w w' := by
  have HF := hidMk hF
  clear hF
  have HB : Hid (∀ w1, Below w.heap.size w w1 → Calls Try.prog 26 #[.int .i64 n, .slice (some ⟨b, off, none⟩) len cap] w1 fun e w' => ∃ v, e = .returned v ∧ Made w' w1.heap.size v (blocksTo qs (2 ^ n)) ∧ Below w1.heap.size w1 w') :=
    fun w1 hb => leastBlocks_row n b off len cap qs w1 hn hl hl2 (hq.below rfl hb)
  generalize blocksTo qs (2 ^ n) = L at *
  clear hl
  go_enter Try.func19, Try.ntmps19
  go_wp2_with (first | (go_at_call 22; refine (HF.out).mono ?_; rintro e w1 ⟨rfl, hB⟩) | (go_at_call 26; refine (HB.out _ hB).mono ?_; rintro e w2 ⟨v, rfl, hM, hB2⟩))
  go_ret2
  exact ⟨v, rfl, made_mono hM hB.size, hB.trans (hB2.mono hB.size)⟩
end Go.Proofs.Ytblinhncklpidaa
