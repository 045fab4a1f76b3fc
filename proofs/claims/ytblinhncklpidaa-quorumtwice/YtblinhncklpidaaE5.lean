/- Contract of folkmootref.Least, and the statement QuorumLeasts. -/
import Derived.Test.YtblinhncklpidaaE4
import Derived.Test.YtblinhncklpidaaB3
namespace Go.Proofs.Ytblinhncklpidaa
open Go.RowKit

theorem leastsTo_one {qs : List Nat} (h : ∀ x ∈ qs, 0 < x) : leastsTo qs 1 = [] := by
  have hb : isLeastB qs 0 = false := by
    cases hc : isLeastB qs 0
    · rfl
    · have := h 0 (isLeast_iff.1 hc).1; omega
  rw [show (1 : Nat) = 0 + 1 from rfl, leastsTo_miss hb]; rfl

/-- What the document's loop has seen of the first j sets. -/
def seenB (qs : List Nat) (s j : Nat) : Bool := (qs.take j).any fun a => a == s
def partTo (qs : List Nat) (s j : Nat) : Bool := (qs.take j).any (partB s)
theorem seenB_succ {qs : List Nat} {s j x : Nat} (h : qs[j]? = some x) : seenB qs s (j + 1) = (seenB qs s j || x == s) := any_take_succ _ _ h
theorem partTo_succ {qs : List Nat} {s j x : Nat} (h : qs[j]? = some x) : partTo qs s (j + 1) = (partTo qs s j || partB s x) := any_take_succ _ _ h

theorem or_same (a w : Nat) (ha : a < 4294967296) (hw : w < 4294967296) : (bits BinOp.or IntKind.u32 (a : Int) (w : Int) == (w : Int)) = inB a w := by
  rw [u32_or_nat a w ha hw]
  unfold inB
  rw [Bool.eq_iff_iff]; simp; omega

set_option maxHeartbeats 2000000 in
theorem refLeast_row (n b off len cap : Nat) (qs : List Nat) (w : World) (hn : n ≤ 12) (hl : qs.length = len) (hl2 : len ≤ 64) (hx0 : ∀ x ∈ qs, 0 < x) (hq : Row w b off qs) :
    Calls Try.prog 13 #[.int .i64 n, .slice (some ⟨b, off, none⟩) len cap] w fun e w' => ∃ v, e = .returned v ∧ Made w' w.heap.size v (leastsTo qs (2 ^ n)) ∧ Below w.heap.size w w' := by
  obtain ⟨i0, hi, hz0, hz1, hz2⟩ := info_parts Try.info34
  have H1 := hidMk (leastsTo_one hx0)
  have HL := hidMk hl
  clear hl hx0
  have hp : 0 < 2 ^ n := Nat.two_pow_pos n
  have hp2 : 2 ^ n ≤ 4096 := Nat.le_trans (Nat.pow_le_pow_right (by omega) hn) (by decide)
  have hpw := pow_mod n (by omega)
  obtain ⟨M, hM⟩ : ∃ M, 2 ^ n = M + 1 := ⟨2 ^ n - 1, by omega⟩
  rw [hM] at hp2 hpw ⊢
  have hpw' : (2 : Int) ^ n % 4294967296 = (M : Int) + 1 := by rw [hpw]; omega
  have hM' : (M : Int) ≤ 4095 := by omega
  clear hM hp hpw
  have hn' : (n : Int) ≤ 12 := by omega
  have hl2' : (len : Int) ≤ 64 := by omega
  go_enter Try.func13, Try.ntmps13
  go_wp2
  go_loopw [5, 6] (fun v i wr => ∃ k : Nat, 1 ≤ k ∧ k ≤ M + 1 ∧ i = .int .u32 (k : Int) ∧ Below w.heap.size w wr ∧ Made wr w.heap.size v (leastsTo qs k)) (fun _ i _ => M + 1 - (intOf i).toNat)
  case atStart => exact ⟨1, Nat.le_refl _, by omega, rfl, Below.refl _ _, by rw [H1.out]; exact World.ownsRow_nil _ _ _ _⟩
  case round =>
    obtain ⟨k, hk1, hk, rfl, hB, hown⟩ := hrel
    by_cases hlt : k < M + 1
    · have hlt' : (k : Int) < (M : Int) + 1 := by omega
      have hk' : (k : Int) ≤ 4095 := by omega
      have hk32 : k < 4294967296 := by omega
      have hkl := leastsTo_len qs k
      go_wp2
      go_loop [7, 8, 20] (fun x y i => ∃ j : Nat, j ≤ len ∧ i = .int .i64 (j : Int) ∧ x = .bool (seenB qs k j) ∧ y = .bool (partTo qs k j)) (fun _ _ i => len - (intOf i).toNat)
      case atStart => exact ⟨0, Nat.zero_le _, rfl, rfl, rfl⟩
      case round =>
        obtain ⟨j, hj, rfl, rfl, rfl⟩ := hrel
        by_cases hlt2 : j < len
        · have hj' : (j : Int) < (len : Int) := by omega
          obtain ⟨x, hx, _, hxb, hc⟩ := (hq.below rfl hB).at (k := j) (by rw [HL.out]; exact hlt2)
          have hs := seenB_succ (s := k) hx
          have hp := partTo_succ (s := k) hx
          have ho := or_same x k hxb hk32
          clear hx
          by_cases hxk : x = k
          · have he : ((x : Int) == (k : Int)) = true := by simp; omega
            have hne : ((x : Int) != (k : Int)) = false := by simp; omega
            rw [show (x == k) = true from beq_iff_eq.2 hxk] at hs
            rw [show partB k x = false by unfold partB; rw [show (x != k) = false by simp [hxk]]; rfl] at hp
            have HS := hidMk hs
            have HPP := hidMk hp
            clear hs hp hxk ho
            generalize seenB qs k j = c at *
            generalize partTo qs k j = d at *
            cases c <;> cases d <;> go_wp2 <;> go_round
            all_goals first
              | exact ⟨j + 1, by omega, by go_num, by rw [HS.out]; rfl, by rw [HPP.out]; rfl⟩
              | (simp [intOf]; omega)
          · have he : ((x : Int) == (k : Int)) = false := by simp; omega
            have hne : ((x : Int) != (k : Int)) = true := by simp; omega
            rw [show (x == k) = false from beq_eq_false_iff_ne.2 hxk] at hs
            rw [show partB k x = inB x k by unfold partB; rw [show (x != k) = true from bne_iff_ne.2 hxk]; rfl] at hp
            have HS := hidMk hs
            have HPP := hidMk hp
            clear hs hp hxk
            generalize seenB qs k j = c at *
            generalize partTo qs k j = d at *
            generalize inB x k = z at *
            cases z <;> cases c <;> cases d <;> go_wp2 <;> go_round
            all_goals first
              | exact ⟨j + 1, by omega, by go_num, by rw [HS.out]; rfl, by rw [HPP.out]; rfl⟩
              | (simp [intOf]; omega)
        · obtain rfl : j = len := by omega
          have HI : Hid (isLeastB qs k = (seenB qs k j && !partTo qs k j)) := by
            show isLeastB qs k = (seenB qs k j && !partTo qs k j)
            unfold isLeastB leastB seenB partTo
            rw [List.take_of_length_le (by rw [HL.out]; exact Nat.le_refl _)]
          generalize seenB qs k j = c at *
          generalize partTo qs k j = d at *
          have hmiss : ∀ (c d : Bool), isLeastB qs k = (c && !d) → (c && !d) = false → Made wr w.heap.size u5 (leastsTo qs (k + 1)) := fun c d h h2 => by rw [leastsTo_miss (h.trans h2)]; exact hown
          have HMiss := hidMk hmiss
          clear hmiss
          cases c
          · go_wp2
            go_roundw
            case rel => exact ⟨k + 1, by omega, by omega, by go_num, hB, HMiss.out _ _ HI.out rfl⟩
            case measure => simp [intOf]; omega
          · cases d
            · have HX : Hid (isLeastB qs k = true) := HI.out
              clear HI HMiss
              have c2 : ∀ u ∈ [Value.int .u32 (k : Int)], u.oneCell' = true := by intro u hu; simp at hu; subst hu; rfl
              have c3 : (leastsTo qs k).length + 1 ≤ maxLen := by unfold maxLen; omega
              have c4 : ((leastsTo qs k).length + 1) * 4 ≤ 140737488355328 := by omega
              go_wp2_with (at_builtin; refine wpList_append_own _ rfl _ _ 22 rfl w.heap.size 34 i0 (.int .u32 0) 1 4 Try.underlying22 hi hz0 hz1 hz2 rfl (by decide) _ _ _ rfl (World.ownsRow.alloc hown _) ⟨wr.heap.size, 0, none⟩ 1 1 [.int .u32 (k : Int)] rfl rfl (cell_one_new _ _ _) c2 c3 c4 (by have := hB.size; simp; omega) ?_)
              intro v' w3 hown' hgrow _
              have hB4 : Below w.heap.size w w3 := (hB.alloc hB.size _).grown hgrow (by have := hB.size; simp; omega) (fun j e => (World.ownsRow.lt hown j e).1)
              obtain ⟨g', cap', rfl⟩ := ownsRow_succ hown'
              have HM2 : Hid (Made w3 w.heap.size (.slice (some ⟨g', 0, none⟩) ((leastsTo qs k).length + 1) cap') (leastsTo qs (k + 1))) := by
                show w3.ownsRow _ _ _ _ _ _
                rw [leastsTo_hit HX.out, List.length_append, List.map_append]
                exact hown'
              clear hown' hgrow hown hB
              go_wp2
              go_roundw
              case rel => exact ⟨k + 1, by omega, by omega, by go_num, hB4, HM2.out⟩
              case measure => simp [intOf]; omega
            · go_wp2
              go_roundw
              case rel => exact ⟨k + 1, by omega, by omega, by go_num, hB, HMiss.out _ _ HI.out rfl⟩
              case measure => simp [intOf]; omega
    · obtain rfl : k = M + 1 := by omega
      go_wp2
      go_ret
      exact ⟨_, rfl, hown, hB⟩

set_option maxHeartbeats 400000 in
theorem quorumLeasts_err (n c : Int) (a : Option Addr) (len cap : Nat) (w : World) (hc : (c != 0) = true)
    (hF : Calls Try.prog 17 #[.int .i64 n, .slice a len cap] w fun e w' => e = .returned (.tuple #[.slice none 0 0, .int .i64 c]) ∧ Below w.heap.size w w')
    (hR : ∀ w1, Below w.heap.size w w1 → Calls Try.prog 18 #[.int .i64 n, .slice a len cap] w1 fun e w' => e = .returned (.int .i64 c) ∧ w' = w1) :
    Calls Try.prog 6 #[.int .i64 n, .slice a len cap] w fun e w' => e = .returned (.bool true) ∧ Below w.heap.size w w' := by
  have HF := hidMk hF
  have HR := hidMk hR
  clear hF hR
  go_enter Try.func6, Try.ntmps6
  go_wp2_with (first | (go_at_call 17; refine (HF.out).mono ?_; rintro e w1 ⟨rfl, hB⟩) | (go_at_call 18; refine (HR.out _ hB).mono ?_; rintro e w2 ⟨rfl, hw⟩; obtain rfl := hw.symm))
  go_ret
  exact ⟨by simp, hB⟩

set_option maxHeartbeats 800000 in
theorem quorumLeasts_ok (n b off len cap : Nat) (qs : List Nat) (w : World) (hn : n ≤ 12) (hl : qs.length = len) (hl2 : len ≤ 64) (hx0 : ∀ x ∈ qs, 0 < x) (hq : Row w b off qs)
    (hF : Calls Try.prog 17 #[.int .i64 n, .slice (some ⟨b, off, none⟩) len cap] w fun e w' => ∃ v, e = .returned (.tuple #[v, .int .i64 0]) ∧ Made w' w.heap.size v (leastsTo qs (2 ^ n)) ∧ Below w.heap.size w w')
    (hR : ∀ w1, Below w.heap.size w w1 → Calls Try.prog 18 #[.int .i64 n, .slice (some ⟨b, off, none⟩) len cap] w1 fun e w' => e = .returned (.int .i64 0) ∧ w' = w1) :
    Calls Try.prog 6 #[.int .i64 n, .slice (some ⟨b, off, none⟩) len cap] w fun e w' => e = .returned (.bool true) ∧ Below w.heap.size w w' := by
  have HF := hidMk hF
  have HR := hidMk hR
  have HB : Hid (∀ w1, Below w.heap.size w w1 → Calls Try.prog 13 #[.int .i64 n, .slice (some ⟨b, off, none⟩) len cap] w1 fun e w' => ∃ v, e = .returned v ∧ Made w' w1.heap.size v (leastsTo qs (2 ^ n)) ∧ Below w1.heap.size w1 w') :=
    fun w1 hb => refLeast_row n b off len cap qs w1 hn hl hl2 hx0 (hq.below rfl hb)
  have HX : Hid (∀ x ∈ leastsTo qs (2 ^ n), x < 4294967296) := fun x hx => leastsTo_32 hn hx
  have hLl := leastsTo_len' qs hn
  generalize leastsTo qs (2 ^ n) = L at *
  clear hF hR hl hx0
  have hLl' : ((L.length : Nat) : Int) ≤ 4096 := by omega
  go_enter Try.func6, Try.ntmps6
  go_wp2_with (first
    | (go_at_call 17; refine (HF.out).mono ?_; rintro e w1 ⟨v, rfl, hM, hB⟩; obtain ⟨a1, c1, rfl, hC1, _⟩ := came_owned hM HX.out)
    | (go_at_call 18; refine (HR.out _ hB).mono ?_; rintro e w2 ⟨rfl, hw⟩; obtain rfl := hw.symm)
    | (go_at_call 13; refine (HB.out _ hB).mono ?_; rintro e w2 ⟨v, rfl, hM2, hB2⟩; obtain ⟨a2, c2, rfl, hC2, _⟩ := came_owned hM2 HX.out)
    | (go_at_call 12; refine (words_any a1 a2 _ _ c1 c2 L L _ hLl hLl (hC1.below hB2) hC2).mono ?_; rintro e w3 ⟨rfl, hB3⟩))
  go_ret
  exact ⟨by simp, (hB.trans (hB2.mono hB.size)).trans (hB3.mono (Nat.le_trans hB.size hB2.size))⟩

theorem quorumLeasts_walk (n : Int) (a : Option Addr) (len cap : Nat) (qs : List Nat) (w : World) (h : Came32 w a len cap qs) :
    Calls Try.prog 6 #[.int .i64 n, .slice a len cap] w fun e w' => e = .returned (.bool true) ∧ Below w.heap.size w w' := by
  have hF := family_any n a len cap qs w h
  have hR : ∀ w1, Below w.heap.size w w1 → _ := fun w1 hb => refFamily_any n a len cap qs w1 (h.below hb)
  by_cases hc : famCodeOf n qs = 0
  · rw [hc] at hF
    simp only [hc] at hR
    obtain ⟨z1, z2, z3, z4, z5⟩ := famCodeOf_zero hc
    obtain ⟨h1, h2, h3, h4⟩ := h
    obtain ⟨b, off, rfl, hq⟩ := h4.resolve_left (by omega)
    obtain ⟨k, rfl⟩ := Int.eq_ofNat_of_zero_le (by omega : 0 ≤ n)
    rw [Int.toNat_natCast] at z5
    exact quorumLeasts_ok k b off len cap qs w (by omega) h1 (by omega) (fun x hx => (good_lt z5 hx).1) hq (least_row k b off len cap qs w h1 (by omega) (by omega) (fun x hx => (good_lt z5 hx).2) hq hF) hR
  · have hc' : (famCodeOf n qs != 0) = true := by simpa using hc
    exact quorumLeasts_err n _ a len cap w hc' (least_err n _ a len cap w hc' hF) hR
end Go.Proofs.Ytblinhncklpidaa
