/- Contracts of quorum.leastBlocks and folkmootref.Blocks: the same new list of sets, rising. -/
import Derived.Test.YtblinhncklpidaaC2
import Derived.Maps.AppendAt
namespace Go.Proofs.Ytblinhncklpidaa
open Go.RowKit

/-- A number as a cell holds it. -/
def enc32 (x : Nat) : Value := .int .u32 (x : Int)
/-- s is a least set that meets each. -/
def blockB (qs : List Nat) (s : Nat) : Bool := meetsB qs s && needsB qs s
/-- The first k sets, those that are least. -/
def blocksTo (qs : List Nat) (k : Nat) : List Nat := (List.range k).filter (blockB qs)

theorem blocksTo_hit {qs : List Nat} {k : Nat} (h : blockB qs k = true) : blocksTo qs (k + 1) = blocksTo qs k ++ [k] := by
  unfold blocksTo; rw [List.range_succ, List.filter_append]; simp [h]
theorem blocksTo_miss {qs : List Nat} {k : Nat} (h : blockB qs k = false) : blocksTo qs (k + 1) = blocksTo qs k := by
  unfold blocksTo; rw [List.range_succ, List.filter_append]; simp [h]
theorem blocksTo_len (qs : List Nat) (k : Nat) : (blocksTo qs k).length ≤ k := by
  unfold blocksTo
  have := List.length_filter_le (blockB qs) (List.range k)
  simpa using this
theorem blocksTo_lt {qs : List Nat} {k x : Nat} (h : x ∈ blocksTo qs k) : x < k := List.mem_range.1 (List.mem_filter.1 h).1

theorem below_grown {w w' : World} (h : Below w.heap.size w w') : w.grownBy w' none := ⟨h.os, h.tape, h.output, h.size, fun i hi _ => h.block i hi⟩
theorem owns_below {w w' : World} {base : Nat} {e : TypeId} {size : Nat} {v : Value} {n : Nat} {xs : List Value} (h : w.ownsRow base e size v n xs) (hb : Below w.heap.size w w') : w'.ownsRow base e size v n xs := by
  refine h.kept (below_grown hb) ?_
  cases hv : v.ownBlock with
  | none => exact .inl rfl
  | some k => exact .inr (by simp)

theorem Try.info34 : (Try.prog.info? 34).map (fun i => (i.zero, i.size, i.bytes)) = some (some (.int .u32 0), 1, 4) := by kernel_rfl

/-- A list that the call has made: its slice, its cells. -/
def Made (w : World) (base : Nat) (v : Value) (L : List Nat) : Prop := w.ownsRow base 34 1 v L.length (L.map enc32)

theorem Made.below {w w' : World} {base : Nat} {v : Value} {L : List Nat} (h : Made w base v L) (hb : Below w.heap.size w w') : Made w' base v L := owns_below h hb

theorem made_grown {w w' : World} {base : Nat} {v : Value} {L : List Nat} (h : Made w base v L) (hg : w.grownBy w' v.ownBlock) {w0 : World} (hB : Below base w0 w) (hsz : base ≤ w.heap.size) : Below base w0 w' :=
  hB.grown hg hsz (fun k e => (World.ownsRow.lt h k e).1)

set_option maxHeartbeats 1000000 in
theorem leastBlocks_row (n b off len cap : Nat) (qs : List Nat) (w : World) (hn : n ≤ 12) (hl : qs.length = len) (hl2 : len ≤ 4096) (hq : Row w b off qs) :
    Calls Try.prog 26 #[.int .i64 n, .slice (some ⟨b, off, none⟩) len cap] w fun e w' => ∃ v, e = .returned v ∧ Made w' w.heap.size v (blocksTo qs (2 ^ n)) ∧ Below w.heap.size w w' := by
  obtain ⟨i0, hi, hz0, hz1, hz2⟩ := info_parts Try.info34
  have HL := hidMk hl
  clear hl
  have HA := allMembers_any n hn
  have hp : 0 < 2 ^ n := Nat.two_pow_pos n
  have hp2 : 2 ^ n ≤ 4096 := Nat.le_trans (Nat.pow_le_pow_right (by omega) hn) (by decide)
  obtain ⟨M, hM⟩ : ∃ M, 2 ^ n = M + 1 := ⟨2 ^ n - 1, by omega⟩
  rw [hM, Nat.add_sub_cancel] at HA
  rw [hM] at hp2 ⊢
  have hM' : (M : Int) ≤ 4095 := by omega
  clear hM hp
  have HA' := hidMk HA
  clear HA
  go_enter Try.func26, Try.ntmps26
  go_wp2_with (go_at_call 35; refine (HA'.out _).mono ?_; rintro e w' ⟨rfl, hw⟩; obtain rfl := hw.symm)
  go_loopw [5, 10] (fun v i wr => ∃ k : Nat, k ≤ M + 1 ∧ i = .int .u32 (k : Int) ∧ Below w.heap.size w wr ∧ Made wr w.heap.size v (blocksTo qs k)) (fun _ i _ => M + 1 - (intOf i).toNat)
  case atStart => exact ⟨0, Nat.zero_le _, rfl, Below.refl _ _, World.ownsRow_nil _ _ _ _⟩
  case round =>
    obtain ⟨k, hk, rfl, hB, hown⟩ := hrel
    by_cases hlt : k < M + 1
    · have hlt' : (k : Int) < (M : Int) + 1 := by omega
      have hk' : (k : Int) ≤ 4095 := by omega
      have hk32 : k < 4294967296 := by omega
      have HM := hidMk (meetsEach_nat k b off len cap qs wr hk32 HL.out hl2 (hq.below rfl hB))
      have hkl := blocksTo_len qs k
      cases hm : meetsB qs k
      · have HX : Hid (blockB qs k = false) := by show blockB qs k = false; unfold blockB; rw [hm]; rfl
        rw [hm] at HM
        clear hm
        go_wp2_with (go_at_call 41; refine (HM.out).mono ?_; rintro e w1 ⟨rfl, hB1⟩)
        go_roundw
        case rel => exact ⟨k + 1, by omega, by go_num, hB.trans (hB1.mono hB.size), by rw [blocksTo_miss HX.out]; exact hown.below hB1⟩
        case measure => simp [intOf]; omega
      · have HN : Hid (∀ w1, Below w.heap.size w w1 → Calls Try.prog 42 #[.int .u32 (k : Int), .slice (some ⟨b, off, none⟩) len cap] w1 fun e w' => e = .returned (.bool (needsB qs k)) ∧ Below w1.heap.size w1 w') :=
          fun w1 hb => needs_row k b off len cap qs w1 hk32 HL.out hl2 (hq.below rfl hb)
        rw [hm] at HM
        cases hn2 : needsB qs k
        · have HX : Hid (blockB qs k = false) := by show blockB qs k = false; unfold blockB; rw [hm, hn2]; rfl
          rw [hn2] at HN
          clear hm hn2
          go_wp2_with (first | (go_at_call 41; refine (HM.out).mono ?_; rintro e w1 ⟨rfl, hB1⟩) | (go_at_call 42; refine (HN.out _ (hB.trans (hB1.mono hB.size))).mono ?_; rintro e w2 ⟨rfl, hB2⟩))
          go_roundw
          case rel => exact ⟨k + 1, by omega, by go_num, (hB.trans (hB1.mono hB.size)).trans (hB2.mono (Nat.le_trans hB.size hB1.size)), by rw [blocksTo_miss HX.out]; exact (hown.below hB1).below hB2⟩
          case measure => simp [intOf]; omega
        · have HX : Hid (blockB qs k = true) := by show blockB qs k = true; unfold blockB; rw [hm, hn2]; rfl
          rw [hn2] at HN
          clear hm hn2
          go_wp2_with (first | (go_at_call 41; refine (HM.out).mono ?_; rintro e w1 ⟨rfl, hB1⟩) | (go_at_call 42; refine (HN.out _ (hB.trans (hB1.mono hB.size))).mono ?_; rintro e w2 ⟨rfl, hB2⟩; have hown2 := (hown.below hB1).below hB2; have hB3 := (hB.trans (hB1.mono hB.size)).trans (hB2.mono (Nat.le_trans hB.size hB1.size)); clear hB hB1 hB2 hown) | (at_builtin; refine wpList_append_own _ rfl _ _ 22 rfl w.heap.size 34 i0 (.int .u32 0) 1 4 Try.underlying22 hi hz0 hz1 hz2 rfl (by decide) _ _ _ rfl (World.ownsRow.alloc hown2 _) ⟨w2.heap.size, 0, none⟩ 1 1 [.int .u32 (k : Int)] rfl rfl ?c1 ?c2 ?c3 ?c4 ?c5 ?_))
          case c1 => exact cell_one_new _ _ _
          case c2 => intro u hu; simp at hu; subst hu; rfl
          case c3 => unfold maxLen; omega
          case c4 => omega
          case c5 => have := hB3.size; simp; omega
          intro v' w3 hown' hgrow _
          have hB4 : Below w.heap.size w w3 := (hB3.alloc hB3.size _).grown hgrow (by have := hB3.size; simp; omega) (fun j e => (World.ownsRow.lt hown2 j e).1)
          obtain ⟨g', cap', rfl⟩ := ownsRow_succ hown'
          have HM2 : Hid (Made w3 w.heap.size (.slice (some ⟨g', 0, none⟩) ((blocksTo qs k).length + 1) cap') (blocksTo qs (k + 1))) := by
            show w3.ownsRow _ _ _ _ _ _
            rw [blocksTo_hit HX.out, List.length_append, List.map_append]
            exact hown'
          clear hown' hgrow hown2 hB3
          go_wp2
          go_roundw
          case rel => exact ⟨k + 1, by omega, by go_num, hB4, HM2.out⟩
          case measure => simp [intOf]; omega
    · obtain rfl : k = M + 1 := by omega
      go_wp2
      go_ret
      exact ⟨_, rfl, hown, hB⟩
end Go.Proofs.Ytblinhncklpidaa
