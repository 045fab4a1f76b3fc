/- allInside, away. -/
import Derived.Test.YtaojmbebkggafaaMa8
namespace Go.Proofs.Ytaojmbebkggafaa
open Go.RowKit Go.WideMaps
set_option linter.unusedVariables false

variable {W W2 : World} {mb n : Nat} {s : MS} {h h2 : MSh}
def insTo (s : MS) (k : Nat) : List Nat := (List.range k).filter fun i => (s.pr i).st == 2
theorem insTo_succ (s : MS) (k : Nat) : insTo s (k + 1) = if (s.pr k).st = 2 then insTo s k ++ [k] else insTo s k := by
  unfold insTo
  rw [List.range_succ, List.filter_append]
  by_cases e : (s.pr k).st = 2
  · rw [if_pos e]; simp [e]
  · rw [if_neg e]; simp [e]
theorem insTo_len (s : MS) (k : Nat) : (insTo s k).length ≤ k := by
  unfold insTo
  have := List.length_filter_le (fun i => (s.pr i).st == 2) (List.range k)
  simpa using this

set_option maxRecDepth 100000 in
set_option maxHeartbeats 8000000 in
theorem inside_any (m : Mmov W mb n s h) (hn : n ≤ 6) :
    Calls Try.prog 10 #[.pointer (some ⟨mb, 0, none⟩)] W fun e W2 => ∃ a c, e = .returned (.slice a (insideM n s).length c) ∧ RowI W2 a (insideM n s).length c (natsI (insideM n s)) ∧ (∀ x, a = some x → W.heap.size ≤ x.block) ∧ Stil W W2 := by
  obtain ⟨c0, c1, c2, cf⟩ := m.cells
  obtain ⟨i0, hit, hz0, hz1, hz2⟩ := info_parts cInfoInt
  have HM := hidMk m
  have hn6 : (n : Int) ≤ 6 := by omega
  have hE : insideM n s = insTo s n := rfl
  rw [hE]
  clear m hE c1 c2 cf
  go_enter Try.func10, Try.ntmps10
  go_wp2
  go_loopw [3, 11] (fun v u wr => ∃ k : Nat, k ≤ n ∧ u = .int .i64 (k : Int) ∧ Hid (Seg wr (fun g => W.heap.size ≤ g) 3 1 v (insTo s k).length (natsL (insTo s k))) ∧ Hid (Stil W wr)) (fun _ u _ => n - (intOf u).toNat)
  case atStart => exact ⟨0, Nat.zero_le _, rfl, Seg.nil _ _ _ _, Keep.refl _ _⟩
  case round =>
    obtain ⟨k, hk, rfl, HG, HS⟩ := hrel
    obtain ⟨sa, scp, hv⟩ := segForm HG.out
    subst hv
    by_cases hlt : k < n
    · have hlt' : (k : Int) < (n : Int) := by omega
      obtain ⟨p0, p1, p2, p3, p4, p5, pf⟩ := (HM.out.still HS.out).proc hlt
      obtain ⟨wa, wc9, hwv⟩ := segForm (HM.out.wt hlt)
      rw [hwv] at p5
      have hle := insTo_len s k
      have HE : Hid (insTo s (k + 1) = if (s.pr k).st = 2 then insTo s k ++ [k] else insTo s k) := insTo_succ s k
      clear hwv pf
      generalize (s.pr k).num = v0 at *
      generalize (s.pr k).st = v1 at *
      generalize (s.pr k).kn = v2 at *
      generalize (s.pr k).kp = v3 at *
      generalize (s.pr k).yes = v4 at *
      generalize (s.pr k).wait.length = v5 at *
      generalize hsl : (insTo s k).length = sl at *
      by_cases e1 : v1 = 2
      · subst e1
        have HE2 : Hid (insTo s (k + 1) = insTo s k ++ [k]) := by show _ = _; rw [HE.out]; simp
        have HN : Hid (W.heap.size ≤ wr.heap.size) := HS.out.size
        clear HE
        go_wp2_with (at_builtin; refine wpList_append_seg _ rfl _ _ 24 rfl 3 i0 (.int .i64 0) 1 8 Try.underlying24 hit hz0 hz1 hz2 rfl (by decide) _ _ _ rfl (segAlloc (segAlloc HG.out _) _) ⟨wr.heap.size + 1, 0, none⟩ 1 1 [.int .i64 (k : Int)] rfl rfl (cCell1 (wr.alloc (.cells #[.int .i64 (v0 : Int), .int .i64 2, .int .i64 (v2 : Int), .int .i64 (v3 : Int), .int .i64 (v4 : Int), .slice wa v5 wc9] 61)) _ _ _ (by simp)) (cOne _) (by unfold maxLen; omega) (by omega) ?_)
        intro v9 w9 hs9 hg9
        have HG9 : Hid (Seg w9 (fun g => W.heap.size ≤ g) 3 1 v9 (insTo s (k + 1)).length (natsL (insTo s (k + 1)))) := by
          show Seg _ _ _ _ _ _ _
          rw [HE2.out, List.length_append, hsl]
          have e : natsL (insTo s k ++ [k]) = natsL (insTo s k) ++ [.int .i64 (k : Int)] := by simp [natsL]
          rw [e]
          refine hs9.mono (fun g _ h => ?_)
          rcases h with ⟨_, h⟩ | h
          · exact h
          · have h9 := HN.out; rw [h]; omega
        have HS9 : Hid (Stil W w9) := ((HS.out.alloc _).alloc _).grown hg9 (fun g e hg => by
          have := (HG.out.block e).1
          omega)
        obtain ⟨sa3, sc3, hv3⟩ := segForm hs9
        subst hv3
        clear hs9 hg9 HG HS
        go_wp2
        go_roundw
        case rel => exact ⟨k + 1, by omega, by go_num, HG9, HS9⟩
        case measure => simp [intOf]; omega
      · have e1' : ((v1 : Int) == 2) = false := by rw [beq_eq_false_iff_ne]; omega
        have HE2 : Hid (insTo s (k + 1) = insTo s k) := by show _ = _; rw [HE.out, if_neg e1]
        clear HE e1
        go_wp2
        go_roundw
        case rel => exact ⟨k + 1, by omega, by go_num, hidMk (by rw [HE2.out, hsl]; exact segAlloc HG.out _), HS.out.alloc _⟩
        case measure => simp [intOf]; omega
    · obtain rfl : k = n := by omega
      have hsr := hidMk (seg_row HG.out)
      go_wp2
      go_ret
      refine ⟨sa, scp, rfl, hsr.out, fun x e => ?_, HS.out⟩
      exact (HG.out.block (k := x.block) (by rw [e]; rfl)).1

/-! What is on the ways. -/
theorem awayTo_congr {f g : Nat → Nat} : ∀ n, (∀ m, m < n → f m = g m) → awayTo f n = awayTo g n
  | 0, _ => rfl
  | n + 1, h => by unfold awayTo; rw [awayTo_congr n (fun m hm => h m (by omega)), h n (by omega)]
theorem awayTo_one {f g : Nat → Nat} {i : Nat} : ∀ n, i < n → (∀ m, m < n → m ≠ i → f m = g m) → awayTo f n + g i = awayTo g n + f i
  | 0, h, _ => by omega
  | n + 1, hi, h => by
    unfold awayTo
    by_cases e : i = n
    · subst e
      rw [awayTo_congr i (f := f) (g := g) (fun m hm => h m (by omega) (by omega))]
      omega
    · have := awayTo_one (f := f) (g := g) n (by omega) (fun m hm => h m (by omega))
      rw [h n (by omega) (by omega)]
      omega
theorem awayTo_zero {f : Nat → Nat} : ∀ n, (∀ m, m < n → f m = 0) → awayTo f n = 0
  | 0, _ => rfl
  | n + 1, h => by unfold awayTo; rw [awayTo_zero n (fun m hm => h m (by omega)), h n (by omega)]
theorem awayTo_le {f : Nat → Nat} {c : Nat} : ∀ n, (∀ m, m < n → f m ≤ c) → awayTo f n ≤ n * c
  | 0, _ => by simp [awayTo]
  | n + 1, h => by
    unfold awayTo
    have := awayTo_le (f := f) (c := c) n (fun m hm => h m (by omega))
    have := h n (by omega)
    rw [Nat.add_mul, Nat.one_mul]
    omega
/-- What is on the ways that have been counted. -/
def cnt (n : Nat) (s : MS) (left : Lit → Bool) : Nat := awayTo (fun i => awayTo (fun j => if left (pairL i j) = true then 0 else (s.ways i j).length) n) n
theorem cnt_done (n : Nat) (s : MS) {left : Lit → Bool} (h : ∀ kl, left kl = false) : cnt n s left = awayM n s := by
  unfold cnt awayM
  refine awayTo_congr n (fun i _ => awayTo_congr n (fun j _ => ?_))
  rw [if_neg (by rw [h]; simp)]
theorem pairL_same {i j a b : Nat} (hi : i < 1000) (hj : j < 1000) (ha : a < 1000) (hb : b < 1000) : (pairL i j).sameKey (pairL a b) = decide (i = a ∧ j = b) := by
  by_cases e : i = a ∧ j = b
  · obtain ⟨rfl, rfl⟩ := e
    rw [WideAt.sameKey_self (wayMap.keyed.key (wayMap.key hi hj))]; simp
  · rw [Maps.sameKey_ne (fun e2 => e (wayMap.inj hi hj ha hb e2))]; simp [e]
theorem cnt_step {n : Nat} (hn : n ≤ 1000) (s : MS) {left : Lit → Bool} {a b : Nat} (ha : a < n) (hb : b < n) (hl : left (pairL a b) = true) : cnt n s (fun z => left z && !z.sameKey (pairL a b)) = cnt n s left + (s.ways a b).length := by
  unfold cnt
  have h1 := awayTo_one (f := fun i => awayTo (fun j => if (left (pairL i j) && !(pairL i j).sameKey (pairL a b)) = true then 0 else (s.ways i j).length) n) (g := fun i => awayTo (fun j => if left (pairL i j) = true then 0 else (s.ways i j).length) n) (i := a) n ha (fun i hi hne => by
    refine awayTo_congr n (fun j hj => ?_)
    rw [pairL_same (by omega) (by omega) (by omega) (by omega), decide_eq_false (fun e => hne e.1)]
    simp)
  have h2 := awayTo_one (f := fun j => if (left (pairL a j) && !(pairL a j).sameKey (pairL a b)) = true then 0 else (s.ways a j).length) (g := fun j => if left (pairL a j) = true then 0 else (s.ways a j).length) (i := b) n hb (fun j hj hne => by
    rw [pairL_same (by omega) (by omega) (by omega) (by omega), decide_eq_false (fun e => hne e.2)]
    simp)
  have k1 : (if left (pairL a b) = true then 0 else (s.ways a b).length) = 0 := if_pos hl
  have k2 : (if (left (pairL a b) && !(pairL a b).sameKey (pairL a b)) = true then 0 else (s.ways a b).length) = (s.ways a b).length := by
    rw [pairL_same (by omega) (by omega) (by omega) (by omega), decide_eq_true ⟨rfl, rfl⟩]; simp
  change _ + (if left (pairL a b) = true then 0 else (s.ways a b).length) = _ + (if (left (pairL a b) && !(pairL a b).sameKey (pairL a b)) = true then 0 else (s.ways a b).length) at h2
  rw [k1, k2] at h2
  change _ + awayTo (fun j => if left (pairL a j) = true then 0 else (s.ways a j).length) n = _ + awayTo (fun j => if (left (pairL a j) && !(pairL a j).sameKey (pairL a b)) = true then 0 else (s.ways a j).length) n at h1
  show awayTo (fun i => awayTo (fun j => if (left (pairL i j) && !(pairL i j).sameKey (pairL a b)) = true then 0 else (s.ways i j).length) n) n = awayTo (fun i => awayTo (fun j => if left (pairL i j) = true then 0 else (s.ways i j).length) n) n + (s.ways a b).length
  omega
theorem cnt_le {n k : Nat} {s : MS} (hB : ∀ i j, i < n → j < n → (s.ways i j).length ≤ k) (left : Lit → Bool) : cnt n s left ≤ n * (n * k) := by
  unfold cnt
  refine awayTo_le n (fun i hi => awayTo_le n (fun j hj => ?_))
  split
  · exact Nat.zero_le _
  · exact hB i j hi hj

set_option maxRecDepth 100000 in
set_option maxHeartbeats 8000000 in
theorem away_any (m : Mmov W mb n s h) (hn : n ≤ 6) {k : Nat} (hk : k ≤ 1000) (hB : ∀ i j, i < n → j < n → (s.ways i j).length ≤ k) :
    Calls Try.prog 11 #[.pointer (some ⟨mb, 0, none⟩)] W fun e W2 => e = .returned (.int .i64 (awayM n s : Int)) ∧ Stil W W2 := by
  obtain ⟨c0, c1, c2, cf⟩ := m.cells
  have HM := hidMk m
  obtain ⟨D, hown, hat0, hkeys⟩ := m.map
  have hst : cnt n s (Maps.has D) = 0 := by
    unfold cnt
    refine awayTo_zero n (fun i hi => awayTo_zero n (fun j hj => ?_))
    split
    · rfl
    · rename_i e
      have e2 : Maps.has D (pairL i j) = false := by simpa using e
      have h1 := hat0 i j (by omega) (by omega)
      rw [Maps.atKey_of_not_has e2] at h1
      have h2 : h.f i j = nilV := by simpa using h1.symm
      obtain ⟨h3, h4⟩ := m.wy hi hj
      rw [h2] at h4
      rcases h4 with ⟨_, h4⟩ | ⟨g, off, cap, cur, h4, _⟩
      · exact h4
      · cases h4
  have hle : ∀ left, cnt n s left ≤ 36000 := fun left => by
    have h1 := cnt_le hB left
    have h2 : n * (n * k) ≤ 6 * (6 * 1000) := Nat.mul_le_mul hn (Nat.mul_le_mul hn hk)
    omega
  have HAt := hidMk hat0
  have HKy := hidMk hkeys
  have HLe := hidMk hle
  have HSt := hidMk hst
  clear m hat0 hkeys hle hst hB c0 c2 cf
  go_enter Try.func11, Try.ntmps11
  go_wp2_with (at_range; refine wpList_range_own _ rfl _ 35 rfl 63 24 wayMap.keyed wayMap.hT heldR h.M h.c D rfl hown ?_; intro w0 hrg0 hg0 hs0)
  go_frame
  have HK0 : Hid (Stil W w0) := (Keep.of_grown hg0).mono (fun _ _ e => by cases e)
  go_loopw [3] (fun v wr => ∃ (left : Lit → Bool) (c : Nat), wr.ranges Try.prog 63 heldR h.M W.heap.size h.c D left c ∧ v = .int .i64 (cnt n s left : Int) ∧ Hid (Stil W wr) ∧ Hid (∀ kl, left kl = true → Maps.has D kl = true)) (fun _ wr => wr.rangeLeft h.M W.heap.size)
  case atStart => exact ⟨_, _, hrg0, by rw [HSt.out]; rfl, HK0, fun _ e => e⟩
  case round =>
    obtain ⟨left, c, hrg, rfl, HK, HL⟩ := hrel
    go_wp2_with (at_next; refine wpList_next_ranges _ rfl _ rfl 63 wayMap.keyed heldR (fun v : Value => v) (fun v : Value => v) (fun key _ _ => ⟨key, rfl⟩) (fun v _ _ => ⟨v, rfl⟩) h.M W.heap.size h.c D left c rfl hrg ?_ ?_)
    · intro _ hl0
      go_wp2
      go_ret
      exact ⟨by rw [cnt_done n s hl0]; rfl, HK.out⟩
    · intro x v kl yd yl w1 cnt1 hkx hlx hy hat hrg1 hlt hg1 hs1 hen
      obtain ⟨a, b, ha, hb, rfl⟩ := HKy.out kl (HL.out kl hlx)
      have hv : v = h.f a b := by
        have e1 := HAt.out a b (by omega) (by omega)
        rw [hat] at e1
        have e2 : DataW.held v = yd := by
          have e3 : (some (DataW.held v, []) : Option (DataW Value × List MemPlace)) = some (yd, yl) := hy
          simp only [Option.some.injEq, Prod.mk.injEq] at e3
          exact e3.1
        rw [← e2] at e1
        simpa using e1
      obtain ⟨ta, tc, et⟩ := segForm (HM.out.wy ha hb)
      rw [et] at hv
      subst hv
      have hcs := cnt_step (by omega) s ha hb hlx
      have hl1 := HLe.out left
      have hl2 := HLe.out (fun z => left z && !z.sameKey (pairL a b))
      have HK1 : Hid (Stil W w1) := HK.out.grown hg1 (fun k e hk => by cases e; omega)
      have HL1 : Hid (∀ kl, (left kl && !kl.sameKey (pairL a b)) = true → Maps.has D kl = true) := fun kl e => HL.out kl (by simp at e; exact e.1)
      have hme : w1.rangeLeft h.M W.heap.size < wr.rangeLeft h.M W.heap.size := by rw [hrg1.left_eq, hrg.left_eq]; exact hlt
      have HC := hidMk hcs
      generalize hcl : cnt n s left = cl at *
      generalize hcl2 : (s.ways a b).length = ln at *
      have hw1 : IntKind.i64.wrap ((cl : Int) + (ln : Int)) = ((cl + ln : Nat) : Int) := by
        rw [show ((cl : Int) + (ln : Int)) = ((cl + ln : Nat) : Int) from by omega]
        exact wrap_of ⟨by omega, by omega⟩
      have HRG := hidMk hrg1
      clear hrg1 hrg hlt hg1 hs1 hat hkx hlx hy hcs hl1 hl2
      go_wp2
      go_roundw
      case rel => exact ⟨_, cnt1, HRG.out, by rw [HC.out]; go_num, HK1, HL1⟩
      case measure => exact hme
end Go.Proofs.Ytaojmbebkggafaa
