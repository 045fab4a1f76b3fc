/- The document's Bakery, walked. -/
import Derived.Test.YtgnigjfgddhgiaaBc0
import Derived.Test.YtgnigjfgddhgiaaR4
namespace Go.Proofs.Ytgnigjfgddhgiaa
open Go.RowKit
set_option linter.unusedVariables false

theorem blk0 (w : World) (c0 : Array Value) (t0 : TypeId) (B C D : Obj) : ((((w.alloc (.cells c0 t0)).alloc B).alloc C).alloc D).heap[w.heap.size]? = some (.cells c0 t0 (0, 0)) := by
  rw [al_old _ _ _ (by simp <;> omega), al_old _ _ _ (by simp <;> omega), al_old _ _ _ (by simp), al_new]
theorem blk1 (w : World) (c0 : Array Value) (t0 : TypeId) (B C D : Obj) : ((((w.alloc B).alloc (.cells c0 t0)).alloc C).alloc D).heap[w.heap.size + 1]? = some (.cells c0 t0 (0, 0)) := by
  rw [al_old _ _ _ (by simp <;> omega), al_old _ _ _ (by simp)]
  have := al_new (w.alloc B) (.cells c0 t0)
  simpa using this
theorem blk2 (w : World) (c0 : Array Value) (t0 : TypeId) (B C D : Obj) : ((((w.alloc B).alloc C).alloc (.cells c0 t0)).alloc D).heap[w.heap.size + 1 + 1]? = some (.cells c0 t0 (0, 0)) := by
  rw [al_old _ _ _ (by simp)]
  have := al_new ((w.alloc B).alloc C) (.cells c0 t0)
  simpa using this
theorem blk3 (w : World) (c0 : Array Value) (t0 : TypeId) (B C D : Obj) : ((((w.alloc B).alloc C).alloc D).alloc (.cells c0 t0)).heap[w.heap.size + 1 + 1 + 1]? = some (.cells c0 t0 (0, 0)) := by
  have := al_new (((w.alloc B).alloc C).alloc D) (.cells c0 t0)
  simpa using this
/-- The first blocks, in whatever order they were laid. -/
def FirstB (w : World) (n r o A T C : Nat) : Prop := w.heap[A]? = some (.cells (rowN n fun _ => 0).toArray 3 (0, 0)) ∧ w.heap[T]? = some (.cells (rowN n fun _ => 0).toArray 3 (0, 0)) ∧ w.heap[C]? = some (.cells (rowBo n fun _ => false).toArray 4 (0, 0)) ∧
  w.heap[o]? = some (.cells #[.slice none 0 0, .slice (some ⟨A, 0, none⟩) n n, .slice (some ⟨T, 0, none⟩) n n, .slice (some ⟨C, 0, none⟩) n n, .slice none 0 0] 26 (0, 0)) ∧ A ≠ T ∧ A ≠ C ∧ T ≠ C ∧ o ≠ A ∧ o ≠ T ∧ o ≠ C ∧ r < o ∧ r < A ∧ r < T ∧ r < C
theorem firstB_ex {w w0 : World} {n r o A T C : Nat} (hK : Stil w0 w) (ho : w.heap[o]? = some (.cells #[.slice none 0 0, .slice (some ⟨A, 0, none⟩) n n, .slice (some ⟨T, 0, none⟩) n n, .slice (some ⟨C, 0, none⟩) n n, .slice none 0 0] 26 (0, 0)))
    (hA : w.heap[A]? = some (.cells (rowN n fun _ => 0).toArray 3 (0, 0))) (hT : w.heap[T]? = some (.cells (rowN n fun _ => 0).toArray 3 (0, 0))) (hC : w.heap[C]? = some (.cells (rowBo n fun _ => false).toArray 4 (0, 0)))
    (d1 : A ≠ T) (d2 : A ≠ C) (d3 : T ≠ C) (d4 : o ≠ A) (d5 : o ≠ T) (d6 : o ≠ C) (d7 : r < o) (d8 : r < A) (d9 : r < T) (d10 : r < C) :
    ∃ o' A' T' C', (Value.pointer (some ⟨o, 0, none⟩)) = .pointer (some ⟨o', 0, none⟩) ∧ Hid (FirstB w n r o' A' T' C') ∧ Hid (Stil w0 w) :=
  ⟨o, A, T, C, rfl, ⟨hA, hT, hC, ho, d1, d2, d3, d4, d5, d6, d7, d8, d9, d10⟩, hK⟩
theorem refLess_any (W : World) (a b c d : Nat) : Calls Try.prog 17 #[.agg #[.int .i64 (a : Int), .int .i64 (b : Int)], .agg #[.int .i64 (c : Int), .int .i64 (d : Int)]] W fun e W2 => e = .returned (.bool (blt a b c d)) ∧ Stil W W2 := by
  have HK : Hid (Stil W ((W.alloc (.cells #[.int .i64 (a : Int), .int .i64 (b : Int)] 47)).alloc (.cells #[.int .i64 (c : Int), .int .i64 (d : Int)] 47))) := hidMk (((Keep.refl _ W).alloc _).alloc _)
  by_cases h1 : a < c
  · have e1 : decide ((a : Int) < (c : Int)) = true := decide_eq_true (by omega)
    have e2 : blt a b c d = true := by unfold blt; exact decide_eq_true (.inl h1)
    rw [e2]
    go_enter Try.func17, Try.ntmps17
    go_wp2
    go_ret
    exact ⟨rfl, HK.out⟩
  · have e1 : decide ((a : Int) < (c : Int)) = false := decide_eq_false (by omega)
    by_cases h2 : a = c
    · subst h2
      have e3 : blt a b a d = decide (b < d) := by
        unfold blt
        by_cases hb : b < d
        · rw [decide_eq_true (by omega), decide_eq_true (by omega)]
        · rw [decide_eq_false (by omega), decide_eq_false (by omega)]
      rw [e3]
      by_cases hb : b < d
      · have e4 : decide ((b : Int) < (d : Int)) = true := decide_eq_true (by omega)
        rw [decide_eq_true hb]
        go_enter Try.func17, Try.ntmps17
        go_wp2
        go_ret
        exact ⟨rfl, HK.out⟩
      · have e4 : decide ((b : Int) < (d : Int)) = false := decide_eq_false (by omega)
        rw [decide_eq_false hb]
        go_enter Try.func17, Try.ntmps17
        go_wp2
        go_ret
        exact ⟨rfl, HK.out⟩
    · have e5 : ((a : Int) == (c : Int)) = false := by rw [beq_eq_false_iff_ne]; omega
      have e2 : blt a b c d = false := by unfold blt; exact decide_eq_false (by omega)
      rw [e2]
      go_enter Try.func17, Try.ntmps17
      go_wp2
      go_ret
      exact ⟨rfl, HK.out⟩

/-- One that begins, without its codes: the document's list grows. -/
def bcL (n : Nat) (zs : List Int) (k : Nat) : List Int := (List.range k).map (bcAt n zs)
theorem bcL_succ (n : Nat) (zs : List Int) (k : Nat) : bcL n zs (k + 1) = bcL n zs k ++ [bcAt n zs k] := by simp [bcL, List.range_succ]
theorem bcL_len (n : Nat) (zs : List Int) (k : Nat) : (bcL n zs k).length = k := by simp [bcL]

structure Kept (P : Prop) : Prop where
  out : P
structure Parts (M : Prop) where
  FIRST : Prop
  ARM0 : Prop
  ARM1 : Prop
  ARM2 : Prop
  ARM3 : Prop
  ARM4 : Prop
  ARM5 : Prop
  whole : FIRST → ARM0 → ARM1 → ARM2 → ARM3 → ARM4 → ARM5 → M
def parts {M FIRST ARM0 ARM1 ARM2 ARM3 ARM4 ARM5 : Prop} (h : Kept FIRST → Kept ARM0 → Kept ARM1 → Kept ARM2 → Kept ARM3 → Kept ARM4 → Kept ARM5 → M) : Parts M := ⟨FIRST, ARM0, ARM1, ARM2, ARM3, ARM4, ARM5, fun hFIRST hARM0 hARM1 hARM2 hARM3 hARM4 hARM5 => h ⟨hFIRST⟩ ⟨hARM0⟩ ⟨hARM1⟩ ⟨hARM2⟩ ⟨hARM3⟩ ⟨hARM4⟩ ⟨hARM5⟩⟩

set_option maxRecDepth 100000 in
set_option maxHeartbeats 16000000 in
noncomputable def bakP : Parts (∀ (W : World) (pa : Option Addr) (n pl pc : Nat) (zs : List Int), RowI W pa pl pc zs → 0 < n → n ≤ 4 → pl ≤ 120 → Calls Try.prog 9 #[.int .i64 (n : Int), .slice pa pl pc] W fun e W2 => (∃ ca cc A T C va vc, e = .returned (.agg #[.slice ca pl cc, .slice (some ⟨A, 0, none⟩) n n, .slice (some ⟨T, 0, none⟩) n n, .slice (some ⟨C, 0, none⟩) n n, .slice va (bsAt n zs pl).ins.length vc]) ∧
      RowI W2 ca pl cc (bcL n zs pl) ∧ RowI W2 (some ⟨A, 0, none⟩) n n (natsI (plL (bsAt n zs pl) n)) ∧ RowI W2 (some ⟨T, 0, none⟩) n n (natsI (tkL (bsAt n zs pl) n)) ∧ RowO W2 (some ⟨C, 0, none⟩) n n (chL (bsAt n zs pl) n) ∧ RowI W2 va (bsAt n zs pl).ins.length vc (natsI (bsAt n zs pl).ins)) ∧ Stil W W2) := by
  apply parts
  case h =>
    intro KFIRST KARM0 KARM1 KARM2 KARM3 KARM4 KARM5 W pa n pl pc zs hp h0 h4 hpl
    have HP := hidMk hp
    have hpl' : (pl : Int) ≤ 120 := by omega
    have hn4 : (n : Int) ≤ 4 := by omega
    have hmi := rMakeInts n (by omega)
    have hmb := rMakeBools n (by omega)
    have HR0 : Hid ((W.alloc (.cells #[.slice none 0 0, .slice none 0 0, .slice none 0 0, .slice none 0 0, .slice none 0 0] 26)).heap[W.heap.size]? = some (.cells #[.slice none 0 0, .slice none 0 0, .slice none 0 0, .slice none 0 0, .slice none 0 0] 26 (0, 0))) := al_new _ _
    have HK0 : Hid (Stil W (W.alloc (.cells #[.slice none 0 0, .slice none 0 0, .slice none 0 0, .slice none 0 0, .slice none 0 0] 26))) := Stil.new _ _
    have HZ0 : Hid (W.heap.size < (W.alloc (.cells #[.slice none 0 0, .slice none 0 0, .slice none 0 0, .slice none 0 0, .slice none 0 0] 26)).heap.size) := by show _ < _; simp
    obtain ⟨i0, hit, hz0, hz1, hz2⟩ := info_parts cInfoInt
    obtain ⟨q0, qit, qz0, qz1, qz2⟩ := info_parts cInfoErr
    clear hp
    go_enter Try.func9, Try.ntmps9
    go_upto_region 1 with fail
    generalize W.alloc (.cells #[.slice none 0 0, .slice none 0 0, .slice none 0 0, .slice none 0 0, .slice none 0 0] 26) = w0 at *
    generalize hr : W.heap.size = r at *
    go_cut [5] from 11 to 17 (fun s5 wx => ∃ o A T C, s5 = .pointer (some ⟨o, 0, none⟩) ∧ Hid (FirstB wx n r o A T C) ∧ Hid (Stil w0 wx))
    case first =>
      repeat (revert ‹_›)
      intro KFIRST KARM0 KARM1 KARM2 KARM3 KARM4 KARM5
      exact KFIRST.out
    case rest =>
      obtain ⟨o, A, T, C, rfl, HF, HK1⟩ := hcut
      go_upto_region 4 with fail
      have HM0 : Hid (∃ tt, Rmov ((wc.alloc (.cells (rowN n fun _ => 0).toArray 3)).alloc (.cells (rowN n fun _ => 0).toArray 3)) o n bs0 [] ⟨A, T, C, wc.heap.size, wc.heap.size + 1, .slice none 0 0, .slice none 0 0, tt⟩ ∧ ∀ g, tt g ≠ none → r < g) := by
        obtain ⟨bA, bT, bC, bo, d1, d2, d3, d4, d5, d6, d7, d8, d9, d10⟩ := HF.out
        have l1 := (Array.getElem?_eq_some_iff.1 bA).1
        have l2 := (Array.getElem?_eq_some_iff.1 bT).1
        have l3 := (Array.getElem?_eq_some_iff.1 bC).1
        have l4 := (Array.getElem?_eq_some_iff.1 bo).1
        have hs : Stil wc ((wc.alloc (.cells (rowN n fun _ => 0).toArray 3)).alloc (.cells (rowN n fun _ => 0).toArray 3)) := (Stil.new wc _).alloc _
        have bK : ((wc.alloc (.cells (rowN n fun _ => 0).toArray 3)).alloc (.cells (rowN n fun _ => 0).toArray 3)).heap[wc.heap.size]? = some (.cells (rowN n fun _ => 0).toArray 3 (0, 0)) := by rw [al_old _ _ _ (by simp), al_new]
        have bM : ((wc.alloc (.cells (rowN n fun _ => 0).toArray 3)).alloc (.cells (rowN n fun _ => 0).toArray 3)).heap[wc.heap.size + 1]? = some (.cells (rowN n fun _ => 0).toArray 3 (0, 0)) := by
          have := al_new (wc.alloc (.cells (rowN n fun _ => 0).toArray 3)) (.cells (rowN n fun _ => 0).toArray 3)
          simpa using this
        refine ⟨_, rmov_start n h4 ((hs.block A l1 (fun e => e)).trans bA) ((hs.block T l2 (fun e => e)).trans bT) ((hs.block C l3 (fun e => e)).trans bC) bK bM ((hs.block o l4 (fun e => e)).trans bo) d1 d2 d3 (by omega) (by omega) (by omega) (by omega) (by omega) (by omega) (by omega) d4 d5 d6 (by omega) (by omega), fun g hg => ?_⟩
        have hrc : r < wc.heap.size := by omega
        split at hg
        · omega
        · split at hg
          · omega
          · split at hg
            · omega
            · split at hg
              · omega
              · split at hg
                · omega
                · exact absurd rfl hg
      have hro : r < o := HF.out.2.2.2.2.2.2.2.2.2.2.1
      have HK2 : Hid (Stil W ((wc.alloc (.cells (rowN n fun _ => 0).toArray 3)).alloc (.cells (rowN n fun _ => 0).toArray 3))) := ((Stil.tr HK0.out HK1.out).alloc _).alloc _
      have HR2 : Hid (((wc.alloc (.cells (rowN n fun _ => 0).toArray 3)).alloc (.cells (rowN n fun _ => 0).toArray 3)).heap[r]? = some (.cells #[.slice none 0 0, .slice none 0 0, .slice none 0 0, .slice none 0 0, .slice none 0 0] 26 (0, 0))) := by
        have hs : Stil w0 ((wc.alloc (.cells (rowN n fun _ => 0).toArray 3)).alloc (.cells (rowN n fun _ => 0).toArray 3)) := (HK1.out.alloc _).alloc _
        exact (hs.block _ (Array.getElem?_eq_some_iff.1 HR0.out).1 (fun e => e)).trans HR0.out
      clear hmi hmb HF HK1 HK0 HR0 HZ0
      generalize (wc.alloc (.cells (rowN n fun _ => 0).toArray 3)).alloc (.cells (rowN n fun _ => 0).toArray 3) = w5 at *
      generalize wc.heap.size + 1 = Mb at *
      generalize wc.heap.size = Kb at *
      obtain ⟨tt0, HM0a, HT0a⟩ := HM0.out
      have HM0 := hidMk HM0a
      have HT0 := hidMk HT0a
      clear HM0a HT0a
      go_wp2
      go_loopw [24] (fun u wr => ∃ (k : Nat) (cv iv : Value) (tt : Nat → Option RTag), k ≤ pl ∧ u = .int .i64 (k : Int) ∧ Hid (Rmov wr o n (bsAt n zs k) (bcL n zs k) ⟨A, T, C, Kb, Mb, cv, iv, tt⟩) ∧ Hid (∀ g, tt g ≠ none → r < g) ∧ Hid (wr.heap[r]? = some (.cells #[.slice none 0 0, .slice none 0 0, .slice none 0 0, .slice none 0 0, .slice none 0 0] 26 (0, 0))) ∧ Hid (Stil W wr)) (fun u _ => pl - (intOf u).toNat)
      case atStart => exact ⟨0, _, _, tt0, Nat.zero_le _, rfl, HM0, HT0, HR2, HK2⟩
      case round =>
        obtain ⟨k, cv, iv, tt, hk, rfl, HM, HT, HR, HK⟩ := hrel
        by_cases hlt : k < pl
        · have hlt' : (k : Int) < (pl : Int) := by omega
          obtain ⟨hpl1, hpl2, hpl3, hpr⟩ := HP.out
          rcases hpr with hpr | ⟨b, off, rfl, hbW, hpr⟩
          · omega
          have hpk : zs[k]? = some (zs[k]'(by omega)) := List.getElem?_eq_getElem (by omega)
          generalize zs[k]'(by omega) = z at hpk
          have d0 := HK.out.cell (hpr k z hpk)
          have HBI := hidMk (binv_at n zs k)
          have HEK : Hid (bsAt n zs (k + 1) = stepB n (bsAt n zs k) z) := by show (match zs[k]? with | some p => _ | none => _) = _; rw [hpk]
          have HEC : Hid (bcL n zs (k + 1) = bcL n zs k ++ [codeB n z]) := by show _ = _; rw [bcL_succ]; unfold bcAt; rw [hpk]
          have HCl : Hid ((bcL n zs k).length = k) := bcL_len n zs k
          clear hpk hpr hpl3
          generalize bsAt n zs k = S at *
          generalize bcL n zs k = CD at *
          have hcs := HM.out.codesS
          rw [HCl.out] at hcs
          obtain ⟨ca, cc, hcv⟩ := segForm hcs
          simp only at hcv
          subst hcv
          have HG := hidMk hcs
          obtain ⟨y0, y1, y2, y3, y4, yf⟩ := HM.out.cells
          simp only at y0
          clear hcs y1 y2 y3 y4 yf
          go_upto_region 7 with fail
          by_cases hin : inP n z = true
          · obtain ⟨ei, hi⟩ := inP_nat hin
            have HE1 : Hid (bsAt n zs (k + 1) = actB n S z.toNat) := by show _ = _; rw [HEK.out]; unfold stepB; rw [if_pos hin]
            have HE2 : Hid (bcL n zs (k + 1) = CD ++ [0]) := by show _ = _; rw [HEC.out]; unfold codeB; rw [if_pos hin]
            clear HEK HEC hin
            generalize z.toNat = i at *
            subst ei
            have q1 : decide ((i : Int) < 0) = false := decide_eq_false (by omega)
            have q2 : decide ((n : Int) ≤ (i : Int)) = false := decide_eq_false (by omega)
            have hi' : (i : Int) < (n : Int) := by omega
            go_wp2_with (at_builtin; refine wpList_append_seg _ rfl _ _ 23 rfl 27 q0 (.int .i64 0) 1 8 Try.underlying23 qit qz0 qz1 qz2 rfl (by decide) (.slice ca k cc) k (intsV CD) rfl (segAlloc HG.out _) ⟨wr.heap.size, 0, none⟩ 1 1 [.int .i64 0] rfl rfl (cCell1 wr (.int .i64 0) 27 _ rfl) (cOne _) (by unfold maxLen; omega) (by omega) ?_)
            intro v3 w3 hs3 hg3
            obtain ⟨a3, c3, rfl⟩ := segForm hs3
            obtain ⟨g1, g2, t3, M3, S3⟩ := HM.out.pushCode (x := 0) (Stil.new wr (.cells #[.int .i64 0] 27)) (by rw [HCl.out]; exact hs3.mono (fun g _ e => by simpa using e)) hg3
            simp only at M3 S3
            have HM3 := hidMk M3
            have HS3 := hidMk S3
            clear M3 S3 hs3 hg3 d0 y0
            go_upto_region 10 with fail
            clear g1 g2
            generalize (w3.setCell ⟨o, 0, none⟩ (.slice a3 (k + 1) c3)) = w4 at *
            obtain ⟨o1, o2, o3, o4, o5, o6, o7, o8⟩ := HBI.out.own i hi
            clear o5 o6 o7
            by_cases e0 : (S.pr i).pl = 0
            · repeat (revert ‹_›)
              intro KFIRST KARM0 KARM1 KARM2 KARM3 KARM4 KARM5
              exact KARM0.out
            by_cases e1 : (S.pr i).pl = 1
            · repeat (revert ‹_›)
              intro KFIRST KARM0 KARM1 KARM2 KARM3 KARM4 KARM5
              exact KARM1.out
            by_cases e2 : (S.pr i).pl = 2
            · repeat (revert ‹_›)
              intro KFIRST KARM0 KARM1 KARM2 KARM3 KARM4 KARM5
              exact KARM2.out
            by_cases e3 : (S.pr i).pl = 3
            · repeat (revert ‹_›)
              intro KFIRST KARM0 KARM1 KARM2 KARM3 KARM4 KARM5
              exact KARM3.out
            by_cases e4 : (S.pr i).pl = 4
            · repeat (revert ‹_›)
              intro KFIRST KARM0 KARM1 KARM2 KARM3 KARM4 KARM5
              exact KARM4.out
            · have e5 : (S.pr i).pl = 5 := by omega
              repeat (revert ‹_›)
              intro KFIRST KARM0 KARM1 KARM2 KARM3 KARM4 KARM5
              exact KARM5.out
          · have hin2 : inP n z = false := by simpa using hin
            have HE1 : Hid (bsAt n zs (k + 1) = S) := by show _ = _; rw [HEK.out]; unfold stepB; rw [if_neg hin]
            have HE2 : Hid (bcL n zs (k + 1) = CD ++ [2]) := by show _ = _; rw [HEC.out]; unfold codeB; rw [if_neg hin]
            clear HEK HEC hin
            by_cases hz : z < 0
            · have q1 : decide (z < 0) = true := decide_eq_true hz
              go_wp2_with (at_builtin; refine wpList_append_seg _ rfl _ _ 23 rfl 27 q0 (.int .i64 0) 1 8 Try.underlying23 qit qz0 qz1 qz2 rfl (by decide) (.slice ca k cc) k (intsV CD) rfl (segAlloc HG.out _) ⟨wr.heap.size, 0, none⟩ 1 1 [.int .i64 2] rfl rfl (cCell1 wr (.int .i64 2) 27 _ rfl) (cOne _) (by unfold maxLen; omega) (by omega) ?_)
              intro v3 w3 hs3 hg3
              obtain ⟨a3, c3, rfl⟩ := segForm hs3
              obtain ⟨g1, g2, t3, M3, S3⟩ := HM.out.pushCode (x := 2) (Stil.new wr (.cells #[.int .i64 2] 27)) (by rw [HCl.out]; exact hs3.mono (fun g _ e => by simpa using e)) hg3
              simp only at M3 S3
              obtain ⟨HRf, HKf, HTf⟩ := r_close M3 S3 HT.out HR.out HK.out hr hro
              have HMf : Hid (Rmov (w3.setCell ⟨o, 0, none⟩ (.slice a3 (k + 1) c3)) o n (bsAt n zs (k + 1)) (bcL n zs (k + 1)) ⟨A, T, C, Kb, Mb, .slice a3 (k + 1) c3, iv, t3⟩) := by rw [HE1.out, HE2.out]; exact M3
              have HRf := hidMk HRf
              have HKf := hidMk HKf
              have HTf := hidMk HTf
              clear M3 S3 hs3 hg3 HM HT HR HK d0
              go_wp2
              go_roundw
              case rel => exact ⟨k + 1, _, _, t3, by omega, by go_num, HMf, HTf, HRf, HKf⟩
              case measure => simp [intOf]; omega
            · have q1 : decide (z < 0) = false := decide_eq_false hz
              have q2 : decide ((n : Int) ≤ z) = true := by
                unfold inP at hin2
                simp at hin2
                exact decide_eq_true (hin2 (by omega))
              clear hin2
              go_wp2_with (at_builtin; refine wpList_append_seg _ rfl _ _ 23 rfl 27 q0 (.int .i64 0) 1 8 Try.underlying23 qit qz0 qz1 qz2 rfl (by decide) (.slice ca k cc) k (intsV CD) rfl (segAlloc HG.out _) ⟨wr.heap.size, 0, none⟩ 1 1 [.int .i64 2] rfl rfl (cCell1 wr (.int .i64 2) 27 _ rfl) (cOne _) (by unfold maxLen; omega) (by omega) ?_)
              intro v3 w3 hs3 hg3
              obtain ⟨a3, c3, rfl⟩ := segForm hs3
              obtain ⟨g1, g2, t3, M3, S3⟩ := HM.out.pushCode (x := 2) (Stil.new wr (.cells #[.int .i64 2] 27)) (by rw [HCl.out]; exact hs3.mono (fun g _ e => by simpa using e)) hg3
              simp only at M3 S3
              obtain ⟨HRf, HKf, HTf⟩ := r_close M3 S3 HT.out HR.out HK.out hr hro
              have HMf : Hid (Rmov (w3.setCell ⟨o, 0, none⟩ (.slice a3 (k + 1) c3)) o n (bsAt n zs (k + 1)) (bcL n zs (k + 1)) ⟨A, T, C, Kb, Mb, .slice a3 (k + 1) c3, iv, t3⟩) := by rw [HE1.out, HE2.out]; exact M3
              have HRf := hidMk HRf
              have HKf := hidMk HKf
              have HTf := hidMk HTf
              clear M3 S3 hs3 hg3 HM HT HR HK d0
              go_wp2
              go_roundw
              case rel => exact ⟨k + 1, _, _, t3, by omega, by go_num, HMf, HTf, HRf, HKf⟩
              case measure => simp [intOf]; omega
        · obtain rfl : k = pl := by omega
          have hcs := HM.out.codesS
          rw [bcL_len] at hcs
          obtain ⟨ca, cc, hcv⟩ := segForm hcs
          simp only at hcv
          subst hcv
          have his := HM.out.insS
          obtain ⟨ia, ic, hiv⟩ := segForm his
          simp only at hiv
          subst hiv
          obtain ⟨y0, y1, y2, y3, y4, yf⟩ := HM.out.cells
          simp only at y0 y1 y2 y3 y4
          have sA := HM.out.pool.seg .at _ rfl
          have sT := HM.out.pool.seg .tk _ rfl
          have sC := HM.out.pool.seg .ch _ rfl
          have eA : (rowN n fun i => ((bsAt n zs k).pr i).pl) = natsL (plL (bsAt n zs k) n) := by simp [rowN, natsL, plL]
          have eT : (rowN n fun i => ((bsAt n zs k).pr i).tk) = natsL (tkL (bsAt n zs k) n) := by simp [rowN, natsL, tkL]
          have eC : (rowBo n fun i => ((bsAt n zs k).pr i).ch) = boolsL (chL (bsAt n zs k) n) := by simp [rowBo, boolsL, chL]
          simp only [eA] at sA
          simp only [eT] at sT
          simp only [eC] at sC
          have hb := HR.out
          have r0 : wr.cell? ⟨r, 0, none⟩ = some (.slice none 0 0) := by rw [cell_of_row wr _ _ _ _ _ hb]; rfl
          have r1 : wr.cell? ⟨r, 1, none⟩ = some (.slice none 0 0) := by rw [cell_of_row wr _ _ _ _ _ hb]; rfl
          have r2 : wr.cell? ⟨r, 2, none⟩ = some (.slice none 0 0) := by rw [cell_of_row wr _ _ _ _ _ hb]; rfl
          have r3 : wr.cell? ⟨r, 3, none⟩ = some (.slice none 0 0) := by rw [cell_of_row wr _ _ _ _ _ hb]; rfl
          have r4 : wr.cell? ⟨r, 4, none⟩ = some (.slice none 0 0) := by rw [cell_of_row wr _ _ _ _ _ hb]; rfl
          have f0 : wr.frozen? ⟨r, 0, none⟩ = false := frozen_of_row wr _ _ _ _ hb
          have f1 : wr.frozen? ⟨r, 1, none⟩ = false := frozen_of_row wr _ _ _ _ hb
          have f2 : wr.frozen? ⟨r, 2, none⟩ = false := frozen_of_row wr _ _ _ _ hb
          have f3 : wr.frozen? ⟨r, 3, none⟩ = false := frozen_of_row wr _ _ _ _ hb
          have f4 : wr.frozen? ⟨r, 4, none⟩ = false := frozen_of_row wr _ _ _ _ hb
          have H1 := hidMk hcs
          have H2 := hidMk his
          have H3 := hidMk sA
          have H4 := hidMk sT
          have H5 := hidMk sC
          clear hcs his sA sT sC eA eT eC
          have HEs : Hid (∃ S, S = bsAt n zs k) := ⟨_, rfl⟩
          obtain ⟨S, hS⟩ := HEs.out
          rw [← hS] at H2 H3 H4 H5 y4
          have HSe := hidMk hS
          clear hS HEs HM
          generalize hil : S.ins.length = il at *
          have HIl : Hid (S.ins.length = il) := hil
          clear hil
          go_wp2
          have b1 := heap_setCell_same wr r 0 _ _ (.slice ca k cc) hb
          have b2 := heap_setCell_same _ r 1 _ _ (.slice (some ⟨A, 0, none⟩) n n) b1
          have b3 := heap_setCell_same _ r 2 _ _ (.slice (some ⟨T, 0, none⟩) n n) b2
          have b4 := heap_setCell_same _ r 3 _ _ (.slice (some ⟨C, 0, none⟩) n n) b3
          have b5 := heap_setCell_same _ r 4 _ _ (.slice ia il ic) b4
          have kk := (((((Keep.refl (fun g => g = r) wr).setCell r 0 (.slice ca k cc) (fun _ => rfl)).setCell r 1 (.slice (some ⟨A, 0, none⟩) n n) (fun _ => rfl)).setCell r 2 (.slice (some ⟨T, 0, none⟩) n n) (fun _ => rfl)).setCell r 3 (.slice (some ⟨C, 0, none⟩) n n) (fun _ => rfl)).setCell r 4 (.slice ia il ic) (fun _ => rfl)
          refine bodyPost_ret (results_one_row (P := Try.prog) rfl _ _ r 26 #[.slice ca k cc, .slice (some ⟨A, 0, none⟩) n n, .slice (some ⟨T, 0, none⟩) n n, .slice (some ⟨C, 0, none⟩) n n, .slice ia il ic] (0, 0) _ rfl (by simpa using b5) Try.underlying26 rfl (by kernel_rfl)) rfl ?_
          have hno : ∀ {x : RTag} {g : Nat}, tt g = some x → ¬ g = r := fun {x g} e e2 => by have := HT.out g (by rw [e]; simp); omega
          have e9 : S.ins.length = il := HIl.out
          subst e9
          have e8 : S = bsAt n zs k := HSe.out
          subst e8
          exact ⟨⟨_, _, _, _, _, _, _, rfl, seg_rowZ (H1.out.keep kk (fun g _ e => hno e)), seg_row (H3.out.keep kk (fun g _ e => hno e)), seg_row (H4.out.keep kk (fun g _ e => hno e)), seg_rowO (H5.out.keep kk (fun g _ e => hno e)), seg_row (H2.out.keep kk (fun g _ e => hno e))⟩, HK.out.trans kk (fun _ _ e => e) (fun g hg e => by omega)⟩
end Go.Proofs.Ytgnigjfgddhgiaa
