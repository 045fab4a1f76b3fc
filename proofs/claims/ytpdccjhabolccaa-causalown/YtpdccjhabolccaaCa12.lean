/- folkmootkeep.CausalOwn, walked. -/
import Derived.Test.YtpdccjhabolccaaCa11
namespace Go.Proofs.Ytpdccjhabolccaa
open Go.RowKit
set_option linter.unusedVariables false

/-- Where each one's last message stands, of the first m. -/
def lastC (s : CS) : Nat → Nat → Nat
  | 0, _ => 0
  | m + 1, w => match s.msgs[m]? with
    | some q => upd1 (lastC s m) q.1 q.2 w
    | none => lastC s m w
theorem last_is (s : CS) : ∀ m w, lastC s m w = 0 ∨ ∃ (m' b : Nat), m' < m ∧ s.msgs[m']? = some (w, b) ∧ lastC s m w = b
  | 0, w => .inl rfl
  | m + 1, w => by
    have ih := last_is s m w
    unfold lastC
    cases h : s.msgs[m]? with
    | none =>
      rcases ih with ih | ⟨m', b, h1, h2, h3⟩
      · exact .inl ih
      · exact .inr ⟨m', b, by omega, h2, h3⟩
    | some q =>
      simp only
      rw [upd1_eq]
      split
      · rename_i e
        refine .inr ⟨m, q.2, by omega, ?_, rfl⟩
        rw [h, e]
      · rcases ih with ih | ⟨m', b, h1, h2, h3⟩
        · exact .inl ih
        · exact .inr ⟨m', b, by omega, h2, h3⟩
theorem last_le {n : Nat} (ps : List Cst) {k : Nat} (hk : k ≤ ps.length) {m w a : Nat} (h : (csAt n ps k).msgs[m]? = some (w, a)) : lastC (csAt n ps k) m w ≤ a := by
  rcases last_is (csAt n ps k) m w with e | ⟨m', b, h1, h2, h3⟩
  · omega
  · have := own_order ps k hk m' m w b a h1 h2 h
    omega
def lastL (n : Nat) (s : CS) (m : Nat) : List Value := (List.range n).map fun i => .int .i64 (lastC s m i : Int)
theorem lastL_at {n i : Nat} (s : CS) (m : Nat) (h : i < n) : (lastL n s m)[i]? = some (.int .i64 (lastC s m i : Int)) := by simp [lastL, h]
theorem lastL_set {n m w a : Nat} {s : CS} (hw : w < n) (h : s.msgs[m]? = some (w, a)) : (lastL n s m).set w (.int .i64 (a : Int)) = lastL n s (m + 1) := by
  apply List.ext_getElem?
  intro i
  rw [List.getElem?_set]
  by_cases hi : i < n
  · rw [lastL_at s (m + 1) hi, lastL_at s m hi]
    have e2 : lastC s (m + 1) i = if i = w then a else lastC s m i := by
      show (match s.msgs[m]? with | some q => upd1 (lastC s m) q.1 q.2 i | none => lastC s m i) = _
      rw [h]; rfl
    rw [e2]
    by_cases e : w = i
    · subst e
      rw [if_pos rfl, if_pos (by simp [lastL, hw]), if_pos rfl]
    · rw [if_neg e, if_neg (fun e3 => e e3.symm)]
  · rw [if_neg (by omega), List.getElem?_eq_none (by simp [lastL]; omega), List.getElem?_eq_none (by simp [lastL]; omega)]
theorem cMakeInts (m : Nat) (hm : m ≤ 200) (W : World) : (Instr.makeSlice 22 (.int .i64 (m : Int)) (.int .i64 (m : Int))).run Try.prog W = .ok (.slice (some ⟨W.heap.size, 0, none⟩) m m) (W.alloc (.cells (madeCells #[.int .i64 0] m) 3)) := by
  obtain ⟨i0, hi, hz0, hz1, hz2⟩ := info_parts cInfoInt
  have h := run_makeSlice (P := Try.prog) W 22 3 i0 _ Try.underlying22 hi hz0 .i64 .i64 (m : Int) (m : Int) (by omega) (Int.le_refl _) (by rw [hz1]; simp; omega) (by rw [hz2]; omega) (by omega)
  rw [hz1] at h
  simpa [Value.cells] using h
theorem cMadeInts (n : Nat) (s : CS) : madeCells #[Value.int .i64 0] n = (lastL n s 0).toArray := by
  simp only [madeCells, lastL]
  apply Array.ext_getElem?
  intro k
  by_cases h : k < n
  · simp [h, Nat.mod_one, lastC]
  · simp [h]

set_option maxRecDepth 100000 in
set_option maxHeartbeats 4000000 in
theorem own_bad {W : World} {pa : Option Addr} {pl pc : Nat} {z : Int} (hz : castCode z pl ≠ 0) (hpl : pl ≤ maxLen) :
    Calls Try.prog 8 #[.int .i64 z, .slice pa pl pc] W fun e W2 => e = .returned (.bool true) ∧ Below W.heap.size W W2 := by
  have HP := hidMk (play_badC (W := W) (pa := pa) (pc := pc) hz hpl)
  clear hz hpl
  go_enter Try.func8, Try.ntmps8
  go_wp2_with (go_at_call 12; refine (HP.out).mono ?_; rintro e w1 ⟨rfl, hk1⟩)
  go_ret
  exact ⟨rfl, Stil.below (hk1.alloc _)⟩

set_option maxRecDepth 100000 in
set_option maxHeartbeats 8000000 in
theorem own_ok {W : World} {pa : Option Addr} {n pl pc : Nat} {ps : List Cst} (hp : CameC W pa pl pc ps) (h0 : 0 < n) (h6 : n ≤ 6) (hpl : pl ≤ 120) :
    Calls Try.prog 8 #[.int .i64 (n : Int), .slice pa pl pc] W fun e W2 => e = .returned (.bool true) ∧ Below W.heap.size W W2 := by
  have HP := hidMk (play_seenC hp h0 h6 hpl)
  have hlp := hp.1
  obtain ⟨hs1, hs2⟩ := sent_msgs (n := n) ps pl (by omega)
  have hinv := cat_inv (n := n) ps pl
  have hml := cat_msgs_len (n := n) ps pl
  have HLe := hidMk (fun (m w a : Nat) (h : (csAt n ps pl).msgs[m]? = some (w, a)) => last_le ps (by omega) h)
  have HCm := hidMk hp
  have HS2 := hidMk hs2
  have HI := hidMk hinv
  have hpl' : (pl : Int) ≤ 120 := by omega
  have hmk := cMakeInts n (by omega)
  rw [cMadeInts n (csAt n ps pl)] at hmk
  have hSl : (sentTo ps (ccAt n ps) pl).length ≤ 120 := by omega
  have HSn := hidMk (fun (w1 : World) (C : Nat) (hw1 : Stil W w1) (hc : RowI w1 (some ⟨C, 0, none⟩) pl pl ((List.range pl).map (ccAt n ps))) => sent_any (hp.keep hw1 (fun _ _ e => e)) (by omega) hc)
  generalize hSS : csAt n ps pl = S at *
  generalize hsn : sentTo ps (ccAt n ps) pl = sn at *
  clear hp hs2 hinv hsn
  go_enter Try.func8, Try.ntmps8
  go_wp2_with (fail)
  go_at_call 12
  refine (HP.out).mono ?_
  rintro e w1 ⟨⟨C, L, rfl, hS⟩, hk1⟩
  have HK1 := hidMk hk1
  have HSe := hidMk hS
  clear hk1 hS HP
  go_wp2_with (fail)
  have K2 : Stil W (w1.alloc (.cells #[.slice (some ⟨C, 0, none⟩) pl pl, .slice (some ⟨L, 0, none⟩) n n] 36)) := HK1.out.alloc _
  have K3 : Stil W ((w1.alloc (.cells #[.slice (some ⟨C, 0, none⟩) pl pl, .slice (some ⟨L, 0, none⟩) n n] 36)).alloc (.cells (lastL n S 0).toArray 3)) := K2.alloc _
  have Se3 : SeenC ((w1.alloc (.cells #[.slice (some ⟨C, 0, none⟩) pl pl, .slice (some ⟨L, 0, none⟩) n n] 36)).alloc (.cells (lastL n S 0).toArray 3)) C L n pl S.ls (ccAt n ps) := HSe.out.still (((Keep.refl _ w1).alloc _).alloc _)
  go_at_call 16
  refine (HSn.out _ C K3 Se3.codes).mono ?_
  rintro e w4 ⟨sa, scp, rfl, hrow, hnew, hk4⟩
  have HSe2 : Hid (SeenC (w1.alloc (.cells #[.slice (some ⟨C, 0, none⟩) pl pl, .slice (some ⟨L, 0, none⟩) n n] 36)) C L n pl S.ls (ccAt n ps)) := HSe.out.still ((Keep.refl _ w1).alloc _)
  have HB5 : Hid ((w1.alloc (.cells #[.slice (some ⟨C, 0, none⟩) pl pl, .slice (some ⟨L, 0, none⟩) n n] 36)).cell? ⟨w1.heap.size, 1, none⟩ = some (.slice (some ⟨L, 0, none⟩) n n)) := by
    show _ = _
    rw [cell_of_row _ _ _ _ _ _ (al_new w1 _)]; rfl
  have HB7 : Hid (w4.heap[w1.heap.size + 1]? = some (.cells (lastL n S 0).toArray 3 (0, 0))) := by
    show _ = _
    rw [hk4.block _ (by simp) (fun e => e)]
    have := al_new (w1.alloc (.cells #[.slice (some ⟨C, 0, none⟩) pl pl, .slice (some ⟨L, 0, none⟩) n n] 36)) (.cells (lastL n S 0).toArray 3)
    simpa using this
  have HK24 : Hid (Stil (w1.alloc (.cells #[.slice (some ⟨C, 0, none⟩) pl pl, .slice (some ⟨L, 0, none⟩) n n] 36)) w4) := ((Keep.refl _ _).alloc _).trans hk4 (fun _ _ e => e) (fun _ _ e => e)
  have HKW2 := hidMk K2
  have HRow := hidMk hrow
  have HNew : Hid (∀ x, sa = some x → w1.heap.size + 1 < x.block) := fun x e => by have := hnew x e; simp at this; omega
  have hz2 : (w1.alloc (.cells #[.slice (some ⟨C, 0, none⟩) pl pl, .slice (some ⟨L, 0, none⟩) n n] 36)).heap.size = w1.heap.size + 1 := by simp
  have HZ2 := hidMk hz2
  clear hrow hnew hk4 K2 K3 Se3 HSe HK1 hmk hz2 HSn
  generalize (w1.alloc (.cells #[.slice (some ⟨C, 0, none⟩) pl pl, .slice (some ⟨L, 0, none⟩) n n] 36)) = w2 at *
  generalize w1.heap.size = b5 at *
  generalize hsnl : sn.length = sl at *
  go_wp2
  go_loopw [44] (fun u wr => ∃ k : Nat, k ≤ sl ∧ u = .int .i64 (k : Int) ∧ Hid (Stil w2 wr) ∧ Hid (Keep (fun g => g = b5 + 1) w4 wr) ∧ Hid (wr.heap[b5 + 1]? = some (.cells (lastL n S k).toArray 3 (0, 0)))) (fun u _ => sl - (intOf u).toNat)
  case atStart => exact ⟨0, Nat.zero_le _, rfl, HK24, Keep.refl _ _, HB7⟩
  case round =>
    obtain ⟨k, hk, rfl, HKr, HKb, HLr⟩ := hrel
    by_cases hlt : k < sl
    · have hlt' : (k : Int) < (sl : Int) := by omega
      have hx : sn[k]? = some (sn[k]'(by omega)) := List.getElem?_eq_getElem (by omega)
      generalize sn[k]'(by omega) = i at hx
      obtain ⟨w, hsent⟩ := HS2.out k i hx
      obtain ⟨p, hpi, hpw⟩ := hsent.at_
      have hwn := hsent.wn
      have hil := hsent.lt
      have hmsg := hsent.msg
      rw [hSS] at hmsg
      generalize ((csAt n ps i).ls w).length = q2 at *
      have h2 := HI.out.i2 k _ hmsg
      have hpos : posI (natsI (S.ls w)) (k : Int) = (q2 : Int) := posN_at (HI.out.i3 w) h2
      have hle := HLe.out k w q2 hmsg
      have HSet := hidMk (lastL_set (n := n) hwn hmsg)
      obtain ⟨hpl1, hpl2, hpl3, hpr⟩ := HCm.out
      rcases hpr with hpr | ⟨bb, off, rfl, hbW, hpr⟩
      · omega
      obtain ⟨_, d1, _⟩ := hpr i p hpi
      have d1 := HKr.out.cell (HKW2.out.cell d1)
      rw [hpw] at d1
      obtain ⟨rl, rc, _, hrr⟩ := HRow.out
      rcases hrr with hrr | ⟨sb, so, hsa, hsb, hsc⟩
      · omega
      have hnb := HNew.out _ hsa
      subst hsa
      simp only at hnb
      have d2 : wr.cell? ⟨sb, so + k, none⟩ = some (.int .i64 (i : Int)) := (World.cell?_of_block (HKb.out.block sb hsb (by show ¬ (sb = b5 + 1); omega))).trans (hsc k _ (natsI_at hx))
      have d3 := HKr.out.cell HB5.out
      obtain ⟨la, lc, e1, e2⟩ := HSe2.out.lists w hwn
      have d4 := HKr.out.cell e1
      have HPo := hidMk (position_any (e2.still HKr.out) (by have := ls_len HI.out w; omega) (k : Int))
      rw [hpos] at HPo
      have d5 : wr.cell? ⟨b5 + 1, w, none⟩ = some (.int .i64 (lastC S k w : Int)) := by
        rw [cell_of_row _ _ _ _ _ _ HLr.out]
        simp only [List.getElem?_toArray]
        exact lastL_at S k hwn
      have d6 : wr.frozen? ⟨b5 + 1, w, none⟩ = false := frozen_of_row _ _ _ _ _ HLr.out
      have hwn' : (w : Int) < (n : Int) := by omega
      have hil' : (i : Int) < (pl : Int) := by omega
      have hle2 : (lastC S k w : Int) ≤ (q2 : Int) := by omega
      generalize lastC S k w = lst at *
      have HL7 := hidMk (heap_setCell_same wr (b5 + 1) w _ _ (.int .i64 (q2 : Int)) HLr.out)
      have esk : (lastL n S k).toArray.setIfInBounds w (.int .i64 (q2 : Int)) = (lastL n S (k + 1)).toArray := by rw [← HSet.out]; simp
      rw [esk] at HL7
      have HKr7 : Hid (Stil w2 (wr.setCell ⟨b5 + 1, w, none⟩ (.int .i64 (q2 : Int)))) := HKr.out.setCell _ _ _ (fun e => by have := HZ2.out; omega)
      have HKb7 : Hid (Keep (fun g => g = b5 + 1) w4 (wr.setCell ⟨b5 + 1, w, none⟩ (.int .i64 (q2 : Int)))) := HKb.out.setCell _ _ _ (fun _ => rfl)
      clear hx hsent hpi hpw hmsg h2 hpos hle hpr hsc e1 e2 HSet esk hpl3
      go_wp2_with (go_at_call 19; refine (HPo.out).mono ?_; rintro e w' ⟨rfl, hw⟩; obtain rfl := hw.symm)
      go_roundw
      case rel => exact ⟨k + 1, by omega, by go_num, HKr7, HKb7, HL7⟩
      case measure => simp [intOf]; omega
    · obtain rfl : k = sl := by omega
      go_wp2
      go_ret
      exact ⟨rfl, Stil.below (HKW2.out.tr HKr.out)⟩

theorem own_walk {W : World} {z : Int} {pa : Option Addr} {pl pc : Nat} {ps : List Cst} (hp : CameC W pa pl pc ps) :
    Calls Try.prog 8 #[.int .i64 z, .slice pa pl pc] W fun e W2 => e = .returned (.bool true) ∧ Below W.heap.size W W2 := by
  by_cases hz : castCode z pl = 0
  · obtain ⟨n, rfl, h0, h6, h120⟩ := castCode_zero hz
    exact own_ok hp h0 h6 h120
  · exact own_bad hz hp.2.2.1
end Go.Proofs.Ytpdccjhabolccaa
