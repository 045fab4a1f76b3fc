/- Play. -/
import Derived.Test.YthadhhconkjpmaaT18
import Derived.Laws.ResultCell
namespace Go.Proofs.Ythadhhconkjpmaa
open Go.RowKit Go.WideMaps
set_option linter.unusedVariables false

theorem results_cell_tmp_row {P : Program} {fn : Func} {p u : Tmp} {ty : TypeId} (h : fn.results = #[.cell p ty, .tmp u]) (tmps : Array Value) (w : World) (g : Nat) (t : TypeId) (cs : Array Value) (fr : Nat × Nat) (d : TypeDesc)
    (hp : tmps.getD p undef = .pointer (some ⟨g, 0, none⟩)) (hg : w.heap[g]? = some (.cells cs t fr))
    (hu : P.underlying ty = some d) (hd : (match d with | .struct _ | .array _ _ => true | _ => false) = true) (hi : (P.info? ty).map (·.size) = some cs.size) :
    (results fn tmps).run P w = .ok (.tuple #[.agg cs, tmps.getD u undef]) w := by
  rw [results_cell_tmp h, hp]
  simp [asAddr, run_loadVar_row w g t ty cs fr d hg hu hd hi, Result.andThen]

def zeroSnapped : Value := .agg #[.slice none 0 0, .slice none 0 0, .slice none 0 0, .slice none 0 0, .bool false]

set_option maxRecDepth 100000 in
set_option maxHeartbeats 4000000 in
theorem play_bad {W : World} {ma pa : Option Addr} {mn mc pl pc : Nat} {zs : List Int} (hm : CameI W ma mn mc zs) (hz : snapCode zs pl ≠ 0) :
    Calls Try.prog 4 #[.slice ma mn mc, .slice pa pl pc] W fun e W2 => e = .returned (.tuple #[zeroSnapped, .int .i64 (snapCode zs pl)]) ∧ Keep (fun _ => False) W W2 := by
  have HC := hidMk (check_any (hm.keep ((Keep.refl (fun _ => False) W).alloc (.cells #[.slice none 0 0, .slice none 0 0, .slice none 0 0, .slice none 0 0, .bool false] 27)) (fun _ _ e => e)) pa pl pc)
  have hz' : (snapCode zs pl != 0) = true := by simpa using hz
  generalize snapCode zs pl = code at *
  clear hm hz
  go_enter Try.func4, Try.ntmps4
  go_wp2_with (go_at_call 7; refine (HC.out).mono ?_; rintro e w1 ⟨rfl, hw⟩; obtain rfl := hw.symm)
  refine bodyPost_ret (results_cell_tmp_row (P := Try.prog) rfl _ _ W.heap.size 27 #[.slice none 0 0, .slice none 0 0, .slice none 0 0, .slice none 0 0, .bool false] (0, 0) _ rfl (al_new _ _) Try.underlying27 rfl (by kernel_rfl)) rfl ?_
  exact ⟨rfl, (Keep.refl _ W).alloc _⟩

theorem sumN_bound {f : Nat → Int} {c : Int} : ∀ {n : Nat}, (∀ i, i < n → f i ≤ c) → sumN f n ≤ c * n
  | 0, _ => by simp [sumN]
  | n + 1, h => by
    have h1 := sumN_bound (n := n) (fun i hi => h i (by omega))
    have h2 := h n (by omega)
    show sumN f n + f n ≤ c * ((n + 1 : Nat) : Int)
    rw [show ((n + 1 : Nat) : Int) = (n : Int) + 1 from rfl, Int.mul_add]
    omega
theorem mon_ok {zs : List Int} (hzs : ∀ z ∈ zs, 0 ≤ z ∧ z ≤ 1000) (i : Nat) : 0 ≤ monF zs i ∧ monF zs i ≤ 1000 := by
  unfold monF
  rw [List.getD_eq_getElem?_getD]
  cases h : zs[i]? with
  | none => simp
  | some z => exact hzs z (List.mem_of_getElem? h)
theorem play_bounds {zs : List Int} {n : Nat} (hzs : ∀ z ∈ zs, 0 ≤ z ∧ z ≤ 1000) (h6 : n ≤ 6) (ps : List Pass) (k : Nat) (hk : k ≤ 120) :
    (∀ a b, a < n → b < n → ((stAt n (st0 (monF zs)) ps k).ways a b).things.length ≤ 900) ∧ (∀ a b, a < n → b < n → ((stAt n (st0 (monF zs)) ps k).ways a b).noted.length ≤ 900) ∧
    (∀ a b x, a < n → b < n → x ∈ ((stAt n (st0 (monF zs)) ps k).ways a b).things → I64 ((stAt n (st0 (monF zs)) ps k).money b + x)) ∧ (∀ a, a < n → 0 ≤ (stAt n (st0 (monF zs)) ps k).money a ∧ (stAt n (st0 (monF zs)) ps k).money a ≤ 1000000) := by
  obtain ⟨h1, h2, _⟩ := at_inv (inv0 (n := n) (fun i _ => (mon_ok hzs i).1)) ps k
  have h3 : sumN (monF zs) n ≤ 6000 := by
    have := sumN_bound (n := n) (fun i _ => (mon_ok hzs i).2)
    have e : (1000 : Int) * (n : Int) ≤ 6000 := by omega
    omega
  rw [tot0] at h2
  have hl := at_len (n := n) (monF zs) ps k
  refine ⟨fun a b ha hb => by have := (hl a b ha hb).1; omega, fun a b ha hb => by have := (hl a b ha hb).2; omega, fun a b x ha hb hx => ?_, fun a ha => ?_⟩
  · have h4 := money_le h1 hb
    have h5 := thing_le h1 ha hb hx
    have h6 := h1.mon b hb
    exact ⟨by omega, by omega⟩
  · have h4 := money_le h1 ha
    exact ⟨h1.mon a ha, by omega⟩

/-- What a play leaves. -/
structure Played (W W2 : World) (C B mb n pl : Nat) (s0 : St) (ps : List Pass) (h : Sh) : Prop where
  mov : Mov W2 mb n (stAt n s0 ps pl) h
  low : ∀ g, h.t g ≠ .no → W.heap.size ≤ g
  cW : W.heap.size ≤ C
  codes : W2.heap[C]? = some (.cells (cRow n s0 ps pl pl).toArray 28 (0, 0))
  bW : W.heap.size ≤ B
  betw : W2.heap[B]? = some (.cells (betw n h (n * n)).toArray 22 (0, 0))
  keep : Keep (fun _ => False) W W2

set_option maxRecDepth 100000 in
set_option maxHeartbeats 4000000 in
theorem play_ok {W : World} {ma pa : Option Addr} {mn mc pl pc : Nat} {zs : List Int} {ps : List Pass} (hm : CameI W ma mn mc zs) (hp : CameP W pa pl pc ps) (hz : snapCode zs pl = 0) (h0 : 0 < mn) (h6 : mn ≤ 6) (hpl : pl ≤ 120) (hzs : ∀ z ∈ zs, 0 ≤ z ∧ z ≤ 1000) :
    Calls Try.prog 4 #[.slice ma mn mc, .slice pa pl pc] W fun e W2 => ∃ C B mb h, e = .returned (.tuple #[.agg #[.slice (some ⟨C, 0, none⟩) pl pl, h.mv, h.ov, .slice (some ⟨B, 0, none⟩) (mn * mn) (mn * mn), .bool (doneB mn (stAt mn (st0 (monF zs)) ps pl))], .int .i64 0]) ∧
      Played W W2 C B mb mn pl (st0 (monF zs)) ps h := by
  have k1 := (Keep.refl (fun _ => False) W).alloc (.cells #[.slice none 0 0, .slice none 0 0, .slice none 0 0, .slice none 0 0, .bool false] 27)
  have hm1 := hm.keep k1 (fun _ _ e => e)
  have HC := hidMk (check_any hm1 pa pl pc)
  rw [hz] at HC
  have HCl := hidMk (clone_any hm1 h0 (by omega))
  have HP := hidMk hp
  have hlz : zs.length = mn := hm.1
  clear hm hm1 hp hz
  go_enter Try.func4, Try.ntmps4
  go_wp2_with (go_at_call 7; refine (HC.out).mono ?_; rintro e w1 ⟨rfl, hw⟩; obtain rfl := hw.symm)
  go_at_call 8
  refine (HCl.out).mono ?_
  rintro e w2 ⟨v, rfl, hsv, hk2⟩
  obtain ⟨va, vc, rfl⟩ := hsv.form
  have HRp := hidMk (repeat_any (W := w2.alloc (.cells #[.int .i64 (-1)] 3)) (g1 := w2.heap.size) h0 h6 (by rw [cell_of_row _ _ _ _ _ _ (al_new _ _)]; rfl))
  have HSV := hidMk hsv
  have HK2 := hidMk hk2
  clear hsv hk2 HC HCl hw
  go_wp2_with (fail)
  go_at_call 9
  refine (HRp.out).mono ?_
  rintro e w3 ⟨G, rfl, hGw, hG, hk3⟩
  have hmm := @run_makeMap Try.prog
  have hmk := make_codes pl (by omega)
  rw [made_codes mn (st0 (monF zs)) ps pl] at hmk
  have HG := hidMk hG
  have HK3 := hidMk hk3
  have HGw := hidMk hGw
  clear hG hk3 hGw HRp
  go_wp2
  have HMv : Hid (∃ h, Mov (((w3.alloc (.map #[] 0)).alloc (.cells #[.slice va mn vc, .slice (some ⟨G, 0, none⟩) mn mn, .map (some w3.heap.size)] 39)).alloc (.cells (cRow mn (st0 (monF zs)) ps pl 0).toArray 28)) (w3.heap.size + 1) mn (st0 (monF zs)) h ∧
      h.t (w3.heap.size + 1 + 1) = .no ∧ h.t W.heap.size = .no ∧ h.c = 0 ∧ ∀ g, h.t g ≠ .no → W.heap.size ≤ g) := by
    have hz2 : W.heap.size + 1 ≤ w2.heap.size := by have := HK2.out.size; simpa using this
    have hz3 : w2.heap.size + 1 ≤ w3.heap.size := by have := HK3.out.size; simpa using this
    have hGl : G < w3.heap.size := (Array.getElem?_eq_some_iff.1 HG.out).1
    have hGg : w2.heap.size + 1 ≤ G := by have := HGw.out; simpa using this
    have s1 : Seg w2 (fun g => W.heap.size + 1 ≤ g ∧ g < w2.heap.size) 3 1 (.slice va mn vc) mn (rowF mn (monF zs)) := by
      have h1 := HSV.out.mono (ok2 := fun g => W.heap.size + 1 ≤ g ∧ g < w2.heap.size) (fun g hg e => ⟨by simpa using e, hg⟩)
      rw [← hlz, rowF_mon, hlz]
      exact h1
    have s3 : Seg ((w3.alloc (.map #[] 0)).alloc (.cells #[.slice va mn vc, .slice (some ⟨G, 0, none⟩) mn mn, .map (some w3.heap.size)] 39)) (fun g => W.heap.size + 1 ≤ g ∧ g < w2.heap.size) 3 1 (.slice va mn vc) mn (rowF mn (monF zs)) :=
      (((s1.alloc _).keep HK3.out (fun _ _ _ e => e)).alloc _).alloc _
    have m0 := mov_start (w := (w3.alloc (.map #[] 0)).alloc (.cells #[.slice va mn vc, .slice (some ⟨G, 0, none⟩) mn mn, .map (some w3.heap.size)] 39)) (G := G) (M := w3.heap.size) (mb := w3.heap.size + 1) s3 (by omega) hGl (by omega) (by simp)
      (by rw [al_old _ _ _ (by simp; omega), al_old _ _ _ hGl]; exact HG.out) (by unfold maxLen; omega)
      ((Pairs.made w3 _ _).keep ((Keep.refl (fun _ => False) _).alloc _) (fun e => e)) (by have := al_new (w3.alloc (.map #[] 0)) (.cells #[.slice va mn vc, .slice (some ⟨G, 0, none⟩) mn mn, .map (some w3.heap.size)] 39); simpa using this)
    have hob : ∀ g, (Value.slice va mn vc).ownBlock = some g → W.heap.size + 1 ≤ g ∧ g < w2.heap.size := fun g e => (s1.block e).1
    refine ⟨_, m0.alloc _, ?_, ?_, rfl, ?_⟩
    · show tag0 _ _ _ _ _ = _
      unfold tag0
      rw [if_neg (by omega), if_neg (fun e => by have := hob _ e; omega), if_neg (by omega), if_neg (by omega)]
    · show tag0 _ _ _ _ _ = _
      unfold tag0
      rw [if_neg (by omega), if_neg (fun e => by have := hob _ e; omega), if_neg (by omega), if_neg (by omega)]
    · intro g hg
      have hg2 : tag0 (.slice va mn vc) G w3.heap.size (w3.heap.size + 1) g ≠ .no := hg
      unfold tag0 at hg2
      split at hg2
      · omega
      · split at hg2
        · rename_i e; have := hob _ e; omega
        · split at hg2
          · omega
          · split at hg2
            · omega
            · exact absurd rfl hg2
  have HKW : Hid (Keep (fun _ => False) W (((w3.alloc (.map #[] 0)).alloc (.cells #[.slice va mn vc, .slice (some ⟨G, 0, none⟩) mn mn, .map (some w3.heap.size)] 39)).alloc (.cells (cRow mn (st0 (monF zs)) ps pl 0).toArray 28))) :=
    ((((k1.trans HK2.out (fun _ _ e => e) (fun _ _ e => e)).alloc (.cells #[.int .i64 (-1)] 3)).trans HK3.out (fun _ _ e => e) (fun _ _ e => e)).alloc _).alloc _ |>.alloc _
  have hz5 : W.heap.size < w3.heap.size := by
    have a1 := HK2.out.size
    have a2 := HK3.out.size
    simp at a1 a2
    omega
  have HRW : Hid ((((w3.alloc (.map #[] 0)).alloc (.cells #[.slice va mn vc, .slice (some ⟨G, 0, none⟩) mn mn, .map (some w3.heap.size)] 39)).alloc (.cells (cRow mn (st0 (monF zs)) ps pl 0).toArray 28)).heap[W.heap.size]? = some (.cells #[.slice none 0 0, .slice none 0 0, .slice none 0 0, .slice none 0 0, .bool false] 27 (0, 0))) := by
    show _ = _
    rw [al_old _ _ _ (by simp; omega), al_old _ _ _ (by simp; omega), al_old _ _ _ hz5, HK3.out.block W.heap.size (by have := HK2.out.size; simp at this ⊢; omega) (fun e => e), al_old _ _ _ (by have := HK2.out.size; simp at this; omega), HK2.out.block W.heap.size (by simp) (fun e => e), al_new]
  have HCW : Hid ((((w3.alloc (.map #[] 0)).alloc (.cells #[.slice va mn vc, .slice (some ⟨G, 0, none⟩) mn mn, .map (some w3.heap.size)] 39)).alloc (.cells (cRow mn (st0 (monF zs)) ps pl 0).toArray 28)).heap[w3.heap.size + 1 + 1]? = some (.cells (cRow mn (st0 (monF zs)) ps pl 0).toArray 28 (0, 0))) := by
    show _ = _
    have := al_new ((w3.alloc (.map #[] 0)).alloc (.cells #[.slice va mn vc, .slice (some ⟨G, 0, none⟩) mn mn, .map (some w3.heap.size)] 39)) (.cells (cRow mn (st0 (monF zs)) ps pl 0).toArray 28)
    simpa using this
  clear hmm hmk HSV HG HK3 HGw HK2 k1
  generalize ((w3.alloc (.map #[] 0)).alloc (.cells #[.slice va mn vc, .slice (some ⟨G, 0, none⟩) mn mn, .map (some w3.heap.size)] 39)).alloc (.cells (cRow mn (st0 (monF zs)) ps pl 0).toArray 28) = w5 at *
  obtain ⟨h5, HM5, HT5⟩ := HMv.out
  generalize w3.heap.size = sz at *
  go_loopw [31] (fun u wr => ∃ k h, k ≤ pl ∧ u = .int .i64 (k : Int) ∧ Hid (Mov wr (sz + 1) mn (stAt mn (st0 (monF zs)) ps k) h) ∧ Hid (wr.heap[sz + 1 + 1]? = some (.cells (cRow mn (st0 (monF zs)) ps pl k).toArray 28 (0, 0))) ∧ Hid (wr.heap[W.heap.size]? = some (.cells #[.slice none 0 0, .slice none 0 0, .slice none 0 0, .slice none 0 0, .bool false] 27 (0, 0))) ∧
    Hid (h.t (sz + 1 + 1) = .no ∧ h.t W.heap.size = .no ∧ h.c ≤ 7 * k ∧ ∀ g, h.t g ≠ .no → W.heap.size ≤ g) ∧ Hid (Keep (fun _ => False) W wr)) (fun u _ => pl - (intOf u).toNat)
  case atStart => exact ⟨0, h5, Nat.zero_le _, rfl, HM5, HCW, HRW, ⟨HT5.1, HT5.2.1, by rw [HT5.2.2.1]; omega, HT5.2.2.2⟩, HKW⟩
  case round =>
    obtain ⟨k, h, hk, rfl, HM, HC, HR, HT, HK⟩ := hrel
    by_cases hlt : k < pl
    · have hlt' : (k : Int) < (pl : Int) := by omega
      obtain ⟨hpl1, hpl2, hpl3, hpr⟩ := HP.out
      rcases hpr with hpr | ⟨b, off, rfl, hbW, hpr⟩
      · omega
      have hpk : ps[k]? = some (ps[k]'(by omega)) := List.getElem?_eq_getElem (by omega)
      generalize ps[k]'(by omega) = p at hpk
      obtain ⟨d0, d1, d2, d3⟩ := (hpr.keep hbW HK.out (fun e => e)) k p hpk
      have HB := hidMk (play_bounds hzs h6 ps k (by omega))
      have ek : stAt mn (st0 (monF zs)) ps (k + 1) = stepS mn (stAt mn (st0 (monF zs)) ps k) p := by show (match ps[k]? with | some p => _ | none => _) = _; rw [hpk]
      have ec : codeAt mn (st0 (monF zs)) ps k = codeS mn (stAt mn (st0 (monF zs)) ps k) p := by unfold codeAt; rw [hpk]
      have HEK := hidMk ek
      have HEC := hidMk ec
      clear ek ec hpk hpr
      generalize stAt mn (st0 (monF zs)) ps k = S at *
      have HCk := hidMk (fun o : Obj => checkStep_any (HM.out.alloc o) h0 h6 p)
      have HDo := hidMk (fun (w9 : World) (m9 : Mov w9 (sz + 1) mn S h) (hc9 : codeS mn S p = 0) => do_any m9 hc9 h6 (by have := HT.out.2.2.1; omega) HB.out.1 HB.out.2.1 HB.out.2.2.1 HB.out.2.2.2)
      unfold passV at HCk HDo
      obtain ⟨kd, wh, ot, x⟩ := p
      simp only at d0 d1 d2 d3 HCk HDo
      go_wp2_with (fail)
      go_at_call 10
      refine (HCk.out _).mono ?_
      rintro e w6 ⟨rfl, hk6⟩
      have hLw : wr.heap.size < w6.heap.size := by have := hk6.size; simp at this; omega
      have hL6 : w6.heap[wr.heap.size]? = some (.cells #[.int .i64 kd, .int .i64 wh, .int .i64 ot, .int .i64 x] 41 (0, 0)) := by rw [hk6.block wr.heap.size (by simp) (fun e => e), al_new]
      have hCl : sz + 1 + 1 < wr.heap.size := (Array.getElem?_eq_some_iff.1 HC.out).1
      have hRl : W.heap.size < wr.heap.size := (Array.getElem?_eq_some_iff.1 HR.out).1
      have hC6 : w6.heap[sz + 1 + 1]? = some (.cells (cRow mn (st0 (monF zs)) ps pl k).toArray 28 (0, 0)) := by rw [hk6.block _ (by simp; omega) (fun e => e), al_old _ _ _ hCl]; exact HC.out
      have hR6 : w6.heap[W.heap.size]? = some (.cells #[.slice none 0 0, .slice none 0 0, .slice none 0 0, .slice none 0 0, .bool false] 27 (0, 0)) := by rw [hk6.block _ (by simp; omega) (fun e => e), al_old _ _ _ hRl]; exact HR.out
      have M6 : Mov w6 (sz + 1) mn S h := (HM.out.alloc _).keep hk6 (fun _ _ e => e.elim)
      have K6 : Keep (fun _ => False) W w6 := (HK.out.alloc _).trans hk6 (fun _ _ e => e) (fun _ _ e => e)
      have hsk : (cRow mn (st0 (monF zs)) ps pl k).toArray.setIfInBounds k (.int .i64 (codeS mn S ⟨kd, wh, ot, x⟩)) = (cRow mn (st0 (monF zs)) ps pl (k + 1)).toArray := by rw [← cRow_set hlt, HEC.out]; simp
      have HC7 := hidMk (heap_setCell_same w6 (sz + 1 + 1) k _ _ (.int .i64 (codeS mn S ⟨kd, wh, ot, x⟩)) hC6)
      rw [hsk] at HC7
      have hne : W.heap.size ≠ sz + 1 + 1 := by omega
      have HR7 := hidMk ((Below.heap_setCell w6 ⟨sz + 1 + 1, k, none⟩ (.int .i64 (codeS mn S ⟨kd, wh, ot, x⟩)) _ hne).trans hR6)
      have HL7 := hidMk ((Below.heap_setCell w6 ⟨sz + 1 + 1, k, none⟩ (.int .i64 (codeS mn S ⟨kd, wh, ot, x⟩)) wr.heap.size (by show wr.heap.size ≠ sz + 1 + 1; omega)).trans hL6)
      have HM7 : Hid (Mov (w6.setCell ⟨sz + 1 + 1, k, none⟩ (.int .i64 (codeS mn S ⟨kd, wh, ot, x⟩))) (sz + 1) mn S h) := M6.keep ((Keep.refl (fun g => g = sz + 1 + 1) w6).setCell _ _ _ (fun _ => rfl)) (fun g _ e => by subst e; exact HT.out.1)
      have HK7 : Hid (Keep (fun _ => False) W (w6.setCell ⟨sz + 1 + 1, k, none⟩ (.int .i64 (codeS mn S ⟨kd, wh, ot, x⟩)))) := K6.setCell _ _ _ (fun e => by omega)
      have c6 : w6.cell? ⟨sz + 1 + 1, k, none⟩ = some (.int .i64 0) := by
        rw [cell_of_row w6 _ _ _ _ _ hC6]
        simp only [List.getElem?_toArray]
        rw [cRow_at hlt, if_neg (by omega)]
      have f6 : w6.frozen? ⟨sz + 1 + 1, k, none⟩ = false := frozen_of_row w6 _ _ _ _ hC6
      have l0 : w6.cell? ⟨wr.heap.size, 0, none⟩ = some (.int .i64 kd) := by rw [cell_of_row w6 _ _ _ _ _ hL6]; rfl
      clear hk6 hL6 hC6 hR6 M6 K6 hsk HC HR HM HK HCk d0 d1 d2 d3
      by_cases hcd : codeS mn S ⟨kd, wh, ot, x⟩ = 0
      · have HD1 := hidMk (fun (w9 : World) (m9 : Mov w9 (sz + 1) mn S h) => HDo.out w9 m9 hcd)
        have HE2 : Hid (stAt mn (st0 (monF zs)) ps (k + 1) = doS mn S ⟨kd, wh, ot, x⟩) := by
          show _ = _
          rw [HEK.out]; unfold stepS; rw [if_pos hcd]
        rw [hcd] at HC7 HR7 HL7 HM7 HK7 ⊢
        have HD2 := hidMk (HD1.out _ HM7.out)
        have q0 : (w6.setCell ⟨sz + 1 + 1, k, none⟩ (.int .i64 0)).cell? ⟨wr.heap.size, 0, none⟩ = some (.int .i64 kd) := by rw [cell_of_row _ _ _ _ _ _ HL7.out]; rfl
        have q1 : (w6.setCell ⟨sz + 1 + 1, k, none⟩ (.int .i64 0)).cell? ⟨wr.heap.size, 1, none⟩ = some (.int .i64 wh) := by rw [cell_of_row _ _ _ _ _ _ HL7.out]; rfl
        have q2 : (w6.setCell ⟨sz + 1 + 1, k, none⟩ (.int .i64 0)).cell? ⟨wr.heap.size, 2, none⟩ = some (.int .i64 ot) := by rw [cell_of_row _ _ _ _ _ _ HL7.out]; rfl
        have q3 : (w6.setCell ⟨sz + 1 + 1, k, none⟩ (.int .i64 0)).cell? ⟨wr.heap.size, 3, none⟩ = some (.int .i64 x) := by rw [cell_of_row _ _ _ _ _ _ HL7.out]; rfl
        clear HDo HD1 l0
        go_wp2_with (fail)
        go_at_call 11
        refine (HD2.out).mono ?_
        rintro e w8 ⟨rfl, h8, m8, st8⟩
        have t1 := HT.out
        have HM8 : Hid (Mov w8 (sz + 1) mn (stAt mn (st0 (monF zs)) ps (k + 1)) h8) := by rw [HE2.out]; exact m8
        have HC8 : Hid (w8.heap[sz + 1 + 1]? = some (.cells (cRow mn (st0 (monF zs)) ps pl (k + 1)).toArray 28 (0, 0))) := (st8.keep.block _ (Array.getElem?_eq_some_iff.1 HC7.out).1 (fun e => e t1.1)).trans HC7.out
        have HR8 : Hid (w8.heap[W.heap.size]? = some (.cells #[.slice none 0 0, .slice none 0 0, .slice none 0 0, .slice none 0 0, .bool false] 27 (0, 0))) := (st8.keep.block _ (Array.getElem?_eq_some_iff.1 HR7.out).1 (fun e => e t1.2.1)).trans HR7.out
        have HK8 : Hid (Keep (fun _ => False) W w8) := HK7.out.trans st8.keep (fun _ _ e => e) (fun g hg e => by have := t1.2.2.2 g e; omega)
        have HT8 : Hid (h8.t (sz + 1 + 1) = .no ∧ h8.t W.heap.size = .no ∧ h8.c ≤ 7 * (k + 1) ∧ ∀ g, h8.t g ≠ .no → W.heap.size ≤ g) := by
          refine ⟨(st8.tags _ (Array.getElem?_eq_some_iff.1 HC7.out).1).trans t1.1, (st8.tags _ (Array.getElem?_eq_some_iff.1 HR7.out).1).trans t1.2.1, by have := st8.count; have := t1.2.2.1; omega, fun g hg => ?_⟩
          by_cases hgw : W.heap.size ≤ g
          · exact hgw
          · rw [st8.tags g (by have := (Array.getElem?_eq_some_iff.1 HR7.out).1; omega)] at hg
            exact t1.2.2.2 g hg
        clear m8 st8 HC7 HR7 HL7 HM7 HK7 HD2 HT t1 q0 q1 q2 q3
        go_wp2
        go_roundw
        case rel => exact ⟨k + 1, h8, by omega, by go_num, HM8, HC8, HR8, HT8, HK8⟩
        case measure => simp [intOf]; omega
      · have HE2 : Hid (stAt mn (st0 (monF zs)) ps (k + 1) = S) := by
          show _ = _
          rw [HEK.out]; unfold stepS; rw [if_neg hcd]
        have hcd' : (codeS mn S ⟨kd, wh, ot, x⟩ == 0) = false := by simpa using hcd
        have HM8 : Hid (Mov (w6.setCell ⟨sz + 1 + 1, k, none⟩ (.int .i64 (codeS mn S ⟨kd, wh, ot, x⟩))) (sz + 1) mn (stAt mn (st0 (monF zs)) ps (k + 1)) h) := by rw [HE2.out]; exact HM7
        have HT8 : Hid (h.t (sz + 1 + 1) = .no ∧ h.t W.heap.size = .no ∧ h.c ≤ 7 * (k + 1) ∧ ∀ g, h.t g ≠ .no → W.heap.size ≤ g) := ⟨HT.out.1, HT.out.2.1, by have := HT.out.2.2.1; omega, HT.out.2.2.2⟩
        clear HDo HM7 HT HEK HEC HE2
        generalize codeS mn S ⟨kd, wh, ot, x⟩ = cd at *
        go_wp2
        go_roundw
        case rel => exact ⟨k + 1, h, by omega, by go_num, HM8, HC7, HR7, HT8, HK7⟩
        case measure => simp [intOf]; omega
    · obtain rfl : k = pl := by omega
      obtain ⟨gm, om, cm, em, _, htgm, _, _, _⟩ := HM.out.mon_at h0
      obtain ⟨go, oo, co, eo, _, htgo, _, _, _⟩ := HM.out.own_at h0
      have HTd := hidMk (told_any HM.out h0 h6 (some ⟨sz + 1 + 1, 0, none⟩) k k)
      rw [em, eo] at HTd
      generalize hdn : doneB mn (stAt mn (st0 (monF zs)) ps k) = dn at *
      go_wp2_with (fail)
      go_at_call 12
      refine (HTd.out).mono ?_
      rintro e w6 ⟨B, rfl, hBw, hB6, hk6⟩
      have hRl : W.heap.size < wr.heap.size := (Array.getElem?_eq_some_iff.1 HR.out).1
      have hCl : sz + 1 + 1 < wr.heap.size := (Array.getElem?_eq_some_iff.1 HC.out).1
      have hR6 : w6.heap[W.heap.size]? = some (.cells #[.slice none 0 0, .slice none 0 0, .slice none 0 0, .slice none 0 0, .bool false] 27 (0, 0)) := (hk6.block _ hRl (fun e => e)).trans HR.out
      have hC6 : w6.heap[sz + 1 + 1]? = some (.cells (cRow mn (st0 (monF zs)) ps k k).toArray 28 (0, 0)) := (hk6.block _ hCl (fun e => e)).trans HC.out
      have HM6 := hidMk (HM.out.keep hk6 (fun _ _ e => e.elim))
      have HK6 := hidMk (HK.out.trans hk6 (fun _ _ e => e) (fun _ _ e => e))
      have HR6 := hidMk hR6
      have HC6 := hidMk hC6
      have HB6 := hidMk hB6
      have r0 : w6.cell? ⟨W.heap.size, 0, none⟩ = some (.slice none 0 0) := (cell_of_row w6 _ 0 _ _ _ hR6).trans rfl
      have r1 : w6.cell? ⟨W.heap.size, 1, none⟩ = some (.slice none 0 0) := (cell_of_row w6 _ 1 _ _ _ hR6).trans rfl
      have r2 : w6.cell? ⟨W.heap.size, 2, none⟩ = some (.slice none 0 0) := (cell_of_row w6 _ 2 _ _ _ hR6).trans rfl
      have r3 : w6.cell? ⟨W.heap.size, 3, none⟩ = some (.slice none 0 0) := (cell_of_row w6 _ 3 _ _ _ hR6).trans rfl
      have r4 : w6.cell? ⟨W.heap.size, 4, none⟩ = some (.bool false) := (cell_of_row w6 _ 4 _ _ _ hR6).trans rfl
      have f0 : w6.frozen? ⟨W.heap.size, 0, none⟩ = false := frozen_of_row w6 _ _ _ _ hR6
      have f1 : w6.frozen? ⟨W.heap.size, 1, none⟩ = false := frozen_of_row w6 _ _ _ _ hR6
      have f2 : w6.frozen? ⟨W.heap.size, 2, none⟩ = false := frozen_of_row w6 _ _ _ _ hR6
      have f3 : w6.frozen? ⟨W.heap.size, 3, none⟩ = false := frozen_of_row w6 _ _ _ _ hR6
      have f4 : w6.frozen? ⟨W.heap.size, 4, none⟩ = false := frozen_of_row w6 _ _ _ _ hR6
      clear hR6 hC6 hB6 hk6 HM HC HR HK HTd
      go_wp2
      have a1 := (Keep.refl (fun g => g = W.heap.size) w6).setCell W.heap.size 0 (.slice (some ⟨sz + 1 + 1, 0, none⟩) k k) (fun _ => rfl)
      have a2 := a1.setCell W.heap.size 1 (.slice (some ⟨gm, om, none⟩) mn cm) (fun _ => rfl)
      have a3 := a2.setCell W.heap.size 2 (.slice (some ⟨go, oo, none⟩) mn co) (fun _ => rfl)
      have a4 := a3.setCell W.heap.size 3 (.slice (some ⟨B, 0, none⟩) (mn * mn) (mn * mn)) (fun _ => rfl)
      have a5 := a4.setCell W.heap.size 4 (.bool dn) (fun _ => rfl)
      have q1 := heap_setCell_same w6 W.heap.size 0 _ _ (.slice (some ⟨sz + 1 + 1, 0, none⟩) k k) HR6.out
      have q2 := heap_setCell_same _ W.heap.size 1 _ _ (.slice (some ⟨gm, om, none⟩) mn cm) q1
      have q3 := heap_setCell_same _ W.heap.size 2 _ _ (.slice (some ⟨go, oo, none⟩) mn co) q2
      have q4 := heap_setCell_same _ W.heap.size 3 _ _ (.slice (some ⟨B, 0, none⟩) (mn * mn) (mn * mn)) q3
      have q5 := heap_setCell_same _ W.heap.size 4 _ _ (.bool dn) q4
      refine bodyPost_ret (results_cell_tmp_row (P := Try.prog) rfl _ _ W.heap.size 27 #[.slice (some ⟨sz + 1 + 1, 0, none⟩) k k, .slice (some ⟨gm, om, none⟩) mn cm, .slice (some ⟨go, oo, none⟩) mn co, .slice (some ⟨B, 0, none⟩) (mn * mn) (mn * mn), .bool dn] (0, 0) _ rfl (by simpa using q5) Try.underlying27 rfl (by kernel_rfl)) rfl ?_
      refine ⟨sz + 1 + 1, B, sz + 1, h, by rw [em, eo, hdn]; rfl, ?_⟩
      have hC7 := HC6.out
      have hB7 := HB6.out
      exact ⟨HM6.out.keep a5 (fun g _ e => by subst e; exact HT.out.2.1), HT.out.2.2.2, by omega, (a5.block _ (Array.getElem?_eq_some_iff.1 hC7).1 (by show ¬ (sz + 1 + 1 = W.heap.size); omega)).trans hC7, by omega, (a5.block _ (Array.getElem?_eq_some_iff.1 hB7).1 (by show ¬ (B = W.heap.size); omega)).trans hB7, HK6.out.trans a5 (fun _ _ e => e) (fun g hg e => by omega)⟩
end Go.Proofs.Ythadhhconkjpmaa
