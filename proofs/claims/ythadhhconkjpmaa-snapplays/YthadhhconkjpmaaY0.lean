/- The document's Snap, walked. -/
import Derived.Test.YthadhhconkjpmaaX15
namespace Go.Proofs.Ythadhhconkjpmaa
open Go.RowKit Go.WideMaps
set_option linter.unusedVariables false

theorem rtagsI {W W2 : World} {t t2 : Nat → Tag} {r : Nat} (hk : ∀ g, g < W.heap.size → t2 g = t g) (h : ∀ g, t g ≠ .no → r < g) (hr : r < W.heap.size) : ∀ g, t2 g ≠ .no → r < g := fun g hg => by
  by_cases e : g < W.heap.size
  · rw [hk g e] at hg; exact h g hg
  · omega
theorem ipush {W0 W W2 : World} {t t2 : Nat → Tag} {r : Nat} {B : Obj} (K : Keep (fun g => t g ≠ .no) W W2) (T : ∀ g, g < W.heap.size → t2 g = t g) (h : ∀ g, t g ≠ .no → r < g) (hR : W.heap[r]? = some B) (hK : Stil W0 W) (hr : W0.heap.size = r) : W2.heap[r]? = some B ∧ Stil W0 W2 ∧ ∀ g, t2 g ≠ .no → r < g := by
  have hrl := (Array.getElem?_eq_some_iff.1 hR).1
  have tr : ¬ t r ≠ .no := fun e => by have := h r e; omega
  exact ⟨(K.block r hrl tr).trans hR, hK.trans K (fun _ _ e => e) (fun g hg e => by have := h g e; omega), rtagsI (W2 := W2) T h hrl⟩
/-- The codes of the first k steps, as the document tells them. -/
def cdR (n : Nat) (r : Rf) (ps : List Pass) (k : Nat) : List Int := (List.range k).map fun i => match ps[i]? with
  | some p => codeR n (rfAt n r ps i) p
  | none => 0
theorem cdR_succ {n : Nat} {r : Rf} {ps : List Pass} {k : Nat} {p : Pass} (h : ps[k]? = some p) : cdR n r ps (k + 1) = cdR n r ps k ++ [codeR n (rfAt n r ps k) p] := by
  unfold cdR
  rw [List.range_succ, List.map_append, List.map_singleton, h]
theorem rfAt_succ {n : Nat} {r : Rf} {ps : List Pass} {k : Nat} {p : Pass} (h : ps[k]? = some p) : rfAt n r ps (k + 1) = stepR n (rfAt n r ps k) p := by
  show (match ps[k]? with | some p => _ | none => _) = _
  rw [h]
theorem sim_le {n : Nat} {zs : List Int} (hzs : ∀ z ∈ zs, 0 ≤ z ∧ z ≤ 1000) (ps : List Pass) {k : Nat} (i j : Nat) (hi : i < n) (hj : j < n) : ((rfAt n (rf0 (monF zs)) ps k).lines i j).come ≤ ((rfAt n (rf0 (monF zs)) ps k).lines i j).sent.length ∧ True :=
  ⟨((sim_at (n := n) (fun i _ => (mon_ok hzs i).1) ps k).le i j hi hj).1, trivial⟩
theorem RMov.setDv {W : World} {ob lb n : Nat} {h : RSh} {r : Rf} (m : RMov W ob lb n r h) (v : Value) : RMov (W.setCell ⟨ob, 4, none⟩ v) ob lb n r ⟨h.cv, h.mv, h.ov, h.bv, v, h.t, h.f⟩ := by
  have hk : Keep (fun g => g = ob) W (W.setCell ⟨ob, 4, none⟩ v) := (Keep.refl _ W).setCell ob _ _ (fun _ => rfl)
  have hlb := (Array.getElem?_eq_some_iff.1 m.lin).1
  have no : ∀ {x : Tag} g, h.t g = x → x ≠ .mb → ¬ g = ob := fun {x} g e hx e2 => by subst e2; rw [m.tob] at e; exact hx e.symm
  refine ⟨fun g hg => m.fresh g (Nat.le_trans hk.size hg), m.tob, ?_, m.mon.keep hk (fun g _ e => no g e (by simp)), m.own.keep hk (fun g _ e => no g e (by simp)), m.tl, (hk.block lb hlb (no lb m.tl (by simp))).trans m.lin, fun i j hi hj => (m.st i j hi hj).keep hk (fun g _ e => no g e (by simp))⟩
  rw [heap_setCell_same W ob _ _ _ _ m.blk]
  rfl
/-- What the document tells of the way t. -/
def tlF (n : Nat) (R : Rf) (t : Nat) : List Int := if t / n = t % n then [] else notedR (R.own (t % n)) (R.lines (t / n) (t % n))
/-- What Done says behind q ways. -/
def dF (n : Nat) (R : Rf) (q : Nat) : Bool := (List.range q).all fun t => (t / n == t % n || hasM ((R.lines (t / n) (t % n)).sent.take (R.lines (t / n) (t % n)).come)) && decide (0 ≤ R.own (t % n))
theorem div_at {i j n : Nat} (h : j < n) : (i * n + j) / n = i := by
  rw [Nat.mul_comm, Nat.mul_add_div (by omega), Nat.div_eq_of_lt h, Nat.add_zero]
theorem mod_at {i j n : Nat} (h : j < n) : (i * n + j) % n = j := by
  rw [Nat.mul_comm, Nat.mul_add_mod, Nat.mod_eq_of_lt h]
theorem dF_succ (n : Nat) (R : Rf) (q : Nat) : dF n R (q + 1) = (dF n R q && ((q / n == q % n || hasM ((R.lines (q / n) (q % n)).sent.take (R.lines (q / n) (q % n)).come)) && decide (0 ≤ R.own (q % n)))) := by
  unfold dF
  rw [List.range_succ, List.all_append]
  simp
theorem cInfoList : (Try.prog.info? 22).map (fun i => (i.zero, i.size, i.bytes)) = some (some (.slice none 0 0), 1, 24) := by kernel_rfl
theorem rowF_ints (n : Nat) (f : Nat → Int) : rowF n f = intsL ((List.range n).map f) := by simp [rowF, intsL]
theorem seg_rowS {W : World} {ok : Nat → Prop} {e : TypeId} {a : Option Addr} {n c : Nat} {l : List Int} (h : Seg W ok e 1 (.slice a n c) n (intsL l)) : RowI W a n c l := by
  obtain ⟨h1, ⟨h2, h3⟩ | ⟨g, off, cap, cur, h2, h3, h4, h5, h6, h7, h8⟩⟩ := h
  · subst h3
    cases h2
    exact ⟨by simpa [intsL] using h1, Nat.le_refl _, Nat.zero_le _, .inl rfl⟩
  · cases h2
    refine ⟨by simpa [intsL] using h1, h5, by omega, .inr ⟨g, off, rfl, (Array.getElem?_eq_some_iff.1 h4).1, fun j x hx => ?_⟩⟩
    rw [cell_of_row W _ _ _ _ _ h4]
    exact h8 j _ (by simp [intsL, hx])
theorem results_one_rowS {P : Program} {fn : Func} {p : Tmp} {ty : TypeId} (h : fn.results = #[.cell p ty]) (tmps : Array Value) (w : World) (g : Nat) (t : TypeId) (cs : Array Value) (fr : Nat × Nat) (d : TypeDesc)
    (hp : tmps.getD p undef = .pointer (some ⟨g, 0, none⟩)) (hg : w.heap[g]? = some (.cells cs t fr))
    (hu : P.underlying ty = some d) (hd : (match d with | .struct _ | .array _ _ => true | _ => false) = true) (hi : (P.info? ty).map (·.size) = some cs.size) :
    (results fn tmps).run P w = .ok (.agg cs) w := by
  have hp2 : tmps[p]?.getD undef = .pointer (some ⟨g, 0, none⟩) := by rw [← Array.getD_eq_getD_getElem?]; exact hp
  simp [results, h, hp2, asAddr, run_loadVar_row w g t ty cs fr d hg hu hd hi]
/-- The document's answer, as the law sees it. -/
structure SnapS (w : World) (lo n pl : Nat) (R : Rf) (cds : List Int) (ca : Option Addr) (cc : Nat) (ga : Option Addr) (gc : Nat) (oa : Option Addr) (oc : Nat) (B bo : Nat) : Prop where
  codes : RowI w ca pl cc cds
  cL : ∀ x, ca = some x → lo ≤ x.block
  money : RowI w ga n gc ((List.range n).map R.money)
  gL : ∀ x, ga = some x → lo ≤ x.block
  own : RowI w oa n oc ((List.range n).map R.own)
  oL : ∀ x, oa = some x → lo ≤ x.block
  bL : lo ≤ B
  rows : ∀ t, t < n * n → ∃ a c, w.cell? ⟨B, bo + t, none⟩ = some (.slice a (tlF n R t).length c) ∧ RowI w a (tlF n R t).length c (tlF n R t) ∧ ∀ x, a = some x → lo ≤ x.block
theorem cOneL (a : Option Addr) (n c : Nat) : ∀ u ∈ [Value.slice a n c], u.oneCell' = true := by intro u hu; simp at hu; subst hu; rfl
set_option maxRecDepth 100000 in
set_option maxHeartbeats 16000000 in
theorem ref_snap {W : World} {ma pa : Option Addr} {n mc pl pc : Nat} {zs : List Int} {ps : List Pass} (hm : CameI W ma n mc zs) (hp : CameP W pa pl pc ps) (h0 : 0 < n) (h6 : n ≤ 6) (hpl : pl ≤ 120) (hzs : ∀ z ∈ zs, 0 ≤ z ∧ z ≤ 1000) :
    Calls Try.prog 5 #[.slice ma n mc, .slice pa pl pc] W fun e W2 => (∃ ca cc ga gc oa oc B bo bc, e = .returned (.agg #[.slice ca pl cc, .slice ga n gc, .slice oa n oc, .slice (some ⟨B, bo, none⟩) (n * n) bc, .bool (dF n (rfAt n (rf0 (monF zs)) ps pl) (n * n))]) ∧ SnapS W2 W.heap.size n pl (rfAt n (rf0 (monF zs)) ps pl) (cdR n (rf0 (monF zs)) ps pl) ca cc ga gc oa oc B bo) ∧ Stil W W2 := by
  have HMi := hidMk hm
  have HPi := hidMk hp
  have hn' : (n : Int) ≤ 6 := by omega
  have hnn : n * n ≤ 36 := Nat.mul_le_mul h6 h6
  have enn : ((n * n : Nat) : Int) = (n : Int) * (n : Int) := Int.natCast_mul n n
  have hwn : IntKind.i64.wrap ((n : Int) * (n : Int)) = (n : Int) * (n : Int) := wrap_of ⟨by omega, by omega⟩
  have hmk := make_lines (n * n) (by omega)
  rw [made_lines n, enn] at hmk
  obtain ⟨t0, I0, T0⟩ := rini_start W n (monF zs)
  have HI0 := hidMk I0
  have HT0 := hidMk T0
  have HR0 : Hid ((((W.alloc (.cells #[nlS, nlS, nlS, nlS, .bool false] 27)).alloc (.cells #[nlS, nlS, nlS, nlS, .bool false] 27)).alloc (.cells (lnRow n (fun _ _ => nlS) fun _ _ => ⟨[], 0, 0⟩).toArray 49)).heap[W.heap.size]? = some (.cells #[nlS, nlS, nlS, nlS, .bool false] 27 (0, 0))) := by
    have h := al_new W (.cells #[nlS, nlS, nlS, nlS, .bool false] 27)
    exact (((Keep.refl (fun _ => False) _).alloc _).alloc _).block _ (by simp) (fun e => e) |>.trans h
  have HK0 : Hid (Stil W (((W.alloc (.cells #[nlS, nlS, nlS, nlS, .bool false] 27)).alloc (.cells #[nlS, nlS, nlS, nlS, .bool false] 27)).alloc (.cells (lnRow n (fun _ _ => nlS) fun _ _ => ⟨[], 0, 0⟩).toArray 49))) := (((Keep.refl _ W).alloc _).alloc _).alloc _
  clear I0 T0 hm hp
  have enl : nlS = .slice none 0 0 := rfl
  simp only [enl] at HI0 HR0 HK0 hmk
  clear enl
  go_enter Try.func5, Try.ntmps5
  go_upto_region 4 with fail
  clear hmk hwn
  generalize (((W.alloc (.cells #[.slice none 0 0, .slice none 0 0, .slice none 0 0, .slice none 0 0, .bool false] 27)).alloc (.cells #[.slice none 0 0, .slice none 0 0, .slice none 0 0, .slice none 0 0, .bool false] 27)).alloc (.cells (lnRow n (fun _ _ => .slice none 0 0) fun _ _ => ⟨[], 0, 0⟩).toArray 49)) = w0 at *
  generalize hr : W.heap.size = r at *
  generalize hlb : r + 1 + 1 = lb at *
  generalize hob : r + 1 = ob at *
  go_wp2
  go_loopw [27] (fun u wr => ∃ (k : Nat) (mv ov : Value) (t : Nat → Tag), k ≤ n ∧ u = .int .i64 (k : Int) ∧ Hid (RIni wr ob lb n k k (monF zs) mv ov t) ∧ Hid (∀ g, t g ≠ .no → r < g) ∧ Hid (wr.heap[r]? = some (.cells #[.slice none 0 0, .slice none 0 0, .slice none 0 0, .slice none 0 0, .bool false] 27 (0, 0))) ∧ Hid (Stil W wr)) (fun u _ => n - (intOf u).toNat)
  case atStart => exact ⟨0, _, _, t0, Nat.zero_le _, rfl, HI0, HT0, HR0, HK0⟩
  case round =>
    obtain ⟨k, mv, ov, t, hk, rfl, HI, HT, HR, HK⟩ := hrel
    by_cases hlt : k < n
    · have hlt' : (k : Int) < (n : Int) := by omega
      obtain ⟨z1, z2, z3, z4⟩ := HMi.out
      rcases z4 with z4 | ⟨b, off, rfl, hbW, z4⟩
      · omega
      have hzk : zs[k]? = some (monF zs k) := by unfold monF; rw [List.getD_eq_getElem?_getD, List.getElem?_eq_getElem (by omega)]; rfl
      have d0 := HK.out.cell (z4 k _ hzk)
      obtain ⟨c1, c2, cf⟩ := HI.out.cells
      have f1 := cf 1
      have f2 := cf 2
      have sM := HI.out.mon
      obtain ⟨ga, gc, eM⟩ := sM.form
      have sO := HI.out.own
      obtain ⟨oa, oc, eO⟩ := sO.form
      subst eM
      subst eO
      have HSm := hidMk sM
      obtain ⟨i0, hit, hz0, hz1, hz2⟩ := info_parts Try.info3
      have hblk := HI.out.blk
      have hobl := (Array.getElem?_eq_some_iff.1 hblk).1
      have HBk := hidMk hblk
      have HOl := hidMk hobl
      generalize hmk : monF zs k = mk at *
      have HMk := hidMk hmk
      clear sM sO cf z1 z3 z4 hzk hblk hobl hmk c2 f2
      go_wp2_with (at_builtin; refine wpList_append_seg _ rfl _ _ 22 rfl 3 i0 (.int .i64 0) 1 8 Try.underlying22 hit hz0 hz1 hz2 rfl (by decide) (.slice ga k gc) k (rowF k (monF zs)) rfl (HSm.out.alloc _) ⟨wr.heap.size, 0, none⟩ 1 1 [.int .i64 mk] rfl rfl (cell_one_at _ _ _ _ rfl) (one_cell _) (by unfold maxLen; omega) (by omega) ?_)
      intro v3 w3 hs3 hg3
      obtain ⟨a3, c3, rfl⟩ := hs3.form
      have hob3 : ∀ q, (Value.slice ga k gc).ownBlock = some q → t q = .money := fun q e => (HSm.out.block e).1
      have hk3 : Keep (fun q => t q = .money) wr w3 := ((Keep.refl _ wr).alloc _).grown hg3 (fun q e _ => hob3 q e)
      have hq3 : Seg w3 (fun q => (q < wr.heap.size ∧ t q = .money) ∨ wr.heap.size ≤ q) 3 1 (.slice a3 (k + 1) c3) (k + 1) (rowF (k + 1) (monF zs)) := by
        rw [rowF_succ, HMk.out]
        exact hs3.mono (fun q _ e => by
          rcases e with ⟨e, e2⟩ | e
          · exact .inl ⟨(HSm.out.block e).2, e2⟩
          · exact .inr (by (try simp at e); omega))
      have tob := HI.out.tob
      have hblk3 := (hk3.block ob HOl.out (fun e => by rw [tob] at e; cases e)).trans HBk.out
      have s1 : w3.cell? ⟨ob, 1, none⟩ = some (.slice ga k gc) := by rw [cell_of_row w3 _ _ _ _ _ hblk3]; rfl
      have s2 : w3.frozen? ⟨ob, 1, none⟩ = false := frozen_of_row w3 _ _ _ _ hblk3
      obtain ⟨I3, K3, T3⟩ := HI.out.pushM hk3 hq3
      obtain ⟨R3, Q3, U3⟩ := ipush K3 T3 HT.out HR.out HK.out hr
      have HI3 := hidMk I3
      have HR3 := hidMk R3
      have HK3 := hidMk Q3
      have HT3 := hidMk U3
      clear I3 K3 T3 R3 Q3 U3 hs3 hg3 hob3 hk3 hq3 tob hblk3 HI HT HR HK HSm HBk HOl d0 c1 f1
      go_upto_region 8 with fail
      generalize (w3.setCell ⟨ob, 1, none⟩ (.slice a3 (k + 1) c3)) = w4 at *
      clear s1 s2
      obtain ⟨t4, HI4, HT4⟩ : ∃ t4 : Nat → Tag, Hid (RIni w4 ob lb n (k + 1) k (monF zs) (.slice a3 (k + 1) c3) (.slice oa k oc) t4) ∧ Hid (∀ g, t4 g ≠ .no → r < g) := ⟨_, HI3, HT3⟩
      clear HI3 HT3
      obtain ⟨_, c2, cf⟩ := HI4.out.cells
      have f2 := cf 2
      have sO := HI4.out.own
      have HSo := hidMk sO
      have hblk := HI4.out.blk
      have HOl := hidMk (Array.getElem?_eq_some_iff.1 hblk).1
      have HBk := hidMk hblk
      clear sO cf hblk
      go_wp2_with (at_builtin; refine wpList_append_seg _ rfl _ _ 22 rfl 3 i0 (.int .i64 0) 1 8 Try.underlying22 hit hz0 hz1 hz2 rfl (by decide) (.slice oa k oc) k (rowF k (fun _ => -1)) rfl (HSo.out.alloc _) ⟨w4.heap.size, 0, none⟩ 1 1 [.int .i64 (-1)] rfl rfl (cell_one_at _ _ _ _ rfl) (one_cell _) (by unfold maxLen; omega) (by omega) ?_)
      intro v5 w5 hs5 hg5
      obtain ⟨a5, c5, rfl⟩ := hs5.form
      have hob5 : ∀ q, (Value.slice oa k oc).ownBlock = some q → t4 q = .own := fun q e => (HSo.out.block e).1
      have hk5 : Keep (fun q => t4 q = .own) w4 w5 := ((Keep.refl _ w4).alloc _).grown hg5 (fun q e _ => hob5 q e)
      have hq5 : Seg w5 (fun q => (q < w4.heap.size ∧ t4 q = .own) ∨ w4.heap.size ≤ q) 3 1 (.slice a5 (k + 1) c5) (k + 1) (rowF (k + 1) (fun _ => -1)) := by
        rw [rowF_succ]
        exact hs5.mono (fun q _ e => by
          rcases e with ⟨e, e2⟩ | e
          · exact .inl ⟨(HSo.out.block e).2, e2⟩
          · exact .inr (by (try simp at e); omega))
      have tob := HI4.out.tob
      have hblk5 := (hk5.block ob HOl.out (fun e => by rw [tob] at e; cases e)).trans HBk.out
      have s1 : w5.cell? ⟨ob, 2, none⟩ = some (.slice oa k oc) := by rw [cell_of_row w5 _ _ _ _ _ hblk5]; rfl
      have s2 : w5.frozen? ⟨ob, 2, none⟩ = false := frozen_of_row w5 _ _ _ _ hblk5
      obtain ⟨I5, K5, T5⟩ := HI4.out.pushO hk5 hq5
      obtain ⟨R5, Q5, U5⟩ := ipush K5 T5 HT4.out HR3.out HK3.out hr
      have HI5 := hidMk I5
      have HR5 := hidMk R5
      have HK5 := hidMk Q5
      have HT5 := hidMk U5
      clear I5 K5 T5 R5 Q5 U5 hs5 hg5 hob5 hk5 hq5 tob hblk5 HI4 HT4 HR3 HK3 HSo HBk HOl c2 f2
      go_wp2
      go_roundw
      case rel => exact ⟨k + 1, _, _, _, by omega, by go_num, HI5, HT5, HR5, HK5⟩
      case measure => simp [intOf]; omega
    · obtain rfl : n = k := by omega
      have HM0 := hidMk HI.out.done
      have HS0 : Hid (Seg wr (fun g => t g = .no ∧ r < g) 28 1 (.slice none 0 0) 0 (intsL (cdR n (rf0 (monF zs)) ps 0))) := ⟨rfl, .inl ⟨rfl, rfl⟩⟩
      clear HI hlt
      go_wp2
      go_loopw [45] (fun u wx => ∃ (q : Nat) (h : RSh), q ≤ pl ∧ u = .int .i64 (q : Int) ∧ Hid (RMov wx ob lb n (rfAt n (rf0 (monF zs)) ps q) h) ∧ Hid (Seg wx (fun g => h.t g = .no ∧ r < g) 28 1 h.cv q (intsL (cdR n (rf0 (monF zs)) ps q))) ∧ Hid (∀ g, h.t g ≠ .no → r < g) ∧ Hid (wx.heap[r]? = some (.cells #[.slice none 0 0, .slice none 0 0, .slice none 0 0, .slice none 0 0, .bool false] 27 (0, 0))) ∧ Hid (Stil W wx) ∧ Hid (h.bv = .slice none 0 0 ∧ h.dv = .bool false)) (fun u _ => pl - (intOf u).toNat)
      case atStart => exact ⟨0, _, Nat.zero_le _, rfl, HM0, HS0, HT, HR, HK, ⟨rfl, rfl⟩⟩
      case round =>
        clear HM0 HS0 HT HR HK
        obtain ⟨wx, rfl⟩ : ∃ w' : World, w' = wr := ⟨_, rfl⟩
        obtain ⟨q, h, hq, rfl, HM, HS, HT, HR, HK, HB⟩ := hrel
        by_cases hlt : q < pl
        · have hlt' : (q : Int) < (pl : Int) := by omega
          have hpl' : (pl : Int) ≤ 120 := by omega
          obtain ⟨z1, z2, z3, z4⟩ := HPi.out
          rcases z4 with z4 | ⟨b, off, rfl, hbW, z4⟩
          · omega
          have hpk : ps[q]? = some (ps[q]'(by omega)) := List.getElem?_eq_getElem (by omega)
          generalize ps[q]'(by omega) = p at hpk
          obtain ⟨d0, d1, d2, d3⟩ := (z4.keep hbW HK.out (fun e => e)) q p hpk
          obtain ⟨kd, wh, ot, x⟩ := p
          simp only at d0 d1 d2 d3
          have HEK : Hid (rfAt n (rf0 (monF zs)) ps (q + 1) = stepR n (rfAt n (rf0 (monF zs)) ps q) ⟨kd, wh, ot, x⟩) := rfAt_succ hpk
          have HEC : Hid (cdR n (rf0 (monF zs)) ps (q + 1) = cdR n (rf0 (monF zs)) ps q ++ [codeR n (rfAt n (rf0 (monF zs)) ps q) ⟨kd, wh, ot, x⟩]) := cdR_succ hpk
          have HCa := hidMk (fun (w' : World) (hs : Stil wx w') => rpass_at hzs h6 (show q ≤ 120 by omega) ⟨kd, wh, ot, x⟩ (HM.out.keep hs (fun _ _ e => e.elim)))
          have HFr : Hid (h.t wx.heap.size = .no) := HM.out.fresh _ (Nat.le_refl _)
          have HLo : Hid (wx.heap.size < (wx.alloc (.cells #[.int .i64 kd, .int .i64 wh, .int .i64 ot, .int .i64 x] 41)).heap.size) := by show _ < _; simp
          have HN1 : Hid (Stil wx (wx.alloc (.cells #[.int .i64 kd, .int .i64 wh, .int .i64 ot, .int .i64 x] 41))) := (Keep.refl _ wx).alloc _
          have HBk := hidMk (al_new wx (.cells #[.int .i64 kd, .int .i64 wh, .int .i64 ot, .int .i64 x] 41))
          have hcs := HS.out
          obtain ⟨ca, cc, ecv⟩ := hcs.form
          have c0 := HM.out.cells.1
          rw [ecv] at c0 hcs
          have HSg := hidMk hcs
          have HEv := hidMk ecv
          have HWl : Hid (W.heap.size ≤ wx.heap.size) := HK.out.size
          generalize hcd : codeR n (rfAt n (rf0 (monF zs)) ps q) ⟨kd, wh, ot, x⟩ = cd at *
          generalize cdR n (rf0 (monF zs)) ps q = CD at *
          generalize hR2 : stepR n (rfAt n (rf0 (monF zs)) ps q) ⟨kd, wh, ot, x⟩ = R2 at *
          generalize hR1 : rfAt n (rf0 (monF zs)) ps q = R1 at *
          have HCd := hidMk hcd
          clear z1 z3 z4 hpk hcs ecv HS hcd hR2 hR1
          go_upto_region 13 with fail
          clear d0 d1 d2 d3
          have hob1 := HN1.out.cell c0
          have b0 : (wx.alloc (.cells #[.int .i64 kd, .int .i64 wh, .int .i64 ot, .int .i64 x] 41)).cell? ⟨wx.heap.size, 0, none⟩ = some (.int .i64 kd) := by rw [cell_of_row _ _ _ _ _ _ HBk.out]; rfl
          have b1 : (wx.alloc (.cells #[.int .i64 kd, .int .i64 wh, .int .i64 ot, .int .i64 x] 41)).cell? ⟨wx.heap.size, 1, none⟩ = some (.int .i64 wh) := by rw [cell_of_row _ _ _ _ _ _ HBk.out]; rfl
          have b2 : (wx.alloc (.cells #[.int .i64 kd, .int .i64 wh, .int .i64 ot, .int .i64 x] 41)).cell? ⟨wx.heap.size, 2, none⟩ = some (.int .i64 ot) := by rw [cell_of_row _ _ _ _ _ _ HBk.out]; rfl
          have b3 : (wx.alloc (.cells #[.int .i64 kd, .int .i64 wh, .int .i64 ot, .int .i64 x] 41)).cell? ⟨wx.heap.size, 3, none⟩ = some (.int .i64 x) := by rw [cell_of_row _ _ _ _ _ _ HBk.out]; rfl
          generalize wx.alloc (.cells #[.int .i64 kd, .int .i64 wh, .int .i64 ot, .int .i64 x] 41) = w1 at *
          generalize hbk : wx.heap.size = bk at *
          have HCk : Hid (∀ w' : World, Stil w1 w' → w'.cell? ⟨ob, 0, none⟩ = some (.slice ca q cc) ∧ w'.cell? ⟨bk, 0, none⟩ = some (.int .i64 kd) ∧ w'.cell? ⟨bk, 1, none⟩ = some (.int .i64 wh) ∧ w'.cell? ⟨bk, 2, none⟩ = some (.int .i64 ot) ∧ w'.cell? ⟨bk, 3, none⟩ = some (.int .i64 x)) := fun w' hs => ⟨hs.cell hob1, hs.cell b0, hs.cell b1, hs.cell b2, hs.cell b3⟩
          have HC0 := hidMk (HCk.out _ ((Keep.refl _ w1).drew))
          have HCa1 := hidMk (HCa.out w1.drew (HN1.out.drew))
          clear HCa c0 hob1 b0 b1 b2 b3
          go_wp2_with (fail)
          refine wp_region_class (fun w' => w'.cell? ⟨ob, 0, none⟩ = some (.slice ca q cc) ∧ w'.cell? ⟨bk, 0, none⟩ = some (.int .i64 kd) ∧ w'.cell? ⟨bk, 1, none⟩ = some (.int .i64 wh) ∧ w'.cell? ⟨bk, 2, none⟩ = some (.int .i64 ot) ∧ w'.cell? ⟨bk, 3, none⟩ = some (.int .i64 x)) 9 (by kernel_rfl) ?_
          refine wpAnyC_take (i := 0) (fuel := 9) (v := .pointer (some ⟨ob, 0, none⟩)) rfl (by kernel_rfl) (by kernel_rfl) (by kernel_rfl) (by kernel_rfl) (fun _ _ _ h => h) (.inl ⟨by kernel_rfl, fun w' hC => by obtain ⟨y1, y2, y3, y4, y5⟩ := hC; go_simp⟩) HC0.out ?_
          go_frame
          refine wpAnyC_take (i := 1) (fuel := 8) (v := .slice ca q cc) rfl (by kernel_rfl) (by kernel_rfl) (by kernel_rfl) (by kernel_rfl) (fun _ _ _ h => h) (.inl ⟨by kernel_rfl, fun w' hC => by obtain ⟨y1, y2, y3, y4, y5⟩ := hC; go_simp⟩) HC0.out ?_
          go_frame
          refine wpAnyC_take (i := 2) (fuel := 7) (v := .agg #[.int .i64 kd, .int .i64 wh, .int .i64 ot, .int .i64 x]) rfl (by kernel_rfl) (by kernel_rfl) (by kernel_rfl) (by kernel_rfl) (fun _ _ _ h => h) (.inl ⟨by kernel_rfl, fun w' hC => by obtain ⟨y1, y2, y3, y4, y5⟩ := hC; go_simp⟩) HC0.out ?_
          go_frame
          refine wpAnyC_take (i := 3) (fuel := 6) (v := .int .i64 (n : Int)) rfl (by kernel_rfl) (by kernel_rfl) (by kernel_rfl) (by kernel_rfl) (fun _ _ _ h => h) (.inl ⟨by kernel_rfl, fun w' hC => by obtain ⟨y1, y2, y3, y4, y5⟩ := hC; go_simp⟩) HC0.out ?_
          go_frame
          refine wpAnyC_take (i := 4) (fuel := 5) (v := .slice (some ⟨lb, 0, none⟩) (n * n) (n * n)) rfl (by kernel_rfl) (by kernel_rfl) (by kernel_rfl) (by kernel_rfl) (fun _ _ _ h => h) (.inl ⟨by kernel_rfl, fun w' hC => by obtain ⟨y1, y2, y3, y4, y5⟩ := hC; go_simp⟩) HC0.out ?_
          go_frame
          refine wpAnyC_one 5 (fuel := 4) (by kernel_rfl) rfl rfl (fun K4 hK4 => ?_)
          go_wp2_with (go_at_call 13; refine (HCa1.out).mono ?_; rintro e w7 ⟨rfl, h2, M7, S7⟩)
          have hk17 : Keep (fun g => h.t g ≠ .no) w1 w7 := ((Keep.refl _ w1).drew).trans S7.keep (fun _ _ e => e) (fun _ _ e => e)
          have hkx7 : Keep (fun g => h.t g ≠ .no) wx w7 := (HN1.out.mono (q := fun g => h.t g ≠ .no) (fun _ _ e => e.elim)).trans hk17 (fun _ _ e => e) (fun _ _ e => e)
          have hbk7 := (hk17.block bk HLo.out (fun e => e HFr.out)).trans HBk.out
          have hrl := (Array.getElem?_eq_some_iff.1 HR.out).1
          have hlo := HLo.out
          have hbl7 : bk < w7.heap.size := (Array.getElem?_eq_some_iff.1 hbk7).1
          have hs7 : Seg w7 (fun g => h2.t g = .no ∧ r < g) 28 1 (.slice ca q cc) q (intsL CD) := ((HSg.out.mono (ok2 := fun g => g < wx.heap.size ∧ (h.t g = .no ∧ r < g)) (fun g hg e => ⟨hg, e⟩)).keep hkx7 (fun g _ e e2 => e2 e.2.1)).mono (fun g _ e => ⟨(S7.tags g (by have h1 := e.1; show g < w1.heap.size; omega)).trans e.2.1, e.2.2⟩)
          have hT7 : ∀ g, h2.t g ≠ .no → r < g := rtagsI (W := w1.drew) (W2 := w7) S7.tags HT.out (by show r < w1.heap.size; omega)
          have hR7 := (hkx7.block r hrl (fun e => by have := HT.out r e; omega)).trans HR.out
          have hK7 : Stil W w7 := HK.out.trans hkx7 (fun _ _ e => e) (fun g hg e => by have := HT.out g e; omega)
          have o7 : w7.cell? ⟨ob, 0, none⟩ = some (.slice ca q cc) := by rw [M7.cells.1, S7.cv, HEv.out]
          have HC7 : Hid (∀ w' : World, Stil w7 w' → w'.cell? ⟨ob, 0, none⟩ = some (.slice ca q cc) ∧ w'.cell? ⟨bk, 0, none⟩ = some (.int .i64 kd) ∧ w'.cell? ⟨bk, 1, none⟩ = some (.int .i64 wh) ∧ w'.cell? ⟨bk, 2, none⟩ = some (.int .i64 ot) ∧ w'.cell? ⟨bk, 3, none⟩ = some (.int .i64 x)) := fun w' hs => ⟨hs.cell o7, hs.cell (cell_of_row w7 bk 0 _ _ _ hbk7), hs.cell (cell_of_row w7 bk 1 _ _ _ hbk7), hs.cell (cell_of_row w7 bk 2 _ _ _ hbk7), hs.cell (cell_of_row w7 bk 3 _ _ _ hbk7)⟩
          have HM7 := hidMk M7
          have HS7 := hidMk hs7
          have HT7 := hidMk hT7
          have HR7 := hidMk hR7
          have HK7 := hidMk hK7
          have HB7 : Hid (h2.bv = .slice none 0 0 ∧ h2.dv = .bool false) := ⟨S7.bv.trans HB.out.1, S7.dv.trans HB.out.2⟩
          have HV7 : Hid (h2.cv = .slice ca q cc) := S7.cv.trans HEv.out
          have HQ7 : Hid (w7.heap[bk]? = some (.cells #[.int .i64 kd, .int .i64 wh, .int .i64 ot, .int .i64 x] 41 (0, 0))) := hbk7
          have HG7 : Hid (∀ g, (Value.slice ca q cc).ownBlock = some g → g < bk) := fun g e => by have := (HSg.out.block e).2; omega
          clear M7 S7 hk17 hkx7 hbk7 hs7 hT7 hR7 hK7 o7 HM HT HR HK HB HEv HBk HC0 HCk HCa1 HSg HN1 hlo hrl HLo HFr
          obtain ⟨j0, jit, jz0, jz1, jz2⟩ := info_parts Try.info28
          refine ⟨fun _ => HC7.out _ (Keep.refl _ w7), ?_⟩
          (try go_frame)
          refine wpAnyC_one 6 (fuel := 3) (by kernel_rfl) rfl rfl (fun K5 hK5 => ?_)
          go_wp2
          refine ⟨by first | exact fun _ => HC7.out _ ((Keep.refl _ w7).alloc _) | exact HC7.out _ ((Keep.refl _ w7).alloc _), ?_⟩
          refine wpAnyC_one 7 (fuel := 2) (by kernel_rfl) rfl rfl (fun K6 hK6 => ?_)
          refine oper_append_seg (.tmp 50) (.tmp 55) 24 rfl 28 j0 (.int .i64 0) 1 8 Try.underlying24 jit jz0 jz1 jz2 rfl (by decide) (.slice ca q cc) q (intsL CD) rfl (segAlloc HS7.out _) ⟨w7.heap.size, 0, none⟩ 1 1 [.int .i64 cd] rfl rfl (fun j2 u hu => cCell1 w7 (.int .i64 cd) 28 _ rfl j2 u hu) (cOne _) (by unfold maxLen; omega) (by omega) ?_
          intro v8 w8 hs8 hg8
          obtain ⟨a8, c8, rfl⟩ := segForm hs8
          have hk8 : Keep (fun g => (Value.slice ca q cc).ownBlock = some g) w7 w8 := ((Keep.refl _ w7).alloc _).grown hg8 (fun q e _ => e)
          have M8 := HM7.out.keep hk8 (fun g _ e => (HS7.out.block e).1.1)
          have hbk8 := (hk8.block bk hbl7 (fun e => by have := HG7.out bk e; omega)).trans HQ7.out
          have o8 : w8.cell? ⟨ob, 0, none⟩ = some (.slice ca q cc) := by rw [M8.cells.1, HV7.out]
          have f8 : w8.frozen? ⟨ob, 0, none⟩ = false := frozen_of_row w8 _ _ _ _ M8.blk
          have HC8 : Hid (w8.cell? ⟨ob, 0, none⟩ = some (.slice ca q cc) ∧ w8.cell? ⟨bk, 0, none⟩ = some (.int .i64 kd) ∧ w8.cell? ⟨bk, 1, none⟩ = some (.int .i64 wh) ∧ w8.cell? ⟨bk, 2, none⟩ = some (.int .i64 ot) ∧ w8.cell? ⟨bk, 3, none⟩ = some (.int .i64 x)) := ⟨o8, cell_of_row w8 bk 0 _ _ _ hbk8, cell_of_row w8 bk 1 _ _ _ hbk8, cell_of_row w8 bk 2 _ _ _ hbk8, cell_of_row w8 bk 3 _ _ _ hbk8⟩
          have hst8 : Keep (fun g => g = ob) w8 (w8.setCell ⟨ob, 0, none⟩ (.slice a8 (q + 1) c8)) := (Keep.refl _ w8).setCell ob _ _ (fun _ => rfl)
          have HM9 : Hid (RMov (w8.setCell ⟨ob, 0, none⟩ (.slice a8 (q + 1) c8)) ob lb n (rfAt n (rf0 (monF zs)) ps (q + 1)) ⟨.slice a8 (q + 1) c8, h2.mv, h2.ov, h2.bv, h2.dv, h2.t, h2.f⟩) := by rw [HEK.out]; exact M8.setCv _
          have HS9 : Hid (Seg (w8.setCell ⟨ob, 0, none⟩ (.slice a8 (q + 1) c8)) (fun g => h2.t g = .no ∧ r < g) 28 1 (.slice a8 (q + 1) c8) (q + 1) (intsL (cdR n (rf0 (monF zs)) ps (q + 1)))) := by
            rw [HEC.out]
            have h5 := (hs8.mono (ok2 := fun g => h2.t g = .no ∧ r < g) (fun g _ e => by
              rcases e with ⟨e, e2⟩ | e
              · exact e2
              · have e' : w7.heap.size ≤ g := by (try simp at e); omega
                exact ⟨HM7.out.fresh g e', by have h1 := (Array.getElem?_eq_some_iff.1 HR7.out).1; omega⟩)).keep hst8 (fun g _ e e2 => by subst e2; rw [HM7.out.tob] at e; cases e.1)
            show Seg _ _ _ _ _ _ _
            simpa [intsL] using h5
          have HR9 := hidMk ((hst8.block r (Array.getElem?_eq_some_iff.1 ((hk8.block r (Array.getElem?_eq_some_iff.1 HR7.out).1 (fun e => by have := (HS7.out.block e).1.2; omega)).trans HR7.out)).1 (by show ¬ r = ob; omega)).trans ((hk8.block r (Array.getElem?_eq_some_iff.1 HR7.out).1 (fun e => by have := (HS7.out.block e).1.2; omega)).trans HR7.out))
          have HK9 : Hid (Stil W (w8.setCell ⟨ob, 0, none⟩ (.slice a8 (q + 1) c8))) := (HK7.out.trans hk8 (fun _ _ e => e) (fun g hg e => by have := (HS7.out.block e).1.2; omega)).trans hst8 (fun _ _ e => e) (fun g hg e => by have e' : g = ob := e; omega)
          refine hK6 _ _ ⟨fun _ => HC8.out, ?_⟩
          clear hs8 hg8 hk8 M8 hbk8 hst8 HM7 HS7 HR7 HK7 HQ7 HG7 HC7
          go_frame
          refine wpAnyC_one 8 (fuel := 1) (by kernel_rfl) rfl rfl (fun K7 hK7 => ?_)
          go_wp2
          try (refine ⟨fun _ => HC8.out, ?_⟩)
          refine wpAnyC_one 9 (fuel := 0) (by kernel_rfl) rfl rfl (fun K8 hK8 => ?_)
          go_wp2
          refine ⟨fun h => absurd rfl h, ?_⟩
          refine wpAnyC_done (by kernel_rfl) ?_
          go_wp2
          go_roundw
          case rel => exact ⟨q + 1, _, by omega, by go_num, HM9, HS9, HT7, HR9, HK9, HB7⟩
          case measure => simp [intOf]; omega
        · obtain rfl : pl = q := by omega
          obtain ⟨hbv, hdv⟩ := HB.out
          have hblk := HM.out.blk
          rw [hbv, hdv] at hblk
          have c4 : wx.cell? ⟨ob, 4, none⟩ = some (.bool false) := by rw [cell_of_row wx _ _ _ _ _ hblk]; rfl
          have f4 : wx.frozen? ⟨ob, 4, none⟩ = false := frozen_of_row wx _ _ _ _ hblk
          have M2 := HM.out.setDv (.bool true)
          have hst : Keep (fun g => g = ob) wx (wx.setCell ⟨ob, 4, none⟩ (.bool true)) := (Keep.refl _ wx).setCell ob _ _ (fun _ => rfl)
          have hobl : ob < wx.heap.size := (Array.getElem?_eq_some_iff.1 hblk).1
          have hrl := (Array.getElem?_eq_some_iff.1 HR.out).1
          have HBt0 : Hid (Btw (wx.setCell ⟨ob, 4, none⟩ (.bool true)) (wx.setCell ⟨ob, 4, none⟩ (.bool true)) ob (0 * n) h.cv h.mv h.ov (.slice none 0 0) true (fun _ => false) [] (tlF n (rfAt n (rf0 (monF zs)) ps pl))) :=
            ⟨Nat.lt_of_lt_of_le hobl hst.size, Keep.refl _ _, by rw [heap_setCell_same wx ob _ _ _ _ hblk]; rfl, ⟨by simp, .inl ⟨rfl, by simp⟩⟩, fun t v hv => by simp at hv⟩
          have HM2 := hidMk M2
          have HS2 := hidMk (HS.out.keep hst (fun g _ e e2 => by subst e2; rw [HM.out.tob] at e; cases e.1))
          have HR2 := hidMk ((hst.block r hrl (by show ¬ r = ob; omega)).trans HR.out)
          have HK2 : Hid (Stil W (wx.setCell ⟨ob, 4, none⟩ (.bool true))) := HK.out.trans hst (fun _ _ e => e) (fun g hg e => by have e' : g = ob := e; omega)
          clear M2 hst hobl hrl hblk HM HS HR HK HB hbv hdv hlt
          go_upto_region 16 with fail
          generalize wx.setCell ⟨ob, 4, none⟩ (.bool true) = w2 at *
          clear c4 f4
          generalize hRf : rfAt n (rf0 (monF zs)) ps pl = R at *
          have HRf := hidMk hRf
          clear hRf
          go_wp2
          go_loopw [12] (fun s12 wr => ∃ (i : Nat) (bv : Value) (d : Bool) (u : Nat → Bool) (vals : List Value), i ≤ n ∧ s12 = .int .i64 (i : Int) ∧ Hid (Btw w2 wr ob (i * n) h.cv h.mv h.ov bv d u vals (tlF n R)) ∧ Hid (d = dF n R (i * n)) ∧ Hid (∀ g, wr.heap.size ≤ g → u g = false)) (fun u _ => n - (intOf u).toNat)
          case atStart => exact ⟨0, _, _, _, _, Nat.zero_le _, rfl, HBt0, by show _ = _; rw [Nat.zero_mul]; rfl, fun _ _ => rfl⟩
          case round =>
            clear HBt0
            obtain ⟨wi, rfl⟩ : ∃ w' : World, w' = wr := ⟨_, rfl⟩
            obtain ⟨i, bv, d, u, vals, hi, rfl, HBt, HD, HU⟩ := hrel
            by_cases hin : i < n
            · have hin' : (i : Int) < (n : Int) := by omega
              go_wp2
              go_loopw [13] (fun s13 wr => ∃ (j : Nat) (bv : Value) (d : Bool) (u : Nat → Bool) (vals : List Value), j ≤ n ∧ s13 = .int .i64 (j : Int) ∧ Hid (Btw w2 wr ob (i * n + j) h.cv h.mv h.ov bv d u vals (tlF n R)) ∧ Hid (d = dF n R (i * n + j)) ∧ Hid (∀ g, wr.heap.size ≤ g → u g = false)) (fun u _ => n - (intOf u).toNat)
              case atStart => exact ⟨0, bv, d, u, vals, Nat.zero_le _, rfl, HBt, HD, HU⟩
              case round =>
                clear HBt HD HU
                obtain ⟨wj, rfl⟩ : ∃ w' : World, w' = wr := ⟨_, rfl⟩
                obtain ⟨j, bv, d, u, vals, hj, rfl, HBt, HD, HU⟩ := hrel
                by_cases hjn : j < n
                · have hjn' : (j : Int) < (n : Int) := by omega
                  obtain ⟨y1, y2, y3, y4, y5⟩ := idx_facts h6 hin hjn
                  have hobl := HBt.out.obl
                  have hkj := HBt.out.keep
                  have hlbl := (Array.getElem?_eq_some_iff.1 HM2.out.lin).1
                  have hlbo : ¬ lb = ob := fun e => by have := HM2.out.tl; rw [e, HM2.out.tob] at this; cases this
                  have old : ∀ {g k : Nat} {v : Value}, g < w2.heap.size → ¬ g = ob → w2.cell? ⟨g, k, none⟩ = some v → wj.cell? ⟨g, k, none⟩ = some v := fun {g k v} hg he hv => (World.cell?_of_block (hkj.block g hg (by show ¬ (g = ob ∨ w2.heap.size ≤ g); omega))).trans hv
                  obtain ⟨n0, n1, n2, _⟩ := HM2.out.line hin hjn
                  have n0 := old hlbl hlbo n0
                  have n1 := old hlbl hlbo n1
                  have n2 := old hlbl hlbo n2
                  simp only at n0
                  have hst := HM2.out.st i j hin hjn
                  simp only at hst
                  obtain ⟨sa, sc, es⟩ := hst.form
                  rw [es] at hst n0
                  obtain ⟨go, oo, co, eo, hco, hto, hclo, _, _⟩ := HM2.out.own_at h0
                  simp only at eo hto
                  have hgol : go < w2.heap.size := World.block_lt_of_cell? _ _ (hclo j hjn)
                  have hgob : ¬ go = ob := fun e => by have := HM2.out.tob; simp only at this; rw [← e, hto] at this; cases this
                  have o1 := old hgol hgob (hclo j hjn)
                  have HSe : Hid (∀ (k : Nat) (z : Int), (R.lines i j).sent[k]? = some z → ∃ g off, sa = some ⟨g, off, none⟩ ∧ wj.cell? ⟨g, off + k, none⟩ = some (.int .i64 z)) := fun k z hz => by
                    have hkl := (List.getElem?_eq_some_iff.1 hz).1
                    have hst2 := hst
                    obtain ⟨hl1, ⟨e1, e2⟩ | ⟨g, off, cap, cur, e1, e2, e3, e4, e5, e6, e7⟩⟩ := hst2
                    · omega
                    · simp only [Value.slice.injEq] at e1
                      refine ⟨g, off, e1.1, old (Array.getElem?_eq_some_iff.1 e3).1 (fun e => by have := HM2.out.tob; simp only at this; rw [← e, e2] at this; cases this) ?_⟩
                      rw [cell_of_row _ _ _ _ _ _ e3]
                      exact e7 k _ (by simp [intsL, hz])
                  have HLe : Hid ((R.lines i j).come ≤ (R.lines i j).sent.length ∧ (R.lines i j).sent.length ≤ 120) := by
                    show _ ∧ _
                    rw [← HRf.out]
                    exact ⟨(sim_le hzs ps i j hin hjn).1, by have := at_sent n (monF zs) ps i j pl; omega⟩
                  obtain ⟨bc0, bc1, bc2, bcf⟩ := HBt.out.cells
                  clear hkj hlbl hlbo old hst hclo hgol hgob hobl
                  have HK5 : Hid (Keep (fun g => wj.heap.size ≤ g) wj (wj.alloc (.cells #[.slice sa (R.lines i j).sent.length sc, .int .i64 ((R.lines i j).come : Int), .int .i64 ((R.lines i j).ntd : Int)] 49))) := (Keep.refl _ wj).alloc _
                  have HN5 : Hid (Stil wj (wj.alloc (.cells #[.slice sa (R.lines i j).sent.length sc, .int .i64 ((R.lines i j).come : Int), .int .i64 ((R.lines i j).ntd : Int)] 49))) := (Keep.refl _ wj).alloc _
                  have HL5 := hidMk (al_new wj (.cells #[.slice sa (R.lines i j).sent.length sc, .int .i64 ((R.lines i j).come : Int), .int .i64 ((R.lines i j).ntd : Int)] 49))
                  have hij : ((i : Int) == (j : Int)) = (i == j) := by
                    by_cases e : i = j
                    · subst e; simp
                    · rw [beq_eq_false_iff_ne.2 (by omega), beq_eq_false_iff_ne.2 e]
                  rw [eo] at bc0
                  have HEo := hidMk eo
                  have HOc := hidMk (And.intro bc0 o1)
                  go_upto_region 23 with fail
                  generalize wj.alloc (.cells #[.slice sa (R.lines i j).sent.length sc, .int .i64 ((R.lines i j).come : Int), .int .i64 ((R.lines i j).ntd : Int)] 49) = w5 at *
                  generalize hbl : wj.heap.size = bl at *
                  have HF5 : Hid (∀ w' : World, Keep (fun g => w5.heap.size ≤ g) w5 w' → w'.cell? ⟨bl, 0, none⟩ = some (.slice sa (R.lines i j).sent.length sc) ∧ w'.cell? ⟨bl, 1, none⟩ = some (.int .i64 ((R.lines i j).come : Int)) ∧ w'.cell? ⟨bl, 2, none⟩ = some (.int .i64 ((R.lines i j).ntd : Int)) ∧ w'.cell? ⟨ob, 2, none⟩ = some (.slice (some ⟨go, oo, none⟩) n co) ∧ w'.cell? ⟨go, oo + j, none⟩ = some (.int .i64 (R.own j)) ∧
                      ∀ (k : Nat) (z : Int), (R.lines i j).sent[k]? = some z → ∃ g off, sa = some ⟨g, off, none⟩ ∧ w'.cell? ⟨g, off + k, none⟩ = some (.int .i64 z)) := fun w' hk => by
                    have up : ∀ {g k : Nat} {v : Value}, w5.cell? ⟨g, k, none⟩ = some v → w'.cell? ⟨g, k, none⟩ = some v := fun {g k v} hv => (World.cell?_of_block (hk.block g (World.block_lt_of_cell? _ _ hv) (by have := World.block_lt_of_cell? _ _ hv; show ¬ w5.heap.size ≤ g; simp only at this; omega))).trans hv
                    refine ⟨up (cell_of_row w5 bl 0 _ _ _ HL5.out), up (cell_of_row w5 bl 1 _ _ _ HL5.out), up (cell_of_row w5 bl 2 _ _ _ HL5.out), up (HN5.out.cell HOc.out.1), up (HN5.out.cell HOc.out.2), fun k z hz => ?_⟩
                    obtain ⟨g, off, e1, e2⟩ := HSe.out k z hz
                    exact ⟨g, off, e1, up (HN5.out.cell e2)⟩
                  clear n0 n1 n2 o1 bc0 bc1 bc2 bcf eo HSe HOc HEo
                  have hle1 := HLe.out.1
                  have hle2 := HLe.out.2
                  go_wp2
                  go_loopw [15, 16, 17] (fun lv mv kv wr => ∃ k : Nat, k ≤ (R.lines i j).come ∧ kv = .int .i64 (k : Int) ∧ mv = .bool ((i == j) || hasM ((R.lines i j).sent.take k)) ∧ Hid (Seg wr (fun g => w5.heap.size ≤ g) 3 1 lv (lkR (i == j) (R.own j) (R.lines i j).ntd (R.lines i j).sent k).length (intsL (lkR (i == j) (R.own j) (R.lines i j).ntd (R.lines i j).sent k))) ∧ Hid (Keep (fun g => w5.heap.size ≤ g) w5 wr)) (fun _ _ kv _ => (R.lines i j).come - (intOf kv).toNat)
                  case atStart => exact ⟨0, Nat.zero_le _, rfl, by simp [hasM], ⟨rfl, .inl ⟨rfl, rfl⟩⟩, Keep.refl _ _⟩
                  case round =>
                    obtain ⟨wk, rfl⟩ : ∃ w' : World, w' = wr := ⟨_, rfl⟩
                    obtain ⟨k, hk, rfl, rfl, HLs, HKk⟩ := hrel
                    obtain ⟨lv, rfl⟩ : ∃ v : Value, v = u15 := ⟨_, rfl⟩
                    by_cases hlt : k < (R.lines i j).come
                    · have hkl : k < (R.lines i j).sent.length := by omega
                      have hx : (R.lines i j).sent[k]? = some ((R.lines i j).sent[k]'hkl) := List.getElem?_eq_getElem hkl
                      generalize (R.lines i j).sent[k]'hkl = z at hx
                      have hlt' : (k : Int) < ((R.lines i j).come : Int) := by omega
                      have hkl' : (k : Int) < ((R.lines i j).sent.length : Int) := by omega
                      obtain ⟨x0, x1, x2, x3, x4, x5⟩ := HF5.out wk HKk.out
                      obtain ⟨g, off, hsa, x6⟩ := x5 k z hx
                      subst hsa
                      have HT1 : Hid (hasM ((R.lines i j).sent.take (k + 1)) = (hasM ((R.lines i j).sent.take k) || decide (z < 0))) := by
                        show _ = _
                        rw [List.take_add_one, hx]
                        exact hasM_append _ _
                      have HLk : Hid (lkR (i == j) (R.own j) (R.lines i j).ntd (R.lines i j).sent (k + 1) = if 0 ≤ R.own j ∧ (R.lines i j).ntd ≤ k ∧ 0 ≤ z ∧ ((i == j) || hasM ((R.lines i j).sent.take (k + 1))) = false then lkR (i == j) (R.own j) (R.lines i j).ntd (R.lines i j).sent k ++ [z] else lkR (i == j) (R.own j) (R.lines i j).ntd (R.lines i j).sent k) := by
                        show _ = _
                        conv => lhs; unfold lkR
                        simp only [hx]
                      clear x5 hx hkl
                      have HMn : Hid (((i == j) || hasM ((R.lines i j).sent.take (k + 1))) = (((i == j) || hasM ((R.lines i j).sent.take k)) || decide (z < 0))) := by show _ = _; rw [HT1.out, Bool.or_assoc]
                      clear HT1
                      generalize ((i == j) || hasM ((R.lines i j).sent.take k)) = mm at *
                      by_cases hz : z < 0
                      · have q1 : decide (z < 0) = true := decide_eq_true hz
                        have q4 : decide (0 ≤ z) = false := decide_eq_false (by omega)
                        have HM2 : Hid (((i == j) || hasM ((R.lines i j).sent.take (k + 1))) = true) := by show _ = _; rw [HMn.out, q1]; simp
                        have HL2 : Hid (lkR (i == j) (R.own j) (R.lines i j).ntd (R.lines i j).sent (k + 1) = lkR (i == j) (R.own j) (R.lines i j).ntd (R.lines i j).sent k) := by show _ = _; rw [HLk.out, if_neg (by omega)]
                        by_cases ho : 0 ≤ R.own j
                        · have q2 : decide (0 ≤ R.own j) = true := decide_eq_true ho
                          by_cases hn : (R.lines i j).ntd ≤ k
                          · have q3 : decide (((R.lines i j).ntd : Int) ≤ (k : Int)) = true := decide_eq_true (by omega)
                            have HLn : Hid (Seg wk (fun g => w5.heap.size ≤ g) 3 1 lv (lkR (i == j) (R.own j) (R.lines i j).ntd (R.lines i j).sent (k + 1)).length (intsL (lkR (i == j) (R.own j) (R.lines i j).ntd (R.lines i j).sent (k + 1)))) := by rw [HL2.out]; exact HLs.out
                            clear HL2 HLs HLk HMn
                            go_wp2
                            go_roundw
                            case rel => exact ⟨k + 1, by omega, by go_num, by rw [HM2.out], HLn, HKk⟩
                            case measure => simp [intOf]; omega
                          · have q3 : decide (((R.lines i j).ntd : Int) ≤ (k : Int)) = false := decide_eq_false (by omega)
                            have HLn : Hid (Seg wk (fun g => w5.heap.size ≤ g) 3 1 lv (lkR (i == j) (R.own j) (R.lines i j).ntd (R.lines i j).sent (k + 1)).length (intsL (lkR (i == j) (R.own j) (R.lines i j).ntd (R.lines i j).sent (k + 1)))) := by rw [HL2.out]; exact HLs.out
                            clear HL2 HLs HLk HMn
                            go_wp2
                            go_roundw
                            case rel => exact ⟨k + 1, by omega, by go_num, by rw [HM2.out], HLn, HKk⟩
                            case measure => simp [intOf]; omega
                        · have q2 : decide (0 ≤ R.own j) = false := decide_eq_false ho
                          have HLn : Hid (Seg wk (fun g => w5.heap.size ≤ g) 3 1 lv (lkR (i == j) (R.own j) (R.lines i j).ntd (R.lines i j).sent (k + 1)).length (intsL (lkR (i == j) (R.own j) (R.lines i j).ntd (R.lines i j).sent (k + 1)))) := by rw [HL2.out]; exact HLs.out
                          clear HL2 HLs HLk HMn
                          go_wp2
                          go_roundw
                          case rel => exact ⟨k + 1, by omega, by go_num, by rw [HM2.out], HLn, HKk⟩
                          case measure => simp [intOf]; omega
                      · have q1 : decide (z < 0) = false := decide_eq_false hz
                        have q4 : decide (0 ≤ z) = true := decide_eq_true (by omega)
                        have HM2 : Hid (((i == j) || hasM ((R.lines i j).sent.take (k + 1))) = mm) := by show _ = _; rw [HMn.out, q1, Bool.or_false]
                        by_cases ho : 0 ≤ R.own j
                        · have q2 : decide (0 ≤ R.own j) = true := decide_eq_true ho
                          by_cases hn : (R.lines i j).ntd ≤ k
                          · have q3 : decide (((R.lines i j).ntd : Int) ≤ (k : Int)) = true := decide_eq_true (by omega)
                            cases mm with
                            | true =>
                              have HL2 : Hid (lkR (i == j) (R.own j) (R.lines i j).ntd (R.lines i j).sent (k + 1) = lkR (i == j) (R.own j) (R.lines i j).ntd (R.lines i j).sent k) := by show _ = _; rw [HLk.out, if_neg (fun e => by rw [HM2.out] at e; simp at e)]
                              have HLn : Hid (Seg wk (fun g => w5.heap.size ≤ g) 3 1 lv (lkR (i == j) (R.own j) (R.lines i j).ntd (R.lines i j).sent (k + 1)).length (intsL (lkR (i == j) (R.own j) (R.lines i j).ntd (R.lines i j).sent (k + 1)))) := by rw [HL2.out]; exact HLs.out
                              clear HL2 HLs HLk HMn
                              go_wp2
                              go_roundw
                              case rel => exact ⟨k + 1, by omega, by go_num, by rw [HM2.out], HLn, HKk⟩
                              case measure => simp [intOf]; omega
                            | false =>
                              have HL2 : Hid (lkR (i == j) (R.own j) (R.lines i j).ntd (R.lines i j).sent (k + 1) = lkR (i == j) (R.own j) (R.lines i j).ntd (R.lines i j).sent k ++ [z]) := by show _ = _; rw [HLk.out, if_pos ⟨ho, hn, by omega, HM2.out⟩]
                              obtain ⟨i0, hit, hz0, hz1, hz2⟩ := info_parts Try.info3
                              obtain ⟨la, lc, el⟩ := HLs.out.form
                              subst el
                              have hll := lkR_len (i == j) (R.own j) (R.lines i j).ntd (R.lines i j).sent k
                              generalize lkR (i == j) (R.own j) (R.lines i j).ntd (R.lines i j).sent k = LL at *
                              have hll2 : LL.length ≤ 120 := by omega
                              generalize hlq : LL.length = lq at *
                              have HLq := hidMk hlq
                              clear HLk HMn hll hlq
                              go_wp2_with (at_builtin; refine wpList_append_seg _ rfl _ _ 22 rfl 3 i0 (.int .i64 0) 1 8 Try.underlying22 hit hz0 hz1 hz2 rfl (by decide) (.slice la lq lc) lq (intsL LL) rfl (HLs.out.alloc _) ⟨wk.heap.size, 0, none⟩ 1 1 [.int .i64 z] rfl rfl (cell_one_at _ _ _ _ rfl) (one_cell _) (by unfold maxLen; omega) (by omega) ?_)
                              intro v6 w6 hs6 hg6
                              obtain ⟨a6, c6, rfl⟩ := hs6.form
                              have hk6 : Keep (fun q => w5.heap.size ≤ q) wk w6 := ((Keep.refl _ wk).alloc _).grown hg6 (fun q e _ => (HLs.out.block e).1)
                              have HLn : Hid (Seg w6 (fun g => w5.heap.size ≤ g) 3 1 (.slice a6 (lq + 1) c6) (lkR (i == j) (R.own j) (R.lines i j).ntd (R.lines i j).sent (k + 1)).length (intsL (lkR (i == j) (R.own j) (R.lines i j).ntd (R.lines i j).sent (k + 1)))) := by
                                rw [HL2.out]
                                have h5 := hs6.mono (ok2 := fun g => w5.heap.size ≤ g) (fun q _ e => by
                                  rcases e with ⟨e, e2⟩ | e
                                  · exact e2
                                  · have := HKk.out.size; (try simp at e); omega)
                                have e1 : (LL ++ [z]).length = lq + 1 := by simp [HLq.out]
                                rw [e1]
                                show Seg _ _ _ _ _ _ _
                                simpa [intsL] using h5
                              have HKn : Hid (Keep (fun g => w5.heap.size ≤ g) w5 w6) := HKk.out.trans hk6 (fun _ _ e => e) (fun _ _ e => e)
                              clear hs6 hg6 hk6 HL2 HLs HKk
                              go_wp2
                              go_roundw
                              case rel => exact ⟨k + 1, by omega, by go_num, by rw [HM2.out], HLn, HKn⟩
                              case measure => simp [intOf]; omega
                          · have q3 : decide (((R.lines i j).ntd : Int) ≤ (k : Int)) = false := decide_eq_false (by omega)
                            have HL2 : Hid (lkR (i == j) (R.own j) (R.lines i j).ntd (R.lines i j).sent (k + 1) = lkR (i == j) (R.own j) (R.lines i j).ntd (R.lines i j).sent k) := by show _ = _; rw [HLk.out, if_neg (fun e => hn e.2.1)]
                            have HLn : Hid (Seg wk (fun g => w5.heap.size ≤ g) 3 1 lv (lkR (i == j) (R.own j) (R.lines i j).ntd (R.lines i j).sent (k + 1)).length (intsL (lkR (i == j) (R.own j) (R.lines i j).ntd (R.lines i j).sent (k + 1)))) := by rw [HL2.out]; exact HLs.out
                            clear HL2 HLs HLk HMn
                            go_wp2
                            go_roundw
                            case rel => exact ⟨k + 1, by omega, by go_num, by rw [HM2.out], HLn, HKk⟩
                            case measure => simp [intOf]; omega
                        · have q2 : decide (0 ≤ R.own j) = false := decide_eq_false ho
                          have HL2 : Hid (lkR (i == j) (R.own j) (R.lines i j).ntd (R.lines i j).sent (k + 1) = lkR (i == j) (R.own j) (R.lines i j).ntd (R.lines i j).sent k) := by show _ = _; rw [HLk.out, if_neg (fun e => ho e.1)]
                          have HLn : Hid (Seg wk (fun g => w5.heap.size ≤ g) 3 1 lv (lkR (i == j) (R.own j) (R.lines i j).ntd (R.lines i j).sent (k + 1)).length (intsL (lkR (i == j) (R.own j) (R.lines i j).ntd (R.lines i j).sent (k + 1)))) := by rw [HL2.out]; exact HLs.out
                          clear HL2 HLs HLk HMn
                          go_wp2
                          go_roundw
                          case rel => exact ⟨k + 1, by omega, by go_num, by rw [HM2.out], HLn, HKk⟩
                          case measure => simp [intOf]; omega
                    · have hke : k = (R.lines i j).come := by omega
                      subst hke
                      have hkk : Keep (fun g => wj.heap.size ≤ g) wj wk := HK5.out.trans HKk.out (fun g hg e => by show wj.heap.size ≤ g; have e' : bl ≤ g := e; omega) (fun g hg e => by show wj.heap.size ≤ g; have e' : w5.heap.size ≤ g := e; have := HK5.out.size; omega)
                      have HEq : Hid (lkR (i == j) (R.own j) (R.lines i j).ntd (R.lines i j).sent (R.lines i j).come = tlF n R (i * n + j)) := by
                        show _ = _
                        rw [lkR_all _ _ HLe.out.1]
                        unfold tlF
                        rw [div_at hjn, mod_at hjn]
                      rw [HEq.out] at HLs
                      have HMk : Hid (dF n R (i * n + j + 1) = (dF n R (i * n + j) && (((i == j) || hasM ((R.lines i j).sent.take (R.lines i j).come)) && decide (0 ≤ R.own j)))) := by
                        show _ = _
                        rw [dF_succ, div_at hjn, mod_at hjn]
                      have hq36 : i * n + j < 36 := by
                        have h9 : (i + 1) * n ≤ n * n := Nat.mul_le_mul_right _ hin
                        rw [Nat.succ_mul] at h9
                        omega
                      have HBk := hidMk (HBt.out.still hkk)
                      have HUk : Hid (∀ g, wk.heap.size ≤ g → u g = false) := fun g hg => HU.out g (by have := hkk.size; omega)
                      have HRow : Hid (RowB wk (fun g => w2.heap.size ≤ g ∧ u g = false) lv (tlF n R (i * n + j))) := HLs.out.mono (fun g hg e => ⟨by have e' : w5.heap.size ≤ g := e; have h1 := HK5.out.size; have h2 := HBt.out.keep.size; omega, HU.out g (by have e' : w5.heap.size ≤ g := e; have h1 := HK5.out.size; omega)⟩)
                      have hvl : vals.length = i * n + j := by have := HBk.out.bet.1; omega
                      obtain ⟨ll, lc, el⟩ := HRow.out.form
                      subst el
                      have hbs := HBk.out.bet
                      obtain ⟨ba, bc, eb⟩ := hbs.form
                      subst eb
                      have HBe := hidMk hbs
                      obtain ⟨_, c3, _, _⟩ := HBk.out.cells
                      have HBl := hidMk HBk.out.blk
                      have HVl := hidMk hvl
                      have hob2 := HBk.out.obl
                      have hsz2 := HBk.out.keep.size
                      have hobk : ob < wk.heap.size := by omega
                      obtain ⟨l0, lit, lz0, lz1, lz2⟩ := info_parts cInfoList
                      obtain ⟨go2, oo2, co2, eo2, hco2, hto2, hclo2, _, _⟩ := HM2.out.own_at h0
                      simp only at eo2 hto2
                      have hgl2 : go2 < w2.heap.size := World.block_lt_of_cell? _ _ (hclo2 j hjn)
                      have hgo2 : ¬ go2 = ob := fun e => by have := HM2.out.tob; simp only at this; rw [← e, hto2] at this; cases this
                      have HOw : Hid (w2.cell? ⟨go2, oo2 + j, none⟩ = some (.int .i64 (R.own j))) := hclo2 j hjn
                      have HEo2 := hidMk eo2
                      have hjc : (j : Int) < (n : Int) := by omega
                      generalize hmm : ((i == j) || hasM ((R.lines i j).sent.take (R.lines i j).come)) = mm at *
                      obtain ⟨_, x1, _, _, _, _⟩ := HF5.out wk HKk.out
                      generalize hQ : i * n + j = Q at *
                      have hQ1 : i * n + (j + 1) = Q + 1 := by omega
                      have HQ := hidMk hQ
                      clear hQ
                      have hTl : (tlF n R Q).length = (tlF n R Q).length := rfl
                      generalize hTL : tlF n R Q = TL at *
                      have HTL := hidMk hTL
                      clear hkk HLs hbs hvl hclo2 eo2 hmm hTL hTl HEq HKk HF5 HL5 HN5 HK5 HLe HBt HU hlt hk hij hle1 hle2
                      go_wp2_with (at_builtin; refine wpList_append_seg _ rfl _ _ 25 rfl 22 l0 (.slice none 0 0) 1 24 Try.underlying25 lit lz0 lz1 lz2 rfl (by decide) (.slice ba Q bc) Q vals rfl (segAlloc HBe.out _) ⟨wk.heap.size, 0, none⟩ 1 1 [.slice ll TL.length lc] rfl rfl (cCell1 wk (.slice ll TL.length lc) 22 _ rfl) (cOneL _ _ _) (by unfold maxLen; omega) (by omega) ?_)
                      intro v6 w6 hs6 hg6
                      obtain ⟨a6, c6, rfl⟩ := hs6.form
                      have hk6 : Keep (fun g => (Value.slice ba Q bc).ownBlock = some g) wk w6 := ((Keep.refl _ wk).alloc _).grown hg6 (fun q e _ => e)
                      have hnob : ¬ (Value.slice ba Q bc).ownBlock = some ob := fun e => by have := (HBe.out.block e).1.1; omega
                      have hblk6 := (hk6.block ob hobk hnob).trans HBl.out
                      have o3 : w6.cell? ⟨ob, 3, none⟩ = some (.slice ba Q bc) := by rw [cell_of_row w6 _ _ _ _ _ hblk6]; rfl
                      have fo3 : w6.frozen? ⟨ob, 3, none⟩ = false := frozen_of_row w6 _ _ _ _ hblk6
                      obtain ⟨u2, B6, U6⟩ := HBk.out.push HVl.out HRow.out (w3 := w6) (v := .slice a6 (Q + 1) c6) hk6 (hs6.mono (fun g _ e => by
                        rcases e with ⟨e, _⟩ | e
                        · exact .inl e
                        · exact .inr (by (try simp at e); omega)))
                      have htl : (fun t => if t = Q then TL else tlF n R t) = tlF n R := by
                        funext t
                        by_cases e : t = Q
                        · subst e; rw [if_pos rfl]; exact HTL.out.symm
                        · rw [if_neg e]
                      rw [htl] at B6
                      have HB6 := hidMk B6
                      have HU6 : Hid (∀ g, (w6.setCell ⟨ob, 3, none⟩ (.slice a6 (Q + 1) c6)).heap.size ≤ g → u2 g = false) := fun g hg => U6 HUk.out g (by simpa [World.setCell] using hg)
                      clear hs6 hg6 hk6 hnob hblk6 B6 U6 htl HBk HUk HRow HBe HBl HVl
                      go_upto_region 33 with fail
                      generalize w6.setCell ⟨ob, 3, none⟩ (.slice a6 (Q + 1) c6) = w7 at *
                      obtain ⟨c2', _, c4', cf'⟩ := HB6.out.cells
                      rw [HEo2.out] at c2'
                      have fo4 := cf' 4
                      have oj : w7.cell? ⟨go2, oo2 + j, none⟩ = some (.int .i64 (R.own j)) := (World.cell?_of_block (HB6.out.keep.block go2 hgl2 (by show ¬ (go2 = ob ∨ w2.heap.size ≤ go2); omega))).trans HOw.out
                      have HFin : Hid (∀ d2 : Bool, d2 = (d && (mm && decide (0 ≤ R.own j))) → Hid (Btw w2 (w7.setCell ⟨ob, 4, none⟩ (.bool d2)) ob (Q + 1) h.cv h.mv h.ov (.slice a6 (Q + 1) c6) d2 u2 (vals ++ [.slice ll TL.length lc]) (tlF n R)) ∧ Hid (d2 = dF n R (Q + 1)) ∧ Hid (∀ g, (w7.setCell ⟨ob, 4, none⟩ (.bool d2)).heap.size ≤ g → u2 g = false)) := fun d2 e => by
                        refine ⟨HB6.out.setDone d2, ?_, fun g hg => HU6.out g (by simpa [World.setCell] using hg)⟩
                        show _ = _
                        rw [e, HMk.out, ← HD.out]
                      have HEx : Hid (i * n + (j + 1) = Q + 1) := by show _ = _; exact hQ1
                      clear cf' o3 fo3 c3
                      by_cases ho : 0 ≤ R.own j
                      · have q2 : decide (0 ≤ R.own j) = true := decide_eq_true ho
                        have HFi := hidMk (HFin.out (d && mm) (by rw [q2, Bool.and_true]))
                        cases d <;> cases mm
                        all_goals
                          clear HFin HD HMk HB6 HU6
                          go_wp2
                          go_roundw
                          case rel => exact ⟨j + 1, _, _, u2, _, by omega, by go_num, by show Btw _ _ _ _ _ _ _ _ _ _ _ _; rw [HEx.out]; exact HFi.out.1, by show _ = _; rw [HEx.out]; exact HFi.out.2.1, HFi.out.2.2⟩
                          case measure => simp [intOf]; omega
                      · have q2 : decide (0 ≤ R.own j) = false := decide_eq_false ho
                        have HFi := hidMk (HFin.out false (by rw [q2]; cases d <;> cases mm <;> rfl))
                        cases d <;> cases mm
                        all_goals
                          clear HFin HD HMk HB6 HU6
                          go_wp2
                          go_roundw
                          case rel => exact ⟨j + 1, _, _, u2, _, by omega, by go_num, by show Btw _ _ _ _ _ _ _ _ _ _ _ _; rw [HEx.out]; exact HFi.out.1, by show _ = _; rw [HEx.out]; exact HFi.out.2.1, HFi.out.2.2⟩
                          case measure => simp [intOf]; omega
                · obtain rfl : n = j := by omega
                  have HBt2 : Hid (Btw w2 wj ob ((i + 1) * n) h.cv h.mv h.ov bv d u vals (tlF n R)) := by rw [Nat.succ_mul]; exact HBt.out
                  have HD2 : Hid (d = dF n R ((i + 1) * n)) := by rw [Nat.succ_mul]; exact HD.out
                  clear HBt HD
                  go_wp2
                  go_roundw
                  case rel => exact ⟨i + 1, bv, d, u, vals, by omega, by go_num, HBt2, HD2, HU⟩
                  case measure => simp [intOf]; omega
            · obtain rfl : n = i := by omega
              have hob2 := HBt.out.obl
              have hsz2 := HBt.out.keep.size
              have tob := HM2.out.tob
              simp only at tob
              have hno : ∀ {x : Tag} {g : Nat}, h.t g = x → x ≠ .mb → ¬ g = ob := fun {x g} e hx e2 => by rw [e2, tob] at e; exact hx e.symm
              have hrl := (Array.getElem?_eq_some_iff.1 HR2.out).1
              have hbr := (HBt.out.keep.block r hrl (by show ¬ (r = ob ∨ w2.heap.size ≤ r); omega)).trans HR2.out
              have sC := HS2.out.keep HBt.out.keep (fun g hg e e2 => by
                rcases e2 with e2 | e2
                · exact hno e.1 (by simp) e2
                · have e3 : w2.heap.size ≤ g := e2; omega)
              have sG := HM2.out.mon.keep HBt.out.keep (fun g hg e e2 => by
                rcases e2 with e2 | e2
                · exact hno e (by simp) e2
                · have e3 : w2.heap.size ≤ g := e2; omega)
              have sO := HM2.out.own.keep HBt.out.keep (fun g hg e e2 => by
                rcases e2 with e2 | e2
                · exact hno e (by simp) e2
                · have e3 : w2.heap.size ≤ g := e2; omega)
              simp only at sG sO
              obtain ⟨ca, cc, ec⟩ := sC.form
              obtain ⟨ga, gc, eg⟩ := sG.form
              obtain ⟨oa, oc, eo⟩ := sO.form
              have sB := HBt.out.bet
              have hnn1 : 0 < n * n := Nat.mul_pos h0 h0
              obtain ⟨B, bo, bc, eb, hBk, hBl, _, _, hBc, _, _⟩ := sB.at hnn1
              have hvl : vals.length = n * n := by have := sB.1; omega
              have hbo := HBt.out.blk
              rw [ec, eg, eo, eb] at hbo
              have o0 : wi.cell? ⟨ob, 0, none⟩ = some (.slice ca pl cc) := by rw [cell_of_row wi _ _ _ _ _ hbo]; rfl
              have o1 : wi.cell? ⟨ob, 1, none⟩ = some (.slice ga n gc) := by rw [cell_of_row wi _ _ _ _ _ hbo]; rfl
              have o2 : wi.cell? ⟨ob, 2, none⟩ = some (.slice oa n oc) := by rw [cell_of_row wi _ _ _ _ _ hbo]; rfl
              have o3 : wi.cell? ⟨ob, 3, none⟩ = some (.slice (some ⟨B, bo, none⟩) (n * n) bc) := by rw [cell_of_row wi _ _ _ _ _ hbo]; rfl
              have o4 : wi.cell? ⟨ob, 4, none⟩ = some (.bool d) := by rw [cell_of_row wi _ _ _ _ _ hbo]; rfl
              have r0 : wi.cell? ⟨r, 0, none⟩ = some (.slice none 0 0) := by rw [cell_of_row wi _ _ _ _ _ hbr]; rfl
              have r1 : wi.cell? ⟨r, 1, none⟩ = some (.slice none 0 0) := by rw [cell_of_row wi _ _ _ _ _ hbr]; rfl
              have r2 : wi.cell? ⟨r, 2, none⟩ = some (.slice none 0 0) := by rw [cell_of_row wi _ _ _ _ _ hbr]; rfl
              have r3 : wi.cell? ⟨r, 3, none⟩ = some (.slice none 0 0) := by rw [cell_of_row wi _ _ _ _ _ hbr]; rfl
              have r4 : wi.cell? ⟨r, 4, none⟩ = some (.bool false) := by rw [cell_of_row wi _ _ _ _ _ hbr]; rfl
              have f0 : wi.frozen? ⟨r, 0, none⟩ = false := frozen_of_row wi _ _ _ _ hbr
              have f1 : wi.frozen? ⟨r, 1, none⟩ = false := frozen_of_row wi _ _ _ _ hbr
              have f2 : wi.frozen? ⟨r, 2, none⟩ = false := frozen_of_row wi _ _ _ _ hbr
              have f3 : wi.frozen? ⟨r, 3, none⟩ = false := frozen_of_row wi _ _ _ _ hbr
              have f4 : wi.frozen? ⟨r, 4, none⟩ = false := frozen_of_row wi _ _ _ _ hbr
              have b1 := heap_setCell_same wi r 0 _ _ (.slice ca pl cc) hbr
              have b2 := heap_setCell_same _ r 1 _ _ (.slice ga n gc) b1
              have b3 := heap_setCell_same _ r 2 _ _ (.slice oa n oc) b2
              have b4 := heap_setCell_same _ r 3 _ _ (.slice (some ⟨B, bo, none⟩) (n * n) bc) b3
              have b5 := heap_setCell_same _ r 4 _ _ (.bool d) b4
              have kk := (((((Keep.refl (fun g => g = r) wi).setCell r 0 (.slice ca pl cc) (fun _ => rfl)).setCell r 1 (.slice ga n gc) (fun _ => rfl)).setCell r 2 (.slice oa n oc) (fun _ => rfl)).setCell r 3 (.slice (some ⟨B, bo, none⟩) (n * n) bc) (fun _ => rfl)).setCell r 4 (.bool d) (fun _ => rfl)
              obtain ⟨wz, hwz⟩ : ∃ w' : World, w' = ((((((wi.setCell ⟨r, 0, none⟩ (.slice ca pl cc)).setCell ⟨r, 1, none⟩ (.slice ga n gc)).setCell ⟨r, 2, none⟩ (.slice oa n oc)).setCell ⟨r, 3, none⟩ (.slice (some ⟨B, bo, none⟩) (n * n) bc)).setCell ⟨r, 4, none⟩ (.bool d))) := ⟨_, rfl⟩
              rw [← hwz] at kk b5
              rw [ec] at sC
              rw [eg] at sG
              rw [eo] at sO
              have hTr : ∀ g, h.t g ≠ .no → r < g := HT.out
              have qC := sC.keep kk (fun g _ e e2 => by have e3 : g = r := e2; have := e.2; omega)
              have qG := sG.keep kk (fun g _ e e2 => by have e3 : g = r := e2; have := hTr g (by rw [show h.t g = .money from e]; simp); omega)
              have qO := sO.keep kk (fun g _ e e2 => by have e3 : g = r := e2; have := hTr g (by rw [show h.t g = .own from e]; simp); omega)
              have HRows : Hid (∀ t, t < n * n → ∃ a c, wz.cell? ⟨B, bo + t, none⟩ = some (.slice a (tlF n R t).length c) ∧ RowI wz a (tlF n R t).length c (tlF n R t) ∧ ∀ x, a = some x → r < x.block) := fun t ht => by
                have hv : vals[t]? = some (vals[t]'(by omega)) := List.getElem?_eq_getElem (by omega)
                generalize vals[t]'(by omega) = v at hv
                have hrow := HBt.out.rows t v hv
                obtain ⟨a, c, ev⟩ := hrow.form
                subst ev
                refine ⟨a, c, (World.cell?_of_block (kk.block B hBl (by show ¬ B = r; have := hBk.1; omega))).trans (hBc t _ hv), seg_rowS (hrow.keep kk (fun g _ e e2 => by have e3 : g = r := e2; have := e.1; omega)), fun x hx => ?_⟩
                have := (hrow.block (k := x.block) (by rw [hx]; rfl)).1.1
                omega
              have HB5 := hidMk b5
              have HKf : Hid (Stil W wz) := (HK2.out.trans HBt.out.keep (fun _ _ e => e) (fun g hg e => by
                have hz := HK2.out.size
                rcases e with e | e
                · omega
                · have e3 : w2.heap.size ≤ g := e; omega)).trans kk (fun _ _ e => e) (fun g hg e => by have e3 : g = r := e; omega)
              have HQC := hidMk qC
              have HQG := hidMk qG
              have HQO := hidMk qO
              have HLo : Hid ((∀ x, ca = some x → r < x.block) ∧ (∀ x, ga = some x → r < x.block) ∧ (∀ x, oa = some x → r < x.block) ∧ r < B) := by
                refine ⟨fun x hx => ?_, fun x hx => ?_, fun x hx => ?_, ?_⟩
                · exact (sC.block (k := x.block) (by rw [hx]; rfl)).1.2
                · have h9 := (sG.block (k := x.block) (by rw [hx]; rfl)).1
                  exact hTr _ (by rw [show h.t x.block = .money from h9]; simp)
                · have h9 := (sO.block (k := x.block) (by rw [hx]; rfl)).1
                  exact hTr _ (by rw [show h.t x.block = .own from h9]; simp)
                · have := hBk.1; omega
              have HWz := hidMk hwz
              clear hwz
              clear b1 b2 b3 b4 b5 kk sC sG sO sB qC qG qO hbr hbo hBc hvl hno ec eg eo eb
              go_wp2
              refine bodyPost_ret (results_one_rowS (P := Try.prog) rfl _ _ r 27 #[.slice ca pl cc, .slice ga n gc, .slice oa n oc, .slice (some ⟨B, bo, none⟩) (n * n) bc, .bool d] (0, 0) _ rfl (by rw [← HWz.out]; simpa using HB5.out) Try.underlying27 rfl (by kernel_rfl)) rfl ?_
              rw [← HWz.out]
              have hdd : d = dF n R (n * n) := HD.out
              have hRR : rfAt n (rf0 (monF zs)) ps pl = R := HRf.out
              refine ⟨⟨ca, cc, ga, gc, oa, oc, B, bo, bc, by rw [hRR, ← hdd], ?_⟩, HKf.out⟩
              rw [hRR]
              refine ⟨seg_rowS HQC.out, fun x hx => by have := HLo.out.1 x hx; omega, ?_, fun x hx => by have := HLo.out.2.1 x hx; omega, ?_, fun x hx => by have := HLo.out.2.2.1 x hx; omega, by have := HLo.out.2.2.2; omega, fun t ht => ?_⟩
              · have h9 := HQG.out
                rw [rowF_ints] at h9
                exact seg_rowS h9
              · have h9 := HQO.out
                rw [rowF_ints] at h9
                exact seg_rowS h9
              · obtain ⟨a, c, x1, x2, x3⟩ := HRows.out t ht
                exact ⟨a, c, x1, x2, fun x hx => by have := x3 x hx; omega⟩
end Go.Proofs.Ythadhhconkjpmaa
