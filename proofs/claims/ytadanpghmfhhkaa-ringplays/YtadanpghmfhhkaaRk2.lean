/- The document's Ring, walked. -/
import Derived.Test.YtadanpghmfhhkaaRk1
import Derived.Deep.Cut
import Derived.Deep.CutRange
import Derived.Deep.CutBlock
namespace Go.Proofs.Ytadanpghmfhhkaa
open Go.RowKit
set_option linter.unusedVariables false

theorem results_one_rowG {P : Program} {fn : Func} {p : Tmp} {ty : TypeId} (h : fn.results = #[.cell p ty]) (tmps : Array Value) (w : World) (g : Nat) (t : TypeId) (cs : Array Value) (fr : Nat × Nat) (d : TypeDesc)
    (hp : tmps.getD p undef = .pointer (some ⟨g, 0, none⟩)) (hg : w.heap[g]? = some (.cells cs t fr))
    (hu : P.underlying ty = some d) (hd : (match d with | .struct _ | .array _ _ => true | _ => false) = true) (hi : (P.info? ty).map (·.size) = some cs.size) :
    (results fn tmps).run P w = .ok (.agg cs) w := by
  have hp2 : tmps[p]?.getD undef = .pointer (some ⟨g, 0, none⟩) := by rw [← Array.getD_eq_getD_getElem?]; exact hp
  simp [results, h, hp2, asAddr, run_loadVar_row w g t ty cs fr d hg hu hd hi]
theorem seg_rowG {W : World} {ok : Nat → Prop} {e : TypeId} {a : Option Addr} {n c : Nat} {l : List Int} (h : Seg W ok e 1 (.slice a n c) n (intsG l)) : RowI W a n c l := by
  obtain ⟨h1, ⟨h2, h3⟩ | ⟨g, off, cap, cur, h2, h3, h4, h5, h6, h7, h8⟩⟩ := h
  · subst h3
    cases h2
    exact ⟨by simpa [intsG] using h1, Nat.le_refl _, Nat.zero_le _, .inl rfl⟩
  · cases h2
    refine ⟨by simpa [intsG] using h1, h5, by omega, .inr ⟨g, off, rfl, (Array.getElem?_eq_some_iff.1 h4).1, fun j x hx => ?_⟩⟩
    rw [cell_of_row W _ _ _ _ _ h4]
    exact h8 j _ (by simp [intsG, hx])
def RowB (w : World) (a : Option Addr) (len cap : Nat) (xs : List Bool) : Prop :=
  xs.length = len ∧ len ≤ cap ∧ len ≤ maxLen ∧ (len = 0 ∨ ∃ b off, a = some ⟨b, off, none⟩ ∧ b < w.heap.size ∧ ∀ (j : Nat) (x : Bool), xs[j]? = some x → w.cell? ⟨b, off + j, none⟩ = some (.bool x))
theorem seg_rowB {W : World} {ok : Nat → Prop} {e : TypeId} {a : Option Addr} {n c : Nat} {l : List Bool} (h : Seg W ok e 1 (.slice a n c) n (boolsG l)) : RowB W a n c l := by
  obtain ⟨h1, ⟨h2, h3⟩ | ⟨g, off, cap, cur, h2, h3, h4, h5, h6, h7, h8⟩⟩ := h
  · subst h3
    cases h2
    exact ⟨by simpa [boolsG] using h1, Nat.le_refl _, Nat.zero_le _, .inl rfl⟩
  · cases h2
    refine ⟨by simpa [boolsG] using h1, h5, by omega, .inr ⟨g, off, rfl, (Array.getElem?_eq_some_iff.1 h4).1, fun j x hx => ?_⟩⟩
    rw [cell_of_row W _ _ _ _ _ h4]
    exact h8 j _ (by simp [boolsG, hx])
theorem d_close {W wr wz : World} {ob r : Nat} {o : Obj} {h hz : DSh} (S : DStp ob wr h wz hz) (HT : ∀ g, h.own ob g → r < g) (HR : wr.heap[r]? = some o) (HK : Stil W wr) (hr : W.heap.size = r) :
    (∀ g, hz.own ob g → r < g) ∧ wz.heap[r]? = some o ∧ Stil W wz := by
  have hrl : r < wr.heap.size := (Array.getElem?_eq_some_iff.1 HR).1
  refine ⟨fun g hg => ?_, S.block (fun e => by have := HT r e; omega) HR, HK.trans S.keep (fun _ _ e => e) (fun g hg e => by have := HT g e; omega)⟩
  by_cases hgl : g < wr.heap.size
  · exact HT g ((S.own hgl).1 hg)
  · omega
theorem snd_in {n : Nat} {nm : Nat → Int} {st : DS} {p : Tu} (h : sndD n nm st p = true) : ∃ i : Nat, p.who = (i : Int) ∧ i < n := by
  unfold sndD at h
  split at h
  · cases h
  · rename_i h0
    have h1 : codeD n st p = 0 := Classical.byContradiction h0
    unfold codeD at h1
    split at h1
    · omega
    split at h1
    · omega
    · rename_i h2
      obtain ⟨e, hl⟩ := inP_natG (show inP n p.who = true by simpa using h2)
      exact ⟨p.who.toNat, e, hl⟩
theorem mid_len {n : Nat} {nm : Nat → Int} {st : DS} {p : Tu} : (midD n nm st p).dst = st.dst ∧ (midD n nm st p).wh = st.wh ∧ (midD n nm st p).cm.length = st.cm.length := by
  unfold midD
  split
  · exact ⟨rfl, rfl, rfl⟩
  split
  · exact ⟨rfl, rfl, rfl⟩
  split <;> exact ⟨rfl, rfl, by simp [chosD, comeD]⟩
theorem mid_ch {n : Nat} {nm : Nat → Int} {st : DS} {p : Tu} : (midD n nm st p).ch.length ≤ st.ch.length + 1 := by
  unfold midD
  split
  · omega
  split
  · omega
  split
  · simp [chosD, comeD]
  · simp [comeD]

set_option maxRecDepth 100000 in
set_option maxHeartbeats 16000000 in
theorem ref_ring {W : World} {pa qa : Option Addr} {n pc pl qc : Nat} {zs : List Int} {ps : List Tu} (hp : RowI W pa n pc zs) (hq : CameT W qa pl qc ps) (hz : ringCode zs pl = 0) :
    Calls Try.prog 10 #[.slice pa n pc, .slice qa pl qc] W fun e W2 => (∃ ca cc va vc, e = .returned (.agg #[.slice ca pl cc, .slice va (gsAt n (nmL zs) ps pl).ch.length vc, .int .i64 ((gsAt n (nmL zs) ps pl).sent : Int), .int .i64 (awayG (gsAt n (nmL zs) ps pl) n : Int)]) ∧ RowI W2 ca pl cc ((List.range pl).map (gcAt n (nmL zs) ps)) ∧ RowI W2 va (gsAt n (nmL zs) ps pl).ch.length vc (natsI (gsAt n (nmL zs) ps pl).ch) ∧ (∀ x, ca = some x → W.heap.size ≤ x.block) ∧ ∀ x, va = some x → W.heap.size ≤ x.block) ∧ Stil W W2 := by
  obtain ⟨z1, z2, z3, z4⟩ := ringCode_zero hz
  have hzl := hp.1
  have hlp := hq.1
  rw [hzl] at z1 z2
  rcases hp.2.2.2 with hp4 | ⟨ng, no, rfl, hnb, hnc⟩
  · omega
  have HP : Hid (∀ i, i < n → W.cell? ⟨ng, no + i, none⟩ = some (.int .i64 (nmL zs i))) := fun i hi => hnc i _ (nmL_at (by rw [hzl]; exact hi))
  have HQ := hidMk hq
  obtain ⟨i0, hit, hz0, hz1, hz2⟩ := info_parts cInfoInt
  obtain ⟨b0, bit, bz0, bz1, bz2⟩ := info_parts cInfoBool
  obtain ⟨e0, eit, ez0, ez1, ez2⟩ := info_parts cInfoErr
  have hpl' : (pl : Int) ≤ 120 := by omega
  have hn6 : (n : Int) ≤ 6 := by omega
  have hmk := mMakeBools n (by omega)
  have HZ0 : Hid (W.heap.size < (W.alloc (.cells ringZ 26)).heap.size) := by show _ < _; simp
  have HR0 : Hid ((W.alloc (.cells ringZ 26)).heap[W.heap.size]? = some (.cells ringZ 26 (0, 0))) := al_new _ _
  have HK0 : Hid (Stil W (W.alloc (.cells ringZ 26))) := Stil.new _ _
  have HAll := hidMk (fun k hk => cds_at n (nmL zs) ps k hk)
  have HSim := hidMk (fun k => sim_all n (nmL zs) ps k)
  have HLe := hidMk (fun k => ds_len n (nmL zs) ps k)
  generalize hnm : nmL zs = nm at *
  clear hp hq hz z4 hzl hnc hnb hnm
  go_enter Try.func10, Try.ntmps10
  go_upto_region 2 with fail
  generalize W.alloc (.cells ringZ 26) = w0 at *
  generalize hr : W.heap.size = r at *
  obtain ⟨h5, ht5, hw5, hm5, M5, hl5⟩ := dmv_start w0 n z2
  have hK1 : Stil w0 ((w0.alloc (.cells ringZ 26)).alloc (.cells (rowP n fun _ => false).toArray 4)) := ((Keep.refl _ w0).alloc _).alloc _
  have HM5 := hidMk M5
  have HK5 := hidMk (Stil.tr HK0.out hK1)
  have HR5 := hidMk ((hK1.block r HZ0.out (fun e => e)).trans HR0.out)
  have HT5 : Hid (∀ g, h5.own w0.heap.size g → r < g) := fun g hg => by have := hl5 g hg; have := HZ0.out; omega
  clear M5 hl5 hK1 HK0 HR0
  go_upto_region 7 with fail
  clear hmk
  generalize ((w0.alloc (.cells ringZ 26)).alloc (.cells (rowP n fun _ => false).toArray 4)) = w5 at *
  generalize w0.heap.size + 1 = Pb at *
  generalize w0.heap.size = ob at *
  clear HZ0
  go_wp2_with (fail)
  go_loopw [8, 9, 10, 27] (fun v8 v9 v10 u wr => ∃ k h, k ≤ pl ∧ u = .int .i64 (k : Int) ∧ v8 = h.tv ∧ v9 = h.wv ∧ v10 = h.mv ∧ Hid (Dmv wr ob n Pb (dsAt n nm ps k) h) ∧ Hid (wr.heap[r]? = some (.cells ringZ 26 (0, 0))) ∧ Hid (∀ g, h.own ob g → r < g) ∧ Hid (Stil W wr)) (fun _ _ _ u _ => pl - (intOf u).toNat)
  case atStart => exact ⟨0, h5, Nat.zero_le _, rfl, ht5.symm, hw5.symm, hm5.symm, HM5, HR5, HT5, HK5⟩
  case round =>
    obtain ⟨k, h, hk, rfl, rfl, rfl, rfl, HM, HR, HT, HK⟩ := hrel
    clear HM5 HR5 HT5 HK5 ht5 hw5 hm5
    obtain ⟨hL1, hL2⟩ := HLe.out k
    have HS := hidMk (HSim.out k)
    have hLw := HS.out.wl
    have hLm := HS.out.cl
    by_cases hlt : k < pl
    · have hlt' : (k : Int) < (pl : Int) := by omega
      obtain ⟨hpl1, hpl2, hpl3, hpr⟩ := HQ.out
      rcases hpr with hpr | ⟨b, off, rfl, hbW, hpr⟩
      · omega
      have hpk : ps[k]? = some (ps[k]'(by omega)) := List.getElem?_eq_getElem (by omega)
      generalize ps[k]'(by omega) = p at hpk
      have d0 := HK.out.cell (hpr k p hpk).1
      have d1 := HK.out.cell (hpr k p hpk).2
      have HSt : Hid (dsAt n nm ps (k + 1) = stepD n nm (dsAt n nm ps k) p) := by show (match ps[k]? with | some p => _ | none => _) = _; rw [hpk]
      have hcd : (dsAt n nm ps k).cds.length = k := by rw [HAll.out k (by omega)]; simp
      generalize dsAt n nm ps k = st at *
      generalize gsAt n nm ps k = gs at *
      clear hpk hpr hpl3
      obtain ⟨cdv, chv, tv, wv, mv, t⟩ := h
      obtain ⟨s1, s2, s3, s4, s5⟩ := HM.out.segs
      obtain ⟨ta, tcp, e3⟩ := segForm s3
      obtain ⟨waa, wcp, e4⟩ := segForm s4
      obtain ⟨ma, mcp, e5⟩ := segForm s5
      simp only at e3 e4 e5 s3 s4 s5
      rw [hLw] at e4
      rw [hLm] at e5
      subst e3
      subst e4
      subst e5
      generalize hL : st.dst.length = L at *
      clear s1 s2 s3 s4 s5
      have hL' : (L : Int) ≤ 120 := by omega
      have HA1 : Hid (Stil wr (wr.alloc (.cells #[.int .i64 p.kind, .int .i64 p.who] 36))) := Stil.new _ _
      have HA2 : Hid ((wr.alloc (.cells #[.int .i64 p.kind, .int .i64 p.who] 36)).heap[wr.heap.size]? = some (.cells #[.int .i64 p.kind, .int .i64 p.who] 36 (0, 0))) := al_new _ _
      have HTo : Hid (∀ g, t g ≠ none ∨ g = ob → g < wr.heap.size) := fun g hg => by
        rcases hg with hg | hg
        · refine Classical.byContradiction fun e => hg (HM.out.pool.fresh g (by omega))
        · rw [hg]; exact HM.out.ob_lt
      go_upto_region 10 with fail
      clear d0 d1
      generalize wr.alloc (.cells #[.int .i64 p.kind, .int .i64 p.who] 36) = w7 at *
      generalize hbk : wr.heap.size = bk at *
      have HM7 := hidMk (HM.out.still HA1.out)
      have HB7 : Hid (w7.cell? ⟨bk, 0, none⟩ = some (.int .i64 p.kind) ∧ w7.cell? ⟨bk, 1, none⟩ = some (.int .i64 p.who)) := by
        constructor <;> rw [cell_of_row _ _ _ _ _ _ HA2.out] <;> rfl
      have HK7 := hidMk (Stil.tr HK.out HA1.out)
      have HR7 := hidMk ((HA1.out.block r (Array.getElem?_eq_some_iff.1 HR.out).1 (fun e => e)).trans HR.out)
      have HN7 : Hid (∀ i, i < n → w7.cell? ⟨ng, no + i, none⟩ = some (.int .i64 (nm i))) := fun i hi => HK7.out.cell (HP.out i hi)
      have hbo : ¬ (DSh.own ⟨cdv, chv, .slice ta L tcp, .slice waa L wcp, .slice ma L mcp, t⟩ ob bk) := fun e => by have := HTo.out bk e; omega
      clear HA1 HA2 HK HR HM
      go_upto_region 13 with fail
      obtain ⟨kd, z⟩ := p
      simp only at HB7 HSt
      go_cut [38] from 31 to 38 (fun s38 wx => s38 = .bool (kd != 1 && kd != 2) ∧ wx = w7)
      case first =>
        obtain ⟨y0, y1⟩ := HB7.out
        by_cases e1 : (kd != 1) = true
        · go_wp2
          go_meet
          case rel => exact ⟨by simp [e1], rfl⟩
        · have e1 : (kd != 1) = false := by simpa using e1
          go_wp2
          go_meet
          case rel => exact ⟨by simp [e1], rfl⟩
      case rest =>
      obtain ⟨rfl, hwb⟩ := hcut
      obtain rfl := hwb.symm
      clear hwb
      go_upto_if 38 with fail
      go_cut [13, 14, 15, 16, 17] from 31 to 126 (fun s13 s14 s15 s16 s17 wx => ∃ cdv1 chv1 t1, s13 = .int .i64 (codeD n st ⟨kd, z⟩) ∧ s14 = .bool (sndD n nm st ⟨kd, z⟩) ∧ s15 = .int .i64 (nameD n nm st ⟨kd, z⟩) ∧ Hid (Dmv wx ob n Pb (midD n nm st ⟨kd, z⟩) ⟨cdv1, chv1, .slice ta L tcp, .slice waa L wcp, .slice ma L mcp, t1⟩) ∧ Hid (DStp ob w7 ⟨cdv, chv, .slice ta L tcp, .slice waa L wcp, .slice ma L mcp, t⟩ wx ⟨cdv1, chv1, .slice ta L tcp, .slice waa L wcp, .slice ma L mcp, t1⟩))
      case first =>
        obtain ⟨y0, y1⟩ := HB7.out
        by_cases hkd : kd ≠ 1 ∧ kd ≠ 2
        · have e1 : (kd == 1) = false := by simp [hkd.1]
          have e2 : (kd == 2) = false := by simp [hkd.2]
          have e3 : (kd != 1) = true := by simp [hkd.1]
          have e4 : (kd != 2) = true := by simp [hkd.2]
          have e5 : (kd != 1 && kd != 2) = true := by rw [e3, e4]; rfl
          rw [e5]
          clear e5
          have HEc : Hid (codeD n st ⟨kd, z⟩ = 4) := by show _ = _; unfold codeD; rw [if_pos hkd]
          have hne : codeD n st ⟨kd, z⟩ ≠ 0 := by rw [HEc.out]; omega
          have HEs : Hid (sndD n nm st ⟨kd, z⟩ = false) := by show _ = _; unfold sndD; rw [if_pos hne]
          have HEn : Hid (nameD n nm st ⟨kd, z⟩ = 0) := by show _ = _; unfold nameD; rw [if_pos hkd]
          have HEm : Hid (midD n nm st ⟨kd, z⟩ = st) := by show _ = _; unfold midD; rw [if_pos hne]
          clear hkd hne
          go_wp2
          go_meet
          case rel => exact ⟨cdv, chv, t, by rw [HEc.out], by rw [HEs.out], by rw [HEn.out], by show Dmv _ _ _ _ _ _; rw [HEm.out]; exact HM7.out, DStp.refl _ _ _⟩
        have e5 : (kd != 1 && kd != 2) = false := by
          by_cases e : kd = 1
          · simp [e]
          · have : kd = 2 := by omega
            simp [this]
        rw [e5]
        clear e5
        by_cases hin : inP n z = true
        · obtain ⟨ez, hi⟩ := inP_natG hin
          generalize z.toNat = i at *
          subst ez
          have hinf : ¬ inP n (i : Int) = false := by rw [hin]; simp
          have hi' : (i : Int) < (n : Int) := by omega
          have qi1 : decide ((i : Int) < 0) = false := decide_eq_false (by omega)
          have qi2 : decide ((n : Int) ≤ (i : Int)) = false := decide_eq_false (by omega)
          have x0 := HN7.out i hi
          obtain ⟨pp, pf⟩ := HM7.out.part hi
          by_cases hk1 : kd = 1
          · subst hk1
            have hP0 : st.part i = (st.part i) := rfl
            cases hpt : st.part i with
            | true =>
              rw [hpt] at pp
              have HEc : Hid (codeD n st ⟨1, (i : Int)⟩ = 6) := by show _ = _; unfold codeD; rw [if_neg hkd, if_neg hinf, if_pos rfl]; simp [hpt]
              have hne : codeD n st ⟨1, (i : Int)⟩ ≠ 0 := by rw [HEc.out]; omega
              have HEs : Hid (sndD n nm st ⟨1, (i : Int)⟩ = false) := by show _ = _; unfold sndD; rw [if_pos hne]
              have HEn : Hid (nameD n nm st ⟨1, (i : Int)⟩ = nm i) := by show _ = _; unfold nameD; rw [if_neg hkd, if_neg hinf, if_pos rfl]; simp
              have HEm : Hid (midD n nm st ⟨1, (i : Int)⟩ = st) := by show _ = _; unfold midD; rw [if_pos hne]
              clear hne hkd hinf hpt hP0
              go_wp2
              go_meet
              case rel => exact ⟨cdv, chv, t, by rw [HEc.out], by rw [HEs.out], by rw [HEn.out], by show Dmv _ _ _ _ _ _; rw [HEm.out]; exact HM7.out, DStp.refl _ _ _⟩
            | false =>
              rw [hpt] at pp
              have HEc : Hid (codeD n st ⟨1, (i : Int)⟩ = 0) := by show _ = _; unfold codeD; rw [if_neg hkd, if_neg hinf, if_pos rfl]; simp [hpt]
              have hne : ¬ codeD n st ⟨1, (i : Int)⟩ ≠ 0 := by rw [HEc.out]; simp
              have HEs : Hid (sndD n nm st ⟨1, (i : Int)⟩ = true) := by show _ = _; unfold sndD; rw [if_neg hne, if_pos rfl]
              have HEn : Hid (nameD n nm st ⟨1, (i : Int)⟩ = nm i) := by show _ = _; unfold nameD; rw [if_neg hkd, if_neg hinf, if_pos rfl]; simp
              have HEm : Hid (midD n nm st ⟨1, (i : Int)⟩ = st) := by show _ = _; unfold midD; rw [if_neg hne, if_pos rfl]
              clear hne hkd hinf hpt hP0
              go_wp2
              go_meet
              case rel => exact ⟨cdv, chv, t, by rw [HEc.out], by rw [HEs.out], by rw [HEn.out], by show Dmv _ _ _ _ _ _; rw [HEm.out]; exact HM7.out, DStp.refl _ _ _⟩
          · have hk2 : kd = 2 := by omega
            subst hk2
            obtain ⟨_, _, s3, s4, s5⟩ := HM7.out.segs
            simp only at s3 s4 s5
            rw [hL] at s3
            rw [hLw] at s4
            rw [hLm] at s5
            have HRt := hidMk (seg_row s3)
            have HRw := hidMk (seg_rowG s4)
            have HRm := hidMk (seg_rowB s5)
            have HFm : Hid (∀ g off, ma = some ⟨g, off, none⟩ → ∀ j, w7.frozen? ⟨g, j, none⟩ = false) := fun g off e j => by
              have := HM7.out.pool.cells (τ := .cm) (s := ⟨4, 1, .slice ma L mcp, st.cm.length, boolsG st.cm⟩) rfl (g := g) (off := off) (n := L) (cap := mcp) (by rw [e])
              exact this.2.2.2 j
            clear s3 s4 s5
            have HI := hidMk hi
            go_wp2
            obtain ⟨wq, hwq⟩ : ∃ w' : World, w' = wr := ⟨_, rfl⟩
            subst hwq
            go_loopw [16, 17] (fun v16 v17 wl => ∃ (d : Nat) (m : Int), d ≤ L ∧ v17 = .int .i64 m ∧ v16 = .int .i64 (seekD st.dst st.cm i d) ∧ Hid (m = (L : Int) - 1 - (d : Int)) ∧ Hid (∃ q, wl = w7.drewN q)) (fun _ u _ => ((intOf u) + 1).toNat)
            case atStart => exact ⟨0, _, Nat.zero_le _, rfl, rfl, by show _ = _; omega, 0, rfl⟩
            case round =>
              obtain ⟨d, m, hd, rfl, rfl, HMm, HWq⟩ := hrel
              by_cases hdl : d < L
              · obtain ⟨kk, rfl⟩ : ∃ kk : Nat, m = (kk : Int) := ⟨L - 1 - d, by have := HMm.out; omega⟩
                have hkk : kk = L - 1 - d := by have := HMm.out; omega
                have hkL : kk < L := by omega
                have hkL' : (kk : Int) < (L : Int) := by omega
                obtain ⟨ra1, _, _, ra4⟩ := HRt.out
                obtain ⟨rb1, _, _, rb4⟩ := HRm.out
                rcases ra4 with ra4 | ⟨g1, o1, rfl, _, hc1⟩
                · omega
                rcases rb4 with rb4 | ⟨g3, o3, rfl, _, hc3⟩
                · omega
                obtain ⟨tk, htk⟩ : ∃ tk, st.dst[kk]? = some tk := ⟨_, List.getElem?_eq_getElem (by rw [hL]; exact hkL)⟩
                obtain ⟨ck, hck⟩ : ∃ ck, st.cm[kk]? = some ck := ⟨_, List.getElem?_eq_getElem (by rw [hLm]; exact hkL)⟩
                obtain ⟨q, hq⟩ := HWq.out
                have d1 : wr.cell? ⟨g1, o1 + kk, none⟩ = some (.int .i64 (tk : Int)) := by rw [hq]; exact hc1 kk _ (natsI_at htk)
                have d2 : wr.cell? ⟨g3, o3 + kk, none⟩ = some (.bool ck) := by rw [hq]; exact hc3 kk _ hck
                have y1' : wr.cell? ⟨bk, 1, none⟩ = some (.int .i64 (i : Int)) := by rw [hq]; exact y1
                have hk0 : decide ((0 : Int) ≤ (kk : Int)) = true := decide_eq_true (by omega)
                have hkm : decide ((kk : Int) < 0) = false := decide_eq_false (by omega)
                have HSk : Hid (seekD st.dst st.cm i (d + 1) = if hitD st.dst st.cm i kk = true then (kk : Int) else seekD st.dst st.cm i d) := by
                  show _ = _
                  rw [hkk, ← hL]; rfl
                have HQ2 := hidMk hq
                have HHit : Hid (hitD st.dst st.cm i kk = (decide (tk = i) && !ck)) := by
                  show _ = _
                  unfold hitD
                  rw [htk, hck]
                  cases ck <;> simp
                have HKK := hidMk hkk
                clear hq htk hck hc1 hc3 ra1 rb1 hkk
                by_cases hti : tk = i
                · subst hti
                  have q1 : ((tk : Int) == (tk : Int)) = true := by simp
                  cases ck with
                  | true =>
                    have HS2 : Hid (seekD st.dst st.cm tk (d + 1) = seekD st.dst st.cm tk d) := by show _ = _; rw [HSk.out, HHit.out]; simp
                    clear HSk HHit
                    go_wp2_with (fail)
                    go_quiet (fail)
                    go_wp2
                    go_roundw
                    case rel => exact ⟨d + 1, (kk : Int) - 1, by omega, by go_num, by rw [HS2.out], by have := HKK.out; show _ = _; omega, q + nq, by rw [HQ2.out, drewN_plus]⟩
                    case measure => simp [intOf]
                  | false =>
                    have HS2 : Hid (seekD st.dst st.cm tk (d + 1) = (kk : Int)) := by show _ = _; rw [HSk.out, HHit.out]; simp
                    clear HSk HHit
                    go_wp2_with (fail)
                    go_quiet (fail)
                    go_wp2
                    go_roundw
                    case rel => exact ⟨d + 1, (kk : Int) - 1, by omega, by go_num, by rw [HS2.out], by have := HKK.out; show _ = _; omega, q + nq, by rw [HQ2.out, drewN_plus]⟩
                    case measure => simp [intOf]
                · have q1 : ((tk : Int) == (i : Int)) = false := by rw [beq_eq_false_iff_ne]; omega
                  have HS2 : Hid (seekD st.dst st.cm i (d + 1) = seekD st.dst st.cm i d) := by show _ = _; rw [HSk.out, HHit.out]; simp [hti]
                  clear HSk HHit hti
                  go_wp2_with (fail)
                  go_quiet (fail)
                  go_wp2
                  go_roundw
                  case rel => exact ⟨d + 1, (kk : Int) - 1, by omega, by go_num, by rw [HS2.out], by have := HKK.out; show _ = _; omega, q + nq, by rw [HQ2.out, drewN_plus]⟩
                  case measure => simp [intOf]
              · obtain rfl : d = L := by omega
                have hm0 : decide (0 ≤ m) = false := decide_eq_false (by have := HMm.out; omega)
                have hm1 : m < 0 := by have := HMm.out; omega
                have hat : seekD st.dst st.cm i d = atD st i := by unfold atD; rw [hL]
                rw [hat]
                obtain ⟨q, hq⟩ := HWq.out
                have HQ2 := hidMk hq
                by_cases ha : atD st i < 0
                · have q1 : decide (atD st i < 0) = true := decide_eq_true ha
                  have HEc : Hid (codeD n st ⟨2, (i : Int)⟩ = 5) := by show _ = _; unfold codeD; rw [if_neg hkd, if_neg hinf]; simp [ha]
                  have hne : codeD n st ⟨2, (i : Int)⟩ ≠ 0 := by rw [HEc.out]; omega
                  have HEs : Hid (sndD n nm st ⟨2, (i : Int)⟩ = false) := by show _ = _; unfold sndD; rw [if_pos hne]
                  have HEn : Hid (nameD n nm st ⟨2, (i : Int)⟩ = 0) := by show _ = _; unfold nameD; rw [if_neg hkd, if_neg hinf]; simp [ha]
                  have HEm : Hid (midD n nm st ⟨2, (i : Int)⟩ = st) := by show _ = _; unfold midD; rw [if_pos hne]
                  clear hne hkd hinf hq hat
                  generalize atD st i = av at *
                  go_wp2
                  go_meet
                  case rel => exact ⟨cdv, chv, t, by rw [HEc.out], by rw [HEs.out], by rw [HEn.out], by show Dmv _ _ _ _ _ _; rw [HEm.out, HQ2.out]; exact HM7.out.still (Stil.drewN w7 q), by show DStp _ _ _ _ _; rw [HQ2.out]; exact DStp.of_still _ _ (Stil.drewN w7 q)⟩
                · obtain ⟨kf, rr, a1, a2, a3, a4, a5, a6, a7⟩ := sim_at HS.out hi ha
                  have HA1 := hidMk a1
                  rw [hL] at a2
                  have hHt : getD' st i = getD' st i := rfl
                  obtain ⟨rb1, _, _, rb4⟩ := HRm.out
                  rcases rb4 with rb4 | ⟨g3, o3, rfl, _, hc3⟩
                  · omega
                  have hMq := HM7.out.still (Stil.drewN w7 q)
                  rw [← hq] at hMq
                  have d2 : wr.cell? ⟨g3, o3 + kf, none⟩ = some (.bool false) := by rw [hq]; exact hc3 kf _ a4
                  have f2 : wr.frozen? ⟨g3, o3 + kf, none⟩ = false := by rw [hq]; exact HFm.out g3 o3 rfl _
                  obtain ⟨M8, S8⟩ := hMq.setCome (k := kf) (g := g3) (off := o3) (cap := mcp) (len := d) rfl (by rw [hLm]; exact a2)
                  have HM8 := hidMk M8
                  have HS8 : Hid (DStp ob w7 ⟨cdv, chv, .slice ta d tcp, .slice waa d wcp, .slice (some ⟨g3, o3, none⟩) d mcp, t⟩ (wr.setCell ⟨g3, o3 + kf, none⟩ (.bool true)) ⟨cdv, chv, .slice ta d tcp, .slice waa d wcp, .slice (some ⟨g3, o3, none⟩) d mcp, t⟩) := (DStp.of_still ob _ (by rw [hq]; exact Stil.drewN w7 q)).trans S8
                  have hkf' : (kf : Int) < (d : Int) := by omega
                  have y1w : wr.cell? ⟨bk, 1, none⟩ = some (.int .i64 (i : Int)) := by rw [hq]; exact y1
                  have HA5 := hidMk a5
                  have HG : Hid (∃ X, X = getD' st i) := ⟨_, rfl⟩
                  have HNe : Hid (codeD n st ⟨2, (i : Int)⟩ = 0) := by show _ = _; unfold codeD; rw [if_neg hkd, if_neg hinf]; simp [ha]
                  have HNa := hidMk ha
                  have HKd := hidMk hkd
                  have HInf := hidMk hinf
                  have q1 : decide ((kf : Int) < 0) = false := decide_eq_false (by omega)
                  rw [a1]
                  clear a1 a3 a4 a5 a6 a7 M8 S8 hMq hc3 rb1 hq hat ha hHt hkd hinf
                  go_upto_region 31 with fail
                  clear d2 f2
                  generalize wr.setCell ⟨g3, o3 + kf, none⟩ (.bool true) = w8 at *
                  obtain ⟨_, _, _, u4, _⟩ := HM8.out.segs
                  have hwl8 : (comeD st kf).wh.length = d := hLw
                  simp only at u4
                  rw [hwl8] at u4
                  obtain ⟨rw1, _, _, rw4⟩ := seg_rowG u4
                  rcases rw4 with rw4 | ⟨g2, o2, rfl, _, hc2⟩
                  · omega
                  have d3 : w8.cell? ⟨g2, o2 + kf, none⟩ = some (.int .i64 (getD' st i)) := hc2 kf _ HA5.out
                  have nng : ¬ (DSh.own ⟨cdv, chv, .slice ta d tcp, .slice (some ⟨g2, o2, none⟩) d wcp, .slice (some ⟨g3, o3, none⟩) d mcp, t⟩ ob ng) := fun e => by
                    have h1 := HT.out ng e
                    have h2 : ng < W.heap.size := World.block_lt_of_cell? _ _ (HP.out i hi)
                    omega
                  have x0' := HS8.out.free nng x0
                  have y1' := HS8.out.free hbo y1
                  obtain ⟨pp8, pf8⟩ := HM8.out.part hi
                  have pp8' : w8.cell? ⟨Pb, i, none⟩ = some (.bool (st.part i)) := pp8
                  obtain ⟨o0, o1, _, _, off8⟩ := HM8.out.cells
                  have fo1 := off8 1
                  clear u4 rw1 hc2 off8 pp pf pp8 pf8 x0 y0 y1 y1w nng
                  generalize hX : getD' st i = X at *
                  have HX := hidMk hX
                  clear hX
                  by_cases b1 : X = nm i
                  · have q2 : (X == nm i) = true := by rw [beq_iff_eq]; exact b1
                    have hne : ¬ codeD n st ⟨2, (i : Int)⟩ ≠ 0 := by rw [HNe.out]; simp
                    have HEc := HNe
                    have hx1 : getD' st (Int.toNat ((i : Nat) : Int)) = nm (Int.toNat ((i : Nat) : Int)) := by rw [Int.toNat_natCast, HX.out, b1]
                    have HEs : Hid (sndD n nm st ⟨2, (i : Int)⟩ = false) := by show _ = _; unfold sndD; rw [if_neg hne, if_neg (by simp), if_pos hx1]
                    have HEn : Hid (nameD n nm st ⟨2, (i : Int)⟩ = X) := by show _ = _; unfold nameD; rw [if_neg HKd.out, if_neg HInf.out, if_neg (by simp), if_neg (by rw [Int.toNat_natCast]; exact HNa.out), if_pos hx1, Int.toNat_natCast, HX.out]
                    have HEm : Hid (midD n nm st ⟨2, (i : Int)⟩ = chosD (comeD st kf) i) := by show _ = _; unfold midD; rw [if_neg hne, if_neg (by simp), if_pos hx1, Int.toNat_natCast, HA1.out, Int.toNat_natCast]
                    obtain ⟨_, u2, _, _, _⟩ := HM8.out.segs
                    obtain ⟨va0, vc0, ev⟩ := segForm u2
                    simp only at ev o1 u2
                    subst ev
                    have hcl : (comeD st kf).ch.length ≤ 1000 := by show st.ch.length ≤ 1000; omega
                    generalize hln : (comeD st kf).ch.length = ln at *
                    have HLn := hidMk hln
                    have HGs := hidMk u2
                    clear hne hx1 b1 HX HG HNe HKd HInf HNa u2 hln
                    go_upto_region 33 with fail
                    go_wp2_with (at_builtin; refine wpList_append_seg _ rfl _ _ 22 rfl 3 i0 (.int .i64 0) 1 8 Try.underlying22 hit hz0 hz1 hz2 rfl (by decide) (.slice va0 ln vc0) ln (natsL (comeD st kf).ch) rfl (segAlloc HGs.out _) ⟨w8.heap.size, 0, none⟩ 1 1 [.int .i64 (i : Int)] rfl rfl (cCell1 w8 (.int .i64 (i : Int)) 3 _ rfl) (cOne _) (by unfold maxLen; omega) (by omega) ?_)
                    intro v9 w9 hs9 hg9
                    obtain ⟨a9, c9, rfl⟩ := segForm hs9
                    obtain ⟨g4, g5, t9, M9, S9⟩ := HM8.out.pushCh (x := i) (wa := w8.alloc (.cells #[.int .i64 (i : Int)] 3)) (Stil.new w8 _) (by rw [HLn.out]; exact hs9.mono (fun g _ e => by simpa using e)) hg9
                    have HM9 := hidMk M9
                    have HS9 := hidMk (HS8.out.trans S9)
                    simp only at g4
                    clear hs9 hg9 M9 S9 HM8 HS8 o0 o1 fo1
                    go_wp2
                    go_meet
                    case rel => exact ⟨cdv, .slice a9 (ln + 1) c9, t9, by rw [HEc.out], by rw [HEs.out], by rw [HEn.out], by show Dmv _ _ _ _ _ _; rw [HEm.out]; exact HM9.out, HS9.out⟩
                  · have q2 : (X == nm i) = false := by rw [beq_eq_false_iff_ne]; exact b1
                    have hne : ¬ codeD n st ⟨2, (i : Int)⟩ ≠ 0 := by rw [HNe.out]; simp
                    have HEc := HNe
                    have hx1 : ¬ getD' st (Int.toNat ((i : Nat) : Int)) = nm (Int.toNat ((i : Nat) : Int)) := by rw [Int.toNat_natCast, HX.out]; exact b1
                    have HEm : Hid (midD n nm st ⟨2, (i : Int)⟩ = comeD st kf) := by show _ = _; unfold midD; rw [if_neg hne, if_neg (by simp), if_neg hx1, Int.toNat_natCast, HA1.out, Int.toNat_natCast]
                    by_cases b2 : nm i < X
                    · have q3 : decide (nm i < X) = true := decide_eq_true b2
                      have hx2 : nm (Int.toNat ((i : Nat) : Int)) < getD' st (Int.toNat ((i : Nat) : Int)) := by rw [Int.toNat_natCast, HX.out]; exact b2
                      have HEs : Hid (sndD n nm st ⟨2, (i : Int)⟩ = true) := by show _ = _; unfold sndD; rw [if_neg hne, if_neg (by simp), if_neg hx1, if_pos hx2]
                      have HEn : Hid (nameD n nm st ⟨2, (i : Int)⟩ = X) := by show _ = _; unfold nameD; rw [if_neg HKd.out, if_neg HInf.out, if_neg (by simp), if_neg (by rw [Int.toNat_natCast]; exact HNa.out), if_neg hx1, if_pos hx2, Int.toNat_natCast, HX.out]
                      clear hne hx1 hx2 b1 b2 HX HG HNe HKd HInf HNa o0 o1 fo1
                      go_wp2
                      go_meet
                      case rel => exact ⟨cdv, chv, t, by rw [HEc.out], by rw [HEs.out], by rw [HEn.out], by show Dmv _ _ _ _ _ _; rw [HEm.out]; exact HM8.out, HS8.out⟩
                    · have q3 : decide (nm i < X) = false := decide_eq_false b2
                      have hx2 : ¬ nm (Int.toNat ((i : Nat) : Int)) < getD' st (Int.toNat ((i : Nat) : Int)) := by rw [Int.toNat_natCast, HX.out]; exact b2
                      cases hpt : st.part i with
                      | true =>
                        have HEs : Hid (sndD n nm st ⟨2, (i : Int)⟩ = false) := by show _ = _; unfold sndD; rw [if_neg hne, if_neg (by simp), if_neg hx1, if_neg hx2, Int.toNat_natCast, hpt]; rfl
                        have HEn : Hid (nameD n nm st ⟨2, (i : Int)⟩ = X) := by show _ = _; unfold nameD; rw [if_neg HKd.out, if_neg HInf.out, if_neg (by simp), if_neg (by rw [Int.toNat_natCast]; exact HNa.out), if_neg hx1, if_neg hx2, Int.toNat_natCast, HX.out, hpt]; rfl
                        rw [hpt] at pp8'
                        clear hne hx1 hx2 b1 b2 HX HG HNe HKd HInf HNa o0 o1 fo1 hpt
                        go_wp2
                        go_meet
                        case rel => exact ⟨cdv, chv, t, by rw [HEc.out], by rw [HEs.out], by rw [HEn.out], by show Dmv _ _ _ _ _ _; rw [HEm.out]; exact HM8.out, HS8.out⟩
                      | false =>
                        have HEs : Hid (sndD n nm st ⟨2, (i : Int)⟩ = true) := by show _ = _; unfold sndD; rw [if_neg hne, if_neg (by simp), if_neg hx1, if_neg hx2, Int.toNat_natCast, hpt]; rfl
                        have HEn : Hid (nameD n nm st ⟨2, (i : Int)⟩ = nm i) := by show _ = _; unfold nameD; rw [if_neg HKd.out, if_neg HInf.out, if_neg (by simp), if_neg (by rw [Int.toNat_natCast]; exact HNa.out), if_neg hx1, if_neg hx2, Int.toNat_natCast, hpt]; simp
                        rw [hpt] at pp8'
                        clear hne hx1 hx2 b1 b2 HX HG HNe HKd HInf HNa o0 o1 fo1 hpt
                        go_wp2
                        go_meet
                        case rel => exact ⟨cdv, chv, t, by rw [HEc.out], by rw [HEs.out], by rw [HEn.out], by show Dmv _ _ _ _ _ _; rw [HEm.out]; exact HM8.out, HS8.out⟩
        · have hz2 : inP n z = false := by simpa using hin
          have HEc : Hid (codeD n st ⟨kd, z⟩ = 2) := by show _ = _; unfold codeD; rw [if_neg hkd, if_pos hz2]
          have hne : codeD n st ⟨kd, z⟩ ≠ 0 := by rw [HEc.out]; omega
          have HEs : Hid (sndD n nm st ⟨kd, z⟩ = false) := by show _ = _; unfold sndD; rw [if_pos hne]
          have HEn : Hid (nameD n nm st ⟨kd, z⟩ = 0) := by show _ = _; unfold nameD; rw [if_neg hkd, if_pos hz2]
          have HEm : Hid (midD n nm st ⟨kd, z⟩ = st) := by show _ = _; unfold midD; rw [if_pos hne]
          have hkk : kd = 1 ∨ kd = 2 := by omega
          by_cases h0 : z < 0
          · have q1 : decide (z < 0) = true := decide_eq_true h0
            clear hin hz2 hne hkd
            rcases hkk with rfl | rfl
            all_goals
              go_wp2
              go_meet
              case rel => exact ⟨cdv, chv, t, by rw [HEc.out], by rw [HEs.out], by rw [HEn.out], by show Dmv _ _ _ _ _ _; rw [HEm.out]; exact HM7.out, DStp.refl _ _ _⟩
          · have q1 : decide (z < 0) = false := decide_eq_false h0
            have q2 : decide ((n : Int) ≤ z) = true := by
              unfold inP at hz2
              simp at hz2
              exact decide_eq_true (hz2 (by omega))
            clear hin hz2 hne hkd
            rcases hkk with rfl | rfl
            all_goals
              go_wp2
              go_meet
              case rel => exact ⟨cdv, chv, t, by rw [HEc.out], by rw [HEs.out], by rw [HEn.out], by show Dmv _ _ _ _ _ _; rw [HEm.out]; exact HM7.out, DStp.refl _ _ _⟩
      case rest =>
        obtain ⟨cdv1, chv1, t1, rfl, rfl, rfl, HMx, HSx⟩ := hcut
        obtain ⟨l1, l2, l3⟩ := mid_len (n := n) (nm := nm) (st := st) (p := ⟨kd, z⟩)
        have l4 := mid_cds (n := n) (nm := nm) (st := st) ⟨kd, z⟩
        rw [← l1] at hL
        rw [← l2] at hLw
        rw [← l3] at hLm
        rw [← l4] at hcd
        have HC := hidMk (d_close HSx.out HT.out HR7.out HK7.out hr)
        obtain ⟨y0, y1⟩ := HB7.out
        have y1' := HSx.out.free hbo y1
        have hbt : ¬ t1 bk = some .pt := fun e => hbo (.inl (by have h9 : t1 bk = t bk := HSx.out.tags bk (World.block_lt_of_cell? _ _ y1); show t bk ≠ none; rw [← h9, e]; simp))
        have hck : -10 ≤ codeD n st ⟨kd, z⟩ ∧ codeD n st ⟨kd, z⟩ ≤ 10 := by
          unfold codeD
          split
          · omega
          split
          · omega
          split
          · split <;> omega
          · split <;> omega
        clear y0 y1 l1 l2 l3 l4 HM7 HB7 HN7 HK7 HR7 HSx hbo HTo
        by_cases hsd : sndD n nm st ⟨kd, z⟩ = true
        · obtain ⟨i, ez, hi⟩ := snd_in hsd
          simp only at ez
          subst ez
          have hi' : (i : Int) < (n : Int) := by omega
          have HF : Hid (dsAt n nm ps (k + 1) = lastD (addD (partD (midD n nm st ⟨kd, (i : Int)⟩) i) (nx n i) (nameD n nm st ⟨kd, (i : Int)⟩)) (codeD n st ⟨kd, (i : Int)⟩)) := by
            show _ = _
            rw [HSt.out]; unfold stepD; rw [if_pos hsd]; simp
          rw [hsd]
          clear hsd HSt
          generalize midD n nm st ⟨kd, (i : Int)⟩ = M at *
          generalize codeD n st ⟨kd, (i : Int)⟩ = cd at *
          generalize nameD n nm st ⟨kd, (i : Int)⟩ = na at *
          obtain ⟨pp, pf⟩ := HMx.out.part hi
          obtain ⟨M1, S1⟩ := HMx.out.setPart hi
          have hw1 : IntKind.i64.wrap ((i : Int) + 1) = ((i + 1 : Nat) : Int) := by rw [wrap_of ⟨by omega, by omega⟩]; omega
          have hj : nx n i < n := nx_lt (by omega)
          have hmod : ((i : Int) + 1).tmod (n : Int) = ((nx n i : Nat) : Int) := by
            show ((i + 1 : Nat) : Int).tmod ((n : Nat) : Int) = _
            rw [← Int.ofNat_tmod]; rfl
          have hmod2 : ((i : Int) + 1) % (n : Int) = ((nx n i : Nat) : Int) := by
            show ((i + 1 : Nat) : Int) % ((n : Nat) : Int) = _
            rw [← Int.natCast_emod]; rfl
          have hn1 : 1 ≤ (n : Int) := by omega
          have hn0 : ((n : Int) == 0) = false := by rw [beq_eq_false_iff_ne]; omega
          generalize nx n i = j at *
          have y1p : (wc.setCell ⟨Pb, i, none⟩ (.bool true)).cell? ⟨bk, 1, none⟩ = some (.int .i64 (i : Int)) := by
            by_cases e : bk = Pb
            · subst e
              exact absurd (HMx.out.part hi).1 (by
                intro e2
                have hb := HMx.out.pool.cells (τ := .pt) (s := ⟨4, 1, .slice (some ⟨bk, 0, none⟩) n n, n, rowP n M.part⟩) rfl (g := bk) (off := 0) (n := n) (cap := n) rfl
                exact hbt hb.1)
            · exact (World.cell?_of_block (Below.heap_setCell wc ⟨Pb, i, none⟩ _ bk e)).trans y1'
          have HM1 := hidMk M1
          have HS1 := hidMk S1
          clear M1 S1
          go_upto_region 41 with fail
          clear pp pf y1'
          generalize wc.setCell ⟨Pb, i, none⟩ (.bool true) = v1 at *
          obtain ⟨_, _, s3, _, _⟩ := HM1.out.segs
          simp only at s3
          have hL1x : (partD M i).dst.length = L := hL
          rw [hL1x] at s3
          have HG := hidMk s3
          clear s3
          go_wp2_with (at_builtin; refine wpList_append_seg _ rfl _ _ 22 rfl 3 i0 (.int .i64 0) 1 8 Try.underlying22 hit hz0 hz1 hz2 rfl (by decide) (.slice ta L tcp) L (natsL (partD M i).dst) rfl (segAlloc HG.out _) ⟨v1.heap.size, 0, none⟩ 1 1 [.int .i64 (j : Int)] rfl rfl (cCell1 v1 (.int .i64 (j : Int)) 3 _ rfl) (cOne _) (by unfold maxLen; omega) (by omega) ?_)
          intro v2 w2 hs2 hg2
          obtain ⟨a2, c2, rfl⟩ := segForm hs2
          obtain ⟨t2, M2, S2⟩ := HM1.out.pushTo (x := j) (wa := v1.alloc (.cells #[.int .i64 (j : Int)] 3)) (Stil.new v1 _) (by rw [hL1x]; exact hs2.mono (fun g _ e => by simpa using e)) hg2
          have HM2 := hidMk M2
          have HS2 := hidMk (HS1.out.trans S2)
          obtain ⟨_, _, _, s4, _⟩ := M2.segs
          simp only at s4
          have hL2x : (partD M i).wh.length = L := hLw
          rw [hL2x] at s4
          have HG2 := hidMk s4
          clear hs2 hg2 M2 S2 HM1 HS1 HG s4 y1p hmod hmod2 hn0 hn1 hw1
          go_wp2_with (at_builtin; refine wpList_append_seg _ rfl _ _ 22 rfl 3 i0 (.int .i64 0) 1 8 Try.underlying22 hit hz0 hz1 hz2 rfl (by decide) (.slice waa L wcp) L (intsG (partD M i).wh) rfl (segAlloc HG2.out _) ⟨w2.heap.size, 0, none⟩ 1 1 [.int .i64 na] rfl rfl (cCell1 w2 (.int .i64 na) 3 _ rfl) (cOne _) (by unfold maxLen; omega) (by omega) ?_)
          intro v3 w3 hs3 hg3
          obtain ⟨a3, c3, rfl⟩ := segForm hs3
          obtain ⟨t3, M3, S3⟩ := HM2.out.pushWh (x := na) (wa := w2.alloc (.cells #[.int .i64 na] 3)) (Stil.new w2 _) (by simp only; rw [hL2x]; exact hs3.mono (fun g _ e => by simpa using e)) hg3
          have HM3 := hidMk M3
          have HS3 := hidMk (HS2.out.trans S3)
          obtain ⟨_, _, _, _, s5⟩ := M3.segs
          simp only at s5
          have hL3x : (partD M i).cm.length = L := hLm
          rw [hL3x] at s5
          have HG3 := hidMk s5
          clear hs3 hg3 M3 S3 HM2 HS2 HG2 s5
          go_wp2_with (at_builtin; refine wpList_append_seg _ rfl _ _ 49 rfl 4 b0 (.bool false) 1 1 Try.underlying49 bit bz0 bz1 bz2 rfl (by decide) (.slice ma L mcp) L (boolsG (partD M i).cm) rfl (segAlloc HG3.out _) ⟨w3.heap.size, 0, none⟩ 1 1 [.bool false] rfl rfl (cCell1 w3 (.bool false) 4 _ rfl) (cOneB _) (by unfold maxLen; omega) (by omega) ?_)
          intro v4 w4 hs4 hg4
          obtain ⟨a4, c4, rfl⟩ := segForm hs4
          obtain ⟨t4, M4, S4⟩ := HM3.out.pushCm (x := false) (wa := w3.alloc (.cells #[.bool false] 4)) (Stil.new w3 _) (by simp only; rw [hL3x]; exact hs4.mono (fun g _ e => by simpa using e)) hg4
          have HM4 : Hid (Dmv w4 ob n Pb (addD (partD M i) j na) ⟨cdv1, chv1, .slice a2 (L + 1) c2, .slice a3 (L + 1) c3, .slice a4 (L + 1) c4, t4⟩) := M4
          have HS4 : Hid (DStp ob wc ⟨cdv1, chv1, .slice ta L tcp, .slice waa L wcp, .slice ma L mcp, t1⟩ w4 ⟨cdv1, chv1, .slice a2 (L + 1) c2, .slice a3 (L + 1) c3, .slice a4 (L + 1) c4, t4⟩) := HS3.out.trans S4
          clear hs4 hg4 M4 S4 HM3 HS3 HG3 hL1x hL2x hL3x
          obtain ⟨o0, _, _, _, off⟩ := HM4.out.cells
          obtain ⟨s1, _, _, _, _⟩ := HM4.out.segs
          obtain ⟨ca0, cc0, ev⟩ := segForm s1
          simp only at ev o0 s1
          subst ev
          have hcl : (addD (partD M i) j na).cds.length = k := hcd
          rw [hcl] at s1
          have hcv : (addD (partD M i) j na).cds.length = k := hcd
          rw [hcl] at HM4 HS4 o0
          have fo0 := off 0
          have HG4 := hidMk s1
          have hk120 : k ≤ 120 := by omega
          clear s1 off
          go_wp2_with (at_builtin; refine wpList_append_seg _ rfl _ _ 24 rfl 27 e0 (.int .i64 0) 1 8 Try.underlying24 eit ez0 ez1 ez2 rfl (by decide) (.slice ca0 k cc0) k (intsG (addD (partD M i) j na).cds) rfl (segAlloc HG4.out _) ⟨w4.heap.size, 0, none⟩ 1 1 [.int .i64 cd] rfl rfl (cCell1 w4 (.int .i64 cd) 27 _ rfl) (cOne _) (by unfold maxLen; omega) (by omega) ?_)
          intro v5 w5' hs5 hg5
          obtain ⟨a5, c5, rfl⟩ := segForm hs5
          obtain ⟨g4, g5, t5, M5, S5⟩ := HM4.out.pushCd (x := cd) (wa := w4.alloc (.cells #[.int .i64 cd] 27)) (Stil.new w4 _) (by rw [hcl]; exact hs5.mono (fun g _ e => by simpa using e)) hg5
          have HM5 := hidMk M5
          have HD := hidMk (d_close (HS4.out.trans S5) HC.out.1 HC.out.2.1 HC.out.2.2 hr)
          simp only at g4
          clear hs5 hg5 M5 S5 HM4 HS4 HC o0 fo0 HG4
          go_wp2
          go_roundw
          case rel => exact ⟨k + 1, ⟨.slice a5 (k + 1) c5, chv1, .slice a2 (L + 1) c2, .slice a3 (L + 1) c3, .slice a4 (L + 1) c4, t5⟩, by omega, by go_num, rfl, rfl, rfl, by show Dmv _ _ _ _ _ _; rw [HF.out]; exact HM5.out, HD.out.2.1, HD.out.1, HD.out.2.2⟩
          case measure => simp [intOf]; omega
        · have hsf : sndD n nm st ⟨kd, z⟩ = false := by simpa using hsd
          have HF : Hid (dsAt n nm ps (k + 1) = lastD (midD n nm st ⟨kd, z⟩) (codeD n st ⟨kd, z⟩)) := by
            show _ = _
            rw [HSt.out]; unfold stepD; rw [if_neg hsd]
          rw [hsf]
          clear hsd hsf HSt y1'
          generalize midD n nm st ⟨kd, z⟩ = M at *
          generalize codeD n st ⟨kd, z⟩ = cd at *
          generalize nameD n nm st ⟨kd, z⟩ = na at *
          obtain ⟨o0, _, _, _, off⟩ := HMx.out.cells
          obtain ⟨s1, _, _, _, _⟩ := HMx.out.segs
          obtain ⟨ca0, cc0, ev⟩ := segForm s1
          simp only at ev o0 s1
          subst ev
          rw [hcd] at HMx s1 o0 HC
          have fo0 := off 0
          have HG4 := hidMk s1
          clear s1 off
          go_wp2_with (at_builtin; refine wpList_append_seg _ rfl _ _ 24 rfl 27 e0 (.int .i64 0) 1 8 Try.underlying24 eit ez0 ez1 ez2 rfl (by decide) (.slice ca0 k cc0) k (intsG M.cds) rfl (segAlloc HG4.out _) ⟨wc.heap.size, 0, none⟩ 1 1 [.int .i64 cd] rfl rfl (cCell1 wc (.int .i64 cd) 27 _ rfl) (cOne _) (by unfold maxLen; omega) (by omega) ?_)
          intro v5 w5' hs5 hg5
          obtain ⟨a5, c5, rfl⟩ := segForm hs5
          obtain ⟨g4, g5, t5, M5, S5⟩ := HMx.out.pushCd (x := cd) (wa := wc.alloc (.cells #[.int .i64 cd] 27)) (Stil.new wc _) (by rw [hcd]; exact hs5.mono (fun g _ e => by simpa using e)) hg5
          have HM5 := hidMk M5
          have HD := hidMk (d_close S5 HC.out.1 HC.out.2.1 HC.out.2.2 hr)
          simp only at g4
          clear hs5 hg5 M5 S5 HMx HC o0 fo0 HG4
          go_wp2
          go_roundw
          case rel => exact ⟨k + 1, ⟨.slice a5 (k + 1) c5, chv1, .slice ta L tcp, .slice waa L wcp, .slice ma L mcp, t5⟩, by omega, by go_num, rfl, rfl, rfl, by show Dmv _ _ _ _ _ _; rw [HF.out]; exact HM5.out, HD.out.2.1, HD.out.1, HD.out.2.2⟩
          case measure => simp [intOf]; omega
    · obtain rfl : k = pl := by omega
      have hcds := HAll.out k (by omega)
      obtain ⟨wo, hwo⟩ : ∃ w' : World, w' = wr := ⟨_, rfl⟩
      subst hwo
      generalize dsAt n nm ps k = st at *
      obtain ⟨cdv, chv, tv, wv, mv, t⟩ := h
      obtain ⟨s1, s2, s3, s4, s5⟩ := HM.out.segs
      obtain ⟨ca, cc, e1⟩ := segForm s1
      obtain ⟨va, vc, e2⟩ := segForm s2
      obtain ⟨ta, tcp, e3⟩ := segForm s3
      obtain ⟨waa, wcp, e4⟩ := segForm s4
      obtain ⟨ma, mcp, e5⟩ := segForm s5
      simp only at e1 e2 e3 e4 e5 s1 s2 s3 s4 s5
      have hcd : st.cds.length = k := by rw [hcds]; simp
      rw [hcd] at e1
      rw [hLw] at e4
      rw [hLm] at e5
      subst e1
      subst e2
      subst e3
      subst e4
      subst e5
      rw [hcd] at s1
      rw [hLm] at s5
      have HS1 := hidMk s1
      have HS2 := hidMk s2
      have HRm := hidMk (seg_rowB s5)
      have HTm : Hid (∀ g off, ma = some ⟨g, off, none⟩ → g ≠ ob) := fun g off e e2 => by
        have h1 : t g = some .cm := (s5.block (k := g) (by rw [e]; rfl)).1
        have h2 : t ob = none := HM.out.tob
        rw [e2, h2] at h1
        cases h1
      generalize hL : st.dst.length = L at *
      have HLd := hidMk hL
      generalize hil : st.ch.length = il at *
      have hL' : (L : Int) ≤ 120 := by omega
      obtain ⟨o0, o1, o2, o3, off⟩ := HM.out.cells
      have fo2 := off 2
      have hb0 := HM.out.blk
      have HB1 : Hid ((wo.setCell ⟨ob, 2, none⟩ (.int .i64 (L : Int))).heap[ob]? = some (.cells #[.slice ca k cc, .slice va il vc, .int .i64 (L : Int), .int .i64 0] 26 (0, 0))) := by
        have h1 := heap_setCell_same wo ob 2 _ _ (.int .i64 (L : Int)) hb0
        show _ = _
        simpa using h1
      have HK1 : Hid (Keep (fun g => g = ob) wo (wo.setCell ⟨ob, 2, none⟩ (.int .i64 (L : Int)))) := (Keep.refl _ wo).setCell _ _ _ (fun _ => rfl)
      have hobr : r ≠ ob := fun e => by have := HT.out ob (.inr rfl); omega
      clear s1 s2 s3 s4 s5 hb0 o0 o1 o3 off
      go_upto_region 47 with fail
      clear o2 fo2
      generalize hv1 : wo.setCell ⟨ob, 2, none⟩ (.int .i64 (L : Int)) = v1 at *
      clear hv1
      go_wp2_with (fail)
      go_loopw [159] (fun u wl => ∃ j : Nat, j ≤ L ∧ u = .int .i64 (j : Int) ∧ Hid (wl.heap[ob]? = some (.cells #[.slice ca k cc, .slice va il vc, .int .i64 (L : Int), .int .i64 (cntF (st.cm.take j) : Int)] 26 (0, 0))) ∧ Hid (Keep (fun g => g = ob) wo wl)) (fun u _ => L - (intOf u).toNat)
      case atStart => exact ⟨0, Nat.zero_le _, rfl, HB1, HK1⟩
      case round =>
        obtain ⟨j, hj, rfl, HBl, HKl⟩ := hrel
        have hb := HBl.out
        have c3 : wr.cell? ⟨ob, 3, none⟩ = some (.int .i64 (cntF (st.cm.take j) : Int)) := by rw [cell_of_row _ _ _ _ _ _ hb]; rfl
        have f3 : wr.frozen? ⟨ob, 3, none⟩ = false := frozen_of_row _ _ _ _ _ hb
        by_cases hlt2 : j < L
        · have hlt2' : (j : Int) < (L : Int) := by omega
          obtain ⟨rb1, _, _, rb4⟩ := HRm.out
          rcases rb4 with rb4 | ⟨g3, o3, rfl, hg3, hc3⟩
          · omega
          obtain ⟨ck, hck⟩ : ∃ ck, st.cm[j]? = some ck := ⟨_, List.getElem?_eq_getElem (by omega)⟩
          have d2 : wr.cell? ⟨g3, o3 + j, none⟩ = some (.bool ck) := (World.cell?_of_block (HKl.out.block g3 hg3 (HTm.out g3 o3 rfl))).trans (hc3 j _ hck)
          have hcl : cntF (st.cm.take j) ≤ 1000 := by
            have : ∀ l : List Bool, cntF l ≤ l.length := fun l => by
              induction l with
              | nil => exact Nat.le_refl _
              | cons x xs ih => simp only [cntF, List.length_cons]; split <;> omega
            have h1 := this (st.cm.take j)
            rw [List.length_take] at h1
            omega
          have HE : Hid (cntF (st.cm.take (j + 1)) = cntF (st.cm.take j) + if ck = true then 0 else 1) := by
            show _ = _
            rw [List.take_add_one, hck, cntF_append]
            simp [cntF]
          generalize hcn : cntF (st.cm.take j) = cn at *
          clear hcn rb1 hc3 hck
          cases ck with
          | true =>
            have HE2 : Hid (cntF (st.cm.take (j + 1)) = cn) := by show _ = _; rw [HE.out]; simp
            clear HE hb
            go_wp2
            go_roundw
            case rel => exact ⟨j + 1, by omega, by go_num, by rw [HE2.out]; exact HBl, HKl⟩
            case measure => simp [intOf]; omega
          | false =>
            have HE2 : Hid (cntF (st.cm.take (j + 1)) = cn + 1) := by show _ = _; rw [HE.out]; simp
            have hw : IntKind.i64.wrap ((cn : Int) + 1) = ((cn + 1 : Nat) : Int) := by rw [wrap_of ⟨by omega, by omega⟩]; omega
            have HB3 : Hid ((wr.setCell ⟨ob, 3, none⟩ (.int .i64 ((cn + 1 : Nat) : Int))).heap[ob]? = some (.cells #[.slice ca k cc, .slice va il vc, .int .i64 (L : Int), .int .i64 ((cn + 1 : Nat) : Int)] 26 (0, 0))) := by
              have h1 := heap_setCell_same wr ob 3 _ _ (.int .i64 ((cn + 1 : Nat) : Int)) hb
              show _ = _
              simpa using h1
            have HK3 : Hid (Keep (fun g => g = ob) wo (wr.setCell ⟨ob, 3, none⟩ (.int .i64 ((cn + 1 : Nat) : Int)))) := HKl.out.setCell _ _ _ (fun _ => rfl)
            clear HE hb
            go_wp2
            go_roundw
            case rel => exact ⟨j + 1, by omega, by go_num, by rw [HE2.out]; exact HB3, HK3⟩
            case measure => simp [intOf]; omega
        · obtain rfl : j = L := by omega
          have ht : st.cm.take j = st.cm := List.take_of_length_le (by omega)
          rw [ht] at hb c3 HBl
          have haw := HS.out.away
          have hse := HS.out.sent
          have hch := HS.out.ch
          have o0 : wr.cell? ⟨ob, 0, none⟩ = some (.slice ca k cc) := by rw [cell_of_row _ _ _ _ _ _ hb]; rfl
          have o1 : wr.cell? ⟨ob, 1, none⟩ = some (.slice va il vc) := by rw [cell_of_row _ _ _ _ _ _ hb]; rfl
          have o2 : wr.cell? ⟨ob, 2, none⟩ = some (.int .i64 (j : Int)) := by rw [cell_of_row _ _ _ _ _ _ hb]; rfl
          have hrl : r < wo.heap.size := (Array.getElem?_eq_some_iff.1 HR.out).1
          have hbr := (HKl.out.block r hrl hobr).trans HR.out
          have r0 : wr.cell? ⟨r, 0, none⟩ = some (.slice none 0 0) := by rw [cell_of_row wr _ _ _ _ _ hbr]; rfl
          have r1 : wr.cell? ⟨r, 1, none⟩ = some (.slice none 0 0) := by rw [cell_of_row wr _ _ _ _ _ hbr]; rfl
          have r2 : wr.cell? ⟨r, 2, none⟩ = some (.int .i64 0) := by rw [cell_of_row wr _ _ _ _ _ hbr]; rfl
          have r3 : wr.cell? ⟨r, 3, none⟩ = some (.int .i64 0) := by rw [cell_of_row wr _ _ _ _ _ hbr]; rfl
          have f0 : wr.frozen? ⟨r, 0, none⟩ = false := frozen_of_row wr _ _ _ _ hbr
          have f1 : wr.frozen? ⟨r, 1, none⟩ = false := frozen_of_row wr _ _ _ _ hbr
          have f2 : wr.frozen? ⟨r, 2, none⟩ = false := frozen_of_row wr _ _ _ _ hbr
          have f3' : wr.frozen? ⟨r, 3, none⟩ = false := frozen_of_row wr _ _ _ _ hbr
          generalize cntF st.cm = cn at *
          have b1 := heap_setCell_same wr r 0 _ _ (.slice ca k cc) hbr
          have b2 := heap_setCell_same _ r 1 _ _ (.slice va il vc) b1
          have b3 := heap_setCell_same _ r 2 _ _ (.int .i64 (j : Int)) b2
          have b4 := heap_setCell_same _ r 3 _ _ (.int .i64 (cn : Int)) b3
          have kk := ((((Keep.refl (fun g => g = r) wr).setCell r 0 (.slice ca k cc) (fun _ => rfl)).setCell r 1 (.slice va il vc) (fun _ => rfl)).setCell r 2 (.int .i64 (j : Int)) (fun _ => rfl)).setCell r 3 (.int .i64 (cn : Int)) (fun _ => rfl)
          have HB4 := hidMk b4
          have HKK := hidMk kk
          have Haw := hidMk haw
          have Hse := hidMk hse
          have Hch := hidMk hch
          have Hcds := hidMk hcds
          have Hil := hidMk hil
          clear b1 b2 b3 b4 kk hb hbr ht haw hse hch hcds hil HBl
          go_wp2
          refine bodyPost_ret (results_one_rowG (P := Try.prog) rfl _ _ r 26 #[.slice ca k cc, .slice va il vc, .int .i64 (j : Int), .int .i64 (cn : Int)] (0, 0) _ rfl (by simpa using HB4.out) Try.underlying26 rfl (by kernel_rfl)) rfl ?_
          have hno : ∀ {x : DTag} {g : Nat}, t g = some x → ¬ g = r := fun {x g} e e2 => by have := HT.out g (.inl (by show t g ≠ none; rw [e]; simp)); omega
          have hnb : ∀ {x : DTag} {g : Nat}, t g = some x → ¬ g = ob := fun {x g} e e2 => by
            have h2 : t ob = none := HM.out.tob
            rw [e2, h2] at e
            cases e
          have q1 := (HS1.out.keep HKl.out (fun g _ e => hnb e)).keep HKK.out (fun g _ e => hno e)
          have q2 := (HS2.out.keep HKl.out (fun g _ e => hnb e)).keep HKK.out (fun g _ e => hno e)
          rw [Hcds.out] at q1
          have hil2 : (gsAt n nm ps k).ch.length = il := by rw [← Hch.out]; exact Hil.out
          refine ⟨⟨ca, cc, va, vc, by rw [hil2, ← Hse.out, ← Haw.out, HLd.out], seg_rowG q1, ?_, fun x hx => ?_, fun x hx => ?_⟩, ((HK.out.trans HKl.out (fun _ _ e => e) (fun g hg e => ?_)).trans HKK.out (fun _ _ e => e) (fun g hg e => by omega))⟩
          · rw [hil2, ← Hch.out]; exact seg_row q2
          · have h8 : t x.block = some .cd := (HS1.out.block (k := x.block) (by rw [hx]; rfl)).1
            have h9 := HT.out x.block (.inl (by show t x.block ≠ none; rw [h8]; simp))
            omega
          · have h8 : t x.block = some .ch := (HS2.out.block (k := x.block) (by rw [hx]; rfl)).1
            have h9 := HT.out x.block (.inl (by show t x.block ≠ none; rw [h8]; simp))
            omega
          · have := HT.out ob (.inr rfl); omega
end Go.Proofs.Ytadanpghmfhhkaa
