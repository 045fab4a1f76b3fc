/- Who asks, by the steps that were done. -/
import Derived.Test.YteighidkhopcoaaMd0
namespace Go.Proofs.Yteighidkhopcoaa
open Go.RowKit
set_option linter.unusedVariables false

def intsV (xs : List Int) : List Value := xs.map fun z => .int .i64 z
theorem intsV_app (a b : List Int) : intsV (a ++ b) = intsV a ++ intsV b := by simp [intsV]
theorem seg_rowI {W : World} {ok : Nat → Prop} {e : TypeId} {a : Option Addr} {n c : Nat} {l : List Int} (h : Seg W ok e 1 (.slice a n c) n (intsV l)) : RowI W a n c l := by
  obtain ⟨h1, ⟨h2, h3⟩ | ⟨g, off, cap, cur, h2, h3, h4, h5, h6, h7, h8⟩⟩ := h
  · subst h3
    cases h2
    exact ⟨by simpa [intsV] using h1, Nat.le_refl _, Nat.zero_le _, .inl rfl⟩
  · cases h2
    refine ⟨by simpa [intsV] using h1, h5, by omega, .inr ⟨g, off, rfl, (Array.getElem?_eq_some_iff.1 h4).1, fun j x hx => ?_⟩⟩
    rw [cell_of_row W _ _ _ _ _ h4]
    exact h8 j _ (by simp [intsV, hx])
def notW (w x : Int) : Bool := x != w
/-- Who asks, or is inside, behind the first k steps. -/
def askTo (ps : List Cst) (cd : Nat → Int) : Nat → List Int
  | 0 => []
  | k + 1 => if cd k ≠ 0 ∨ (ps.getD k ⟨0, 0, 0⟩).kind = 2 then askTo ps cd k
    else if (ps.getD k ⟨0, 0, 0⟩).kind = 1 then (askTo ps cd k).filter (notW (ps.getD k ⟨0, 0, 0⟩).who) ++ [(ps.getD k ⟨0, 0, 0⟩).who]
    else (askTo ps cd k).filter (notW (ps.getD k ⟨0, 0, 0⟩).who)
theorem askTo_len (ps : List Cst) (cd : Nat → Int) : ∀ k, (askTo ps cd k).length ≤ k
  | 0 => Nat.le_refl _
  | k + 1 => by
    have := askTo_len ps cd k
    have h2 := List.length_filter_le (notW (ps.getD k ⟨0, 0, 0⟩).who) (askTo ps cd k)
    unfold askTo
    split
    · omega
    · split
      · rw [List.length_append, List.length_singleton]; omega
      · omega

set_option maxRecDepth 100000 in
set_option maxHeartbeats 8000000 in
theorem asking_any {w : World} {pa ca : Option Addr} {pl pc cc : Nat} {ps : List Cst} {cd : Nat → Int} (hp : CameC w pa pl pc ps) (hpl : pl ≤ 1000) (hc : RowI w ca pl cc ((List.range pl).map cd)) :
    Calls Try.prog 13 #[.slice pa pl pc, .slice ca pl cc] w fun e w2 => ∃ a c, e = .returned (.slice a (askTo ps cd pl).length c) ∧ RowI w2 a (askTo ps cd pl).length c (askTo ps cd pl) ∧ Stil w w2 := by
  obtain ⟨l1, c1, _, r1⟩ := hp
  obtain ⟨l2, c2, _, r2⟩ := hc
  have hpl' : (pl : Int) ≤ 1000 := by omega
  by_cases h0 : pl = 0
  · subst h0
    clear r1 r2
    go_enter Try.func13, Try.ntmps13
    go_wp2
    go_loop [5, 13] (fun v u => v = .slice none 0 0 ∧ u = .int .i64 0) (fun _ _ => 0)
    case atStart => exact ⟨rfl, rfl⟩
    case round =>
      obtain ⟨rfl, rfl⟩ := hrel
      go_wp2
      go_ret
      exact ⟨none, 0, rfl, RowI.nil _, Keep.refl _ _⟩
  · rcases r1 with r1 | ⟨g1, o1, rfl, b1, k1⟩
    · exact absurd r1 h0
    rcases r2 with r2 | ⟨g2, o2, rfl, b2, k2⟩
    · exact absurd r2 h0
    have H1 := hidMk k1
    have H2 := hidMk k2
    have HL := hidMk l1
    clear k1 k2 l1 l2
    obtain ⟨i0, hit, hz0, hz1, hz2⟩ := info_parts cInfoInt
    go_enter Try.func13, Try.ntmps13
    go_wp2
    go_loopw [5, 13] (fun v u wr => ∃ k : Nat, k ≤ pl ∧ u = .int .i64 (k : Int) ∧ Hid (Seg wr (fun g => w.heap.size ≤ g) 3 1 v (askTo ps cd k).length (intsV (askTo ps cd k))) ∧ Hid (Stil w wr)) (fun _ u _ => pl - (intOf u).toNat)
    case atStart => exact ⟨0, Nat.zero_le _, rfl, Seg.nil _ _ _ _, Keep.refl _ _⟩
    case round =>
      obtain ⟨k, hk, rfl, HG, HS⟩ := hrel
      obtain ⟨sa, scp, hv⟩ := segForm HG.out
      subst hv
      by_cases hlt : k < pl
      · have hlt' : (k : Int) < (pl : Int) := by omega
        have hp : ps[k]? = some (ps[k]'(by rw [HL.out]; exact hlt)) := List.getElem?_eq_getElem _
        generalize ps[k]'(by rw [HL.out]; exact hlt) = p at hp
        obtain ⟨d0, d1, d2⟩ := H1.out k p hp
        have d0 := HS.out.cell d0
        have d1 := HS.out.cell d1
        have d2 := HS.out.cell d2
        have d3 := HS.out.cell (H2.out k (cd k) (by simp [hlt]))
        have hE : askTo ps cd (k + 1) = if cd k ≠ 0 ∨ p.kind = 2 then askTo ps cd k else if p.kind = 1 then (askTo ps cd k).filter (notW p.who) ++ [p.who] else (askTo ps cd k).filter (notW p.who) := by
          rw [askTo, List.getD_eq_getElem?_getD, hp]; rfl
        have HE := hidMk hE
        obtain ⟨kd, wh, ms⟩ := p
        simp only at d0 d1 d2 HE
        have hle := askTo_len ps cd k
        have d4 : (wr.alloc (.cells #[.int .i64 kd, .int .i64 wh, .int .i64 ms] 38)).cell? ⟨g2, o2 + k, none⟩ = some (.int .i64 (cd k)) := (Stil.new _ _).cell d3
        clear hp hE
        generalize hcd : cd k = ck at *
        generalize hsl : (askTo ps cd k).length = sl at *
        have HSl := hidMk hsl
        clear hsl
        by_cases e1 : ck = 0
        · subst e1
          by_cases e2 : kd = 2
          · subst e2
            have HE2 : Hid (askTo ps cd (k + 1) = askTo ps cd k) := by show _ = _; rw [HE.out, if_pos (.inr rfl)]
            clear HE hcd
            go_wp2
            go_roundw
            case rel => exact ⟨k + 1, by omega, by go_num, hidMk (by rw [HE2.out, HSl.out]; exact segAlloc HG.out _), HS.out.alloc _⟩
            case measure => simp [intOf]; omega
          · have e2' : (kd == 2) = false := by simpa using e2
            have HE2 : Hid (askTo ps cd (k + 1) = if kd = 1 then (askTo ps cd k).filter (notW wh) ++ [wh] else (askTo ps cd k).filter (notW wh)) := by
              show _ = _; rw [HE.out, if_neg (fun e => by rcases e with e | e; exact e rfl; exact e2 e)]
            have b0 : (wr.alloc (.cells #[.int .i64 kd, .int .i64 wh, .int .i64 ms] 38)).cell? ⟨wr.heap.size, 0, none⟩ = some (.int .i64 kd) := by go_simp
            have b1' : (wr.alloc (.cells #[.int .i64 kd, .int .i64 wh, .int .i64 ms] 38)).cell? ⟨wr.heap.size, 1, none⟩ = some (.int .i64 wh) := by go_simp
            have HKb : Hid (Stil w (wr.alloc (.cells #[.int .i64 kd, .int .i64 wh, .int .i64 ms] 38))) := HS.out.alloc _
            have HGb : Hid (Seg (wr.alloc (.cells #[.int .i64 kd, .int .i64 wh, .int .i64 ms] 38)) (fun g => w.heap.size ≤ g) 3 1 (.slice sa sl scp) sl (intsV (askTo ps cd k))) := segAlloc HG.out _
            clear HE hcd e2 HG HS
            go_wp2_with (fail)
            clear d0 d1 d2 d3
            generalize hwb : wr.alloc (.cells #[.int .i64 kd, .int .i64 wh, .int .i64 ms] 38) = wb at *
            generalize wr.heap.size = mv at *
            clear hwb d4
            go_loopw [8, 30] (fun v u ws => ∃ j : Nat, j ≤ sl ∧ u = .int .i64 (j : Int) ∧ Hid (Seg ws (fun g => wb.heap.size ≤ g) 3 1 v (((askTo ps cd k).take j).filter (notW wh)).length (intsV (((askTo ps cd k).take j).filter (notW wh)))) ∧ Hid (Stil wb ws)) (fun _ u _ => sl - (intOf u).toNat)
            case atStart => exact ⟨0, Nat.zero_le _, rfl, hidMk (by simpa [intsV] using Seg.nil _ _ _ _), Keep.refl _ _⟩
            case round =>
              obtain ⟨j, hj, rfl, HN, HT⟩ := hrel
              obtain ⟨na, ncp, hnv⟩ := segForm HN.out
              subst hnv
              have hnl : (((askTo ps cd k).take j).filter (notW wh)).length ≤ j := by
                have h1 := List.length_filter_le (notW wh) ((askTo ps cd k).take j)
                rw [List.length_take] at h1
                omega
              have y0 := HT.out.cell b0
              have y1 := HT.out.cell b1'
              by_cases hjl : j < sl
              · have hjl' : (j : Int) < (sl : Int) := by omega
                have hx : (askTo ps cd k)[j]? = some ((askTo ps cd k)[j]'(by rw [HSl.out]; exact hjl)) := List.getElem?_eq_getElem _
                generalize (askTo ps cd k)[j]'(by rw [HSl.out]; exact hjl) = x at hx
                obtain ⟨q1, q2, _, q4⟩ := seg_rowI HGb.out
                rcases q4 with q4 | ⟨g3, o3, rfl, q5, q6⟩
                · omega
                have x3 := HT.out.cell (q6 j x hx)
                have htk : (askTo ps cd k).take (j + 1) = (askTo ps cd k).take j ++ [x] := by rw [List.take_add_one, hx]; rfl
                have HTk := hidMk htk
                clear htk q6 hx q1
                generalize hnl2 : (((askTo ps cd k).take j).filter (notW wh)).length = nl at *
                have HNl := hidMk hnl2
                clear hnl2
                by_cases ex : x = wh
                · have ex' : (x != wh) = false := by simp [ex]
                  have HF : Hid (((askTo ps cd k).take (j + 1)).filter (notW wh) = ((askTo ps cd k).take j).filter (notW wh)) := by
                    show _ = _; rw [HTk.out, List.filter_append]; simp [notW, ex]
                  clear ex
                  go_wp2
                  go_roundw
                  case rel => exact ⟨j + 1, by omega, by go_num, hidMk (by rw [HF.out, HNl.out]; exact HN.out), HT⟩
                  case measure => simp [intOf]; omega
                · have ex' : (x != wh) = true := by simp [ex]
                  have HF : Hid (((askTo ps cd k).take (j + 1)).filter (notW wh) = ((askTo ps cd k).take j).filter (notW wh) ++ [x]) := by
                    show _ = _; rw [HTk.out, List.filter_append]; simp [notW, ex]
                  have HNs : Hid (wb.heap.size ≤ wr.heap.size) := HT.out.size
                  clear ex
                  go_wp2_with (at_builtin; refine wpList_append_seg _ rfl _ _ 24 rfl 3 i0 (.int .i64 0) 1 8 Try.underlying24 hit hz0 hz1 hz2 rfl (by decide) _ _ _ rfl (segAlloc HN.out _) ⟨wr.heap.size, 0, none⟩ 1 1 [.int .i64 x] rfl rfl (cCell1 wr _ _ _ rfl) (cOne _) (by unfold maxLen; omega) (by omega) ?_)
                  intro v3 w3 hs3 hg3
                  have HG3 : Hid (Seg w3 (fun g => wb.heap.size ≤ g) 3 1 v3 (((askTo ps cd k).take (j + 1)).filter (notW wh)).length (intsV (((askTo ps cd k).take (j + 1)).filter (notW wh)))) := by
                    show Seg _ _ _ _ _ _ _
                    rw [HF.out, List.length_append, HNl.out, intsV_app]
                    refine hs3.mono (fun g _ h => ?_)
                    rcases h with ⟨_, h⟩ | h
                    · exact h
                    · have h9 := HNs.out; rw [h]; simp; omega
                  have HS3 : Hid (Stil wb w3) := (HT.out.alloc _).grown hg3 (fun g e hg => by
                    have := (HN.out.block e).1
                    omega)
                  obtain ⟨sa3, sc3, hv3⟩ := segForm hs3
                  subst hv3
                  clear hs3 hg3 HN HT
                  go_wp2
                  go_roundw
                  case rel => exact ⟨j + 1, by omega, by go_num, HG3, HS3⟩
                  case measure => simp [intOf]; omega
              · obtain rfl : j = sl := by omega
                have htk : (askTo ps cd k).take j = askTo ps cd k := List.take_of_length_le (by rw [HSl.out]; exact Nat.le_refl _)
                rw [htk] at HN hnl ⊢
                have HNw : Hid (w.heap.size ≤ wb.heap.size) := HKb.out.size
                have HKt := hidMk (HKb.out.tr HT.out)
                clear htk HGb
                generalize hnl2 : ((askTo ps cd k).filter (notW wh)).length = nl at *
                have HNl := hidMk hnl2
                clear hnl2
                by_cases e3 : kd = 1
                · have e3' : (kd == 1) = true := by simp [e3]
                  have HE3 : Hid (askTo ps cd (k + 1) = (askTo ps cd k).filter (notW wh) ++ [wh]) := by show _ = _; rw [HE2.out, if_pos e3]
                  have HNs : Hid (wb.heap.size ≤ wr.heap.size) := HT.out.size
                  clear e3 HE2
                  go_wp2_with (at_builtin; refine wpList_append_seg _ rfl _ _ 24 rfl 3 i0 (.int .i64 0) 1 8 Try.underlying24 hit hz0 hz1 hz2 rfl (by decide) _ _ _ rfl (segAlloc HN.out _) ⟨wr.heap.size, 0, none⟩ 1 1 [.int .i64 wh] rfl rfl (cCell1 wr _ _ _ rfl) (cOne _) (by unfold maxLen; omega) (by omega) ?_)
                  intro v3 w3 hs3 hg3
                  have HG3 : Hid (Seg w3 (fun g => w.heap.size ≤ g) 3 1 v3 (askTo ps cd (k + 1)).length (intsV (askTo ps cd (k + 1)))) := by
                    show Seg _ _ _ _ _ _ _
                    rw [HE3.out, List.length_append, HNl.out, intsV_app]
                    refine hs3.mono (fun g _ h => ?_)
                    have h8 := HNw.out
                    rcases h with ⟨_, h⟩ | h
                    · omega
                    · have h9 := HNs.out; rw [h]; simp; omega
                  have HS3 : Hid (Stil w w3) := (HKt.out.alloc _).grown hg3 (fun g e hg => by
                    have := (HN.out.block e).1
                    have h8 := HNw.out
                    omega)
                  obtain ⟨sa3, sc3, hv3⟩ := segForm hs3
                  subst hv3
                  clear hs3 hg3 HN HT
                  go_wp2
                  go_roundw
                  case rel => exact ⟨k + 1, by omega, by go_num, HG3, HS3⟩
                  case measure => simp [intOf]; omega
                · have e3' : (kd == 1) = false := by simp [e3]
                  have HE3 : Hid (askTo ps cd (k + 1) = (askTo ps cd k).filter (notW wh)) := by show _ = _; rw [HE2.out, if_neg e3]
                  clear e3 HE2
                  go_wp2
                  go_roundw
                  case rel => exact ⟨k + 1, by omega, by go_num, hidMk (by rw [HE3.out, HNl.out]; exact HN.out.mono (fun g _ h => Nat.le_trans HNw.out h)), HKt⟩
                  case measure => simp [intOf]; omega
        · have e1' : (ck != 0) = true := by simp [e1]
          have HE2 : Hid (askTo ps cd (k + 1) = askTo ps cd k) := by show _ = _; rw [HE.out, if_pos (.inl e1)]
          clear HE hcd e1
          go_wp2
          go_roundw
          case rel => exact ⟨k + 1, by omega, by go_num, hidMk (by rw [HE2.out, HSl.out]; exact segAlloc HG.out _), HS.out.alloc _⟩
          case measure => simp [intOf]; omega
      · obtain rfl : k = pl := by omega
        have hsr := hidMk (seg_rowI HG.out)
        go_wp2
        go_ret
        exact ⟨sa, scp, rfl, hsr.out, HS.out⟩
end Go.Proofs.Yteighidkhopcoaa
