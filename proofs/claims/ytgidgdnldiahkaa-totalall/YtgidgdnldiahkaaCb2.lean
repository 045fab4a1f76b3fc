/- sent; steps as they come in. -/
import Derived.Test.YtgidgdnldiahkaaCb0
import Derived.Test.YtgidgdnldiahkaaCb1
import Derived.Deep.Slices
import Derived.Deep.Strs
import Derived.ChangeOld
import Derived.ProofKit
import Derived.OpenShut
import Derived.SizedLaws
namespace Go.Proofs.Ytgidgdnldiahkaa
open Go.RowKit Go.ChangeShapes Go.WideShapes Go.Deep
set_option linter.unusedVariables false

theorem cCellsCast : Try.prog.cellsOf 39 = 3 := by kernel_rfl
theorem cCellsInt : Try.prog.cellsOf 3 = 1 := by kernel_rfl
theorem trod_struct3c {H : Type} {enc : TypeId × Value → H} {P : Program} {w : World} {base : Nat} {spare : Nat → Bool} {held : Bool} {t : TypeId} {f0 f1 f2 : Field} {fuel : Nat} {cs : List Value} {x : DataW H × List MemPlace} (ht : P.underlying t = some (.struct #[f0, f1, f2])) (h : DataW.trod enc P w base spare held fuel t cs = some x) :
    ∃ y0 y1 y2 n, DataW.trod enc P w base spare held n f0.type ((cs.drop f0.offset).take (P.cellsOf f0.type)) = some y0 ∧ DataW.trod enc P w base spare held n f1.type ((cs.drop f1.offset).take (P.cellsOf f1.type)) = some y1 ∧
      DataW.trod enc P w base spare held n f2.type ((cs.drop f2.offset).take (P.cellsOf f2.type)) = some y2 := by
  obtain ⟨xs, n, _, rfl, hl, hlen, hf⟩ := DataW.trod_struct ht h
  match xs, hlen with
  | [y0, y1, y2], _ => exact ⟨y0, y1, y2, n, by simpa using hf 0 f0 rfl, by simpa using hf 1 f1 rfl, by simpa using hf 2 f2 rfl⟩

set_option maxRecDepth 100000 in
theorem came_casts {H : Type} {enc : TypeId × Value → H} {W : World} {a : Option Addr} {len cap fuel : Nat} {x : DataW H × List MemPlace}
    (h : DataW.trod enc Try.prog W 0 (fun _ => true) true fuel 22 [.slice a len cap] = some x) : ∃ ps, CameC W a len cap ps := by
  rcases open_slice Try.underlying22 h with ⟨hcs, _⟩ | ⟨a', len', cap', m, n, D, Pl, hcs, _, hl, hm, hmm, _, hel⟩
  · simp at hcs
    obtain ⟨rfl, rfl, rfl⟩ := hcs
    exact ⟨[], rfl, Nat.le_refl _, Nat.zero_le _, .inl rfl⟩
  · simp at hcs
    obtain ⟨rfl, rfl, rfl⟩ := hcs
    simp only [if_true] at hmm
    subst hmm
    have hev : ∀ i, i < len → ∃ e : Cst, W.cell? (a'.add (i * 3)) = some (.int .i64 e.kind) ∧ W.cell? ((a'.add (i * 3)).add 1) = some (.int .i64 e.who) ∧ W.cell? ((a'.add (i * 3)).add 2) = some (.int .i64 e.msg) := by
      intro i hi
      obtain ⟨cs', hc0, ht0⟩ := hel i (by omega)
      rw [cCellsCast] at hc0
      obtain ⟨y0, y1, y2, n', hS0, hS1, hS2⟩ := trod_struct3c Try.underlying39 ht0
      obtain ⟨_, hl3, hcell⟩ := World.cells?_some hc0
      obtain ⟨c0, c1, c2, rfl⟩ : ∃ c0 c1 c2, cs' = [c0, c1, c2] := by
        match cs', hl3 with
        | [c0, c1, c2], _ => exact ⟨c0, c1, c2, rfl⟩
      obtain ⟨z0, hz0, _, w0⟩ := DataW.trod_int Try.underlying3 hS0
      obtain ⟨z1, hz1, _, w1⟩ := DataW.trod_int Try.underlying3 hS1
      obtain ⟨z2, hz2, _, w2⟩ := DataW.trod_int Try.underlying3 hS2
      rw [cCellsInt] at hz0 hz1 hz2
      simp at hz0 hz1 hz2
      subst hz0 hz1 hz2
      have r0 := hcell 0 (by omega)
      have r1 := hcell 1 (by omega)
      have r2 := hcell 2 (by omega)
      exact ⟨⟨z0, z1, z2⟩, by simpa [Addr.add] using r0, by simpa using r1, by simpa using r2⟩
    by_cases h0 : len = 0
    · subst h0
      exact ⟨[], rfl, hl, Nat.zero_le _, .inl rfl⟩
    · obtain ⟨f, hf⟩ := choose_lt hev
      obtain ⟨b, off, spot⟩ := a'
      have hspot : spot = none := by
        have := (hf 0 (by omega)).1
        simpa [Addr.add] using World.cell?_spot this
      subst hspot
      have hadd : ∀ i j : Nat, ((⟨b, off, none⟩ : Addr).add i).add j = ⟨b, off + i + j, none⟩ := by
        intro i j
        unfold Addr.add
        by_cases hi : i = 0 <;> by_cases hj : j = 0 <;> simp [hi, hj]
      refine ⟨(List.range len).map f, by simp, hl, Nat.le_trans hl hm, .inr ⟨b, off, rfl, ?_, ?_⟩⟩
      · have := (hf 0 (by omega)).1
        simpa [Addr.add] using World.block_lt_of_cell? _ _ this
      · intro j e hj
        obtain ⟨hj1, hj2⟩ := List.getElem?_eq_some_iff.1 hj
        simp at hj1 hj2
        subst hj2
        obtain ⟨g0, g1, g2⟩ := hf j hj1
        rw [addr_add] at g0
        rw [hadd] at g1 g2
        exact ⟨g0, g1, g2⟩

theorem cast_len {H : Type} {enc : TypeId × Value → H} {W : World} {a : Option Addr} {len cap fuel : Nat} {d : DataW H} {p : List MemPlace}
    (h : DataW.trod enc Try.prog W 0 (fun _ => true) true fuel 22 [.slice a len cap] = some (d, p)) : len = 0 ∨ ∃ el sp, d = .slice el sp ∧ el.length = len := by
  rcases open_slice Try.underlying22 h with ⟨hcs, _⟩ | ⟨a', len', cap', m, n, D, Pl, hcs, _, hl, hm, hmm, hx, hel⟩
  · simp at hcs
    exact .inl hcs.2.1
  · simp at hcs
    obtain ⟨rfl, rfl, rfl⟩ := hcs
    simp only [Prod.mk.injEq] at hx
    exact .inr ⟨_, _, by first | exact hx.1 | exact hx.2.1, by simp⟩
theorem cast_size {H : Type} {enc : TypeId × Value → H} {W : World} {a : Option Addr} {len cap fuel : Nat} {d : DataW H} {p : List MemPlace} {ts : List TypeId} {ds : List (DataW H)} {j : Nat}
    (h : DataW.trod enc Try.prog W 0 (fun _ => true) true fuel 22 [.slice a len cap] = some (d, p)) (hs : (DataW.weightsEach Try.prog ts ds).all (· ≤ reachBytes) = true) (ht : ts[j]? = some 22) (hd : ds[j]? = some d) : len * 24 ≤ 140737488351232 := by
  rcases cast_len h with e | ⟨el, sp, e, hl⟩
  · omega
  · subst e
    have h1 := sized_slice hs ht hd Try.underlying22
    have h2 : Try.prog.bytesOf 39 = 24 := by kernel_rfl
    rw [h2, hl] at h1
    have h3 : (len + sp.length) * 24 ≤ 140737488351232 := h1
    omega

def natsI (l : List Nat) : List Int := l.map fun (z : Nat) => (z : Int)
theorem natsI_at {l : List Nat} {k x : Nat} (h : l[k]? = some x) : (natsI l)[k]? = some (x : Int) := by simp [natsI, h]
theorem natsI_back {l : List Nat} {k : Nat} {x : Int} (h : (natsI l)[k]? = some x) : ∃ m : Nat, l[k]? = some m ∧ x = (m : Int) := by
  simp [natsI] at h
  obtain ⟨m, h1, h2⟩ := h
  exact ⟨m, h1, h2.symm⟩
theorem natsI_len (l : List Nat) : (natsI l).length = l.length := by simp [natsI]
theorem natsI_nodup {l : List Nat} (h : l.Nodup) : (natsI l).Nodup := by
  unfold natsI
  exact List.Pairwise.map _ (fun a b hab e => hab (by have e2 : (a : Int) = (b : Int) := e; omega)) h
theorem natsI_mem {l : List Nat} {x : Int} (h : x ∈ natsI l) : ∃ m : Nat, m ∈ l ∧ x = (m : Int) := by
  unfold natsI at h
  obtain ⟨m, h1, h2⟩ := List.mem_map.1 h
  exact ⟨m, h1, h2.symm⟩
theorem natsI_app (a b : List Nat) : natsI (a ++ b) = natsI a ++ natsI b := by simp [natsI]
theorem posN_none {l : List Nat} {m : Nat} (h : m ∉ l) : posI (natsI l) (m : Int) = -1 := posI_none (fun hm => by
  obtain ⟨k, h1, h2⟩ := natsI_mem hm
  obtain rfl : m = k := by omega
  exact h h1)
theorem posN_at {l : List Nat} (h : l.Nodup) {k m : Nat} (hk : l[k]? = some m) : posI (natsI l) (m : Int) = (k : Int) := posI_at (natsI_nodup h) (natsI_at hk)

/-- A slice of the call's own, as a row. -/
theorem seg_row {W : World} {ok : Nat → Prop} {e : TypeId} {a : Option Addr} {n c : Nat} {l : List Nat} (h : Seg W ok e 1 (.slice a n c) n (natsL l)) : RowI W a n c (natsI l) := by
  obtain ⟨h1, ⟨h2, h3⟩ | ⟨g, off, cap, cur, h2, h3, h4, h5, h6, h7, h8⟩⟩ := h
  · subst h3
    cases h2
    exact ⟨by rw [natsI_len]; simpa [natsL] using h1, Nat.le_refl _, Nat.zero_le _, .inl rfl⟩
  · cases h2
    refine ⟨by rw [natsI_len]; simpa [natsL] using h1, h5, by omega, .inr ⟨g, off, rfl, (Array.getElem?_eq_some_iff.1 h4).1, fun j x hx => ?_⟩⟩
    obtain ⟨m, hm, rfl⟩ := natsI_back hx
    rw [cell_of_row W _ _ _ _ _ h4]
    exact h8 j _ (by simp [natsL, hm])

set_option maxRecDepth 100000 in
set_option maxHeartbeats 4000000 in
theorem sent_any {w : World} {pa ca : Option Addr} {pl pc cc : Nat} {ps : List Cst} {cd : Nat → Int} (hp : CameC w pa pl pc ps) (hpl : pl ≤ 1000) (hc : RowI w ca pl cc ((List.range pl).map cd)) :
    Calls Try.prog 14 #[.slice pa pl pc, .slice ca pl cc] w fun e w2 => ∃ a c, e = .returned (.slice a (sentTo ps cd pl).length c) ∧ RowI w2 a (sentTo ps cd pl).length c (natsI (sentTo ps cd pl)) ∧ (∀ x, a = some x → w.heap.size ≤ x.block) ∧ Stil w w2 := by
  obtain ⟨l1, c1, _, r1⟩ := hp
  obtain ⟨l2, c2, _, r2⟩ := hc
  have hpl' : (pl : Int) ≤ 1000 := by omega
  by_cases h0 : pl = 0
  · subst h0
    clear r1 r2
    go_enter Try.func14, Try.ntmps14
    go_wp2
    go_loop [5, 10] (fun v u => v = .slice none 0 0 ∧ u = .int .i64 0) (fun _ _ => 0)
    case atStart => exact ⟨rfl, rfl⟩
    case round =>
      obtain ⟨rfl, rfl⟩ := hrel
      go_wp2
      go_ret
      exact ⟨none, 0, rfl, RowI.nil _, fun x e => by simp at e, Keep.refl _ _⟩
  · rcases r1 with r1 | ⟨g1, o1, rfl, b1, k1⟩
    · exact absurd r1 h0
    rcases r2 with r2 | ⟨g2, o2, rfl, b2, k2⟩
    · exact absurd r2 h0
    have H1 := hidMk k1
    have H2 := hidMk k2
    have HL := hidMk l1
    clear k1 k2 l1 l2
    obtain ⟨i0, hit, hz0, hz1, hz2⟩ := info_parts cInfoInt
    go_enter Try.func14, Try.ntmps14
    go_wp2
    go_loopw [5, 10] (fun v u wr => ∃ k : Nat, k ≤ pl ∧ u = .int .i64 (k : Int) ∧ Hid (Seg wr (fun g => w.heap.size ≤ g) 3 1 v (sentTo ps cd k).length (natsL (sentTo ps cd k))) ∧ Hid (Stil w wr)) (fun _ u _ => pl - (intOf u).toNat)
    case atStart => exact ⟨0, Nat.zero_le _, rfl, Seg.nil _ _ _ _, Keep.refl _ _⟩
    case round =>
      obtain ⟨k, hk, rfl, HG, HS⟩ := hrel
      obtain ⟨sa, scp, hv⟩ := segForm HG.out
      subst hv
      by_cases hlt : k < pl
      · have hlt' : (k : Int) < (pl : Int) := by omega
        have hp : ps[k]? = some (ps[k]'(by rw [HL.out]; exact hlt)) := List.getElem?_eq_getElem _
        generalize ps[k]'(by rw [HL.out]; exact hlt) = p at hp
        obtain ⟨d0, d1, d2⟩ := H1.out k p hp
        have d0 := HS.out.cell d0
        have d1 := HS.out.cell d1
        have d2 := HS.out.cell d2
        have d3 := HS.out.cell (H2.out k (cd k) (by simp [hlt]))
        have HE : Hid (sentTo ps cd (k + 1) = if p.kind = 1 ∧ cd k = 0 then sentTo ps cd k ++ [k] else sentTo ps cd k) := by
          show _ = _
          rw [sentTo, List.getD_eq_getElem?_getD, hp]; rfl
        obtain ⟨kd, wh, ms⟩ := p
        simp only at d0 d1 d2 HE
        have hle := sentTo_len ps cd k
        have hwb : wr.cell? ⟨g2, o2 + k, none⟩ = some (.int .i64 (cd k)) := d3
        have d4 : (wr.alloc (.cells #[.int .i64 kd, .int .i64 wh, .int .i64 ms] 39)).cell? ⟨g2, o2 + k, none⟩ = some (.int .i64 (cd k)) := (Stil.new _ _).cell d3
        clear hp hwb
        generalize hcd : cd k = ck at *
        generalize hsl : (sentTo ps cd k).length = sl at *
        by_cases e1 : kd = 1
        · by_cases e2 : ck = 0
          · subst e1
            subst e2
            have HE2 : Hid (sentTo ps cd (k + 1) = sentTo ps cd k ++ [k]) := by show _ = _; rw [HE.out]; simp
            have HN : Hid (w.heap.size ≤ wr.heap.size) := HS.out.size
            clear HE hcd
            go_wp2_with (at_builtin; refine wpList_append_seg _ rfl _ _ 34 rfl 3 i0 (.int .i64 0) 1 8 Try.underlying34 hit hz0 hz1 hz2 rfl (by decide) _ _ _ rfl (segAlloc (segAlloc HG.out _) _) ⟨wr.heap.size + 1, 0, none⟩ 1 1 [.int .i64 (k : Int)] rfl rfl (cCell1 (wr.alloc (.cells #[.int .i64 1, .int .i64 wh, .int .i64 ms] 39)) _ _ _ (by simp)) (cOne _) (by unfold maxLen; omega) (by omega) ?_)
            intro v3 w3 hs3 hg3
            have HG3 : Hid (Seg w3 (fun g => w.heap.size ≤ g) 3 1 v3 (sentTo ps cd (k + 1)).length (natsL (sentTo ps cd (k + 1)))) := by
              show Seg _ _ _ _ _ _ _
              rw [HE2.out, List.length_append, hsl]
              have e : natsL (sentTo ps cd k ++ [k]) = natsL (sentTo ps cd k) ++ [.int .i64 (k : Int)] := by simp [natsL]
              rw [e]
              refine hs3.mono (fun g _ h => ?_)
              rcases h with ⟨_, h⟩ | h
              · exact h
              · have h9 := HN.out; rw [h]; omega
            have HS3 : Hid (Stil w w3) := ((HS.out.alloc _).alloc _).grown hg3 (fun g e hg => by
              have := (HG.out.block e).1
              omega)
            obtain ⟨sa3, sc3, hv3⟩ := segForm hs3
            subst hv3
            clear hs3 hg3 HG HS
            go_wp2
            go_roundw
            case rel => exact ⟨k + 1, by omega, by go_num, HG3, HS3⟩
            case measure => simp [intOf]; omega
          · have e2' : (ck == 0) = false := by simpa using e2
            have HE2 : Hid (sentTo ps cd (k + 1) = sentTo ps cd k) := by show _ = _; rw [HE.out, if_neg (fun e => e2 e.2)]
            subst e1
            clear HE hcd e2
            go_wp2
            go_roundw
            case rel => exact ⟨k + 1, by omega, by go_num, hidMk (by rw [HE2.out, hsl]; exact segAlloc HG.out _), HS.out.alloc _⟩
            case measure => simp [intOf]; omega
        · have e1' : (kd == 1) = false := by simpa using e1
          have HE2 : Hid (sentTo ps cd (k + 1) = sentTo ps cd k) := by show _ = _; rw [HE.out, if_neg (fun e => e1 e.1)]
          clear HE hcd e1
          go_wp2
          go_roundw
          case rel => exact ⟨k + 1, by omega, by go_num, hidMk (by rw [HE2.out, hsl]; exact segAlloc HG.out _), HS.out.alloc _⟩
          case measure => simp [intOf]; omega
      · obtain rfl : k = pl := by omega
        have hsr := hidMk (seg_row HG.out)
        go_wp2
        go_ret
        refine ⟨sa, scp, rfl, hsr.out, fun x e => ?_, HS.out⟩
        exact (HG.out.block (k := x.block) (by rw [e]; rfl)).1
end Go.Proofs.Ytgidgdnldiahkaa
