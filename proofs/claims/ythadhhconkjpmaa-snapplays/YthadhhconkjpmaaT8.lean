/- take: what comes of it. -/
import Derived.Test.YthadhhconkjpmaaT7
namespace Go.Proofs.Ythadhhconkjpmaa
open Go.RowKit Go.WideMaps
set_option linter.unusedVariables false

theorem take_mark (W : World) (mb M i j len nl nc g off : Nat) (tc : Nat) (htc : 1 ≤ tc) (na : Option Addr) (b : Bool) (RN R : World → Prop)
    (c2 : W.cell? ⟨mb, 2, none⟩ = some (.map (some M)))
    (hlk : (Instr.lookup 37 (.map (some M)) (.agg #[.int .i64 (i : Int), .int .i64 (j : Int)]) false).run Try.prog W = .ok (.agg #[.slice (some ⟨g, off, none⟩) (len + 1) tc, .slice na nl nc, .bool b]) W)
    (t0 : W.cell? ⟨g, off, none⟩ = some (.int .i64 0))
    (HN : Hid (∀ o : Obj, Calls Try.prog 22 #[.pointer (some ⟨mb, 0, none⟩), .int .i64 (j : Int)] (W.alloc o) fun e w2 => e = .returned (.tuple #[]) ∧ RN w2 ∧ w2.cell? ⟨mb, 2, none⟩ = some (.map (some M)) ∧ w2.heap[W.heap.size]? = some o))
    (H : Hid (∀ w4 w6, RN w4 → Keep (fun g => g = W.heap.size) w4 w6 → ∃ W6, (Instr.mapUpdate 37 (.map (some M)) (.agg #[.int .i64 (i : Int), .int .i64 (j : Int)]) (.agg #[.slice (some (if tc = 1 then ⟨g, off, none⟩ else ⟨g, off + 1, none⟩)) len (tc - 1), .slice na nl nc, .bool true])).run Try.prog w6 = .ok () W6 ∧ R W6)) :
    Calls Try.prog 21 #[.pointer (some ⟨mb, 0, none⟩), .int .i64 (i : Int), .int .i64 (j : Int)] W fun e W2 => e = .returned (.tuple #[]) ∧ R W2 := by
  obtain rfl | ⟨c1, rfl⟩ : tc = 1 ∨ ∃ c1, tc = c1 + 2 := by
    by_cases h1 : tc = 1
    · exact .inl h1
    · exact .inr ⟨tc - 2, by omega⟩
  · exact take_markA W mb M i j len nl nc g off na b RN R c2 hlk t0 HN H
  · exact take_markB W mb M i j len nl nc g off c1 na b RN R c2 hlk t0 HN H

theorem take_p (W : World) (mb M i j n cm gm om len nl nc g off : Nat) (tc : Nat) (htc : 1 ≤ tc) (na : Option Addr) (b : Bool) (x mo : Int) (R : World → Prop)
    (c0 : W.cell? ⟨mb, 0, none⟩ = some (.slice (some ⟨gm, om, none⟩) n cm)) (hj : j < n)
    (c2 : W.cell? ⟨mb, 2, none⟩ = some (.map (some M))) (hmo : W.cell? ⟨gm, om + j, none⟩ = some (.int .i64 mo)) (hfr : W.frozen? ⟨gm, om + j, none⟩ = false) (hgm : gm ≠ mb) (hI : I64 (mo + x))
    (hlk : (Instr.lookup 37 (.map (some M)) (.agg #[.int .i64 (i : Int), .int .i64 (j : Int)]) false).run Try.prog W = .ok (.agg #[.slice (some ⟨g, off, none⟩) (len + 1) tc, .slice na nl nc, .bool b]) W)
    (t0 : W.cell? ⟨g, off, none⟩ = some (.int .i64 x)) (hx : x ≠ 0)
    (HN : Hid (∀ o : Obj, Calls Try.prog 19 #[.pointer (some ⟨mb, 0, none⟩), .int .i64 (j : Int)] ((W.setCell ⟨gm, om + j, none⟩ (.int .i64 (mo + x))).alloc o) fun e w2 => e = .returned (.bool false) ∧ w2 = (W.setCell ⟨gm, om + j, none⟩ (.int .i64 (mo + x))).alloc o))
    (H : Hid (∀ o w6, Keep (fun _ => False) ((W.setCell ⟨gm, om + j, none⟩ (.int .i64 (mo + x))).alloc o) w6 → ∃ W6, (Instr.mapUpdate 37 (.map (some M)) (.agg #[.int .i64 (i : Int), .int .i64 (j : Int)]) (.agg #[.slice (some (if tc = 1 then ⟨g, off, none⟩ else ⟨g, off + 1, none⟩)) len (tc - 1), .slice na nl nc, .bool b])).run Try.prog w6 = .ok () W6 ∧ R W6)) :
    Calls Try.prog 21 #[.pointer (some ⟨mb, 0, none⟩), .int .i64 (i : Int), .int .i64 (j : Int)] W fun e W2 => e = .returned (.tuple #[]) ∧ R W2 := by
  obtain rfl | ⟨c1, rfl⟩ : tc = 1 ∨ ∃ c1, tc = c1 + 2 := by
    by_cases h1 : tc = 1
    · exact .inl h1
    · exact .inr ⟨tc - 2, by omega⟩
  · exact take_pA W mb M i j n cm gm om len nl nc g off na b x mo R c0 hj c2 hmo hfr hgm hI hlk t0 hx HN H
  · exact take_pB W mb M i j n cm gm om len nl nc g off c1 na b x mo R c0 hj c2 hmo hfr hgm hI hlk t0 hx HN H

theorem take_q (W : World) (mb M i j n cm gm om len nl nc g off : Nat) (tc : Nat) (htc : 1 ≤ tc) (na : Option Addr) (x mo : Int) (R : World → Prop)
    (c0 : W.cell? ⟨mb, 0, none⟩ = some (.slice (some ⟨gm, om, none⟩) n cm)) (hj : j < n)
    (c2 : W.cell? ⟨mb, 2, none⟩ = some (.map (some M))) (hmo : W.cell? ⟨gm, om + j, none⟩ = some (.int .i64 mo)) (hfr : W.frozen? ⟨gm, om + j, none⟩ = false) (hgm : gm ≠ mb) (hI : I64 (mo + x))
    (hlk : (Instr.lookup 37 (.map (some M)) (.agg #[.int .i64 (i : Int), .int .i64 (j : Int)]) false).run Try.prog W = .ok (.agg #[.slice (some ⟨g, off, none⟩) (len + 1) tc, .slice na nl nc, .bool true]) W)
    (t0 : W.cell? ⟨g, off, none⟩ = some (.int .i64 x)) (hx : x ≠ 0)
    (HN : Hid (∀ o : Obj, Calls Try.prog 19 #[.pointer (some ⟨mb, 0, none⟩), .int .i64 (j : Int)] ((W.setCell ⟨gm, om + j, none⟩ (.int .i64 (mo + x))).alloc o) fun e w2 => e = .returned (.bool true) ∧ w2 = (W.setCell ⟨gm, om + j, none⟩ (.int .i64 (mo + x))).alloc o))
    (H : Hid (∀ o w6, Keep (fun _ => False) ((W.setCell ⟨gm, om + j, none⟩ (.int .i64 (mo + x))).alloc o) w6 → ∃ W6, (Instr.mapUpdate 37 (.map (some M)) (.agg #[.int .i64 (i : Int), .int .i64 (j : Int)]) (.agg #[.slice (some (if tc = 1 then ⟨g, off, none⟩ else ⟨g, off + 1, none⟩)) len (tc - 1), .slice na nl nc, .bool true])).run Try.prog w6 = .ok () W6 ∧ R W6)) :
    Calls Try.prog 21 #[.pointer (some ⟨mb, 0, none⟩), .int .i64 (i : Int), .int .i64 (j : Int)] W fun e W2 => e = .returned (.tuple #[]) ∧ R W2 := by
  obtain rfl | ⟨c1, rfl⟩ : tc = 1 ∨ ∃ c1, tc = c1 + 2 := by
    by_cases h1 : tc = 1
    · exact .inl h1
    · exact .inr ⟨tc - 2, by omega⟩
  · exact take_qA W mb M i j n cm gm om len nl nc g off na x mo R c0 hj c2 hmo hfr hgm hI hlk t0 hx HN H
  · exact take_qB W mb M i j n cm gm om len nl nc g off c1 na x mo R c0 hj c2 hmo hfr hgm hI hlk t0 hx HN H

theorem take_a (W : World) (mb M i j n cm gm om len nl nc g off : Nat) (tc : Nat) (htc : 1 ≤ tc) (na : Option Addr) (x mo : Int) (ok : Nat → Prop) (xs : List Value) (R : World → Prop)
    (c0 : W.cell? ⟨mb, 0, none⟩ = some (.slice (some ⟨gm, om, none⟩) n cm)) (hj : j < n)
    (c2 : W.cell? ⟨mb, 2, none⟩ = some (.map (some M))) (hmo : W.cell? ⟨gm, om + j, none⟩ = some (.int .i64 mo)) (hfr : W.frozen? ⟨gm, om + j, none⟩ = false) (hgm : gm ≠ mb) (hI : I64 (mo + x))
    (hlk : (Instr.lookup 37 (.map (some M)) (.agg #[.int .i64 (i : Int), .int .i64 (j : Int)]) false).run Try.prog W = .ok (.agg #[.slice (some ⟨g, off, none⟩) (len + 1) tc, .slice na nl nc, .bool false]) W)
    (t0 : W.cell? ⟨g, off, none⟩ = some (.int .i64 x)) (hx : x ≠ 0)
    (HN : Hid (∀ o : Obj, Calls Try.prog 19 #[.pointer (some ⟨mb, 0, none⟩), .int .i64 (j : Int)] ((W.setCell ⟨gm, om + j, none⟩ (.int .i64 (mo + x))).alloc o) fun e w2 => e = .returned (.bool true) ∧ w2 = (W.setCell ⟨gm, om + j, none⟩ (.int .i64 (mo + x))).alloc o))
    (hseg : ∀ o, Seg ((W.setCell ⟨gm, om + j, none⟩ (.int .i64 (mo + x))).alloc o) ok 3 1 (.slice na nl nc) nl xs) (hnl : nl ≤ 1000) (hno : ∀ g, ok g → g < W.heap.size → g ≠ mb) (hob : ∀ k, (Value.slice na nl nc).ownBlock = some k → k < W.heap.size)
    (H : Hid (∀ o a3 c3 w6, Seg w6 (fun g => ((Value.slice na nl nc).ownBlock = some g ∧ ok g) ∨ g = W.heap.size + 1 + 1) 3 1 (.slice a3 (nl + 1) c3) (nl + 1) (xs ++ [.int .i64 x]) → Keep (fun g => some g = (Value.slice na nl nc).ownBlock ∨ g = W.heap.size) ((W.setCell ⟨gm, om + j, none⟩ (.int .i64 (mo + x))).alloc o) w6 → ∃ W6, (Instr.mapUpdate 37 (.map (some M)) (.agg #[.int .i64 (i : Int), .int .i64 (j : Int)]) (.agg #[.slice (some (if tc = 1 then ⟨g, off, none⟩ else ⟨g, off + 1, none⟩)) len (tc - 1), .slice a3 (nl + 1) c3, .bool false])).run Try.prog w6 = .ok () W6 ∧ R W6)) :
    Calls Try.prog 21 #[.pointer (some ⟨mb, 0, none⟩), .int .i64 (i : Int), .int .i64 (j : Int)] W fun e W2 => e = .returned (.tuple #[]) ∧ R W2 := by
  obtain rfl | ⟨c1, rfl⟩ : tc = 1 ∨ ∃ c1, tc = c1 + 2 := by
    by_cases h1 : tc = 1
    · exact .inl h1
    · exact .inr ⟨tc - 2, by omega⟩
  · exact take_aA W mb M i j n cm gm om len nl nc g off na x mo ok xs R c0 hj c2 hmo hfr hgm hI hlk t0 hx HN hseg hnl hno hob H
  · exact take_aB W mb M i j n cm gm om len nl nc g off c1 na x mo ok xs R c0 hj c2 hmo hfr hgm hI hlk t0 hx HN hseg hnl hno hob H

variable {W W2 : World} {mb n : Nat} {s : St} {h : Sh}
theorem noteTo_other (s : St) {who a : Nat} (ha : a ≠ who) (b : Nat) : ∀ k, (noteTo s who k).ways a b = s.ways a b
  | 0 => rfl
  | k + 1 => by
    unfold noteTo
    split
    · exact noteTo_other s ha b k
    · show upd2 _ who k _ a b = _
      rw [upd2_other _ _ (fun e => ha e.1)]
      exact noteTo_other s ha b k
theorem noteS_other (s : St) {who a : Nat} (ha : a ≠ who) (b : Nat) : (noteS n s who).ways a b = s.ways a b := by
  unfold noteS
  split
  · rfl
  · exact noteTo_other _ ha b n

/-- A way laid anew, and stored. -/
theorem Mov.lay (m : Mov W mb n s h) {i j : Nat} (hi : i < n) (hj : j < n) (hn : n ≤ 6) (hc : h.c ≤ 1000) (x : WV) (y : Wy) {w6 : World}
    (hk : Keep (fun g => h.t g = .th i j ∨ h.t g = .nt i j) W w6)
    (ht : Seg w6 (fun g => (g < W.heap.size ∧ h.t g = .th i j) ∨ W.heap.size ≤ g) 3 1 x.tv y.things.length (intsL y.things))
    (hnt : Seg w6 (fun g => (g < W.heap.size ∧ h.t g = .nt i j) ∨ W.heap.size ≤ g) 3 1 x.nv y.noted.length (intsL y.noted))
    (hd : ∀ g, x.tv.ownBlock = some g → x.nv.ownBlock ≠ some g) (hm : x.bm = y.marked) :
    ∃ W6, (Instr.mapUpdate 37 (.map (some h.M)) (.agg #[.int .i64 (i : Int), .int .i64 (j : Int)]) (.agg #[x.tv, x.nv, .bool x.bm])).run Try.prog w6 = .ok () W6 ∧
      ∃ h2, Mov W6 mb n (wayS s i j y) h2 ∧ Step W h W6 h2 1 := by
  have hM : ¬ (h.t h.M = .th i j ∨ h.t h.M = .nt i j) := by rw [m.tM]; simp
  obtain ⟨W6, hr, hp, hg⟩ := (m.map.keep hk hM).store wayMap (show h.c < maxLen by unfold maxLen; omega) (i := i) (j := j) (by omega) (by omega) x.val
  have hlt := m.map.lt
  have hbad : ∀ {z : Tag} (g : Nat), (g < W.heap.size ∧ h.t g = z) ∨ W.heap.size ≤ g → z ≠ .map → g ≠ h.M := by
    intro z g e hz e2
    subst e2
    rcases e with e | e
    · exact hz (e.2.symm.trans m.tM)
    · omega
  have := m.way hi hj x y (W2 := W6) ((hk.mono (q := fun g => h.t g = .th i j ∨ h.t g = .nt i j ∨ g = h.M) (fun g _ e => e.elim .inl (fun e => .inr (.inl e)))).grown hg (fun k e _ => by cases e; exact .inr (.inr rfl))) hp
    (ht.keep (Keep.of_grown hg) (fun g _ e e2 => hbad g e (by simp) (by cases e2; rfl)))
    (hnt.keep (Keep.of_grown hg) (fun g _ e e2 => hbad g e (by simp) (by cases e2; rfl))) hd hm
  exact ⟨W6, hr, _, this⟩

theorem take_any (m : Mov W mb n s h) {i j : Nat} (hi : i < n) (hj : j < n) (hij : i ≠ j) (hn : n ≤ 6) (hc : h.c ≤ 890) (hlen : ∀ a b, a < n → b < n → (s.ways a b).things.length ≤ 900) (hnl : (s.ways i j).noted.length ≤ 900)
    {x : Int} {r : List Int} (hth : (s.ways i j).things = x :: r) (hI : I64 (s.money j + x)) :
    Calls Try.prog 21 #[.pointer (some ⟨mb, 0, none⟩), .int .i64 (i : Int), .int .i64 (j : Int)] W fun e W2 => e = .returned (.tuple #[]) ∧
      ∃ h2, Mov W2 mb n (takeS n s i j) h2 ∧ Step W h W2 h2 7 := by
  have hs0 := m.th i j hi hj
  rw [hth] at hs0
  obtain ⟨g, off, tc, et, htc, htm, htg, t0, hs1⟩ := Seg.tail (k := r.length) (x := .int .i64 x) (xs := intsL r) hs0
  obtain ⟨na, nc, en⟩ := (m.nt i j hi hj).form
  have ev : (h.f i j).val = .agg #[.slice (some ⟨g, off, none⟩) (r.length + 1) tc, .slice na (s.ways i j).noted.length nc, .bool (s.ways i j).marked] := by unfold WV.val; rw [et, en, m.bm i j hi hj]
  have hlk := m.map.look wayMap (i := i) (j := j) (by omega) (by omega)
  rw [ev] at hlk
  have c2 := m.cells.2.2
  -- the tail, in whatever world all stands
  have tl : ∀ {w : World} {s2 : St} {h2 : Sh}, Mov w mb n s2 h2 → h2.f i j = h.f i j → s2.ways i j = s.ways i j →
      Seg w (fun g => h2.t g = .th i j) 3 1 (.slice (some (if tc = 1 then ⟨g, off, none⟩ else ⟨g, off + 1, none⟩)) r.length (tc - 1)) r.length (intsL r) := by
    intro w s2 h2 m2 hf hs
    have h1 := m2.th i j hi hj
    rw [hf, hs, hth] at h1
    obtain ⟨g', off', tc', et', _, _, _, _, hs'⟩ := Seg.tail (k := r.length) (x := .int .i64 x) (xs := intsL r) h1
    rw [et] at et'
    simp only [Value.slice.injEq, Option.some.injEq, Addr.mk.injEq] at et'
    obtain ⟨⟨rfl, rfl, _⟩, _, rfl⟩ := et'
    exact hs'
  have nt : ∀ {w : World} {s2 : St} {h2 : Sh}, Mov w mb n s2 h2 → h2.f i j = h.f i j → s2.ways i j = s.ways i j →
      Seg w (fun g => h2.t g = .nt i j) 3 1 (.slice na (s.ways i j).noted.length nc) (s.ways i j).noted.length (intsL (s.ways i j).noted) := by
    intro w s2 h2 m2 hf hs
    have h1 := m2.nt i j hi hj
    rw [hf, hs, en] at h1
    exact h1
  have dis : ∀ {w : World} {h2 : Sh} {v1 v2 : Value} {k1 k2 : Nat} {l1 l2 : List Value}, Seg w (fun g => h2.t g = .th i j) 3 1 v1 k1 l1 → Seg w (fun g => h2.t g = .nt i j) 3 1 v2 k2 l2 → ∀ g, v1.ownBlock = some g → v2.ownBlock ≠ some g := by
    intro w h2 v1 v2 k1 k2 l1 l2 a b g e1 e2
    have h1 := (a.block e1).1
    rw [(b.block e2).1] at h1
    cases h1
  by_cases hx : x = 0
  · subst hx
    have et : takeS n s i j = wayS (noteS n s j) i j ⟨r, (s.ways i j).noted, true⟩ := by unfold takeS; rw [hth]; rfl
    rw [et]
    refine take_mark W mb h.M i j _ _ _ g off tc (by omega) na _ (fun w2 => ∃ o h2, Mov w2 mb n (noteS n s j) h2 ∧ Step (W.alloc o) h w2 h2 6 ∧ h2.M = h.M ∧ ∀ a b, a ≠ j → h2.f a b = h.f a b) _ c2 hlk t0 (hidMk fun o => ?_) (hidMk fun w4 w6 hR hK => ?_)
    · refine (note_any (m.alloc o) hj hn (by omega) (fun b hb => hlen j b hj hb)).mono ?_
      rintro e w2 ⟨rfl, h2, m2, st2, _, _, hM2, hf2⟩
      refine ⟨rfl, ⟨o, h2, m2, st2, hM2, hf2⟩, by rw [m2.cells.2.2, hM2], ?_⟩
      rw [st2.keep.block W.heap.size (by simp) (fun e => e (m.fresh _ (Nat.le_refl _))), al_new]
    · obtain ⟨o, h4, m4, st4, hM4, hf4⟩ := hR
      have htL : h4.t W.heap.size = .no := (st4.tags W.heap.size (by simp)).trans (m.fresh _ (Nat.le_refl _))
      have m6 : Mov w6 mb n (noteS n s j) h4 := m4.keep hK (fun q _ e => by subst e; exact htL)
      have hfi := hf4 i j hij
      have hwi := noteS_other (n := n) s hij j
      have h1 := tl m6 hfi hwi
      have h2 := nt m6 hfi hwi
      obtain ⟨W6, hr, h5, m5, st5⟩ := m6.lay hi hj hn (by have := st4.count; omega) ⟨.slice (some (if tc = 1 then ⟨g, off, none⟩ else ⟨g, off + 1, none⟩)) r.length (tc - 1), .slice na (s.ways i j).noted.length nc, true⟩ ⟨r, (s.ways i j).noted, true⟩
        (Keep.refl _ w6) (h1.mono (fun q hq e => .inl ⟨hq, e⟩)) (h2.mono (fun q hq e => .inl ⟨hq, e⟩)) (dis h1 h2) rfl
      rw [hM4] at hr
      refine ⟨W6, hr, h5, m5, ?_⟩
      refine ⟨?_, fun q hq => ?_, by have := st4.count; have := st5.count; omega⟩
      · have k1 : Keep (fun q => h.t q ≠ .no) W w4 := ((Keep.refl (fun q => h.t q ≠ .no) W).alloc o).trans st4.keep (fun _ _ e => e) (fun _ _ e => e)
        have k2 : Keep (fun q => h.t q ≠ .no) W w6 := k1.trans hK (fun _ _ e => e) (fun q hq e => by subst e; omega)
        exact k2.trans st5.keep (fun _ _ e => e) (fun q hq e => by rw [st4.tags q (by simp; omega)] at e; exact e)
      · have hq1 : q < w6.heap.size := Nat.lt_of_lt_of_le hq (Nat.le_trans (Nat.le_trans (by simp) st4.keep.size) hK.size)
        rw [st5.tags q hq1, st4.tags q (by simp; omega)]
  · obtain ⟨gm, om, cm, em, hcm, htgm, hclm, hfrm, hsetm⟩ := m.mon_at (by omega)
    have c0 := m.cells.1
    rw [em] at c0
    have m1 : Mov (W.setCell ⟨gm, om + j, none⟩ (.int .i64 (s.money j + x))) mb n (payS s j x) h := hsetm j _ hj
    have hgm : gm ≠ mb := fun e => by subst e; rw [m.tmb] at htgm; cases htgm
    have hsz : (W.setCell ⟨gm, om + j, none⟩ (.int .i64 (s.money j + x))).heap.size = W.heap.size := by simp [World.setCell]
    have k1 : Keep (fun q => h.t q ≠ .no) W (W.setCell ⟨gm, om + j, none⟩ (.int .i64 (s.money j + x))) := (Keep.refl _ W).setCell gm _ _ (fun _ => by rw [htgm]; simp)
    have fin : ∀ {W6 : World} {h2 : Sh} {s2 : St}, Mov W6 mb n s2 h2 → Step (W.setCell ⟨gm, om + j, none⟩ (.int .i64 (s.money j + x))) h W6 h2 1 → Step W h W6 h2 7 := by
      intro W6 h2 s2 m2 st
      exact ⟨k1.trans st.keep (fun _ _ e => e) (fun _ _ e => e), fun q hq => st.tags q (by rw [hsz]; exact hq), by have := st.count; omega⟩
    have et : takeS n s i j = wayS (payS s j x) i j ⟨r, hearS s i j x, (s.ways i j).marked⟩ := by unfold takeS; rw [hth]; simp only []; rw [if_neg hx]
    rw [et]
    have hhn : ∀ o : Obj, Calls Try.prog 19 #[.pointer (some ⟨mb, 0, none⟩), .int .i64 (j : Int)] ((W.setCell ⟨gm, om + j, none⟩ (.int .i64 (s.money j + x))).alloc o) fun e w2 => e = .returned (.bool (decide (s.own j ≠ -1))) ∧ w2 = (W.setCell ⟨gm, om + j, none⟩ (.int .i64 (s.money j + x))).alloc o :=
      fun o => hasNoted_any (m1.alloc o) hj
    generalize hW1 : W.setCell ⟨gm, om + j, none⟩ (.int .i64 (s.money j + x)) = W1 at *
    have h1 := tl m1 rfl rfl
    have h2 := nt m1 rfl rfl
    have quiet : ∀ (bb : Bool), (s.ways i j).marked = bb → hearS s i j x = (s.ways i j).noted → ∀ o w6, Keep (fun _ => False) (W1.alloc o) w6 → ∃ W6, (Instr.mapUpdate 37 (.map (some h.M)) (.agg #[.int .i64 (i : Int), .int .i64 (j : Int)]) (.agg #[.slice (some (if tc = 1 then ⟨g, off, none⟩ else ⟨g, off + 1, none⟩)) r.length (tc - 1), .slice na (s.ways i j).noted.length nc, .bool bb])).run Try.prog w6 = .ok () W6 ∧
        ∃ h2, Mov W6 mb n (wayS (payS s j x) i j ⟨r, hearS s i j x, (s.ways i j).marked⟩) h2 ∧ Step W h W6 h2 7 := by
      intro bb hbb hhe o w6 hK
      rw [hhe]
      have k6 : Keep (fun _ => False) W1 w6 := ((Keep.refl (fun _ => False) W1).alloc o).trans hK (fun _ _ e => e) (fun _ _ e => e)
      have h3 := h1.keep k6 (fun _ _ _ e => e)
      have h4 := h2.keep k6 (fun _ _ _ e => e)
      obtain ⟨W6, hr, h5, m5, st5⟩ := m1.lay hi hj hn (by omega) ⟨.slice (some (if tc = 1 then ⟨g, off, none⟩ else ⟨g, off + 1, none⟩)) r.length (tc - 1), .slice na (s.ways i j).noted.length nc, bb⟩ ⟨r, (s.ways i j).noted, (s.ways i j).marked⟩
        (k6.mono (fun _ _ e => e.elim)) ((h1.mono (fun q hq e => ⟨hq, e⟩) : Seg W1 (fun q => q < W1.heap.size ∧ h.t q = .th i j) _ _ _ _ _).keep k6 (fun _ _ _ e => e) |>.mono (fun q hq e => .inl e)) ((h2.mono (fun q hq e => ⟨hq, e⟩) : Seg W1 (fun q => q < W1.heap.size ∧ h.t q = .nt i j) _ _ _ _ _).keep k6 (fun _ _ _ e => e) |>.mono (fun q hq e => .inl e)) (dis h1 h2) hbb.symm
      exact ⟨W6, hr, h5, m5, fin m5 st5⟩
    by_cases hown : s.own j = -1
    · have hd : decide (s.own j ≠ -1) = false := by simp [hown]
      have hhe : hearS s i j x = (s.ways i j).noted := by unfold hearS; rw [if_neg (by simp [hown])]
      rw [hd] at hhn
      subst hW1
      exact take_p W mb h.M i j n cm gm om _ _ _ g off tc (by omega) na _ x (s.money j) _ c0 hj c2 (hclm j hj) (hfrm _) hgm hI hlk t0 hx (hidMk hhn) (hidMk (quiet _ rfl hhe))
    · have hd : decide (s.own j ≠ -1) = true := by simp [hown]
      rw [hd] at hhn
      by_cases hb : (s.ways i j).marked = true
      · have hhe : hearS s i j x = (s.ways i j).noted := by unfold hearS; rw [if_neg (by simp [hb])]
        subst hW1
        rw [hb] at hlk
        exact take_q W mb h.M i j n cm gm om _ _ _ g off tc (by omega) na x (s.money j) _ c0 hj c2 (hclm j hj) (hfrm _) hgm hI hlk t0 hx (hidMk hhn) (hidMk (quiet _ hb hhe))
      · have hb' : (s.ways i j).marked = false := by simpa using hb
        have hhe : hearS s i j x = (s.ways i j).noted ++ [x] := by unfold hearS; rw [if_pos ⟨hown, hb'⟩]
        rw [hb'] at hlk
        have hob : ∀ k, (Value.slice na (s.ways i j).noted.length nc).ownBlock = some k → k < W1.heap.size := fun k e => (h2.block e).2
        have step : ∀ o a3 c3 w6, Seg w6 (fun g => ((Value.slice na (s.ways i j).noted.length nc).ownBlock = some g ∧ h.t g = .nt i j) ∨ g = W.heap.size + 1 + 1) 3 1 (.slice a3 ((s.ways i j).noted.length + 1) c3) ((s.ways i j).noted.length + 1) (intsL (s.ways i j).noted ++ [.int .i64 x]) →
            Keep (fun g => some g = (Value.slice na (s.ways i j).noted.length nc).ownBlock ∨ g = W.heap.size) (W1.alloc o) w6 →
            ∃ W6, (Instr.mapUpdate 37 (.map (some h.M)) (.agg #[.int .i64 (i : Int), .int .i64 (j : Int)]) (.agg #[.slice (some (if tc = 1 then ⟨g, off, none⟩ else ⟨g, off + 1, none⟩)) r.length (tc - 1), .slice a3 ((s.ways i j).noted.length + 1) c3, .bool false])).run Try.prog w6 = .ok () W6 ∧
              ∃ h2, Mov W6 mb n (wayS (payS s j x) i j ⟨r, hearS s i j x, (s.ways i j).marked⟩) h2 ∧ Step W h W6 h2 7 := by
          intro o a3 c3 w6 hs6 hK
          rw [hhe, hb']
          have k6 : Keep (fun q => h.t q = .nt i j) W1 w6 := ((Keep.refl (fun q => h.t q = .nt i j) W1).alloc o).trans hK (fun _ _ e => e) (fun q hq e => by
            rcases e with e | e
            · exact (h2.block e.symm).1
            · subst e; rw [hsz] at hq; omega)
          obtain ⟨W6, hr, h5, m5, st5⟩ := m1.lay hi hj hn (by omega) ⟨.slice (some (if tc = 1 then ⟨g, off, none⟩ else ⟨g, off + 1, none⟩)) r.length (tc - 1), .slice a3 ((s.ways i j).noted.length + 1) c3, false⟩ ⟨r, (s.ways i j).noted ++ [x], false⟩
            (k6.mono (fun _ _ e => .inr e))
            ((h1.mono (fun q hq e => ⟨hq, e⟩) : Seg W1 (fun q => q < W1.heap.size ∧ h.t q = .th i j) _ _ _ _ _).keep k6 (fun q _ e1 e2 => by rw [e1.2] at e2; cases e2) |>.mono (fun q hq e => .inl e))
            (by
              have h7 := hs6.mono (ok2 := fun g => (g < W1.heap.size ∧ h.t g = .nt i j) ∨ W1.heap.size ≤ g) (fun q _ e => by
                rcases e with e | e
                · exact .inl ⟨hob q e.1, e.2⟩
                · exact .inr (by rw [hsz]; omega))
              simpa [intsL] using h7)
            (fun q e1 e2 => by
              have h7 := (h1.block e1)
              rcases (hs6.block e2).1 with e | e
              · rw [h7.1] at e; cases e.2
              · have := h7.2; rw [hsz] at this; omega) rfl
          exact ⟨W6, hr, h5, m5, fin m5 st5⟩
        subst hW1
        exact take_a W mb h.M i j n cm gm om _ _ _ g off tc (by omega) na x (s.money j) _ _ _ c0 hj c2 (hclm j hj) (hfrm _) hgm hI hlk t0 hx (hidMk hhn) (fun o => h2.alloc o) (by omega) (fun q e _ e2 => by subst e2; rw [m.tmb] at e; cases e) (fun k e => by have := hob k e; rwa [hsz] at this) (hidMk step)
end Go.Proofs.Ythadhhconkjpmaa
