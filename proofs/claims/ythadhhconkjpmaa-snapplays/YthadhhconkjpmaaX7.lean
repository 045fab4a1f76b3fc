/- folkmootref.pass: a sending done. -/
import Derived.Test.YthadhhconkjpmaaX9
import Derived.Test.YthadhhconkjpmaaR4
import Derived.Test.YthadhhconkjpmaaCb0
import Derived.Test.YthadhhconkjpmaaCb1
import Derived.Deep.RegionLaw
import Derived.Deep.Cut
namespace Go.Proofs.Ythadhhconkjpmaa
open Go.RowKit Go.WideMaps
set_option linter.unusedVariables false

theorem stilDrewX (A : World) : Stil A A.drew := (Keep.refl _ A).drew
variable {W W2 : World} {ob lb n : Nat} {r : Rf} {h h2 : RSh}
set_option maxRecDepth 100000 in
set_option maxHeartbeats 4000000 in
theorem rpass_send (m : RMov W ob lb n r h) (x : Int) {w o : Nat} (hw : w < n) (ho : o < n) (hwo : o ≠ w) (hn : n ≤ 6) (hlen : ∀ a b, a < n → b < n → (r.lines a b).sent.length ≤ 900) (hx1 : 1 ≤ x) (hx2 : x ≤ r.money w) (hI : I64 (r.money w - x)) :
    Calls Try.prog 13 #[.agg #[.int .i64 1, .int .i64 (w : Int), .int .i64 (o : Int), .int .i64 x], .int .i64 (n : Int), .pointer (some ⟨ob, 0, none⟩), .slice (some ⟨lb, 0, none⟩) (n * n) (n * n)] W fun e W2 => e = .returned (.int .i64 0) ∧ ∃ h2, RMov W2 ob lb n (sendR r w o x) h2 ∧ RStep W h W2 h2 := by
  have hw' : (w : Int) < (n : Int) := by omega
  have ho' : (o : Int) < (n : Int) := by omega
  have hwo' : ((o : Int) == (w : Int)) = false := by simp; omega
  obtain ⟨y1, y2, y3, y4, y5⟩ := idx_facts hn hw ho
  have enn : ((n * n : Nat) : Int) = (n : Int) * (n : Int) := Int.natCast_mul n n
  have m2 := m.alloc (.cells #[.int .i64 1, .int .i64 (w : Int), .int .i64 (o : Int), .int .i64 x] 41)
  have HM2 := hidMk m2
  obtain ⟨g, off, cap, e, hcap, ht, hcl, hfr, _⟩ := m2.mon_at (by omega)
  have c2 := m2.cells.2.1
  rw [e] at c2
  have hco := hcl w hw
  have hfw := hfr (off + w)
  have hwr : IntKind.i64.wrap (r.money w - x) = r.money w - x := wrap_of hI
  have hxd : decide (x < 1) = false := decide_eq_false (by omega)
  have hxe : decide (r.money w < x) = false := decide_eq_false (by omega)
  have HC := hidMk (fun q => by
    obtain ⟨gm', om', _, em', _, _, _, _, hset⟩ := (m2.drewN q).mon_at (by omega)
    rw [e] at em'
    simp only [Value.slice.injEq, Option.some.injEq, Addr.mk.injEq] at em'
    obtain ⟨⟨rfl, rfl, _⟩, _, _⟩ := em'
    exact hset w (r.money w - x) hw)
  have HS : Hid (∀ q, RStep W h (((W.alloc (.cells #[.int .i64 1, .int .i64 (w : Int), .int .i64 (o : Int), .int .i64 x] 41)).drewN q).setCell ⟨g, off + w, none⟩ (.int .i64 (r.money w - x))) h) := fun q => ⟨(((Keep.refl _ W).alloc _).drewN q).setCell g _ _ (fun _ => by rw [ht]; simp), fun _ _ => rfl, rfl, rfl, rfl⟩
  have b0 : (W.alloc (.cells #[.int .i64 1, .int .i64 (w : Int), .int .i64 (o : Int), .int .i64 x] 41)).cell? ⟨W.heap.size, 0, none⟩ = some (.int .i64 1) := by go_simp
  have b1 : (W.alloc (.cells #[.int .i64 1, .int .i64 (w : Int), .int .i64 (o : Int), .int .i64 x] 41)).cell? ⟨W.heap.size, 1, none⟩ = some (.int .i64 (w : Int)) := by go_simp
  have b2 : (W.alloc (.cells #[.int .i64 1, .int .i64 (w : Int), .int .i64 (o : Int), .int .i64 x] 41)).cell? ⟨W.heap.size, 2, none⟩ = some (.int .i64 (o : Int)) := by go_simp
  have b3 : (W.alloc (.cells #[.int .i64 1, .int .i64 (w : Int), .int .i64 (o : Int), .int .i64 x] 41)).cell? ⟨W.heap.size, 3, none⟩ = some (.int .i64 x) := by go_simp
  have hmb : ¬ (W.heap.size = g) := fun e2 => by
    have h1 := m.fresh W.heap.size (Nat.le_refl _)
    rw [e2, ht] at h1
    cases h1
  have HFr : Hid (h.t W.heap.size = .no) := m.fresh _ (Nat.le_refl _)
  have HLn := hidMk (hlen w o hw ho)
  have HBk : Hid (W.heap.size < (W.alloc (.cells #[.int .i64 1, .int .i64 (w : Int), .int .i64 (o : Int), .int .i64 x] 41)).heap.size) := by show _ < _; simp
  clear hcl hfr m m2 hlen
  go_enter Try.func13, Try.ntmps13
  go_wp2
  generalize W.alloc (.cells #[.int .i64 1, .int .i64 (w : Int), .int .i64 (o : Int), .int .i64 x] 41) = w0 at *
  generalize W.heap.size = bk at *
  go_quiet (fail)
  go_wp2
  refine wp_region_tail rfl (by kernel_rfl) (by kernel_rfl) (by kernel_rfl) (by kernel_rfl) (by kernel_rfl) rfl ?_
  simp only [List.dropLast]
  repeat (go_big_quiet_step (fail))
  refine wpQuiet_nil ?_
  rintro _ ⟨q, rfl⟩
  have HC2 := HC.out
  have HS2 := HS.out
  have B1 : ∀ q k v, w0.cell? ⟨bk, k, none⟩ = some v → ((w0.drewN q).setCell ⟨g, off + w, none⟩ (.int .i64 (r.money w - x))).cell? ⟨bk, k, none⟩ = some v := fun q k v hv => (World.cell?_of_block (Below.heap_setCell _ _ _ _ hmb)).trans hv
  go_upto_region 16 with fail
  have b1' := B1 (nq + q) 1 _ b1
  have b2' := B1 (nq + q) 2 _ b2
  have b3' := B1 (nq + q) 3 _ b3
  have HM1 := hidMk (HC2 (nq + q))
  have HS1 := hidMk (HS2 (nq + q))
  have HB1 : Hid (bk < w0.heap.size) := HBk
  have HFr1 : Hid (h.t bk = .no) := HFr
  clear HC HS HC2 HS2 B1 b0 b1 b2 b3 HM2 c2 hco hfw hmb
  have HW1 : Hid (bk < ((w0.drewN (nq + q)).setCell ⟨g, off + w, none⟩ (.int .i64 (r.money w - x))).heap.size) := by have := HB1.out; show _ < _; simpa using this
  clear HB1 HBk
  generalize (w0.drewN (nq + q)).setCell ⟨g, off + w, none⟩ (.int .i64 (r.money w - x)) = w1 at *
  obtain ⟨l0, _, _, lf⟩ := HM1.out.line hw ho
  have hsg := HM1.out.st w o hw ho
  obtain ⟨sa, sc, es⟩ := hsg.form
  rw [es] at l0 hsg
  simp only at l0 hsg
  have HSg := hidMk hsg
  have HPu := hidMk (fun (w3 : World) (v : Value) hk3 hs3 => HM1.out.push hw ho x (w3 := w3) (v := v) hk3 hs3)
  have HLin := hidMk HM1.out.lin
  have HTl := hidMk HM1.out.tl
  obtain ⟨i0, hit, hz0, hz1, hz2⟩ := info_parts Try.info3
  have HES : Hid (h.f w o = .slice sa (r.lines w o).sent.length sc) := es
  clear hsg es lf
  generalize hsl : (r.lines w o).sent = sl at *
  generalize hslen : sl.length = ln at *
  have HL1 := hidMk hsl
  have HL2 := hidMk hslen
  clear hsl hslen
  have HCk : Hid (∀ w' : World, Stil w1 w' → w'.cell? ⟨lb, (w * n + o) * 3, none⟩ = some (.slice sa ln sc) ∧ w'.cell? ⟨bk, 3, none⟩ = some (.int .i64 x)) := fun w' hs => ⟨hs.cell l0, hs.cell b3'⟩
  have hlnl := HLn.out
  go_upto_region 17 with fail
  refine wp_region_class (fun w' => w'.cell? ⟨lb, (w * n + o) * 3, none⟩ = some (.slice sa ln sc) ∧ w'.cell? ⟨bk, 3, none⟩ = some (.int .i64 x)) 11 (by kernel_rfl) ?_
  have HC0 := hidMk (HCk.out _ (stilDrewX w1))
  refine wpAnyC_take (i := 0) (fuel := 11) (v := .pointer (some ⟨lb, (w * n + o) * 3, none⟩)) rfl (by kernel_rfl) (by kernel_rfl) (by kernel_rfl) (by kernel_rfl) (fun _ _ _ h => h) (.inl ⟨by kernel_rfl, fun w' hC => by obtain ⟨y1, y2⟩ := hC; go_simp⟩) HC0.out ?_
  go_frame
  refine wpAnyC_take (i := 1) (fuel := 10) (v := .pointer (some ⟨lb, (w * n + o) * 3, none⟩)) rfl (by kernel_rfl) (by kernel_rfl) (by kernel_rfl) (by kernel_rfl) (fun _ _ _ h => h) (.inl ⟨by kernel_rfl, fun w' hC => by obtain ⟨y1, y2⟩ := hC; go_simp⟩) HC0.out ?_
  go_frame
  refine wpAnyC_take (i := 2) (fuel := 9) (v := .pointer (some ⟨lb, (w * n + o) * 3, none⟩)) rfl (by kernel_rfl) (by kernel_rfl) (by kernel_rfl) (by kernel_rfl) (fun _ _ _ h => h) (.inl ⟨by kernel_rfl, fun w' hC => by obtain ⟨y1, y2⟩ := hC; go_simp⟩) HC0.out ?_
  go_frame
  refine wpAnyC_take (i := 3) (fuel := 8) (v := .pointer (some ⟨lb, (w * n + o) * 3, none⟩)) rfl (by kernel_rfl) (by kernel_rfl) (by kernel_rfl) (by kernel_rfl) (fun _ _ _ h => h) (.inl ⟨by kernel_rfl, fun w' hC => by obtain ⟨y1, y2⟩ := hC; go_simp⟩) HC0.out ?_
  go_frame
  refine wpAnyC_take (i := 4) (fuel := 7) (v := .slice sa ln sc) rfl (by kernel_rfl) (by kernel_rfl) (by kernel_rfl) (by kernel_rfl) (fun _ _ _ h => h) (.inl ⟨by kernel_rfl, fun w' hC => by obtain ⟨y1, y2⟩ := hC; go_simp⟩) HC0.out ?_
  go_frame
  refine wpAnyC_take (i := 5) (fuel := 6) (v := .pointer (some ⟨bk, 3, none⟩)) rfl (by kernel_rfl) (by kernel_rfl) (by kernel_rfl) (by kernel_rfl) (fun _ _ _ h => h) (.inl ⟨by kernel_rfl, fun w' hC => by obtain ⟨y1, y2⟩ := hC; go_simp⟩) HC0.out ?_
  go_frame
  refine wpAnyC_take (i := 6) (fuel := 5) (v := .int .i64 x) rfl (by kernel_rfl) (by kernel_rfl) (by kernel_rfl) (by kernel_rfl) (fun _ _ _ h => h) (.inl ⟨by kernel_rfl, fun w' hC => by obtain ⟨y1, y2⟩ := hC; go_simp⟩) HC0.out ?_
  go_frame
  refine wpAnyC_one 7 (fuel := 4) (by kernel_rfl) rfl rfl (fun K4 hK4 => ?_)
  go_wp2
  refine ⟨by first | exact fun _ => HCk.out _ ((stilDrewX w1).alloc _) | exact HCk.out _ ((Keep.refl _ w1).alloc _), ?_⟩
  refine wpAnyC_one 8 (fuel := 3) (by kernel_rfl) rfl rfl (fun K5 hK5 => ?_)
  refine oper_append_seg (.tmp 118) (.tmp 121) 22 rfl 3 i0 (.int .i64 0) 1 8 Try.underlying22 hit hz0 hz1 hz2 rfl (by decide) (.slice sa ln sc) ln (intsL sl) rfl (segAlloc (segDrew HSg.out) _) ⟨w1.heap.size, 0, none⟩ 1 1 [.int .i64 x] rfl rfl (fun j2 u hu => cCell1 w1.drew (.int .i64 x) 3 _ rfl j2 u hu) (cOne _) (by unfold maxLen; omega) (by omega) ?_
  intro v3 w3 hs3 hg3
  obtain ⟨a3, c3, rfl⟩ := segForm hs3
  have hlb5 := (Array.getElem?_eq_some_iff.1 HLin.out).1
  have hob3 : ∀ q, (Value.slice sa ln sc).ownBlock = some q → h.t q = .th w o := fun q e => (HSg.out.block e).1
  have hk3 : Keep (fun q => h.t q = .th w o) w1 w3 := (((Keep.refl _ w1).drew).alloc _).grown hg3 (fun q e _ => hob3 q e)
  have hlin3 := (hk3.block lb hlb5 (fun e => by rw [HTl.out] at e; cases e)).trans HLin.out
  have hbk3 : w3.cell? ⟨bk, 3, none⟩ = some (.int .i64 x) := (World.cell?_of_block (hk3.block bk HW1.out (fun e => by rw [HFr1.out] at e; cases e))).trans b3'
  obtain ⟨p1, _, _⟩ := lnRow_at (n := n) (f := h.f) (L := r.lines) hw ho
  have s1 : w3.cell? ⟨lb, (w * n + o) * 3, none⟩ = some (h.f w o) := by rw [cell_of_row w3 _ _ _ _ _ hlin3]; simpa using p1
  rw [HES.out] at s1
  have s2 : w3.frozen? ⟨lb, (w * n + o) * 3, none⟩ = false := frozen_of_row w3 _ _ _ _ hlin3
  have hs4 : Seg w3 (fun q => (q < w1.heap.size ∧ h.t q = .th w o) ∨ w1.heap.size ≤ q) 3 1 (.slice a3 (ln + 1) c3) (ln + 1) (intsL (sl ++ [x])) := by
    have h5 := hs3.mono (ok2 := fun q => (q < w1.heap.size ∧ h.t q = .th w o) ∨ w1.heap.size ≤ q) (fun q _ e => by
      rcases e with ⟨e, e2⟩ | e
      · exact .inl ⟨(HSg.out.block e).2, e2⟩
      · exact .inr (by (try simp at e); omega))
    simpa [intsL] using h5
  obtain ⟨M6, S6⟩ := HPu.out w3 (.slice a3 (ln + 1) c3) hk3 hs4
  have HM7 := hidMk M6
  have HS7 := hidMk (HS1.out.trans S6)
  refine hK5 _ _ ⟨fun _ => ⟨s1, hbk3⟩, ?_⟩
  clear hs3 hg3 hk3 hlin3 p1 hs4 M6 S6 HPu HSg HLin HTl HM1 HS1 hob3
  go_frame
  refine wpAnyC_one 9 (fuel := 2) (by kernel_rfl) rfl rfl (fun K6 hK6 => ?_)
  go_wp2
  try (refine ⟨fun _ => ⟨s1, hbk3⟩, ?_⟩)
  refine wpAnyC_one 10 (fuel := 1) (by kernel_rfl) rfl rfl (fun K7 hK7 => ?_)
  go_wp2
  try (refine ⟨fun _ => ⟨s1, hbk3⟩, ?_⟩)
  refine wpAnyC_one 11 (fuel := 0) (by kernel_rfl) rfl rfl (fun K8 hK8 => ?_)
  go_wp2
  refine ⟨fun h => absurd rfl h, ?_⟩
  refine wpAnyC_done (by kernel_rfl) ?_
  go_wp2
  go_ret
  refine ⟨rfl, _, ?_, HS7.out⟩
  unfold sendR
  rw [HL1.out]
  exact HM7.out
end Go.Proofs.Ythadhhconkjpmaa
