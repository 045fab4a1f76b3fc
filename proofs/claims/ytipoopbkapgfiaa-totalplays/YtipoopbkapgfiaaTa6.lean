/- checkStep. -/
import Derived.Test.YtipoopbkapgfiaaTa5
import Derived.Test.YtipoopbkapgfiaaR4
namespace Go.Proofs.Ytipoopbkapgfiaa
open Go.RowKit Go.WideMaps
set_option linter.unusedVariables false

variable {W W2 : World} {mb n : Nat} {s : TS} {h h2 : TSh}
def ansTell (et ab : Bool) : Int := match et, ab with
  | false, true => 0
  | _, _ => 6
theorem stilDrew (A : World) : Stil A A.drew := (Keep.refl _ A).drew

set_option maxRecDepth 100000 in
set_option maxHeartbeats 8000000 in
theorem chk_take {w k sn : Nat} {en ep : Nat} {et eh gb : Bool} (hw : w < n) (hn : n ≤ 6) (hk : k < sn) (hsn : sn ≤ 200) (HM : Hid (Tmov W mb n s h)) (HZ : Hid (s.sent = sn)) 
    (HE1 : Hid (((s.ent w k).map entV).getD entZ = .agg #[.int .i64 (en : Int), .int .i64 (ep : Int), .bool et, .bool eh])) (HE2 : Hid ((s.ent w k).isSome = gb)) :
    Calls Try.prog 8 #[.pointer (some ⟨mb, 0, none⟩), .agg #[.int .i64 2, .int .i64 (w : Int), .int .i64 (k : Int)]] W fun e W2 => e = .returned (.int .i64 (if gb = true then 6 else 0)) ∧ Stil W W2 := by
  have HE : Hid (Value.tuple #[((s.ent w k).map entV).getD entZ, .bool (s.ent w k).isSome] = .tuple #[.agg #[.int .i64 (en : Int), .int .i64 (ep : Int), .bool et, .bool eh], .bool gb]) := by show _ = _; rw [HE1.out, HE2.out]
  have HK : Hid (Stil W (W.alloc (.cells #[.int .i64 2, .int .i64 (w : Int), .int .i64 (k : Int)] 39))) := hidMk ((Keep.refl _ W).alloc _)
  have b0 : (W.alloc (.cells #[.int .i64 2, .int .i64 (w : Int), .int .i64 (k : Int)] 39)).cell? ⟨W.heap.size, 0, none⟩ = some (.int .i64 2) := by go_simp
  have b1 : (W.alloc (.cells #[.int .i64 2, .int .i64 (w : Int), .int .i64 (k : Int)] 39)).cell? ⟨W.heap.size, 1, none⟩ = some (.int .i64 (w : Int)) := by go_simp
  have b2 : (W.alloc (.cells #[.int .i64 2, .int .i64 (w : Int), .int .i64 (k : Int)] 39)).cell? ⟨W.heap.size, 2, none⟩ = some (.int .i64 (k : Int)) := by go_simp
  obtain ⟨c0, c1, c2, c3⟩ := (HM.out.still HK.out).cells
  have w4 : decide ((w : Int) < 0) = false := decide_eq_false (by omega)
  have w5 : ¬ (n : Int) ≤ (w : Int) := by omega
  have w6 : decide ((n : Int) ≤ (w : Int)) = false := decide_eq_false (by omega)
  have m4 : decide ((k : Int) < 0) = false := decide_eq_false (by omega)
  have m5 : decide ((sn : Int) ≤ (k : Int)) = false := decide_eq_false (by omega)
  have m6 : ¬ (sn : Int) ≤ (k : Int) := by omega
  rw [HZ.out] at c0
  go_enter Try.func8, Try.ntmps8
  go_wp2
  generalize W.alloc (.cells #[.int .i64 2, .int .i64 (w : Int), .int .i64 (k : Int)] 39) = w0 at *
  go_quiet (fail)
  go_wp2
  have HK1 := hidMk (Stil.tr HK.out (Stil.drewN w0 nq))
  have d0 : (w0.drewN nq).cell? ⟨W.heap.size, 0, none⟩ = some (.int .i64 2) := b0
  have d1 : (w0.drewN nq).cell? ⟨W.heap.size, 1, none⟩ = some (.int .i64 (w : Int)) := b1
  have d2 : (w0.drewN nq).cell? ⟨W.heap.size, 2, none⟩ = some (.int .i64 (k : Int)) := b2
  have x0 : (w0.drewN nq).cell? ⟨mb, 0, none⟩ = some (.int .i64 (sn : Int)) := c0
  have x2 : (w0.drewN nq).cell? ⟨mb, 2, none⟩ = some (.map (some h.M)) := c2
  clear b0 b1 b2 c0 c1 c2 c3 HK
  generalize w0.drewN nq = w1 at *
  go_quiet (fail)
  go_wp2
  have HK2 := hidMk (Stil.tr HK1.out (Stil.drewN w1 nq))
  have HC : Hid (∀ w9 : World, Stil (w1.drewN nq) w9 → w9.cell? ⟨mb, 2, none⟩ = some (.map (some h.M)) ∧ w9.cell? ⟨W.heap.size, 1, none⟩ = some (.int .i64 (w : Int)) ∧ w9.cell? ⟨W.heap.size, 2, none⟩ = some (.int .i64 (k : Int)) ∧ (Instr.lookup 35 (.map (some h.M)) (.agg #[.int .i64 (w : Int), .int .i64 (k : Int)]) true).run Try.prog w9 = .ok (.tuple #[.agg #[.int .i64 (en : Int), .int .i64 (ep : Int), .bool et, .bool eh], .bool gb]) w9) := fun w9 h9 => ⟨h9.cell x2, h9.cell d1, h9.cell d2, by
    have := ((HM.out.still HK2.out).still h9).look2 (show w < 1000 by omega) (show k < 1000 by omega)
    rw [HE.out] at this
    exact this⟩
  have e0 : (w1.drewN nq).cell? ⟨W.heap.size, 0, none⟩ = some (.int .i64 2) := d0
  have e2 : (w1.drewN nq).cell? ⟨W.heap.size, 2, none⟩ = some (.int .i64 (k : Int)) := d2
  have HE0 := hidMk e0
  have HE2 := hidMk e2
  clear d0 d1 d2 x0 x2 HK1 e0 e2
  generalize w1.drewN nq = w2 at *
  refine wp_region_class (fun w' => w'.cell? ⟨mb, 2, none⟩ = some (.map (some h.M)) ∧ w'.cell? ⟨W.heap.size, 1, none⟩ = some (.int .i64 (w : Int)) ∧ w'.cell? ⟨W.heap.size, 2, none⟩ = some (.int .i64 (k : Int)) ∧ (Instr.lookup 35 (.map (some h.M)) (.agg #[.int .i64 (w : Int), .int .i64 (k : Int)]) true).run Try.prog w' = .ok (.tuple #[.agg #[.int .i64 (en : Int), .int .i64 (ep : Int), .bool et, .bool eh], .bool gb]) w') 15 (by kernel_rfl) ?_
  have HC0 := hidMk (HC.out w2.drew (stilDrew w2))
  refine wpAnyC_take (i := 0) (fuel := 15) (v := .pointer (some ⟨mb, 0, none⟩)) rfl (by kernel_rfl) (by kernel_rfl) (by kernel_rfl) (by kernel_rfl) (fun _ _ _ h => h) (.inl ⟨rfl, fun w' hC => by obtain ⟨y1, y2, y3, y4⟩ := hC; go_simp⟩) HC0.out ?_
  go_frame
  refine wpAnyC_take (i := 1) (fuel := 14) (v := .pointer (some ⟨mb, 0, none⟩)) rfl (by kernel_rfl) (by kernel_rfl) (by kernel_rfl) (by kernel_rfl) (fun _ _ _ h => h) (.inl ⟨rfl, fun w' hC => by obtain ⟨y1, y2, y3, y4⟩ := hC; go_simp⟩) HC0.out ?_
  go_frame
  refine wpAnyC_take (i := 2) (fuel := 13) (v := .pointer (some ⟨mb, 2, none⟩)) rfl (by kernel_rfl) (by kernel_rfl) (by kernel_rfl) (by kernel_rfl) (fun _ _ _ h => h) (.inl ⟨rfl, fun w' hC => by obtain ⟨y1, y2, y3, y4⟩ := hC; go_simp⟩) HC0.out ?_
  go_frame
  refine wpAnyC_take (i := 3) (fuel := 12) (v := .map (some h.M)) rfl (by kernel_rfl) (by kernel_rfl) (by kernel_rfl) (by kernel_rfl) (fun _ _ _ h => h) (.inl ⟨rfl, fun w' hC => by obtain ⟨y1, y2, y3, y4⟩ := hC; go_simp⟩) HC0.out ?_
  go_frame
  refine wpAnyC_take (i := 4) (fuel := 11) (v := .pointer (some ⟨W.heap.size, 1, none⟩)) rfl (by kernel_rfl) (by kernel_rfl) (by kernel_rfl) (by kernel_rfl) (fun _ _ _ h => h) (.inl ⟨rfl, fun w' hC => by obtain ⟨y1, y2, y3, y4⟩ := hC; go_simp⟩) HC0.out ?_
  go_frame
  refine wpAnyC_take (i := 5) (fuel := 10) (v := .int .i64 (w : Int)) rfl (by kernel_rfl) (by kernel_rfl) (by kernel_rfl) (by kernel_rfl) (fun _ _ _ h => h) (.inl ⟨rfl, fun w' hC => by obtain ⟨y1, y2, y3, y4⟩ := hC; go_simp⟩) HC0.out ?_
  go_frame
  refine wpAnyC_take (i := 6) (fuel := 9) (v := .pointer (some ⟨W.heap.size, 2, none⟩)) rfl (by kernel_rfl) (by kernel_rfl) (by kernel_rfl) (by kernel_rfl) (fun _ _ _ h => h) (.inl ⟨rfl, fun w' hC => by obtain ⟨y1, y2, y3, y4⟩ := hC; go_simp⟩) HC0.out ?_
  go_frame
  refine wpAnyC_take (i := 7) (fuel := 8) (v := .int .i64 (k : Int)) rfl (by kernel_rfl) (by kernel_rfl) (by kernel_rfl) (by kernel_rfl) (fun _ _ _ h => h) (.inl ⟨rfl, fun w' hC => by obtain ⟨y1, y2, y3, y4⟩ := hC; go_simp⟩) HC0.out ?_
  go_frame
  refine wpAnyC_take (i := 8) (fuel := 7) (v := .agg #[.int .i64 (w : Int), .int .i64 (k : Int)]) rfl (by kernel_rfl) (by kernel_rfl) (by kernel_rfl) (by kernel_rfl) (fun _ _ _ h => h) (.inl ⟨rfl, fun w' hC => by obtain ⟨y1, y2, y3, y4⟩ := hC; go_simp⟩) HC0.out ?_
  go_frame
  refine wpAnyC_take (i := 9) (fuel := 6) (v := .tuple #[.agg #[.int .i64 (en : Int), .int .i64 (ep : Int), .bool et, .bool eh], .bool gb]) rfl (by kernel_rfl) (by kernel_rfl) (by kernel_rfl) (by kernel_rfl) (fun _ _ _ h => h) (.inl ⟨rfl, fun w' hC => by obtain ⟨y1, y2, y3, y4⟩ := hC; go_simp⟩) HC0.out ?_
  go_frame
  refine wpAnyC_take (i := 10) (fuel := 5) (v := .tuple #[.agg #[.int .i64 (en : Int), .int .i64 (ep : Int), .bool et, .bool eh], .bool gb]) rfl (by kernel_rfl) (by kernel_rfl) (by kernel_rfl) (by kernel_rfl) (fun _ _ _ h => h) (.inl ⟨rfl, fun w' hC => by obtain ⟨y1, y2, y3, y4⟩ := hC; go_simp⟩) HC0.out ?_
  go_frame
  refine wpAnyC_take (i := 11) (fuel := 4) (v := .agg #[.int .i64 (en : Int), .int .i64 (ep : Int), .bool et, .bool eh]) rfl (by kernel_rfl) (by kernel_rfl) (by kernel_rfl) (by kernel_rfl) (fun _ _ _ h => h) (.inl ⟨rfl, fun w' hC => by obtain ⟨y1, y2, y3, y4⟩ := hC; go_simp⟩) HC0.out ?_
  go_frame
  refine wpAnyC_take (i := 12) (fuel := 3) (v := .bool gb) rfl (by kernel_rfl) (by kernel_rfl) (by kernel_rfl) (by kernel_rfl) (fun _ _ _ h => h) (.inl ⟨rfl, fun w' hC => by obtain ⟨y1, y2, y3, y4⟩ := hC; go_simp⟩) HC0.out ?_
  go_frame
  refine wpAnyC_one 13 (fuel := 2) (by kernel_rfl) rfl rfl (fun K4 hK4 => ?_)
  have HA0 := hidMk (HC.out (w2.alloc (.cells #[.int .i64 0, .int .i64 0, .bool false, .bool false] 56)).drew ((Stil.new w2 _).tr (stilDrew _)))
  have HA1 := hidMk (HC.out (w2.alloc (.cells #[.int .i64 (en : Int), .int .i64 (ep : Int), .bool et, .bool eh] 56)).drew ((Stil.new w2 _).tr (stilDrew _)))
  have hk3 : Stil w2 (w2.alloc (.cells #[.int .i64 (en : Int), .int .i64 (ep : Int), .bool et, .bool eh] 56)).drew := (Stil.new w2 _).tr (stilDrew _)
  have HK3 := hidMk (Stil.tr HK2.out hk3)
  have j0 := hk3.cell HE0.out
  have j2 := hk3.cell HE2.out
  have j5 : (w2.alloc (.cells #[.int .i64 (en : Int), .int .i64 (ep : Int), .bool et, .bool eh] 56)).drew.cell? ⟨w2.heap.size, 2, none⟩ = some (.bool et) := by
    have := (cell_of_row _ _ 2 _ _ _ (al_new w2 (.cells #[.int .i64 (en : Int), .int .i64 (ep : Int), .bool et, .bool eh] 56))).trans rfl
    exact this
  clear hk3
  go_wp2_with (fail)
  refine ⟨fun _ => HA0.out, ?_⟩
  refine wpAnyC_one 14 (fuel := 1) (by kernel_rfl) rfl rfl (fun K5 hK5 => ?_)
  go_wp2_with (fail)
  refine ⟨fun _ => HA1.out, ?_⟩
  refine wpAnyC_one 15 (fuel := 0) (by kernel_rfl) rfl rfl (fun K6 hK6 => ?_)
  go_wp2_with (fail)
  refine ⟨fun hne => absurd rfl hne, ?_⟩
  refine wpAnyC_done (by kernel_rfl) ?_
  generalize (w2.alloc (.cells #[.int .i64 (en : Int), .int .i64 (ep : Int), .bool et, .bool eh] 56)).drew = w3 at *
  clear HA0 HA1 HC HC0 HK2 HE0 HE2
  generalize w2.heap.size = r5 at *
  show Exit.then _ _ Exit.normal _ _
  clear j2 j5
  cases gb with
  | true =>
    go_wp2
    go_ret
    exact ⟨rfl, HK3.out⟩
  | false =>
    go_wp2
    go_ret
    exact ⟨rfl, HK3.out⟩

set_option maxRecDepth 100000 in
set_option maxHeartbeats 8000000 in
theorem chk_tell {w k sn : Nat} {en ep : Nat} {et eh gb : Bool} (hw : w < n) (hn : n ≤ 6) (hk : k < sn) (hsn : sn ≤ 200) (HM : Hid (Tmov W mb n s h)) (HZ : Hid (s.sent = sn)) 
    (HE1 : Hid (((s.ent w k).map entV).getD entZ = .agg #[.int .i64 (en : Int), .int .i64 (ep : Int), .bool et, .bool eh])) (HE2 : Hid ((s.ent w k).isSome = gb)) :
    Calls Try.prog 8 #[.pointer (some ⟨mb, 0, none⟩), .agg #[.int .i64 3, .int .i64 (w : Int), .int .i64 (k : Int)]] W fun e W2 => e = .returned (.int .i64 (ansTell et (allB n s k))) ∧ Stil W W2 := by
  have HE : Hid (Value.tuple #[((s.ent w k).map entV).getD entZ, .bool (s.ent w k).isSome] = .tuple #[.agg #[.int .i64 (en : Int), .int .i64 (ep : Int), .bool et, .bool eh], .bool gb]) := by show _ = _; rw [HE1.out, HE2.out]
  have HK : Hid (Stil W (W.alloc (.cells #[.int .i64 3, .int .i64 (w : Int), .int .i64 (k : Int)] 39))) := hidMk ((Keep.refl _ W).alloc _)
  have b0 : (W.alloc (.cells #[.int .i64 3, .int .i64 (w : Int), .int .i64 (k : Int)] 39)).cell? ⟨W.heap.size, 0, none⟩ = some (.int .i64 3) := by go_simp
  have b1 : (W.alloc (.cells #[.int .i64 3, .int .i64 (w : Int), .int .i64 (k : Int)] 39)).cell? ⟨W.heap.size, 1, none⟩ = some (.int .i64 (w : Int)) := by go_simp
  have b2 : (W.alloc (.cells #[.int .i64 3, .int .i64 (w : Int), .int .i64 (k : Int)] 39)).cell? ⟨W.heap.size, 2, none⟩ = some (.int .i64 (k : Int)) := by go_simp
  obtain ⟨c0, c1, c2, c3⟩ := (HM.out.still HK.out).cells
  have w4 : decide ((w : Int) < 0) = false := decide_eq_false (by omega)
  have w5 : ¬ (n : Int) ≤ (w : Int) := by omega
  have w6 : decide ((n : Int) ≤ (w : Int)) = false := decide_eq_false (by omega)
  have m4 : decide ((k : Int) < 0) = false := decide_eq_false (by omega)
  have m5 : decide ((sn : Int) ≤ (k : Int)) = false := decide_eq_false (by omega)
  have m6 : ¬ (sn : Int) ≤ (k : Int) := by omega
  rw [HZ.out] at c0
  go_enter Try.func8, Try.ntmps8
  go_wp2
  generalize W.alloc (.cells #[.int .i64 3, .int .i64 (w : Int), .int .i64 (k : Int)] 39) = w0 at *
  go_quiet (fail)
  go_wp2
  have HK1 := hidMk (Stil.tr HK.out (Stil.drewN w0 nq))
  have d0 : (w0.drewN nq).cell? ⟨W.heap.size, 0, none⟩ = some (.int .i64 3) := b0
  have d1 : (w0.drewN nq).cell? ⟨W.heap.size, 1, none⟩ = some (.int .i64 (w : Int)) := b1
  have d2 : (w0.drewN nq).cell? ⟨W.heap.size, 2, none⟩ = some (.int .i64 (k : Int)) := b2
  have x0 : (w0.drewN nq).cell? ⟨mb, 0, none⟩ = some (.int .i64 (sn : Int)) := c0
  have x2 : (w0.drewN nq).cell? ⟨mb, 2, none⟩ = some (.map (some h.M)) := c2
  clear b0 b1 b2 c0 c1 c2 c3 HK
  generalize w0.drewN nq = w1 at *
  go_quiet (fail)
  go_wp2
  have HK2 := hidMk (Stil.tr HK1.out (Stil.drewN w1 nq))
  have HC : Hid (∀ w9 : World, Stil (w1.drewN nq) w9 → w9.cell? ⟨mb, 2, none⟩ = some (.map (some h.M)) ∧ w9.cell? ⟨W.heap.size, 1, none⟩ = some (.int .i64 (w : Int)) ∧ w9.cell? ⟨W.heap.size, 2, none⟩ = some (.int .i64 (k : Int)) ∧ (Instr.lookup 35 (.map (some h.M)) (.agg #[.int .i64 (w : Int), .int .i64 (k : Int)]) true).run Try.prog w9 = .ok (.tuple #[.agg #[.int .i64 (en : Int), .int .i64 (ep : Int), .bool et, .bool eh], .bool gb]) w9) := fun w9 h9 => ⟨h9.cell x2, h9.cell d1, h9.cell d2, by
    have := ((HM.out.still HK2.out).still h9).look2 (show w < 1000 by omega) (show k < 1000 by omega)
    rw [HE.out] at this
    exact this⟩
  have e0 : (w1.drewN nq).cell? ⟨W.heap.size, 0, none⟩ = some (.int .i64 3) := d0
  have e2 : (w1.drewN nq).cell? ⟨W.heap.size, 2, none⟩ = some (.int .i64 (k : Int)) := d2
  have HE0 := hidMk e0
  have HE2 := hidMk e2
  clear d0 d1 d2 x0 x2 HK1 e0 e2
  generalize w1.drewN nq = w2 at *
  refine wp_region_class (fun w' => w'.cell? ⟨mb, 2, none⟩ = some (.map (some h.M)) ∧ w'.cell? ⟨W.heap.size, 1, none⟩ = some (.int .i64 (w : Int)) ∧ w'.cell? ⟨W.heap.size, 2, none⟩ = some (.int .i64 (k : Int)) ∧ (Instr.lookup 35 (.map (some h.M)) (.agg #[.int .i64 (w : Int), .int .i64 (k : Int)]) true).run Try.prog w' = .ok (.tuple #[.agg #[.int .i64 (en : Int), .int .i64 (ep : Int), .bool et, .bool eh], .bool gb]) w') 15 (by kernel_rfl) ?_
  have HC0 := hidMk (HC.out w2.drew (stilDrew w2))
  refine wpAnyC_take (i := 0) (fuel := 15) (v := .pointer (some ⟨mb, 0, none⟩)) rfl (by kernel_rfl) (by kernel_rfl) (by kernel_rfl) (by kernel_rfl) (fun _ _ _ h => h) (.inl ⟨rfl, fun w' hC => by obtain ⟨y1, y2, y3, y4⟩ := hC; go_simp⟩) HC0.out ?_
  go_frame
  refine wpAnyC_take (i := 1) (fuel := 14) (v := .pointer (some ⟨mb, 0, none⟩)) rfl (by kernel_rfl) (by kernel_rfl) (by kernel_rfl) (by kernel_rfl) (fun _ _ _ h => h) (.inl ⟨rfl, fun w' hC => by obtain ⟨y1, y2, y3, y4⟩ := hC; go_simp⟩) HC0.out ?_
  go_frame
  refine wpAnyC_take (i := 2) (fuel := 13) (v := .pointer (some ⟨mb, 2, none⟩)) rfl (by kernel_rfl) (by kernel_rfl) (by kernel_rfl) (by kernel_rfl) (fun _ _ _ h => h) (.inl ⟨rfl, fun w' hC => by obtain ⟨y1, y2, y3, y4⟩ := hC; go_simp⟩) HC0.out ?_
  go_frame
  refine wpAnyC_take (i := 3) (fuel := 12) (v := .map (some h.M)) rfl (by kernel_rfl) (by kernel_rfl) (by kernel_rfl) (by kernel_rfl) (fun _ _ _ h => h) (.inl ⟨rfl, fun w' hC => by obtain ⟨y1, y2, y3, y4⟩ := hC; go_simp⟩) HC0.out ?_
  go_frame
  refine wpAnyC_take (i := 4) (fuel := 11) (v := .pointer (some ⟨W.heap.size, 1, none⟩)) rfl (by kernel_rfl) (by kernel_rfl) (by kernel_rfl) (by kernel_rfl) (fun _ _ _ h => h) (.inl ⟨rfl, fun w' hC => by obtain ⟨y1, y2, y3, y4⟩ := hC; go_simp⟩) HC0.out ?_
  go_frame
  refine wpAnyC_take (i := 5) (fuel := 10) (v := .int .i64 (w : Int)) rfl (by kernel_rfl) (by kernel_rfl) (by kernel_rfl) (by kernel_rfl) (fun _ _ _ h => h) (.inl ⟨rfl, fun w' hC => by obtain ⟨y1, y2, y3, y4⟩ := hC; go_simp⟩) HC0.out ?_
  go_frame
  refine wpAnyC_take (i := 6) (fuel := 9) (v := .pointer (some ⟨W.heap.size, 2, none⟩)) rfl (by kernel_rfl) (by kernel_rfl) (by kernel_rfl) (by kernel_rfl) (fun _ _ _ h => h) (.inl ⟨rfl, fun w' hC => by obtain ⟨y1, y2, y3, y4⟩ := hC; go_simp⟩) HC0.out ?_
  go_frame
  refine wpAnyC_take (i := 7) (fuel := 8) (v := .int .i64 (k : Int)) rfl (by kernel_rfl) (by kernel_rfl) (by kernel_rfl) (by kernel_rfl) (fun _ _ _ h => h) (.inl ⟨rfl, fun w' hC => by obtain ⟨y1, y2, y3, y4⟩ := hC; go_simp⟩) HC0.out ?_
  go_frame
  refine wpAnyC_take (i := 8) (fuel := 7) (v := .agg #[.int .i64 (w : Int), .int .i64 (k : Int)]) rfl (by kernel_rfl) (by kernel_rfl) (by kernel_rfl) (by kernel_rfl) (fun _ _ _ h => h) (.inl ⟨rfl, fun w' hC => by obtain ⟨y1, y2, y3, y4⟩ := hC; go_simp⟩) HC0.out ?_
  go_frame
  refine wpAnyC_take (i := 9) (fuel := 6) (v := .tuple #[.agg #[.int .i64 (en : Int), .int .i64 (ep : Int), .bool et, .bool eh], .bool gb]) rfl (by kernel_rfl) (by kernel_rfl) (by kernel_rfl) (by kernel_rfl) (fun _ _ _ h => h) (.inl ⟨rfl, fun w' hC => by obtain ⟨y1, y2, y3, y4⟩ := hC; go_simp⟩) HC0.out ?_
  go_frame
  refine wpAnyC_take (i := 10) (fuel := 5) (v := .tuple #[.agg #[.int .i64 (en : Int), .int .i64 (ep : Int), .bool et, .bool eh], .bool gb]) rfl (by kernel_rfl) (by kernel_rfl) (by kernel_rfl) (by kernel_rfl) (fun _ _ _ h => h) (.inl ⟨rfl, fun w' hC => by obtain ⟨y1, y2, y3, y4⟩ := hC; go_simp⟩) HC0.out ?_
  go_frame
  refine wpAnyC_take (i := 11) (fuel := 4) (v := .agg #[.int .i64 (en : Int), .int .i64 (ep : Int), .bool et, .bool eh]) rfl (by kernel_rfl) (by kernel_rfl) (by kernel_rfl) (by kernel_rfl) (fun _ _ _ h => h) (.inl ⟨rfl, fun w' hC => by obtain ⟨y1, y2, y3, y4⟩ := hC; go_simp⟩) HC0.out ?_
  go_frame
  refine wpAnyC_take (i := 12) (fuel := 3) (v := .bool gb) rfl (by kernel_rfl) (by kernel_rfl) (by kernel_rfl) (by kernel_rfl) (fun _ _ _ h => h) (.inl ⟨rfl, fun w' hC => by obtain ⟨y1, y2, y3, y4⟩ := hC; go_simp⟩) HC0.out ?_
  go_frame
  refine wpAnyC_one 13 (fuel := 2) (by kernel_rfl) rfl rfl (fun K4 hK4 => ?_)
  have HA0 := hidMk (HC.out (w2.alloc (.cells #[.int .i64 0, .int .i64 0, .bool false, .bool false] 56)).drew ((Stil.new w2 _).tr (stilDrew _)))
  have HA1 := hidMk (HC.out (w2.alloc (.cells #[.int .i64 (en : Int), .int .i64 (ep : Int), .bool et, .bool eh] 56)).drew ((Stil.new w2 _).tr (stilDrew _)))
  have hk3 : Stil w2 (w2.alloc (.cells #[.int .i64 (en : Int), .int .i64 (ep : Int), .bool et, .bool eh] 56)).drew := (Stil.new w2 _).tr (stilDrew _)
  have HK3 := hidMk (Stil.tr HK2.out hk3)
  have j0 := hk3.cell HE0.out
  have j2 := hk3.cell HE2.out
  have j5 : (w2.alloc (.cells #[.int .i64 (en : Int), .int .i64 (ep : Int), .bool et, .bool eh] 56)).drew.cell? ⟨w2.heap.size, 2, none⟩ = some (.bool et) := by
    have := (cell_of_row _ _ 2 _ _ _ (al_new w2 (.cells #[.int .i64 (en : Int), .int .i64 (ep : Int), .bool et, .bool eh] 56))).trans rfl
    exact this
  clear hk3
  go_wp2_with (fail)
  refine ⟨fun _ => HA0.out, ?_⟩
  refine wpAnyC_one 14 (fuel := 1) (by kernel_rfl) rfl rfl (fun K5 hK5 => ?_)
  go_wp2_with (fail)
  refine ⟨fun _ => HA1.out, ?_⟩
  refine wpAnyC_one 15 (fuel := 0) (by kernel_rfl) rfl rfl (fun K6 hK6 => ?_)
  go_wp2_with (fail)
  refine ⟨fun hne => absurd rfl hne, ?_⟩
  refine wpAnyC_done (by kernel_rfl) ?_
  generalize (w2.alloc (.cells #[.int .i64 (en : Int), .int .i64 (ep : Int), .bool et, .bool eh] 56)).drew = w3 at *
  clear HA0 HA1 HC HC0 HK2 HE0 HE2
  generalize w2.heap.size = r5 at *
  show Exit.then _ _ Exit.normal _ _
  cases et with
  | true =>
    go_wp2
    go_ret
    exact ⟨by cases allB n s k <;> rfl, HK3.out⟩
  | false =>
    have HA := hidMk (allHave_any (HM.out.still HK3.out) hn (show k < 1000 by omega))
    go_wp2_with (fail)
    go_at_call 14
    refine (HA.out).mono ?_
    rintro e w4 ⟨rfl, hk4⟩
    have HK4 := hidMk (Stil.tr HK3.out hk4)
    clear hk4 HA
    cases hab : allB n s k with
    | true =>
      have HAB := hidMk hab
      clear hab
      go_wp2
      go_ret
      exact ⟨by rw [HAB.out]; rfl, HK4.out⟩
    | false =>
      have HAB := hidMk hab
      clear hab
      go_wp2
      go_ret
      exact ⟨by rw [HAB.out]; rfl, HK4.out⟩

set_option maxRecDepth 100000 in
set_option maxHeartbeats 8000000 in
theorem chk_kind (HM : Hid (Tmov W mb n s h)) (kd wh ms : Int) (q1 : (kd != 1) = true) (q2 : (kd != 2) = true) (q3 : (kd != 3) = true) :
    Calls Try.prog 8 #[.pointer (some ⟨mb, 0, none⟩), .agg #[.int .i64 kd, .int .i64 wh, .int .i64 ms]] W fun e W2 => e = .returned (.int .i64 4) ∧ Stil W W2 := by
  have HK : Hid (Stil W (W.alloc (.cells #[.int .i64 kd, .int .i64 wh, .int .i64 ms] 39))) := hidMk ((Keep.refl _ W).alloc _)
  have b0 : (W.alloc (.cells #[.int .i64 kd, .int .i64 wh, .int .i64 ms] 39)).cell? ⟨W.heap.size, 0, none⟩ = some (.int .i64 kd) := by go_simp
  have b1 : (W.alloc (.cells #[.int .i64 kd, .int .i64 wh, .int .i64 ms] 39)).cell? ⟨W.heap.size, 1, none⟩ = some (.int .i64 wh) := by go_simp
  have b2 : (W.alloc (.cells #[.int .i64 kd, .int .i64 wh, .int .i64 ms] 39)).cell? ⟨W.heap.size, 2, none⟩ = some (.int .i64 ms) := by go_simp
  obtain ⟨c0, c1, c2, c3⟩ := (HM.out.still HK.out).cells
  go_enter Try.func8, Try.ntmps8
  go_wp2
  generalize W.alloc (.cells #[.int .i64 kd, .int .i64 wh, .int .i64 ms] 39) = w0 at *
  go_ret
  exact ⟨rfl, HK.out⟩

set_option maxRecDepth 100000 in
set_option maxHeartbeats 8000000 in
theorem chk_who (HM : Hid (Tmov W mb n s h)) (kd wh ms : Int) (q12 : kd = 1 ∨ kd = 2 ∨ kd = 3) (w2 : wh < 0 ∨ ¬ wh < 0 ∧ (n : Int) ≤ wh) :
    Calls Try.prog 8 #[.pointer (some ⟨mb, 0, none⟩), .agg #[.int .i64 kd, .int .i64 wh, .int .i64 ms]] W fun e W2 => e = .returned (.int .i64 2) ∧ Stil W W2 := by
  have HK : Hid (Stil W (W.alloc (.cells #[.int .i64 kd, .int .i64 wh, .int .i64 ms] 39))) := hidMk ((Keep.refl _ W).alloc _)
  have b0 : (W.alloc (.cells #[.int .i64 kd, .int .i64 wh, .int .i64 ms] 39)).cell? ⟨W.heap.size, 0, none⟩ = some (.int .i64 kd) := by go_simp
  have b1 : (W.alloc (.cells #[.int .i64 kd, .int .i64 wh, .int .i64 ms] 39)).cell? ⟨W.heap.size, 1, none⟩ = some (.int .i64 wh) := by go_simp
  have b2 : (W.alloc (.cells #[.int .i64 kd, .int .i64 wh, .int .i64 ms] 39)).cell? ⟨W.heap.size, 2, none⟩ = some (.int .i64 ms) := by go_simp
  obtain ⟨c0, c1, c2, c3⟩ := (HM.out.still HK.out).cells
  rcases q12 with rfl | rfl | rfl <;> rcases w2 with w2 | ⟨w2, w3⟩ <;> first | have w4 : decide (wh < 0) = true := by simp [w2] | (have w4 : decide (wh < 0) = false := by simp [w2])
  all_goals
    go_enter Try.func8, Try.ntmps8
    go_wp2
    have HK2 := HK
    go_quiet (fail)
    go_wp2
    go_ret
    exact ⟨rfl, Stil.tr HK2.out (Stil.drewN _ _)⟩

set_option maxRecDepth 100000 in
set_option maxHeartbeats 8000000 in
theorem chk_send (HM : Hid (Tmov W mb n s h)) {w : Nat} (ms : Int) (hw : w < n) :
    Calls Try.prog 8 #[.pointer (some ⟨mb, 0, none⟩), .agg #[.int .i64 1, .int .i64 (w : Int), .int .i64 ms]] W fun e W2 => e = .returned (.int .i64 0) ∧ Stil W W2 := by
  have HK : Hid (Stil W (W.alloc (.cells #[.int .i64 1, .int .i64 (w : Int), .int .i64 ms] 39))) := hidMk ((Keep.refl _ W).alloc _)
  have b0 : (W.alloc (.cells #[.int .i64 1, .int .i64 (w : Int), .int .i64 ms] 39)).cell? ⟨W.heap.size, 0, none⟩ = some (.int .i64 1) := by go_simp
  have b1 : (W.alloc (.cells #[.int .i64 1, .int .i64 (w : Int), .int .i64 ms] 39)).cell? ⟨W.heap.size, 1, none⟩ = some (.int .i64 (w : Int)) := by go_simp
  have b2 : (W.alloc (.cells #[.int .i64 1, .int .i64 (w : Int), .int .i64 ms] 39)).cell? ⟨W.heap.size, 2, none⟩ = some (.int .i64 ms) := by go_simp
  obtain ⟨c0, c1, c2, c3⟩ := (HM.out.still HK.out).cells
  have w4 : decide ((w : Int) < 0) = false := decide_eq_false (by omega)
  have w5 : ¬ (n : Int) ≤ (w : Int) := by omega
  have w6 : decide ((n : Int) ≤ (w : Int)) = false := decide_eq_false (by omega)
  go_enter Try.func8, Try.ntmps8
  go_wp2
  generalize W.alloc (.cells #[.int .i64 1, .int .i64 (w : Int), .int .i64 ms] 39) = w0 at *
  go_quiet (fail)
  go_wp2
  go_ret
  exact ⟨rfl, Stil.tr HK.out (Stil.drewN _ _)⟩

set_option maxRecDepth 100000 in
set_option maxHeartbeats 8000000 in
theorem chk_msg (HM : Hid (Tmov W mb n s h)) {w sn : Nat} (kd ms : Int) (q12 : kd = 2 ∨ kd = 3) (hw : w < n) (HZ : Hid (s.sent = sn)) (m2 : ms < 0 ∨ ¬ ms < 0 ∧ (sn : Int) ≤ ms) :
    Calls Try.prog 8 #[.pointer (some ⟨mb, 0, none⟩), .agg #[.int .i64 kd, .int .i64 (w : Int), .int .i64 ms]] W fun e W2 => e = .returned (.int .i64 2) ∧ Stil W W2 := by
  have HK : Hid (Stil W (W.alloc (.cells #[.int .i64 kd, .int .i64 (w : Int), .int .i64 ms] 39))) := hidMk ((Keep.refl _ W).alloc _)
  have b0 : (W.alloc (.cells #[.int .i64 kd, .int .i64 (w : Int), .int .i64 ms] 39)).cell? ⟨W.heap.size, 0, none⟩ = some (.int .i64 kd) := by go_simp
  have b1 : (W.alloc (.cells #[.int .i64 kd, .int .i64 (w : Int), .int .i64 ms] 39)).cell? ⟨W.heap.size, 1, none⟩ = some (.int .i64 (w : Int)) := by go_simp
  have b2 : (W.alloc (.cells #[.int .i64 kd, .int .i64 (w : Int), .int .i64 ms] 39)).cell? ⟨W.heap.size, 2, none⟩ = some (.int .i64 ms) := by go_simp
  obtain ⟨c0, c1, c2, c3⟩ := (HM.out.still HK.out).cells
  have w4 : decide ((w : Int) < 0) = false := decide_eq_false (by omega)
  have w5 : ¬ (n : Int) ≤ (w : Int) := by omega
  have w6 : decide ((n : Int) ≤ (w : Int)) = false := decide_eq_false (by omega)
  rw [HZ.out] at c0
  rcases q12 with rfl | rfl <;> rcases m2 with m2 | ⟨m2, m3⟩ <;> first | have m4 : decide (ms < 0) = true := by simp [m2] | (have m4 : decide (ms < 0) = false := by simp [m2])
  all_goals
    go_enter Try.func8, Try.ntmps8
    go_wp2
    generalize W.alloc (.cells #[.int .i64 _, .int .i64 (w : Int), .int .i64 ms] 39) = w0 at *
    go_quiet (fail)
    go_wp2
    have HK1 := hidMk (Stil.tr HK.out (Stil.drewN w0 nq))
    have d2 : (w0.drewN nq).cell? ⟨W.heap.size, 2, none⟩ = some (.int .i64 ms) := b2
    have x0 : (w0.drewN nq).cell? ⟨mb, 0, none⟩ = some (.int .i64 (sn : Int)) := c0
    clear b0 b1 b2 c0 c1 c2 c3 HK
    generalize w0.drewN nq = w1 at *
    go_quiet (fail)
    go_wp2
    go_ret
    exact ⟨rfl, Stil.tr HK1.out (Stil.drewN _ _)⟩

theorem chk_any (m : Tmov W mb n s h) (hn : n ≤ 6) (hs : s.sent ≤ 200) (p : Cst) :
    Calls Try.prog 8 #[.pointer (some ⟨mb, 0, none⟩), .agg #[.int .i64 p.kind, .int .i64 p.who, .int .i64 p.msg]] W fun e W2 => e = .returned (.int .i64 (codeT n s p)) ∧ Stil W W2 := by
  obtain ⟨kd, wh, ms⟩ := p
  unfold codeT
  simp only
  by_cases k1 : kd ≠ 1 ∧ kd ≠ 2 ∧ kd ≠ 3
  · rw [if_pos k1]
    exact chk_kind m kd wh ms (by simpa using k1.1) (by simpa using k1.2.1) (by simpa using k1.2.2)
  · rw [if_neg k1]
    have q12 : kd = 1 ∨ kd = 2 ∨ kd = 3 := by omega
    by_cases w1 : inP n wh = false
    · rw [if_pos w1]
      exact chk_who m kd wh ms q12 (by simp [inP] at w1; omega)
    · rw [if_neg w1]
      obtain ⟨w, hw, rfl⟩ := inP_nat w1
      by_cases e1 : kd = 1
      · subst e1
        rw [if_pos rfl]
        exact chk_send m ms hw
      · rw [if_neg e1]
        by_cases m1 : inP s.sent ms = false
        · rw [if_pos m1]
          exact chk_msg m kd ms (by omega) hw rfl (by simp [inP] at m1; omega)
        · rw [if_neg m1]
          obtain ⟨k, hk, rfl⟩ := inP_nat m1
          simp only [Int.toNat_natCast]
          obtain ⟨en, ep, et, eh, hv, ht⟩ : ∃ (en ep : Nat) (et eh : Bool), ((s.ent w k).map entV).getD entZ = .agg #[.int .i64 (en : Int), .int .i64 (ep : Int), .bool et, .bool eh] ∧ toldB s w k = et := by
            unfold toldB
            cases s.ent w k with
            | none => exact ⟨0, 0, false, false, rfl, rfl⟩
            | some e => exact ⟨e.n, e.p, e.told, e.heard, rfl, rfl⟩
          by_cases e2 : kd = 2
          · subst e2
            rw [if_pos rfl]
            exact chk_take hw hn hk hs m rfl hv rfl
          · rw [if_neg e2]
            obtain rfl : kd = 3 := by omega
            have e3 : (if toldB s w k = true ∨ allB n s k = false then (6 : Int) else 0) = ansTell (toldB s w k) (allB n s k) := by cases toldB s w k <;> cases allB n s k <;> rfl
            rw [e3, ht]
            exact chk_tell hw hn hk hs m rfl hv rfl
end Go.Proofs.Ytipoopbkapgfiaa
