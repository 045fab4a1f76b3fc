/- checkStep: a taking; all kinds. -/
import Derived.Test.YthadhhconkjpmaaT10
namespace Go.Proofs.Ythadhhconkjpmaa
open Go.RowKit Go.WideMaps
set_option linter.unusedVariables false

/-- A field's value in a region that only reads. -/
theorem wpQuiet_field {P : Program} {ops : Array Oper} {C : World → Prop} {Q : Act → Prop} {o : Oper} {rest : List Oper} {a : Act} (t : TypeId) (x : Operand) (fi : Nat) (v xv : Value) (ho : o.op = .field t x fi) (hx : a.eval x = xv)
    (hw : Region.wanted o (yielded ops a.tmps) = true) (h : ∀ w, C w → (Instr.field t xv fi).run P w = .ok v w) (hn : wpQuiet P ops C Q rest (a.put o.dst v)) : wpQuiet P ops C Q (o :: rest) a := by
  show if Region.wanted o (yielded ops a.tmps) then _ else _
  rw [if_pos hw]
  refine ⟨v, fun w hC => ?_, hn⟩
  unfold Oper.quietAt
  simp only [execOp, ho, hx]
  rw [Sem.run_bind, h w hC]
  simp [Result.andThen, Oper.quietUpon]
theorem things_of (ta na : Option Addr) (len tc nl nc : Nat) (b : Bool) (w : World) : (Instr.field 59 (.agg #[.slice ta len tc, .slice na nl nc, .bool b]) 0).run Try.prog w = .ok (.slice ta len tc) w := by kernel_rfl

set_option maxRecDepth 100000 in
set_option maxHeartbeats 4000000 in
theorem chk_take (W : World) (x : Int) (w o M len tc : Nat) (ta : Option Addr) (na : Option Addr) (nl nc : Nat) (b : Bool) (mb n : Nat) (hw : w < n) (ho : o < n) (hwo : w ≠ o)
    (HC : Hid (∀ z o, Calls Try.prog 18 #[.int .i64 z, .pointer (some ⟨W.heap.size, 0, none⟩)] ((W.alloc (.cells #[.pointer (some ⟨mb, 0, none⟩)] 56)).alloc o) fun e w2 => e = .returned (.bool (inP n z)) ∧ w2 = (W.alloc (.cells #[.pointer (some ⟨mb, 0, none⟩)] 56)).alloc o))
    (c2 : W.cell? ⟨mb, 2, none⟩ = some (.map (some M)))
    (hlk : ∀ ob k k2, (Instr.lookup 37 (.map (some M)) (.agg #[.int .i64 (o : Int), .int .i64 (w : Int)]) false).run Try.prog ((((W.alloc (.cells #[.pointer (some ⟨mb, 0, none⟩)] 56)).alloc ob).drewN k).drewN k2) = .ok (.agg #[.slice ta len tc, .slice na nl nc, .bool b]) ((((W.alloc (.cells #[.pointer (some ⟨mb, 0, none⟩)] 56)).alloc ob).drewN k).drewN k2)) :
    Calls Try.prog 10 #[.pointer (some ⟨mb, 0, none⟩), .agg #[.int .i64 2, .int .i64 (w : Int), .int .i64 (o : Int), .int .i64 x]] W fun e W2 => e = .returned (.int .i64 (if len = 0 then 5 else 0)) ∧ Keep (fun _ => False) W W2 := by
  have e1 : inP n (w : Int) = true := by simp [inP]; omega
  have e2 : inP n (o : Int) = true := by simp [inP]; omega
  have hwo' : ((w : Int) == (o : Int)) = false := by simp; omega
  have HK := hidMk (((Keep.refl (fun _ => False) W).alloc (.cells #[.pointer (some ⟨mb, 0, none⟩)] 56)).alloc (.cells #[.int .i64 2, .int .i64 (w : Int), .int .i64 (o : Int), .int .i64 x] 41))
  have C2 := hidMk ((World.cell?_of_block (HK.out.block mb (World.block_lt_of_cell? _ _ c2) (fun e => e))).trans c2)
  have HL := hidMk (hlk (.cells #[.int .i64 2, .int .i64 (w : Int), .int .i64 (o : Int), .int .i64 x] 41))
  clear c2 hlk
  cases len with
  | zero =>
    go_enter Try.func10, Try.ntmps10
    go_wp2_with (go_at_call 18; refine (HC.out _ _).mono ?_; rintro e w3 ⟨rfl, hw3⟩; obtain rfl := hw3.symm)
    have b0 : ((W.alloc (.cells #[.pointer (some ⟨mb, 0, none⟩)] 56)).alloc (.cells #[.int .i64 2, .int .i64 (w : Int), .int .i64 (o : Int), .int .i64 x] 41)).cell? ⟨W.heap.size, 0, none⟩ = some (.pointer (some ⟨mb, 0, none⟩)) := by go_simp
    have b1 : ((W.alloc (.cells #[.pointer (some ⟨mb, 0, none⟩)] 56)).alloc (.cells #[.int .i64 2, .int .i64 (w : Int), .int .i64 (o : Int), .int .i64 x] 41)).cell? ⟨W.heap.size + 1, 0, none⟩ = some (.int .i64 2) := by go_simp
    have b2 : ((W.alloc (.cells #[.pointer (some ⟨mb, 0, none⟩)] 56)).alloc (.cells #[.int .i64 2, .int .i64 (w : Int), .int .i64 (o : Int), .int .i64 x] 41)).cell? ⟨W.heap.size + 1, 1, none⟩ = some (.int .i64 (w : Int)) := by go_simp
    have b3 : ((W.alloc (.cells #[.pointer (some ⟨mb, 0, none⟩)] 56)).alloc (.cells #[.int .i64 2, .int .i64 (w : Int), .int .i64 (o : Int), .int .i64 x] 41)).cell? ⟨W.heap.size + 1, 2, none⟩ = some (.int .i64 (o : Int)) := by go_simp
    have b4 := C2.out
    clear HC C2
    generalize ((W.alloc (.cells #[.pointer (some ⟨mb, 0, none⟩)] 56)).alloc (.cells #[.int .i64 2, .int .i64 (w : Int), .int .i64 (o : Int), .int .i64 x] 41)) = w0 at *
    go_quiet (fail)
    go_wp2
    have HK1 := hidMk (HK.out.drewN nq)
    have H2 := HL.out nq
    have d0 : (w0.drewN nq).cell? ⟨W.heap.size, 0, none⟩ = some (.pointer (some ⟨mb, 0, none⟩)) := b0
    have d1 : (w0.drewN nq).cell? ⟨W.heap.size + 1, 0, none⟩ = some (.int .i64 2) := b1
    have d2 : (w0.drewN nq).cell? ⟨W.heap.size + 1, 1, none⟩ = some (.int .i64 (w : Int)) := b2
    have d3 : (w0.drewN nq).cell? ⟨W.heap.size + 1, 2, none⟩ = some (.int .i64 (o : Int)) := b3
    have d4 : (w0.drewN nq).cell? ⟨mb, 2, none⟩ = some (.map (some M)) := b4
    clear b0 b1 b2 b3 b4 HK HL
    generalize w0.drewN nq = w1 at *
    refine wp_region_quiet_lit (by kernel_rfl) (by kernel_rfl) ?_
    repeat (quiet_step (fail))
    refine wpQuiet_field 59 (.tmp 74) 0 _ _ rfl rfl (by rfl) (fun w' _ => things_of _ _ _ _ _ _ _ w') ?_
    go_frame
    repeat (quiet_step (fail))
    refine wpQuiet_nil ?_
    rintro _ ⟨nq, rfl⟩
    go_wp2
    go_ret
    exact ⟨rfl, HK1.out.drewN _⟩
  | succ len =>
    go_enter Try.func10, Try.ntmps10
    go_wp2_with (go_at_call 18; refine (HC.out _ _).mono ?_; rintro e w3 ⟨rfl, hw3⟩; obtain rfl := hw3.symm)
    have b0 : ((W.alloc (.cells #[.pointer (some ⟨mb, 0, none⟩)] 56)).alloc (.cells #[.int .i64 2, .int .i64 (w : Int), .int .i64 (o : Int), .int .i64 x] 41)).cell? ⟨W.heap.size, 0, none⟩ = some (.pointer (some ⟨mb, 0, none⟩)) := by go_simp
    have b1 : ((W.alloc (.cells #[.pointer (some ⟨mb, 0, none⟩)] 56)).alloc (.cells #[.int .i64 2, .int .i64 (w : Int), .int .i64 (o : Int), .int .i64 x] 41)).cell? ⟨W.heap.size + 1, 0, none⟩ = some (.int .i64 2) := by go_simp
    have b2 : ((W.alloc (.cells #[.pointer (some ⟨mb, 0, none⟩)] 56)).alloc (.cells #[.int .i64 2, .int .i64 (w : Int), .int .i64 (o : Int), .int .i64 x] 41)).cell? ⟨W.heap.size + 1, 1, none⟩ = some (.int .i64 (w : Int)) := by go_simp
    have b3 : ((W.alloc (.cells #[.pointer (some ⟨mb, 0, none⟩)] 56)).alloc (.cells #[.int .i64 2, .int .i64 (w : Int), .int .i64 (o : Int), .int .i64 x] 41)).cell? ⟨W.heap.size + 1, 2, none⟩ = some (.int .i64 (o : Int)) := by go_simp
    have b4 := C2.out
    clear HC C2
    generalize ((W.alloc (.cells #[.pointer (some ⟨mb, 0, none⟩)] 56)).alloc (.cells #[.int .i64 2, .int .i64 (w : Int), .int .i64 (o : Int), .int .i64 x] 41)) = w0 at *
    go_quiet (fail)
    go_wp2
    have HK1 := hidMk (HK.out.drewN nq)
    have H2 := HL.out nq
    have d0 : (w0.drewN nq).cell? ⟨W.heap.size, 0, none⟩ = some (.pointer (some ⟨mb, 0, none⟩)) := b0
    have d1 : (w0.drewN nq).cell? ⟨W.heap.size + 1, 0, none⟩ = some (.int .i64 2) := b1
    have d2 : (w0.drewN nq).cell? ⟨W.heap.size + 1, 1, none⟩ = some (.int .i64 (w : Int)) := b2
    have d3 : (w0.drewN nq).cell? ⟨W.heap.size + 1, 2, none⟩ = some (.int .i64 (o : Int)) := b3
    have d4 : (w0.drewN nq).cell? ⟨mb, 2, none⟩ = some (.map (some M)) := b4
    clear b0 b1 b2 b3 b4 HK HL
    generalize w0.drewN nq = w1 at *
    refine wp_region_quiet_lit (by kernel_rfl) (by kernel_rfl) ?_
    repeat (quiet_step (fail))
    refine wpQuiet_field 59 (.tmp 74) 0 _ _ rfl rfl (by rfl) (fun w' _ => things_of _ _ _ _ _ _ _ w') ?_
    go_frame
    repeat (quiet_step (fail))
    refine wpQuiet_nil ?_
    rintro _ ⟨nq, rfl⟩
    have HK2 := hidMk (HK1.out.drewN nq)
    have f1 : (w1.drewN nq).cell? ⟨W.heap.size + 1, 0, none⟩ = some (.int .i64 2) := d1
    clear d0 d1 d2 d3 d4 HK1 H2
    generalize w1.drewN nq = w2 at *
    go_wp2
    go_ret
    exact ⟨rfl, HK2⟩
end Go.Proofs.Ythadhhconkjpmaa
