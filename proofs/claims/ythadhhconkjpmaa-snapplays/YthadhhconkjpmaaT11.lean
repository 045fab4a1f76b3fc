/- checkStep: a sending, a beginning, another kind. -/
import Derived.Test.YthadhhconkjpmaaT10
namespace Go.Proofs.Ythadhhconkjpmaa
open Go.RowKit Go.WideMaps
set_option linter.unusedVariables false

set_option maxRecDepth 100000 in
set_option maxHeartbeats 4000000 in
theorem chk_send (W : World) (x mo : Int) (w o gm om cm : Nat) (mb n : Nat) (hw : w < n) (ho : o < n) (hwo : w ≠ o)
    (HC : Hid (∀ z o, Calls Try.prog 18 #[.int .i64 z, .pointer (some ⟨W.heap.size, 0, none⟩)] ((W.alloc (.cells #[.pointer (some ⟨mb, 0, none⟩)] 56)).alloc o) fun e w2 => e = .returned (.bool (inP n z)) ∧ w2 = (W.alloc (.cells #[.pointer (some ⟨mb, 0, none⟩)] 56)).alloc o))
    (c0 : W.cell? ⟨mb, 0, none⟩ = some (.slice (some ⟨gm, om, none⟩) n cm)) (hmo : W.cell? ⟨gm, om + w, none⟩ = some (.int .i64 mo)) :
    Calls Try.prog 10 #[.pointer (some ⟨mb, 0, none⟩), .agg #[.int .i64 1, .int .i64 (w : Int), .int .i64 (o : Int), .int .i64 x]] W fun e W2 => e = .returned (.int .i64 (if x < 1 ∨ mo < x then 2 else 0)) ∧ Keep (fun _ => False) W W2 := by
  have e1 : inP n (w : Int) = true := by simp [inP]; omega
  have e2 : inP n (o : Int) = true := by simp [inP]; omega
  have hwo' : ((w : Int) == (o : Int)) = false := by simp; omega
  have hw' : (w : Int) < (n : Int) := by omega
  by_cases hx : x < 1
  · have hxd : decide (x < 1) = true := by simp [hx]
    have HE : Hid ((if x < 1 ∨ mo < x then (2 : Int) else 0) = 2) := if_pos (.inl hx)
    rw [HE.out]
    have HK := hidMk (((Keep.refl (fun _ => False) W).alloc (.cells #[.pointer (some ⟨mb, 0, none⟩)] 56)).alloc (.cells #[.int .i64 1, .int .i64 (w : Int), .int .i64 (o : Int), .int .i64 x] 41))
    have C0 := hidMk ((World.cell?_of_block (HK.out.block mb (World.block_lt_of_cell? _ _ c0) (fun e => e))).trans c0)
    have CM := hidMk ((World.cell?_of_block (HK.out.block gm (World.block_lt_of_cell? _ _ hmo) (fun e => e))).trans hmo)
    clear c0 hmo
    go_enter Try.func10, Try.ntmps10
    go_wp2_with (go_at_call 18; refine (HC.out _ _).mono ?_; rintro e w3 ⟨rfl, hw3⟩; obtain rfl := hw3.symm)
    have b0 : ((W.alloc (.cells #[.pointer (some ⟨mb, 0, none⟩)] 56)).alloc (.cells #[.int .i64 1, .int .i64 (w : Int), .int .i64 (o : Int), .int .i64 x] 41)).cell? ⟨W.heap.size, 0, none⟩ = some (.pointer (some ⟨mb, 0, none⟩)) := by go_simp
    have b1 : ((W.alloc (.cells #[.pointer (some ⟨mb, 0, none⟩)] 56)).alloc (.cells #[.int .i64 1, .int .i64 (w : Int), .int .i64 (o : Int), .int .i64 x] 41)).cell? ⟨W.heap.size + 1, 0, none⟩ = some (.int .i64 1) := by go_simp
    have b2 : ((W.alloc (.cells #[.pointer (some ⟨mb, 0, none⟩)] 56)).alloc (.cells #[.int .i64 1, .int .i64 (w : Int), .int .i64 (o : Int), .int .i64 x] 41)).cell? ⟨W.heap.size + 1, 1, none⟩ = some (.int .i64 (w : Int)) := by go_simp
    have b3 : ((W.alloc (.cells #[.pointer (some ⟨mb, 0, none⟩)] 56)).alloc (.cells #[.int .i64 1, .int .i64 (w : Int), .int .i64 (o : Int), .int .i64 x] 41)).cell? ⟨W.heap.size + 1, 3, none⟩ = some (.int .i64 x) := by go_simp
    have c0 := C0.out
    have cm := CM.out
    clear HC C0 CM
    generalize (W.alloc (.cells #[.pointer (some ⟨mb, 0, none⟩)] 56)).alloc (.cells #[.int .i64 1, .int .i64 (w : Int), .int .i64 (o : Int), .int .i64 x] 41) = w0 at *
    go_quiet (fail)
    go_wp2
    go_ret
    exact ⟨rfl, HK.out.drewN _⟩
  · have hxd : decide (x < 1) = false := by simp [hx]
    by_cases hm : mo < x
    · have hmd : decide (mo < x) = true := by simp [hm]
      have HE : Hid ((if x < 1 ∨ mo < x then (2 : Int) else 0) = 2) := if_pos (.inr hm)
      rw [HE.out]
      have HK := hidMk (((Keep.refl (fun _ => False) W).alloc (.cells #[.pointer (some ⟨mb, 0, none⟩)] 56)).alloc (.cells #[.int .i64 1, .int .i64 (w : Int), .int .i64 (o : Int), .int .i64 x] 41))
      have C0 := hidMk ((World.cell?_of_block (HK.out.block mb (World.block_lt_of_cell? _ _ c0) (fun e => e))).trans c0)
      have CM := hidMk ((World.cell?_of_block (HK.out.block gm (World.block_lt_of_cell? _ _ hmo) (fun e => e))).trans hmo)
      clear c0 hmo
      go_enter Try.func10, Try.ntmps10
      go_wp2_with (go_at_call 18; refine (HC.out _ _).mono ?_; rintro e w3 ⟨rfl, hw3⟩; obtain rfl := hw3.symm)
      have b0 : ((W.alloc (.cells #[.pointer (some ⟨mb, 0, none⟩)] 56)).alloc (.cells #[.int .i64 1, .int .i64 (w : Int), .int .i64 (o : Int), .int .i64 x] 41)).cell? ⟨W.heap.size, 0, none⟩ = some (.pointer (some ⟨mb, 0, none⟩)) := by go_simp
      have b1 : ((W.alloc (.cells #[.pointer (some ⟨mb, 0, none⟩)] 56)).alloc (.cells #[.int .i64 1, .int .i64 (w : Int), .int .i64 (o : Int), .int .i64 x] 41)).cell? ⟨W.heap.size + 1, 0, none⟩ = some (.int .i64 1) := by go_simp
      have b2 : ((W.alloc (.cells #[.pointer (some ⟨mb, 0, none⟩)] 56)).alloc (.cells #[.int .i64 1, .int .i64 (w : Int), .int .i64 (o : Int), .int .i64 x] 41)).cell? ⟨W.heap.size + 1, 1, none⟩ = some (.int .i64 (w : Int)) := by go_simp
      have b3 : ((W.alloc (.cells #[.pointer (some ⟨mb, 0, none⟩)] 56)).alloc (.cells #[.int .i64 1, .int .i64 (w : Int), .int .i64 (o : Int), .int .i64 x] 41)).cell? ⟨W.heap.size + 1, 3, none⟩ = some (.int .i64 x) := by go_simp
      have c0 := C0.out
      have cm := CM.out
      clear HC C0 CM
      generalize (W.alloc (.cells #[.pointer (some ⟨mb, 0, none⟩)] 56)).alloc (.cells #[.int .i64 1, .int .i64 (w : Int), .int .i64 (o : Int), .int .i64 x] 41) = w0 at *
      go_quiet (fail)
      go_wp2
      go_ret
      exact ⟨rfl, HK.out.drewN _⟩
    · have hmd : decide (mo < x) = false := by simp [hm]
      have HE : Hid ((if x < 1 ∨ mo < x then (2 : Int) else 0) = 0) := if_neg (fun h => h.elim hx hm)
      rw [HE.out]
      have HK := hidMk (((Keep.refl (fun _ => False) W).alloc (.cells #[.pointer (some ⟨mb, 0, none⟩)] 56)).alloc (.cells #[.int .i64 1, .int .i64 (w : Int), .int .i64 (o : Int), .int .i64 x] 41))
      have C0 := hidMk ((World.cell?_of_block (HK.out.block mb (World.block_lt_of_cell? _ _ c0) (fun e => e))).trans c0)
      have CM := hidMk ((World.cell?_of_block (HK.out.block gm (World.block_lt_of_cell? _ _ hmo) (fun e => e))).trans hmo)
      clear c0 hmo
      go_enter Try.func10, Try.ntmps10
      go_wp2_with (go_at_call 18; refine (HC.out _ _).mono ?_; rintro e w3 ⟨rfl, hw3⟩; obtain rfl := hw3.symm)
      have b0 : ((W.alloc (.cells #[.pointer (some ⟨mb, 0, none⟩)] 56)).alloc (.cells #[.int .i64 1, .int .i64 (w : Int), .int .i64 (o : Int), .int .i64 x] 41)).cell? ⟨W.heap.size, 0, none⟩ = some (.pointer (some ⟨mb, 0, none⟩)) := by go_simp
      have b1 : ((W.alloc (.cells #[.pointer (some ⟨mb, 0, none⟩)] 56)).alloc (.cells #[.int .i64 1, .int .i64 (w : Int), .int .i64 (o : Int), .int .i64 x] 41)).cell? ⟨W.heap.size + 1, 0, none⟩ = some (.int .i64 1) := by go_simp
      have b2 : ((W.alloc (.cells #[.pointer (some ⟨mb, 0, none⟩)] 56)).alloc (.cells #[.int .i64 1, .int .i64 (w : Int), .int .i64 (o : Int), .int .i64 x] 41)).cell? ⟨W.heap.size + 1, 1, none⟩ = some (.int .i64 (w : Int)) := by go_simp
      have b3 : ((W.alloc (.cells #[.pointer (some ⟨mb, 0, none⟩)] 56)).alloc (.cells #[.int .i64 1, .int .i64 (w : Int), .int .i64 (o : Int), .int .i64 x] 41)).cell? ⟨W.heap.size + 1, 3, none⟩ = some (.int .i64 x) := by go_simp
      have c0 := C0.out
      have cm := CM.out
      clear HC C0 CM
      generalize (W.alloc (.cells #[.pointer (some ⟨mb, 0, none⟩)] 56)).alloc (.cells #[.int .i64 1, .int .i64 (w : Int), .int .i64 (o : Int), .int .i64 x] 41) = w0 at *
      go_quiet (fail)
      go_wp2
      have HK1 := hidMk (HK.out.drewN nq)
      have b1' : (w0.drewN nq).cell? ⟨W.heap.size + 1, 0, none⟩ = some (.int .i64 1) := b1
      clear b0 b1 b2 b3 c0 cm HK
      generalize w0.drewN nq = w1 at *
      go_quiet (fail)
      go_wp2
      go_ret
      exact ⟨rfl, HK1.out.drewN _⟩

set_option maxRecDepth 100000 in
set_option maxHeartbeats 4000000 in
theorem chk_begin (W : World) (other x : Int) (w : Nat) (mb n : Nat) (hw : w < n) (b : Bool)
    (HC : Hid (∀ z o, Calls Try.prog 18 #[.int .i64 z, .pointer (some ⟨W.heap.size, 0, none⟩)] ((W.alloc (.cells #[.pointer (some ⟨mb, 0, none⟩)] 56)).alloc o) fun e w2 => e = .returned (.bool (inP n z)) ∧ w2 = (W.alloc (.cells #[.pointer (some ⟨mb, 0, none⟩)] 56)).alloc o))
    (HN : Hid (∀ o k k2, Calls Try.prog 19 #[.pointer (some ⟨mb, 0, none⟩), .int .i64 (w : Int)] ((((W.alloc (.cells #[.pointer (some ⟨mb, 0, none⟩)] 56)).alloc o).drewN k).drewN k2) fun e w2 => e = .returned (.bool b) ∧ w2 = (((W.alloc (.cells #[.pointer (some ⟨mb, 0, none⟩)] 56)).alloc o).drewN k).drewN k2)) :
    Calls Try.prog 10 #[.pointer (some ⟨mb, 0, none⟩), .agg #[.int .i64 3, .int .i64 (w : Int), .int .i64 other, .int .i64 x]] W fun e W2 => e = .returned (.int .i64 (if b = true then 6 else 0)) ∧ Keep (fun _ => False) W W2 := by
  have e1 : inP n (w : Int) = true := by simp [inP]; omega
  have HK := hidMk (((Keep.refl (fun _ => False) W).alloc (.cells #[.pointer (some ⟨mb, 0, none⟩)] 56)).alloc (.cells #[.int .i64 3, .int .i64 (w : Int), .int .i64 other, .int .i64 x] 41))
  have H1 := hidMk (HN.out (.cells #[.int .i64 3, .int .i64 (w : Int), .int .i64 other, .int .i64 x] 41))
  cases b
  all_goals
    go_enter Try.func10, Try.ntmps10
    go_wp2_with (go_at_call 18; refine (HC.out _ _).mono ?_; rintro e w3 ⟨rfl, hw3⟩; obtain rfl := hw3.symm)
    have b0 : ((W.alloc (.cells #[.pointer (some ⟨mb, 0, none⟩)] 56)).alloc (.cells #[.int .i64 3, .int .i64 (w : Int), .int .i64 other, .int .i64 x] 41)).cell? ⟨W.heap.size, 0, none⟩ = some (.pointer (some ⟨mb, 0, none⟩)) := by go_simp
    have b1 : ((W.alloc (.cells #[.pointer (some ⟨mb, 0, none⟩)] 56)).alloc (.cells #[.int .i64 3, .int .i64 (w : Int), .int .i64 other, .int .i64 x] 41)).cell? ⟨W.heap.size + 1, 0, none⟩ = some (.int .i64 3) := by go_simp
    have b2 : ((W.alloc (.cells #[.pointer (some ⟨mb, 0, none⟩)] 56)).alloc (.cells #[.int .i64 3, .int .i64 (w : Int), .int .i64 other, .int .i64 x] 41)).cell? ⟨W.heap.size + 1, 1, none⟩ = some (.int .i64 (w : Int)) := by go_simp
    clear HC HN
    generalize ((W.alloc (.cells #[.pointer (some ⟨mb, 0, none⟩)] 56)).alloc (.cells #[.int .i64 3, .int .i64 (w : Int), .int .i64 other, .int .i64 x] 41)) = w0 at *
    go_quiet (fail)
    go_wp2
    have HK1 := hidMk (HK.out.drewN nq)
    have H2 := hidMk (H1.out nq)
    have d0 : (w0.drewN nq).cell? ⟨W.heap.size, 0, none⟩ = some (.pointer (some ⟨mb, 0, none⟩)) := b0
    have d1 : (w0.drewN nq).cell? ⟨W.heap.size + 1, 0, none⟩ = some (.int .i64 3) := b1
    have d2 : (w0.drewN nq).cell? ⟨W.heap.size + 1, 1, none⟩ = some (.int .i64 (w : Int)) := b2
    clear b0 b1 b2 HK H1
    generalize w0.drewN nq = w1 at *
    go_quiet (fail)
    have HK2 := hidMk (HK1.out.drewN nq)
    have H3 := hidMk (H2.out nq)
    have f0 : (w1.drewN nq).cell? ⟨W.heap.size, 0, none⟩ = some (.pointer (some ⟨mb, 0, none⟩)) := d0
    have f1 : (w1.drewN nq).cell? ⟨W.heap.size + 1, 0, none⟩ = some (.int .i64 3) := d1
    have f2 : (w1.drewN nq).cell? ⟨W.heap.size + 1, 1, none⟩ = some (.int .i64 (w : Int)) := d2
    clear d0 d1 d2 HK1 H2
    generalize w1.drewN nq = w2 at *
    go_wp2_with (go_at_call 19; refine (H3.out).mono ?_; rintro e w3 ⟨rfl, hw3⟩; obtain rfl := hw3.symm)
    go_ret
    exact ⟨rfl, HK2⟩

set_option maxRecDepth 100000 in
set_option maxHeartbeats 4000000 in
theorem chk_begin_no (W : World) (who other x : Int) (mb n : Nat) (hw : inP n who = false)
    (HC : Hid (∀ z o, Calls Try.prog 18 #[.int .i64 z, .pointer (some ⟨W.heap.size, 0, none⟩)] ((W.alloc (.cells #[.pointer (some ⟨mb, 0, none⟩)] 56)).alloc o) fun e w2 => e = .returned (.bool (inP n z)) ∧ w2 = (W.alloc (.cells #[.pointer (some ⟨mb, 0, none⟩)] 56)).alloc o)) :
    Calls Try.prog 10 #[.pointer (some ⟨mb, 0, none⟩), .agg #[.int .i64 3, .int .i64 who, .int .i64 other, .int .i64 x]] W fun e W2 => e = .returned (.int .i64 2) ∧ Keep (fun _ => False) W W2 := by
  go_enter Try.func10, Try.ntmps10
  go_wp2_with (go_at_call 18; refine (HC.out _ _).mono ?_; rintro e w3 ⟨rfl, hw3⟩; obtain rfl := hw3.symm)
  go_ret
  exact ⟨rfl, ((Keep.refl _ W).alloc _).alloc _⟩

set_option maxRecDepth 100000 in
set_option maxHeartbeats 4000000 in
theorem chk_kind (W : World) (kind who other x : Int) (mb : Nat) (h1 : kind ≠ 1) (h2 : kind ≠ 2) (h3 : kind ≠ 3) :
    Calls Try.prog 10 #[.pointer (some ⟨mb, 0, none⟩), .agg #[.int .i64 kind, .int .i64 who, .int .i64 other, .int .i64 x]] W fun e W2 => e = .returned (.int .i64 4) ∧ Keep (fun _ => False) W W2 := by
  go_enter Try.func10, Try.ntmps10
  go_wp2
  go_ret
  exact ⟨rfl, ((Keep.refl _ W).alloc _).alloc _⟩
end Go.Proofs.Ythadhhconkjpmaa
