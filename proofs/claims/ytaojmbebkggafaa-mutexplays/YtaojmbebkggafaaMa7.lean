/- checkStep. -/
import Derived.Test.YtaojmbebkggafaaMa6
namespace Go.Proofs.Ytaojmbebkggafaa
open Go.RowKit Go.WideMaps
set_option linter.unusedVariables false

variable {W W2 : World} {mb n : Nat} {s : MS} {h h2 : MSh}
set_option maxRecDepth 100000 in
set_option maxHeartbeats 4000000 in
theorem isProcess_any {L cm : Nat} {a : Option Addr} (z : Int) (hL : W.cell? ⟨L, 0, none⟩ = some (.pointer (some ⟨mb, 0, none⟩))) (c0 : W.cell? ⟨mb, 0, none⟩ = some (.slice a n cm)) :
    Calls Try.prog 15 #[.int .i64 z, .pointer (some ⟨L, 0, none⟩)] W fun e w2 => e = .returned (.bool (inP n z)) ∧ w2 = W := by
  by_cases h0 : 0 ≤ z
  · go_enter Try.func15, Try.ntmps15
    go_wp2
    go_ret
    exact ⟨by simp [inP, h0], rfl⟩
  · have h0' : z < 0 := by omega
    go_enter Try.func15, Try.ntmps15
    go_wp2
    go_ret
    exact ⟨by rw [show inP n z = false from by simp [inP]; omega]; rfl, rfl⟩

set_option maxRecDepth 100000 in
set_option maxHeartbeats 8000000 in
theorem chk_kind {W : World} {mb n : Nat} (HC : Hid (∀ z o, Calls Try.prog 15 #[.int .i64 z, .pointer (some ⟨W.heap.size, 0, none⟩)] ((W.alloc (.cells #[.pointer (some ⟨mb, 0, none⟩)] 56)).alloc o) fun e w2 => e = .returned (.bool (inP n z)) ∧ w2 = (W.alloc (.cells #[.pointer (some ⟨mb, 0, none⟩)] 56)).alloc o)) {kd wh f : Int} (h1 : kd ≠ 1) (h2 : kd ≠ 2) (h3 : kd ≠ 3) :
    Calls Try.prog 8 #[.pointer (some ⟨mb, 0, none⟩), .agg #[.int .i64 kd, .int .i64 wh, .int .i64 f]] W fun e W2 => e = .returned (.int .i64 4) ∧ Stil W W2 := by
  have e1 : (kd == 1) = false := by simp [h1]
  have e2 : (kd == 2) = false := by simp [h2]
  have e3 : (kd == 3) = false := by simp [h3]
  go_enter Try.func8, Try.ntmps8
  go_wp2_with (go_at_call 15; refine (HC.out _ _).mono ?_; rintro e w3 ⟨rfl, hw3⟩; obtain rfl := hw3.symm)
  go_ret
  exact ⟨rfl, ((Keep.refl _ W).alloc _).alloc _⟩
set_option maxRecDepth 100000 in
set_option maxHeartbeats 8000000 in
theorem chk_no1 {W : World} {mb n : Nat} (HC : Hid (∀ z o, Calls Try.prog 15 #[.int .i64 z, .pointer (some ⟨W.heap.size, 0, none⟩)] ((W.alloc (.cells #[.pointer (some ⟨mb, 0, none⟩)] 56)).alloc o) fun e w2 => e = .returned (.bool (inP n z)) ∧ w2 = (W.alloc (.cells #[.pointer (some ⟨mb, 0, none⟩)] 56)).alloc o)) {wh f : Int} (h1 : inP n wh = false) :
    Calls Try.prog 8 #[.pointer (some ⟨mb, 0, none⟩), .agg #[.int .i64 1, .int .i64 wh, .int .i64 f]] W fun e W2 => e = .returned (.int .i64 2) ∧ Stil W W2 := by
  go_enter Try.func8, Try.ntmps8
  go_wp2_with (go_at_call 15; refine (HC.out _ _).mono ?_; rintro e w3 ⟨rfl, hw3⟩; obtain rfl := hw3.symm)
  go_ret
  exact ⟨rfl, ((Keep.refl _ W).alloc _).alloc _⟩
set_option maxRecDepth 100000 in
set_option maxHeartbeats 8000000 in
theorem chk_no3 {W : World} {mb n : Nat} (HC : Hid (∀ z o, Calls Try.prog 15 #[.int .i64 z, .pointer (some ⟨W.heap.size, 0, none⟩)] ((W.alloc (.cells #[.pointer (some ⟨mb, 0, none⟩)] 56)).alloc o) fun e w2 => e = .returned (.bool (inP n z)) ∧ w2 = (W.alloc (.cells #[.pointer (some ⟨mb, 0, none⟩)] 56)).alloc o)) {wh f : Int} (h1 : inP n wh = false) :
    Calls Try.prog 8 #[.pointer (some ⟨mb, 0, none⟩), .agg #[.int .i64 3, .int .i64 wh, .int .i64 f]] W fun e W2 => e = .returned (.int .i64 2) ∧ Stil W W2 := by
  go_enter Try.func8, Try.ntmps8
  go_wp2_with (go_at_call 15; refine (HC.out _ _).mono ?_; rintro e w3 ⟨rfl, hw3⟩; obtain rfl := hw3.symm)
  go_ret
  exact ⟨rfl, ((Keep.refl _ W).alloc _).alloc _⟩
set_option maxRecDepth 100000 in
set_option maxHeartbeats 8000000 in
theorem chk_no2a {W : World} {mb n : Nat} (HC : Hid (∀ z o, Calls Try.prog 15 #[.int .i64 z, .pointer (some ⟨W.heap.size, 0, none⟩)] ((W.alloc (.cells #[.pointer (some ⟨mb, 0, none⟩)] 56)).alloc o) fun e w2 => e = .returned (.bool (inP n z)) ∧ w2 = (W.alloc (.cells #[.pointer (some ⟨mb, 0, none⟩)] 56)).alloc o)) {wh f : Int} (h1 : inP n wh = false) :
    Calls Try.prog 8 #[.pointer (some ⟨mb, 0, none⟩), .agg #[.int .i64 2, .int .i64 wh, .int .i64 f]] W fun e W2 => e = .returned (.int .i64 2) ∧ Stil W W2 := by
  go_enter Try.func8, Try.ntmps8
  go_wp2_with (go_at_call 15; refine (HC.out _ _).mono ?_; rintro e w3 ⟨rfl, hw3⟩; obtain rfl := hw3.symm)
  go_ret
  exact ⟨rfl, ((Keep.refl _ W).alloc _).alloc _⟩
set_option maxRecDepth 100000 in
set_option maxHeartbeats 8000000 in
theorem chk_no2b {W : World} {mb n : Nat} (HC : Hid (∀ z o, Calls Try.prog 15 #[.int .i64 z, .pointer (some ⟨W.heap.size, 0, none⟩)] ((W.alloc (.cells #[.pointer (some ⟨mb, 0, none⟩)] 56)).alloc o) fun e w2 => e = .returned (.bool (inP n z)) ∧ w2 = (W.alloc (.cells #[.pointer (some ⟨mb, 0, none⟩)] 56)).alloc o)) {wh f : Int} (h1 : inP n wh = true) (h2 : inP n f = false) :
    Calls Try.prog 8 #[.pointer (some ⟨mb, 0, none⟩), .agg #[.int .i64 2, .int .i64 wh, .int .i64 f]] W fun e W2 => e = .returned (.int .i64 2) ∧ Stil W W2 := by
  go_enter Try.func8, Try.ntmps8
  go_wp2_with (go_at_call 15; refine (HC.out _ _).mono ?_; rintro e w3 ⟨rfl, hw3⟩; obtain rfl := hw3.symm)
  go_ret
  exact ⟨rfl, ((Keep.refl _ W).alloc _).alloc _⟩
set_option maxRecDepth 100000 in
set_option maxHeartbeats 8000000 in
theorem chk_no2c {W : World} {mb n : Nat} (HC : Hid (∀ z o, Calls Try.prog 15 #[.int .i64 z, .pointer (some ⟨W.heap.size, 0, none⟩)] ((W.alloc (.cells #[.pointer (some ⟨mb, 0, none⟩)] 56)).alloc o) fun e w2 => e = .returned (.bool (inP n z)) ∧ w2 = (W.alloc (.cells #[.pointer (some ⟨mb, 0, none⟩)] 56)).alloc o)) {wh : Int} (h1 : inP n wh = true) :
    Calls Try.prog 8 #[.pointer (some ⟨mb, 0, none⟩), .agg #[.int .i64 2, .int .i64 wh, .int .i64 wh]] W fun e W2 => e = .returned (.int .i64 2) ∧ Stil W W2 := by
  have e1 : (wh == wh) = true := by simp
  go_enter Try.func8, Try.ntmps8
  go_wp2_with (go_at_call 15; refine (HC.out _ _).mono ?_; rintro e w3 ⟨rfl, hw3⟩; obtain rfl := hw3.symm)
  go_ret
  exact ⟨rfl, ((Keep.refl _ W).alloc _).alloc _⟩
set_option maxRecDepth 100000 in
set_option maxHeartbeats 8000000 in
theorem chk_take5 {W : World} {mb n w o ln st M P tc : Nat} {ta : Option Addr} (HC : Hid (∀ z o, Calls Try.prog 15 #[.int .i64 z, .pointer (some ⟨W.heap.size, 0, none⟩)] ((W.alloc (.cells #[.pointer (some ⟨mb, 0, none⟩)] 56)).alloc o) fun e w2 => e = .returned (.bool (inP n z)) ∧ w2 = (W.alloc (.cells #[.pointer (some ⟨mb, 0, none⟩)] 56)).alloc o)) (hw : w < n) (ho : o < n) (hwo : w ≠ o) (hl : ln = 0)
    (c0 : W.cell? ⟨mb, 0, none⟩ = some (.slice (some ⟨P, 0, none⟩) n n)) (c1 : W.cell? ⟨mb, 1, none⟩ = some (.map (some M))) (p1 : W.cell? ⟨P, w * 6 + 1, none⟩ = some (.int .i64 (st : Int)))
    (HLk : Hid (∀ w9, Stil W w9 → (Instr.lookup 35 (.map (some M)) (.agg #[.int .i64 (o : Int), .int .i64 (w : Int)]) false).run Try.prog w9 = .ok (.slice ta ln tc) w9)) 
    : Calls Try.prog 8 #[.pointer (some ⟨mb, 0, none⟩), .agg #[.int .i64 2, .int .i64 (w : Int), .int .i64 (o : Int)]] W fun e W2 => e = .returned (.int .i64 5) ∧ Stil W W2 := by
  have e1 : inP n (w : Int) = true := by simp [inP]; omega
  have hw' : (w : Int) < (n : Int) := by omega
  have e2 : inP n (o : Int) = true := by simp [inP]; omega
  have hwo' : ((w : Int) == (o : Int)) = false := by simp; omega
  subst hl

  have HK : Hid (Stil W ((W.alloc (.cells #[.pointer (some ⟨mb, 0, none⟩)] 56)).alloc (.cells #[.int .i64 2, .int .i64 (w : Int), .int .i64 (o : Int)] 39))) := hidMk (((Keep.refl (fun _ => False) W).alloc _).alloc _)
  have c0' := HK.out.cell c0
  have c1' := HK.out.cell c1
  have p1' := HK.out.cell p1
  clear c0 c1 p1
  go_enter Try.func8, Try.ntmps8
  go_wp2_with (go_at_call 15; refine (HC.out _ _).mono ?_; rintro e w3 ⟨rfl, hw3⟩; obtain rfl := hw3.symm)
  have b0 : ((W.alloc (.cells #[.pointer (some ⟨mb, 0, none⟩)] 56)).alloc (.cells #[.int .i64 2, .int .i64 (w : Int), .int .i64 (o : Int)] 39)).cell? ⟨W.heap.size, 0, none⟩ = some (.pointer (some ⟨mb, 0, none⟩)) := by go_simp
  have b1 : ((W.alloc (.cells #[.pointer (some ⟨mb, 0, none⟩)] 56)).alloc (.cells #[.int .i64 2, .int .i64 (w : Int), .int .i64 (o : Int)] 39)).cell? ⟨W.heap.size + 1, 0, none⟩ = some (.int .i64 2) := by go_simp
  have b2 : ((W.alloc (.cells #[.pointer (some ⟨mb, 0, none⟩)] 56)).alloc (.cells #[.int .i64 2, .int .i64 (w : Int), .int .i64 (o : Int)] 39)).cell? ⟨W.heap.size + 1, 1, none⟩ = some (.int .i64 (w : Int)) := by go_simp
  have b3 : ((W.alloc (.cells #[.pointer (some ⟨mb, 0, none⟩)] 56)).alloc (.cells #[.int .i64 2, .int .i64 (w : Int), .int .i64 (o : Int)] 39)).cell? ⟨W.heap.size + 1, 2, none⟩ = some (.int .i64 (o : Int)) := by go_simp
  clear HC
  generalize ((W.alloc (.cells #[.pointer (some ⟨mb, 0, none⟩)] 56)).alloc (.cells #[.int .i64 2, .int .i64 (w : Int), .int .i64 (o : Int)] 39)) = w0 at *
  go_quiet (fail)
  go_wp2
  have HK1 := hidMk (HK.out.tr (Stil.drewN w0 nq))
  have a0 := (Stil.drewN w0 nq).cell b0
  have a1 := (Stil.drewN w0 nq).cell b1
  have a2 := (Stil.drewN w0 nq).cell b2
  have a3 := (Stil.drewN w0 nq).cell b3
  have q1 := (Stil.drewN w0 nq).cell c1'
  clear b0 b1 b2 b3 c0' c1' p1' HK
  generalize w0.drewN nq = w1 at *
  have HL1 := hidMk (fun q : Nat => HLk.out _ (HK1.out.tr (Stil.drewN w1 q)))
  have H2 := HL1.out
  refine wp_region_quiet_lit (by kernel_rfl) (by kernel_rfl) ?_
  repeat (quiet_step (fail))
  refine wpQuiet_nil ?_
  rintro _ ⟨nq, rfl⟩
  go_wp2
  go_ret
  exact ⟨rfl, HK1.out.tr (Stil.drewN w1 _)⟩
set_option maxRecDepth 100000 in
set_option maxHeartbeats 8000000 in
theorem chk_take0 {W : World} {mb n w o ln st M P tc : Nat} {ta : Option Addr} (HC : Hid (∀ z o, Calls Try.prog 15 #[.int .i64 z, .pointer (some ⟨W.heap.size, 0, none⟩)] ((W.alloc (.cells #[.pointer (some ⟨mb, 0, none⟩)] 56)).alloc o) fun e w2 => e = .returned (.bool (inP n z)) ∧ w2 = (W.alloc (.cells #[.pointer (some ⟨mb, 0, none⟩)] 56)).alloc o)) (hw : w < n) (ho : o < n) (hwo : w ≠ o) (hl : ln ≠ 0)
    (c0 : W.cell? ⟨mb, 0, none⟩ = some (.slice (some ⟨P, 0, none⟩) n n)) (c1 : W.cell? ⟨mb, 1, none⟩ = some (.map (some M))) (p1 : W.cell? ⟨P, w * 6 + 1, none⟩ = some (.int .i64 (st : Int)))
    (HLk : Hid (∀ w9, Stil W w9 → (Instr.lookup 35 (.map (some M)) (.agg #[.int .i64 (o : Int), .int .i64 (w : Int)]) false).run Try.prog w9 = .ok (.slice ta ln tc) w9)) 
    : Calls Try.prog 8 #[.pointer (some ⟨mb, 0, none⟩), .agg #[.int .i64 2, .int .i64 (w : Int), .int .i64 (o : Int)]] W fun e W2 => e = .returned (.int .i64 0) ∧ Stil W W2 := by
  have e1 : inP n (w : Int) = true := by simp [inP]; omega
  have hw' : (w : Int) < (n : Int) := by omega
  have e2 : inP n (o : Int) = true := by simp [inP]; omega
  have hwo' : ((w : Int) == (o : Int)) = false := by simp; omega
  have hl2 : ((ln : Int) == 0) = false := by simp; omega

  have HK : Hid (Stil W ((W.alloc (.cells #[.pointer (some ⟨mb, 0, none⟩)] 56)).alloc (.cells #[.int .i64 2, .int .i64 (w : Int), .int .i64 (o : Int)] 39))) := hidMk (((Keep.refl (fun _ => False) W).alloc _).alloc _)
  have c0' := HK.out.cell c0
  have c1' := HK.out.cell c1
  have p1' := HK.out.cell p1
  clear c0 c1 p1
  go_enter Try.func8, Try.ntmps8
  go_wp2_with (go_at_call 15; refine (HC.out _ _).mono ?_; rintro e w3 ⟨rfl, hw3⟩; obtain rfl := hw3.symm)
  have b0 : ((W.alloc (.cells #[.pointer (some ⟨mb, 0, none⟩)] 56)).alloc (.cells #[.int .i64 2, .int .i64 (w : Int), .int .i64 (o : Int)] 39)).cell? ⟨W.heap.size, 0, none⟩ = some (.pointer (some ⟨mb, 0, none⟩)) := by go_simp
  have b1 : ((W.alloc (.cells #[.pointer (some ⟨mb, 0, none⟩)] 56)).alloc (.cells #[.int .i64 2, .int .i64 (w : Int), .int .i64 (o : Int)] 39)).cell? ⟨W.heap.size + 1, 0, none⟩ = some (.int .i64 2) := by go_simp
  have b2 : ((W.alloc (.cells #[.pointer (some ⟨mb, 0, none⟩)] 56)).alloc (.cells #[.int .i64 2, .int .i64 (w : Int), .int .i64 (o : Int)] 39)).cell? ⟨W.heap.size + 1, 1, none⟩ = some (.int .i64 (w : Int)) := by go_simp
  have b3 : ((W.alloc (.cells #[.pointer (some ⟨mb, 0, none⟩)] 56)).alloc (.cells #[.int .i64 2, .int .i64 (w : Int), .int .i64 (o : Int)] 39)).cell? ⟨W.heap.size + 1, 2, none⟩ = some (.int .i64 (o : Int)) := by go_simp
  clear HC
  generalize ((W.alloc (.cells #[.pointer (some ⟨mb, 0, none⟩)] 56)).alloc (.cells #[.int .i64 2, .int .i64 (w : Int), .int .i64 (o : Int)] 39)) = w0 at *
  go_quiet (fail)
  go_wp2
  have HK1 := hidMk (HK.out.tr (Stil.drewN w0 nq))
  have a0 := (Stil.drewN w0 nq).cell b0
  have a1 := (Stil.drewN w0 nq).cell b1
  have a2 := (Stil.drewN w0 nq).cell b2
  have a3 := (Stil.drewN w0 nq).cell b3
  have q1 := (Stil.drewN w0 nq).cell c1'
  clear b0 b1 b2 b3 c0' c1' p1' HK
  generalize w0.drewN nq = w1 at *
  have HL1 := hidMk (fun q : Nat => HLk.out _ (HK1.out.tr (Stil.drewN w1 q)))
  have H2 := HL1.out
  refine wp_region_quiet_lit (by kernel_rfl) (by kernel_rfl) ?_
  repeat (quiet_step (fail))
  refine wpQuiet_nil ?_
  rintro _ ⟨nq, rfl⟩
  go_wp2
  go_ret
  exact ⟨rfl, HK1.out.tr (Stil.drewN w1 _)⟩
set_option maxRecDepth 100000 in
set_option maxHeartbeats 8000000 in
theorem chk_ask0 {W : World} {mb n w ln st M P tc : Nat} {ta : Option Addr} (HC : Hid (∀ z o, Calls Try.prog 15 #[.int .i64 z, .pointer (some ⟨W.heap.size, 0, none⟩)] ((W.alloc (.cells #[.pointer (some ⟨mb, 0, none⟩)] 56)).alloc o) fun e w2 => e = .returned (.bool (inP n z)) ∧ w2 = (W.alloc (.cells #[.pointer (some ⟨mb, 0, none⟩)] 56)).alloc o)) (hw : w < n) {f : Int}
    (c0 : W.cell? ⟨mb, 0, none⟩ = some (.slice (some ⟨P, 0, none⟩) n n)) (c1 : W.cell? ⟨mb, 1, none⟩ = some (.map (some M))) (p1 : W.cell? ⟨P, w * 6 + 1, none⟩ = some (.int .i64 0))
    : Calls Try.prog 8 #[.pointer (some ⟨mb, 0, none⟩), .agg #[.int .i64 1, .int .i64 (w : Int), .int .i64 f]] W fun e W2 => e = .returned (.int .i64 0) ∧ Stil W W2 := by
  have e1 : inP n (w : Int) = true := by simp [inP]; omega
  have hw' : (w : Int) < (n : Int) := by omega

  have HK : Hid (Stil W ((W.alloc (.cells #[.pointer (some ⟨mb, 0, none⟩)] 56)).alloc (.cells #[.int .i64 1, .int .i64 (w : Int), .int .i64 f] 39))) := hidMk (((Keep.refl (fun _ => False) W).alloc _).alloc _)
  have c0' := HK.out.cell c0
  have c1' := HK.out.cell c1
  have p1' := HK.out.cell p1
  clear c0 c1 p1
  go_enter Try.func8, Try.ntmps8
  go_wp2_with (go_at_call 15; refine (HC.out _ _).mono ?_; rintro e w3 ⟨rfl, hw3⟩; obtain rfl := hw3.symm)
  have b0 : ((W.alloc (.cells #[.pointer (some ⟨mb, 0, none⟩)] 56)).alloc (.cells #[.int .i64 1, .int .i64 (w : Int), .int .i64 f] 39)).cell? ⟨W.heap.size, 0, none⟩ = some (.pointer (some ⟨mb, 0, none⟩)) := by go_simp
  have b1 : ((W.alloc (.cells #[.pointer (some ⟨mb, 0, none⟩)] 56)).alloc (.cells #[.int .i64 1, .int .i64 (w : Int), .int .i64 f] 39)).cell? ⟨W.heap.size + 1, 0, none⟩ = some (.int .i64 1) := by go_simp
  have b2 : ((W.alloc (.cells #[.pointer (some ⟨mb, 0, none⟩)] 56)).alloc (.cells #[.int .i64 1, .int .i64 (w : Int), .int .i64 f] 39)).cell? ⟨W.heap.size + 1, 1, none⟩ = some (.int .i64 (w : Int)) := by go_simp
  have b3 : ((W.alloc (.cells #[.pointer (some ⟨mb, 0, none⟩)] 56)).alloc (.cells #[.int .i64 1, .int .i64 (w : Int), .int .i64 f] 39)).cell? ⟨W.heap.size + 1, 2, none⟩ = some (.int .i64 f) := by go_simp
  clear HC
  generalize ((W.alloc (.cells #[.pointer (some ⟨mb, 0, none⟩)] 56)).alloc (.cells #[.int .i64 1, .int .i64 (w : Int), .int .i64 f] 39)) = w0 at *
  go_quiet (fail)
  go_wp2
  have HK1 := hidMk (HK.out.tr (Stil.drewN w0 nq))
  have a0 := (Stil.drewN w0 nq).cell b0
  have a1 := (Stil.drewN w0 nq).cell b1
  have a2 := (Stil.drewN w0 nq).cell b2
  have a3 := (Stil.drewN w0 nq).cell b3
  have q1 := (Stil.drewN w0 nq).cell c1'
  clear b0 b1 b2 b3 c0' c1' p1' HK
  generalize w0.drewN nq = w1 at *
  go_quiet (fail)
  go_wp2
  go_ret
  exact ⟨rfl, HK1.out.tr (Stil.drewN w1 _)⟩
set_option maxRecDepth 100000 in
set_option maxHeartbeats 8000000 in
theorem chk_ask6 {W : World} {mb n w ln st M P tc : Nat} {ta : Option Addr} (HC : Hid (∀ z o, Calls Try.prog 15 #[.int .i64 z, .pointer (some ⟨W.heap.size, 0, none⟩)] ((W.alloc (.cells #[.pointer (some ⟨mb, 0, none⟩)] 56)).alloc o) fun e w2 => e = .returned (.bool (inP n z)) ∧ w2 = (W.alloc (.cells #[.pointer (some ⟨mb, 0, none⟩)] 56)).alloc o)) (hw : w < n) {f : Int} (h0 : st ≠ 0)
    (c0 : W.cell? ⟨mb, 0, none⟩ = some (.slice (some ⟨P, 0, none⟩) n n)) (c1 : W.cell? ⟨mb, 1, none⟩ = some (.map (some M))) (p1 : W.cell? ⟨P, w * 6 + 1, none⟩ = some (.int .i64 (st : Int)))
    : Calls Try.prog 8 #[.pointer (some ⟨mb, 0, none⟩), .agg #[.int .i64 1, .int .i64 (w : Int), .int .i64 f]] W fun e W2 => e = .returned (.int .i64 6) ∧ Stil W W2 := by
  have e1 : inP n (w : Int) = true := by simp [inP]; omega
  have hw' : (w : Int) < (n : Int) := by omega
  have e2 : ((st : Int) != 0) = true := by simp; omega

  have HK : Hid (Stil W ((W.alloc (.cells #[.pointer (some ⟨mb, 0, none⟩)] 56)).alloc (.cells #[.int .i64 1, .int .i64 (w : Int), .int .i64 f] 39))) := hidMk (((Keep.refl (fun _ => False) W).alloc _).alloc _)
  have c0' := HK.out.cell c0
  have c1' := HK.out.cell c1
  have p1' := HK.out.cell p1
  clear c0 c1 p1
  go_enter Try.func8, Try.ntmps8
  go_wp2_with (go_at_call 15; refine (HC.out _ _).mono ?_; rintro e w3 ⟨rfl, hw3⟩; obtain rfl := hw3.symm)
  have b0 : ((W.alloc (.cells #[.pointer (some ⟨mb, 0, none⟩)] 56)).alloc (.cells #[.int .i64 1, .int .i64 (w : Int), .int .i64 f] 39)).cell? ⟨W.heap.size, 0, none⟩ = some (.pointer (some ⟨mb, 0, none⟩)) := by go_simp
  have b1 : ((W.alloc (.cells #[.pointer (some ⟨mb, 0, none⟩)] 56)).alloc (.cells #[.int .i64 1, .int .i64 (w : Int), .int .i64 f] 39)).cell? ⟨W.heap.size + 1, 0, none⟩ = some (.int .i64 1) := by go_simp
  have b2 : ((W.alloc (.cells #[.pointer (some ⟨mb, 0, none⟩)] 56)).alloc (.cells #[.int .i64 1, .int .i64 (w : Int), .int .i64 f] 39)).cell? ⟨W.heap.size + 1, 1, none⟩ = some (.int .i64 (w : Int)) := by go_simp
  have b3 : ((W.alloc (.cells #[.pointer (some ⟨mb, 0, none⟩)] 56)).alloc (.cells #[.int .i64 1, .int .i64 (w : Int), .int .i64 f] 39)).cell? ⟨W.heap.size + 1, 2, none⟩ = some (.int .i64 f) := by go_simp
  clear HC
  generalize ((W.alloc (.cells #[.pointer (some ⟨mb, 0, none⟩)] 56)).alloc (.cells #[.int .i64 1, .int .i64 (w : Int), .int .i64 f] 39)) = w0 at *
  go_quiet (fail)
  go_wp2
  have HK1 := hidMk (HK.out.tr (Stil.drewN w0 nq))
  have a0 := (Stil.drewN w0 nq).cell b0
  have a1 := (Stil.drewN w0 nq).cell b1
  have a2 := (Stil.drewN w0 nq).cell b2
  have a3 := (Stil.drewN w0 nq).cell b3
  have q1 := (Stil.drewN w0 nq).cell c1'
  clear b0 b1 b2 b3 c0' c1' p1' HK
  generalize w0.drewN nq = w1 at *
  go_quiet (fail)
  go_wp2
  go_ret
  exact ⟨rfl, HK1.out.tr (Stil.drewN w1 _)⟩
set_option maxRecDepth 100000 in
set_option maxHeartbeats 8000000 in
theorem chk_leave0 {W : World} {mb n w ln st M P tc : Nat} {ta : Option Addr} (HC : Hid (∀ z o, Calls Try.prog 15 #[.int .i64 z, .pointer (some ⟨W.heap.size, 0, none⟩)] ((W.alloc (.cells #[.pointer (some ⟨mb, 0, none⟩)] 56)).alloc o) fun e w2 => e = .returned (.bool (inP n z)) ∧ w2 = (W.alloc (.cells #[.pointer (some ⟨mb, 0, none⟩)] 56)).alloc o)) (hw : w < n) {f : Int}
    (c0 : W.cell? ⟨mb, 0, none⟩ = some (.slice (some ⟨P, 0, none⟩) n n)) (c1 : W.cell? ⟨mb, 1, none⟩ = some (.map (some M))) (p1 : W.cell? ⟨P, w * 6 + 1, none⟩ = some (.int .i64 2))
    : Calls Try.prog 8 #[.pointer (some ⟨mb, 0, none⟩), .agg #[.int .i64 3, .int .i64 (w : Int), .int .i64 f]] W fun e W2 => e = .returned (.int .i64 0) ∧ Stil W W2 := by
  have e1 : inP n (w : Int) = true := by simp [inP]; omega
  have hw' : (w : Int) < (n : Int) := by omega

  have HK : Hid (Stil W ((W.alloc (.cells #[.pointer (some ⟨mb, 0, none⟩)] 56)).alloc (.cells #[.int .i64 3, .int .i64 (w : Int), .int .i64 f] 39))) := hidMk (((Keep.refl (fun _ => False) W).alloc _).alloc _)
  have c0' := HK.out.cell c0
  have c1' := HK.out.cell c1
  have p1' := HK.out.cell p1
  clear c0 c1 p1
  go_enter Try.func8, Try.ntmps8
  go_wp2_with (go_at_call 15; refine (HC.out _ _).mono ?_; rintro e w3 ⟨rfl, hw3⟩; obtain rfl := hw3.symm)
  have b0 : ((W.alloc (.cells #[.pointer (some ⟨mb, 0, none⟩)] 56)).alloc (.cells #[.int .i64 3, .int .i64 (w : Int), .int .i64 f] 39)).cell? ⟨W.heap.size, 0, none⟩ = some (.pointer (some ⟨mb, 0, none⟩)) := by go_simp
  have b1 : ((W.alloc (.cells #[.pointer (some ⟨mb, 0, none⟩)] 56)).alloc (.cells #[.int .i64 3, .int .i64 (w : Int), .int .i64 f] 39)).cell? ⟨W.heap.size + 1, 0, none⟩ = some (.int .i64 3) := by go_simp
  have b2 : ((W.alloc (.cells #[.pointer (some ⟨mb, 0, none⟩)] 56)).alloc (.cells #[.int .i64 3, .int .i64 (w : Int), .int .i64 f] 39)).cell? ⟨W.heap.size + 1, 1, none⟩ = some (.int .i64 (w : Int)) := by go_simp
  have b3 : ((W.alloc (.cells #[.pointer (some ⟨mb, 0, none⟩)] 56)).alloc (.cells #[.int .i64 3, .int .i64 (w : Int), .int .i64 f] 39)).cell? ⟨W.heap.size + 1, 2, none⟩ = some (.int .i64 f) := by go_simp
  clear HC
  generalize ((W.alloc (.cells #[.pointer (some ⟨mb, 0, none⟩)] 56)).alloc (.cells #[.int .i64 3, .int .i64 (w : Int), .int .i64 f] 39)) = w0 at *
  go_quiet (fail)
  go_wp2
  have HK1 := hidMk (HK.out.tr (Stil.drewN w0 nq))
  have a0 := (Stil.drewN w0 nq).cell b0
  have a1 := (Stil.drewN w0 nq).cell b1
  have a2 := (Stil.drewN w0 nq).cell b2
  have a3 := (Stil.drewN w0 nq).cell b3
  have q1 := (Stil.drewN w0 nq).cell c1'
  clear b0 b1 b2 b3 c0' c1' p1' HK
  generalize w0.drewN nq = w1 at *
  go_quiet (fail)
  go_wp2
  go_ret
  exact ⟨rfl, HK1.out.tr (Stil.drewN w1 _)⟩
set_option maxRecDepth 100000 in
set_option maxHeartbeats 8000000 in
theorem chk_leave6 {W : World} {mb n w ln st M P tc : Nat} {ta : Option Addr} (HC : Hid (∀ z o, Calls Try.prog 15 #[.int .i64 z, .pointer (some ⟨W.heap.size, 0, none⟩)] ((W.alloc (.cells #[.pointer (some ⟨mb, 0, none⟩)] 56)).alloc o) fun e w2 => e = .returned (.bool (inP n z)) ∧ w2 = (W.alloc (.cells #[.pointer (some ⟨mb, 0, none⟩)] 56)).alloc o)) (hw : w < n) {f : Int} (h0 : st ≠ 2)
    (c0 : W.cell? ⟨mb, 0, none⟩ = some (.slice (some ⟨P, 0, none⟩) n n)) (c1 : W.cell? ⟨mb, 1, none⟩ = some (.map (some M))) (p1 : W.cell? ⟨P, w * 6 + 1, none⟩ = some (.int .i64 (st : Int)))
    : Calls Try.prog 8 #[.pointer (some ⟨mb, 0, none⟩), .agg #[.int .i64 3, .int .i64 (w : Int), .int .i64 f]] W fun e W2 => e = .returned (.int .i64 6) ∧ Stil W W2 := by
  have e1 : inP n (w : Int) = true := by simp [inP]; omega
  have hw' : (w : Int) < (n : Int) := by omega
  have e2 : ((st : Int) != 2) = true := by simp; omega

  have HK : Hid (Stil W ((W.alloc (.cells #[.pointer (some ⟨mb, 0, none⟩)] 56)).alloc (.cells #[.int .i64 3, .int .i64 (w : Int), .int .i64 f] 39))) := hidMk (((Keep.refl (fun _ => False) W).alloc _).alloc _)
  have c0' := HK.out.cell c0
  have c1' := HK.out.cell c1
  have p1' := HK.out.cell p1
  clear c0 c1 p1
  go_enter Try.func8, Try.ntmps8
  go_wp2_with (go_at_call 15; refine (HC.out _ _).mono ?_; rintro e w3 ⟨rfl, hw3⟩; obtain rfl := hw3.symm)
  have b0 : ((W.alloc (.cells #[.pointer (some ⟨mb, 0, none⟩)] 56)).alloc (.cells #[.int .i64 3, .int .i64 (w : Int), .int .i64 f] 39)).cell? ⟨W.heap.size, 0, none⟩ = some (.pointer (some ⟨mb, 0, none⟩)) := by go_simp
  have b1 : ((W.alloc (.cells #[.pointer (some ⟨mb, 0, none⟩)] 56)).alloc (.cells #[.int .i64 3, .int .i64 (w : Int), .int .i64 f] 39)).cell? ⟨W.heap.size + 1, 0, none⟩ = some (.int .i64 3) := by go_simp
  have b2 : ((W.alloc (.cells #[.pointer (some ⟨mb, 0, none⟩)] 56)).alloc (.cells #[.int .i64 3, .int .i64 (w : Int), .int .i64 f] 39)).cell? ⟨W.heap.size + 1, 1, none⟩ = some (.int .i64 (w : Int)) := by go_simp
  have b3 : ((W.alloc (.cells #[.pointer (some ⟨mb, 0, none⟩)] 56)).alloc (.cells #[.int .i64 3, .int .i64 (w : Int), .int .i64 f] 39)).cell? ⟨W.heap.size + 1, 2, none⟩ = some (.int .i64 f) := by go_simp
  clear HC
  generalize ((W.alloc (.cells #[.pointer (some ⟨mb, 0, none⟩)] 56)).alloc (.cells #[.int .i64 3, .int .i64 (w : Int), .int .i64 f] 39)) = w0 at *
  go_quiet (fail)
  go_wp2
  have HK1 := hidMk (HK.out.tr (Stil.drewN w0 nq))
  have a0 := (Stil.drewN w0 nq).cell b0
  have a1 := (Stil.drewN w0 nq).cell b1
  have a2 := (Stil.drewN w0 nq).cell b2
  have a3 := (Stil.drewN w0 nq).cell b3
  have q1 := (Stil.drewN w0 nq).cell c1'
  clear b0 b1 b2 b3 c0' c1' p1' HK
  generalize w0.drewN nq = w1 at *
  go_quiet (fail)
  go_wp2
  go_ret
  exact ⟨rfl, HK1.out.tr (Stil.drewN w1 _)⟩
end Go.Proofs.Ytaojmbebkggafaa
