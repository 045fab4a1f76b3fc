/- put. -/
import Derived.Test.YthadhhconkjpmaaT4
import Derived.WalkLawsBesides
import Derived.Outline
namespace Go.Proofs.Ythadhhconkjpmaa
open Go.RowKit Go.WideMaps
set_option linter.unusedVariables false

theorem Try.info3 : (Try.prog.info? 3).map (fun i => (i.zero, i.size, i.bytes)) = some (some (.int .i64 0), 1, 8) := by kernel_rfl
theorem one_cell (x : Int) : ∀ u ∈ [Value.int .i64 x], u.oneCell' = true := by intro u hu; simp at hu; subst hu; rfl
theorem cell_one_at (w : World) (x : Value) (t : TypeId) (g : Nat) (hg : w.heap.size = g) : ∀ j u, [x][j]? = some u → (w.alloc (.cells #[x] t)).cell? ((⟨g, 0, none⟩ : Addr).add j) = some u := by
  subst hg; exact cell_one_new w x t

theorem Seg.alloc {W : World} {ok : Nat → Prop} {e : TypeId} {size n : Nat} {v : Value} {xs : List Value} (h : Seg W ok e size v n xs) (o : Obj) : Seg (W.alloc o) ok e size v n xs := h.keep ((Keep.refl (fun _ => False) W).alloc o) (fun _ _ _ e => e)

theorem Seg.form {W : World} {ok : Nat → Prop} {e : TypeId} {size n : Nat} {v : Value} {xs : List Value} (h : Seg W ok e size v n xs) : ∃ a c, v = .slice a n c := by
  obtain ⟨_, ⟨h1, h2⟩ | ⟨g, off, cap, cur, h1, _⟩⟩ := h
  · subst h2; exact ⟨_, _, h1⟩
  · exact ⟨_, _, h1⟩

set_option maxRecDepth 100000 in
set_option maxHeartbeats 4000000 in
theorem put_raw (W : World) (mb M i j len : Nat) (x : Int) (ta na : Option Addr) (tc nl nc : Nat) (b : Bool) (ok : Nat → Prop) (xs : List Value)
    (c2 : W.cell? ⟨mb, 2, none⟩ = some (.map (some M)))
    (hlook : (Instr.lookup 37 (.map (some M)) (.agg #[.int .i64 (i : Int), .int .i64 (j : Int)]) false).run Try.prog W = .ok (.agg #[.slice ta len tc, .slice na nl nc, .bool b]) W)
    (hseg : Seg W ok 3 1 (.slice ta len tc) len xs) (hmb : ∀ k, (Value.slice ta len tc).ownBlock = some k → k ≠ mb) (hlen : len ≤ 1000)
    (R : World → Prop)
    (H : Hid (∀ a3 c3 w4, Seg w4 (fun g => ((Value.slice ta len tc).ownBlock = some g ∧ ok g) ∨ g = W.heap.size + 1 + 1) 3 1 (.slice a3 (len + 1) c3) (len + 1) (xs ++ [.int .i64 x]) → Keep (fun g => some g = (Value.slice ta len tc).ownBlock) W w4 →
      ∃ W6, (Instr.mapUpdate 37 (.map (some M)) (.agg #[.int .i64 (i : Int), .int .i64 (j : Int)]) (.agg #[.slice a3 (len + 1) c3, .slice na nl nc, .bool b])).run Try.prog w4 = .ok () W6 ∧ R W6)) :
    Calls Try.prog 20 #[.pointer (some ⟨mb, 0, none⟩), .int .i64 (i : Int), .int .i64 (j : Int), .int .i64 x] W fun e W2 => e = .returned (.tuple #[]) ∧ R W2 := by
  obtain ⟨i0, hi, hz0, hz1, hz2⟩ := info_parts Try.info3
  have hlt : mb < W.heap.size := World.block_lt_of_cell? _ _ c2
  go_enter Try.func20, Try.ntmps20
  go_wp2_with (at_builtin; refine wpList_append_seg _ rfl _ _ 22 rfl 3 i0 (.int .i64 0) 1 8 Try.underlying22 hi hz0 hz1 hz2 rfl (by decide) _ _ _ rfl ((hseg.alloc _).alloc _) ⟨W.heap.size + 1, 0, none⟩ 1 1 [.int .i64 x] rfl rfl (cell_one_at _ _ _ _ (by simp)) (one_cell _) (by unfold maxLen; omega) (by omega) ?_)
  intro v3 w3 hs3 hg3
  obtain ⟨a3, c3, rfl⟩ := hs3.form
  have hob : ∀ k, (Value.slice ta len tc).ownBlock = some k → k < W.heap.size := fun k e => (hseg.block e).2
  have hL : w3.heap[W.heap.size]? = some (.cells #[.slice ta len tc, .slice na nl nc, .bool b] 59) := by
    rw [hg3.block W.heap.size (by simp; omega) (fun e => by have := hob _ e.symm; omega), al_old _ _ _ (by simp), al_new]
  have hk3 : Keep (fun g => some g = (Value.slice ta len tc).ownBlock) W w3 := (((Keep.refl _ W).alloc _).alloc _).grown hg3 (fun k e _ => e.symm)
  have l0 : w3.cell? ⟨W.heap.size, 0, none⟩ = some (.slice ta len tc) := by rw [cell_of_row w3 _ _ _ _ _ hL]; rfl
  have l1 : w3.cell? ⟨W.heap.size, 1, none⟩ = some (.slice na nl nc) := by rw [cell_of_row w3 _ _ _ _ _ hL]; rfl
  have l2 : w3.cell? ⟨W.heap.size, 2, none⟩ = some (.bool b) := by rw [cell_of_row w3 _ _ _ _ _ hL]; rfl
  have lf : w3.frozen? ⟨W.heap.size, 0, none⟩ = false := frozen_of_row w3 _ _ _ _ hL
  have c2' : w3.cell? ⟨mb, 2, none⟩ = some (.map (some M)) := (World.cell?_of_block (hk3.block mb hlt (fun e => hmb mb e.symm rfl))).trans c2
  have hs4 := hidMk (hs3.keep ((Keep.refl (fun g => g = W.heap.size) w3).setCell W.heap.size 0 (.slice a3 (len + 1) c3) (fun _ => rfl)) (fun g _ e1 e2 => by
    rcases e1 with ⟨e1, _⟩ | e1
    · have := hob g e1; omega
    · omega))
  have hk4 := hidMk (hk3.setCell W.heap.size 0 (.slice a3 (len + 1) c3) (fun h0 => absurd h0 (Nat.lt_irrefl _)))
  clear hs3 hg3 hL hk3 hseg c2 hlook
  go_wp2
  have n0 : (w3.setCell ⟨W.heap.size, 0, none⟩ (.slice a3 (len + 1) c3)).cell? ⟨W.heap.size, 0, none⟩ = some (.slice a3 (len + 1) c3) := by go_simp
  have n1 : (w3.setCell ⟨W.heap.size, 0, none⟩ (.slice a3 (len + 1) c3)).cell? ⟨W.heap.size, 1, none⟩ = some (.slice na nl nc) := by go_simp
  have n2 : (w3.setCell ⟨W.heap.size, 0, none⟩ (.slice a3 (len + 1) c3)).cell? ⟨W.heap.size, 2, none⟩ = some (.bool b) := by go_simp
  have c3' : (w3.setCell ⟨W.heap.size, 0, none⟩ (.slice a3 (len + 1) c3)).cell? ⟨mb, 2, none⟩ = some (.map (some M)) := (World.cell?_of_block (Below.heap_setCell _ _ _ _ (Nat.ne_of_lt hlt))).trans c2'
  have HW := hidMk (fun m : Nat => H.out a3 c3 ((w3.setCell ⟨W.heap.size, 0, none⟩ (.slice a3 (len + 1) c3)).drewN m) (hs4.out.keep ((Keep.refl (fun _ => False) _).drewN m) (fun _ _ _ e => e)) (hk4.out.drewN m))
  clear l0 l1 l2 lf c2' hs4 hk4 H hob
  generalize w3.setCell ⟨W.heap.size, 0, none⟩ (.slice a3 (len + 1) c3) = w4 at *
  refine wp_region_tail rfl (by kernel_rfl) (by kernel_rfl) (by kernel_rfl) (by kernel_rfl) (by kernel_rfl) rfl ?_
  simp only [List.dropLast]
  repeat (go_big_quiet_step (fail))
  refine wpQuiet_nil ?_
  rintro _ ⟨m, rfl⟩
  obtain ⟨W6, hr, hR⟩ := HW.out m
  go_wp2
  go_end0
  exact ⟨rfl, hR⟩

/-- A thing is laid on a way, behind all that is on it. -/
theorem put_any {W : World} {mb n : Nat} {s : St} {h : Sh} (m : Mov W mb n s h) {i j : Nat} (hi : i < n) (hj : j < n) (hn : n ≤ 6) (x : Int) (hc : h.c ≤ 1000) (hlen : (s.ways i j).things.length ≤ 1000) :
    Calls Try.prog 20 #[.pointer (some ⟨mb, 0, none⟩), .int .i64 (i : Int), .int .i64 (j : Int), .int .i64 x] W fun e W2 => e = .returned (.tuple #[]) ∧
      ∃ h2, Mov W2 mb n (putS s i j x) h2 ∧ Step W h W2 h2 1 ∧ h2.mv = h.mv ∧ h2.ov = h.ov ∧ h2.M = h.M ∧ ∀ a b, ¬ (a = i ∧ b = j) → h2.f a b = h.f a b := by
  obtain ⟨ta, tc, et⟩ := (m.th i j hi hj).form
  obtain ⟨na, nc, en⟩ := (m.nt i j hi hj).form
  have ev : (h.f i j).val = .agg #[.slice ta (s.ways i j).things.length tc, .slice na (s.ways i j).noted.length nc, .bool (h.f i j).bm] := by unfold WV.val; rw [et, en]
  have hlook := m.map.look wayMap (i := i) (j := j) (by omega) (by omega)
  rw [ev] at hlook
  have hseg := m.th i j hi hj
  rw [et] at hseg
  refine put_raw W mb h.M i j _ x ta na tc _ nc _ _ _ m.cells.2.2 hlook hseg (fun k e => ?_) hlen _ (hidMk fun a3 c3 w4 hs4 hk4 => ?_)
  · intro e2
    subst e2
    have := (hseg.block e).1
    rw [m.tmb] at this
    cases this
  · have m4 : Pairs w4 61 zeroWay h.M h.c (fun i j => (h.f i j).val) := m.map.keep hk4 (fun e => by
      have := (hseg.block e.symm).1
      rw [m.tM] at this
      cases this)
    obtain ⟨W6, hr, hp, hg⟩ := m4.store wayMap (show h.c < maxLen by unfold maxLen; omega) (i := i) (j := j) (by omega) (by omega) (WV.val ⟨.slice a3 ((s.ways i j).things.length + 1) c3, .slice na (s.ways i j).noted.length nc, (h.f i j).bm⟩)
    refine ⟨W6, hr, ?_⟩
    have hlt4 : h.M < W.heap.size := m.map.lt
    have hM0 : ∀ g, (Value.slice ta (s.ways i j).things.length tc).ownBlock = some g → h.t g = .th i j := fun g e => (hseg.block e).1
    have hk6 : Keep (fun g => h.t g = .th i j ∨ h.t g = .nt i j ∨ g = h.M) W W6 := (hk4.mono (q := fun g => h.t g = .th i j ∨ h.t g = .nt i j ∨ g = h.M) (fun g _ e => .inl (hM0 g e.symm))).grown hg (fun k e _ => by cases e; exact .inr (.inr rfl))
    have hnt := m.nt i j hi hj
    rw [en] at hnt
    obtain ⟨m6, st6⟩ := m.way hi hj ⟨.slice a3 ((s.ways i j).things.length + 1) c3, .slice na (s.ways i j).noted.length nc, (h.f i j).bm⟩ (pushW (s.ways i j) x) hk6 hp
      (by
        have h1 := (hs4.keep (Keep.of_grown hg) (fun g hg2 e1 e2 => by
          cases e2
          rcases e1 with ⟨e1, e3⟩ | e1
          · rw [m.tM] at e3; cases e3
          · omega)).mono (ok2 := fun g => (g < W.heap.size ∧ h.t g = .th i j) ∨ W.heap.size ≤ g) (fun g _ e => by
            rcases e with ⟨e1, e2⟩ | e1
            · exact .inl ⟨(hseg.block e1).2, e2⟩
            · exact .inr (by omega))
        simpa [pushW, intsL] using h1)
      (by
        have h1 : Seg W6 (fun g => g < W.heap.size ∧ h.t g = .nt i j) 3 1 (.slice na (s.ways i j).noted.length nc) (s.ways i j).noted.length (intsL (s.ways i j).noted) :=
          (hnt.mono (ok2 := fun g => g < W.heap.size ∧ h.t g = .nt i j) (fun g hg e => ⟨hg, e⟩)).keep ((hk4.mono (q := fun g => some g = (Value.slice ta (s.ways i j).things.length tc).ownBlock ∨ g = h.M) (fun _ _ e => .inl e)).grown hg (fun k e _ => by cases e; exact .inr rfl)) (fun g _ e1 e2 => by
            rcases e2 with e2 | e2
            · rw [hM0 g e2.symm] at e1; cases e1.2
            · subst e2; rw [m.tM] at e1; cases e1.2)
        exact h1.mono (fun g _ e => .inl e))
      (fun g e1 e2 => by
        have h1 := (hs4.block e1).1
        have h2 := hnt.block e2
        rcases h1 with ⟨h1, h3⟩ | h1
        · rw [h2.1] at h3; cases h3
        · omega)
      (m.bm i j hi hj)
    exact ⟨_, m6, st6, rfl, rfl, rfl, fun a b e => upd2_other _ _ e⟩
end Go.Proofs.Ythadhhconkjpmaa
