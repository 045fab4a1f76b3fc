/- Contract of clocks.nearest; what a round may do. -/
import Derived.Test.YtjglbjiekndpeabH3
import Derived.Test.YtjglbjiekndpeabH5
namespace Go.Proofs.Ytjglbjiekndpeab
open Go.RowKit Go.Shelf
set_option linter.unusedVariables false

set_option maxHeartbeats 1000000 in
theorem nearest_in (F : Fence) (n : Nat) (hf : F.fn 24) (hro : F.round = none) (a : Option Addr) (len cap : Nat) (w : World) :
    CallsIn F n Try.prog 24 #[.slice a len cap] w fun e w2 => e = .returned (.func (.func 27) #[] #[.pointer (some ⟨w.heap.size, 0, none⟩)]) ∧ w2 = w.alloc (.cells #[.slice a len cap] 22) := by
  refine callsIn_of_wp Try.func24 rfl hf ?_ hro
  simp only [Try.ntmps24, List.size_toArray, List.length_cons, List.length_nil, Nat.reduceAdd, Nat.reduceSub, Array.replicate_succ, Array.replicate_zero, List.push_toArray, List.append_toArray, List.nil_append, List.cons_append]
  gi_wp2
  go_ret
  exact ⟨rfl, rfl⟩

theorem nearest_tells (F : Fence) (n : Nat) (hf : F.fn 27) (hro : F.round = none) (hn : 1 ≤ n) (Bs n₀ len cap : Nat) (a : Option Addr) (N : Int) (es : List Ev) (hl : es.length = len) (hv : Valid N es)
    (w : World) (hn0 : n₀ ≤ w.heap.size) (hBs : Bs < w.heap.size) (hBc : w.cell? ⟨Bs, 0, none⟩ = some (.slice a len cap)) (hq : len = 0 ∨ ∃ b off, a = some ⟨b, off, none⟩ ∧ b < n₀ ∧ EvRow w b off es) :
    Tells F n Try.prog 27 #[.pointer (some ⟨Bs, 0, none⟩)] (fun x : Nat × Value => #[.int .i64 (x.1 : Int), x.2]) (Told es w.heap.size) (KpN n₀ Bs) (fun ys => ys.length = es.length) w :=
  fun l J W hW hJ hY h0 => nearest1_in F n hf hro hn l Bs n₀ w.heap.size len cap a N es hl hv J W hJ hY (Nat.le_trans hn0 hW.size) hW.size (Nat.lt_of_lt_of_le hBs hW.size) ((hW.cell (p := ⟨Bs, 0, none⟩) hBs).trans hBc)
    (hq.imp id fun ⟨b, off, h1, h2, h3⟩ => ⟨b, off, h1, h2, h3.below h3.1 hW⟩) h0

/-- A round that turns but one block, of cells, that lay ahead of the loop, and lays new ones. -/
theorem round_keeps {n₀ Bs B O : Nat} {W W2 : World} (hg : W.grownBy W2 (some O)) (h1 : n₀ ≤ O) (h2 : O < Bs) (h3 : Bs ≤ B) (h4 : n₀ ≤ W.heap.size) : KeepsFrom B W W2 ∧ KpN n₀ Bs W W2 := by
  refine ⟨KeepsFrom.of_grownBy hg (fun j e => by cases e; omega), ⟨hg.os, hg.tape, hg.output, hg.size, fun k hk => hg.block k (by omega) (by intro e; cases e; omega)⟩, fun k o hk ho _ => ?_⟩
  exact (hg.block k (Array.getElem?_eq_some_iff.1 ho).1 (by intro e; cases e; omega)).trans ho

theorem grown_but {A B : World} (h : A.grownBy B none) (r : Option Nat) : A.grownBy B r := ⟨h.os, h.tape, h.output, h.size, fun k hk _ => h.block k hk (by simp)⟩
theorem grown_refl (A : World) (r : Option Nat) : A.grownBy A r := ⟨rfl, rfl, rfl, Nat.le_refl _, fun _ _ _ => rfl⟩
theorem grown_same {A B C : World} {r : Option Nat} (h : A.grownBy B r) (k : B.grownBy C r) : A.grownBy C r :=
  ⟨k.os.trans h.os, k.tape.trans h.tape, k.output.trans h.output, Nat.le_trans h.size k.size, fun i hi hne => (k.block i (Nat.lt_of_lt_of_le hi h.size) hne).trans (h.block i hi hne)⟩
/-- A turn of a block that was not there. -/
theorem grown_fresh {A B C : World} {r : Option Nat} {q : Nat} (h : A.grownBy B r) (k : B.grownBy C (some q)) (hq : A.heap.size ≤ q) : A.grownBy C r :=
  ⟨k.os.trans h.os, k.tape.trans h.tape, k.output.trans h.output, Nat.le_trans h.size k.size, fun i hi hne => (k.block i (Nat.lt_of_lt_of_le hi h.size) (by intro e; cases e; omega)).trans (h.block i hi hne)⟩
theorem grown_drewN (A : World) (m : Nat) (r : Option Nat) : A.grownBy (A.drewN m) r := ⟨rfl, rfl, rfl, Nat.le_refl _, fun _ _ _ => rfl⟩
theorem grown_setCell (A : World) (b i : Nat) (v : Value) : A.grownBy (A.setCell ⟨b, i, none⟩ v) (some b) :=
  ⟨rfl, rfl, rfl, (KeepsWalks.setCell A _ v).size, fun k _ hk => Below.heap_setCell _ _ _ k (fun e => hk (by rw [e]))⟩

/-- make of numbers, all 0. -/
theorem make_ints (m : Nat) (hm : m ≤ 100) (W : World) : (Instr.makeSlice 23 (.int .i64 (m : Int)) (.int .i64 (m : Int))).run Try.prog W = .ok (.slice (some ⟨W.heap.size, 0, none⟩) m m) (W.alloc (.cells (madeCells #[.int .i64 0] m) 3)) := by
  obtain ⟨i0, hi, hz0, hz1, hz2⟩ := info_parts Try.info3
  have h := run_makeSlice (P := Try.prog) W 23 3 i0 _ Try.underlying23 hi hz0 .i64 .i64 (m : Int) (m : Int) (by omega) (Int.le_refl _) (by rw [hz1]; simp; omega) (by rw [hz2]; omega) (by omega)
  rw [hz1] at h
  simpa [Value.cells] using h
theorem made_zero (m : Nat) : (madeCells #[Value.int .i64 0] m).toList = (rowN m fun _ => 0).map encN := by
  simp only [madeCells, rowN, Array.toList_map, Array.toList_range, List.map_map]
  apply List.map_congr_left
  intro k _
  have e : k % 1 = 0 := Nat.mod_one k
  simp [encN, e]
end Go.Proofs.Ytjglbjiekndpeab
