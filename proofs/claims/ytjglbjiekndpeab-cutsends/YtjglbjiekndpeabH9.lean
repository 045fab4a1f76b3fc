/- Contract of clocks.vectors. -/
import Derived.Test.YtjglbjiekndpeabH8
namespace Go.Proofs.Ytjglbjiekndpeab
open Go.RowKit Go.Shelf
set_option linter.unusedVariables false

attribute [local go_sem] Oper.semAt_some

theorem Try.info23 : (Try.prog.info? 23).map (fun i => (i.zero, i.size, i.bytes)) = some (some (.slice none 0 0), 1, 24) := by kernel_rfl
theorem make_rows (m : Nat) (hm : m ≤ 100) (W : World) : (Instr.makeSlice 36 (.int .i64 (m : Int)) (.int .i64 (m : Int))).run Try.prog W = .ok (.slice (some ⟨W.heap.size, 0, none⟩) m m) (W.alloc (.cells (madeCells #[.slice none 0 0] m) 23)) := by
  obtain ⟨i0, hi, hz0, hz1, hz2⟩ := info_parts Try.info23
  have h := run_makeSlice (P := Try.prog) W 36 23 i0 _ Try.underlying36 hi hz0 .i64 .i64 (m : Int) (m : Int) (by omega) (Int.le_refl _) (by rw [hz1]; simp; omega) (by rw [hz2]; omega) (by omega)
  rw [hz1] at h
  simpa [Value.cells] using h

/-- The rows so far. -/
def outRow (n len : Nat) (R : Nat → Nat) (k : Nat) : List Value := (List.range len).map fun j => if j < k then .slice (some ⟨R j, 0, none⟩) n n else .slice none 0 0
theorem outRow_at {n len : Nat} {R : Nat → Nat} {k j : Nat} (h : j < len) : (outRow n len R k)[j]? = some (if j < k then .slice (some ⟨R j, 0, none⟩) n n else .slice none 0 0) := by simp [outRow, h]
theorem outRow_zero (n len : Nat) (R : Nat → Nat) : (madeCells #[Value.slice none 0 0] len).toList = outRow n len R 0 := by
  simp only [madeCells, outRow, Array.toList_map, Array.toList_range]
  apply List.map_congr_left
  intro k _
  have e : k % 1 = 0 := Nat.mod_one k
  simp [e]
/-- One row more. -/
def putR (R : Nat → Nat) (k g : Nat) (j : Nat) : Nat := if j = k then g else R j
theorem outRow_set {n len : Nat} {R : Nat → Nat} {k g : Nat} : (outRow n len R k).set k (.slice (some ⟨g, 0, none⟩) n n) = outRow n len (putR R k g) (k + 1) := by
  apply List.ext_getElem?
  intro j
  rw [List.getElem?_set]
  by_cases hj : j < len
  · rw [outRow_at hj, outRow_at hj]
    by_cases hk : k = j
    · subst hk; simp [outRow, hj, putR]
    · have hk2 : j ≠ k := fun h => hk h.symm
      rw [if_neg hk]
      unfold putR
      rw [if_neg hk2]
      by_cases h2 : j < k
      · rw [if_pos h2, if_pos (by omega)]
      · rw [if_neg h2, if_neg (by omega)]
  · have h1 : (outRow n len R k)[j]? = none := List.getElem?_eq_none (by simp [outRow]; omega)
    have h2 : (outRow n len (putR R k g) (k + 1))[j]? = none := List.getElem?_eq_none (by simp [outRow]; omega)
    rw [h1, h2]
    by_cases hk : k = j
    · subst hk; simp [outRow, hj]
    · simp [hk]

abbrev RowV (W : World) (base O len n : Nat) (R : Nat → Nat) (k : Nat) : Prop := W.ownsRow base 23 1 (.slice (some ⟨O, 0, none⟩) len len) len (outRow n len R k)

/-- The memory of vectors between two rounds. -/
def VM (es : List Ev) (s : Nat) (a : Option Addr) (len cap n : Nat) (R : Nat → Nat) (k : Nat) (W : World) : Prop :=
  Boxed W s 3 (.int .i64 (n : Int)) ∧ Boxed W (s + 1) 22 (.slice a len cap) ∧ Boxed W (s + 1 + 1 + 1) 36 (.slice (some ⟨s + 1 + 1, 0, none⟩) len len) ∧
  RowV W s (s + 1 + 1) len n R k
def VR (es : List Ev) (s n : Nat) (R : Nat → Nat) (k : Nat) (W : World) : Prop := ∀ j, j < k → RowI W (s + 4) (R j) n (fun p => vc es p j)
def VI (es : List Ev) (w : World) (a : Option Addr) (len cap n : Nat) (pre : List (Nat × Value)) (W : World) : Prop :=
  (∃ R, VM es w.heap.size a len cap n R pre.length W ∧ VR es w.heap.size n R pre.length W) ∧ Below w.heap.size w W

theorem vi_own (es : List Ev) (w : World) (a : Option Addr) (len cap n B : Nat) (hB : w.heap.size ≤ B) : OwnFrom B (VI es w a len cap n) := by
  refine OwnFrom.and ?_ (ownFrom_below (Nat.le_refl _) hB)
  intro pre X Y row hs hg hr
  obtain ⟨R, ⟨h1, h2, h3, h4⟩, h5⟩ := hs
  have hb : ∀ {b : Nat} {t : TypeId} {v : Value}, Boxed X b t v → Boxed Y b t v := fun {b t v} h => Own.from (boxed_own (β := Unit) b t (fun _ => v)) B () X Y row h hg hr
  refine ⟨R, ⟨hb h1, hb h2, hb h3, ?_⟩, fun j hj => ?_⟩
  · exact owns_own (β := Unit) B _ _ _ (fun _ => _) (fun _ => _) (fun _ => _) () X Y row h4 hg hr
  · exact owns_own (β := Unit) B _ _ _ (fun _ => _) (fun _ => _) (fun _ => _) () X Y row (h5 j hj) hg hr

theorem VM.kept {es : List Ev} {s len cap n : Nat} {a : Option Addr} {R : Nat → Nat} {k : Nat} {W W2 : World} {g : Nat} (h : VM es s a len cap n R k W) (hg : W.grownBy W2 (some g)) (hgs : s + 4 ≤ g) : VM es s a len cap n R k W2 := by
  obtain ⟨h1, h2, h3, h4⟩ := h
  exact ⟨h1.kept hg (by simp; omega), h2.kept hg (by simp; omega), h3.kept hg (by simp; omega), World.ownsRow.kept h4 hg (.inr (by simp [Value.ownBlock]; omega))⟩
theorem VR.kept {es : List Ev} {s n : Nat} {R : Nat → Nat} {k : Nat} {W W2 : World} {g : Nat} (h : VR es s n R k W) (hg : W.grownBy W2 (some g)) (hgs : ∀ j, j < k → R j ≠ g) : VR es s n R k W2 :=
  fun j hj => World.ownsRow.kept (h j hj) hg (.inr (by simp [Value.ownBlock]; exact hgs j hj))

theorem whoAt_eq {es : List Ev} {i : Nat} {e : Ev} (he : es[i]? = some e) : whoAt es i = e.who := by unfold whoAt; rw [he]
theorem vc_done {N : Int} {es : List Ev} (hv : Valid N es) {i p0 : Nat} (n : Nat) (hw : whoAt es i = (p0 : Int)) :
    (rowN n (fun p => topOf (vc es p) (nearOf es i) (nearOf es i).length)).set p0 (topOf (vc es p0) (nearOf es i) (nearOf es i).length + 1) = rowN n (fun p => vc es p i) := by
  rw [rowN_set]
  apply rowN_congr
  intro p _
  rw [vc_top hv p i, hw]
  by_cases hp : p = p0
  · subst hp; simp
  · rw [if_neg hp, if_neg (by omega)]
    rfl

/-- Behind out[i] = make([]int, n). -/
def Made1 (es : List Ev) (s : Nat) (a : Option Addr) (len cap n : Nat) (R : Nat → Nat) (i : Nat) (W W1 : World) : Prop :=
  RowI W1 (s + 4) W.heap.size n (fun p => topOf (vc es p) (nearOf es i) 0) ∧ VM es s a len cap n (putR R i W.heap.size) (i + 1) W1 ∧ VR es s n R i W1 ∧ W.grownBy W1 (some (s + 1 + 1)) ∧ W.heap.size < W1.heap.size
theorem made1 {es : List Ev} {s : Nat} {a : Option Addr} {len cap n : Nat} {R : Nat → Nat} {i : Nat} {W : World} (hn : n ≤ 6) (hvm : VM es s a len cap n R i W) (hvr : VR es s n R i W) :
    Made1 es s a len cap n R i W ((W.alloc (.cells (madeCells #[.int .i64 0] n) 3)).setCell ⟨s + 1 + 1, i, none⟩ (.slice (some ⟨W.heap.size, 0, none⟩) n n)) := by
  obtain ⟨h1, h2, h3, h4⟩ := hvm
  have hlt := h3.lt
  have hst := World.ownsRow.stored (h4.alloc (.cells (madeCells #[.int .i64 0] n) 3)) i (.slice (some ⟨W.heap.size, 0, none⟩) n n)
  rw [outRow_set] at hst
  have hg : W.grownBy ((W.alloc (.cells (madeCells #[.int .i64 0] n) 3)).setCell ⟨s + 1 + 1, i, none⟩ (.slice (some ⟨W.heap.size, 0, none⟩) n n)) (some (s + 1 + 1)) := grown_same (grown_but (World.grownBy_alloc W _ none) _) hst.2
  have hg2 : W.grownBy (W.alloc (.cells (madeCells #[.int .i64 0] n) 3)) none := World.grownBy_alloc W _ none
  refine ⟨?_, ⟨h1.kept hg (by simp; omega), h2.kept hg (by simp), h3.kept hg (by simp), hst.1⟩, fun j hj => World.ownsRow.kept (hvr j hj) hg (.inr ?_), hg, ?_⟩
  · have h0 := World.ownsRow_lit (e := 3) (size := 1) (base := s + 4) W (madeCells #[.int .i64 0] n) n (by omega) (by unfold maxLen; omega) (by rw [size_madeCells]; omega)
    rw [made_zero] at h0
    exact World.ownsRow.kept h0 hst.2 (.inr (by simp [Value.ownBlock]; omega))
  · have := (World.ownsRow.lt (hvr j hj) (R j) rfl).1
    simp [Value.ownBlock]; omega
  · have := hst.2.size
    simp at this ⊢
theorem made1_drew {es : List Ev} {s : Nat} {a : Option Addr} {len cap n : Nat} {R : Nat → Nat} {i : Nat} {W W1 : World} (h : Made1 es s a len cap n R i W W1) : Made1 es s a len cap n R i W W1.drew :=
  ⟨h.1, h.2.1, h.2.2.1, grown_same h.2.2.2.1 (grown_drew _ _), h.2.2.2.2⟩
end Go.Proofs.Ytjglbjiekndpeab
