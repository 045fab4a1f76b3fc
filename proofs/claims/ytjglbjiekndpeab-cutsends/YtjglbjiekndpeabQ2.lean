/- folkmootkeep.CutsLattice, walked. -/
import Derived.Test.YtjglbjiekndpeabQ1
namespace Go.Proofs.Ytjglbjiekndpeab
open Go.RowKit Go.Shelf
set_option linter.unusedVariables false

theorem wholeE_evs {N : Int} {es : List Ev} {zs : List Int} (h : evsCode N es ≠ 0) : wholeE N es zs = evsCode N es := by unfold wholeE; rw [if_pos h]
theorem wholeE_cut {N : Int} {es : List Ev} {zs : List Int} (h : evsCode N es = 0) : wholeE N es zs = cutCode N es zs := by unfold wholeE; rw [if_neg (by simpa using h)]
/-- A whole cut that a call made. -/
theorem whole_made {n : Nat} {a : Option Addr} {len cap : Nat} {es : List Ev} {w : World} (h : CameEv w a len cap es) (hz : evsCode (n : Int) es = 0) {f : Nat → Nat} (hf : ∀ p, p < n → f p ≤ pc es p es.length) {base g c : Nat} (hr : RowC w base g n c f) :
    Calls Try.prog 7 #[.int .i64 (n : Int), .slice a len cap, .slice (some ⟨g, 0, none⟩) n c] w fun e W2 => e = .returned (.tuple #[.bool (wholeB es f), .int .i64 0]) ∧ Below w.heap.size w W2 := by
  have hv := valid_of hz
  have hn6 : n ≤ 6 := by have := hv.2.1; omega
  have h60 : es.length ≤ 60 := by have := hv.2.2.1; omega
  have hb : wholeB es (atN (rowI n f)) = wholeB es f := by
    rw [Bool.eq_iff_iff, wholeB_iff, wholeB_iff]
    exact ⟨whole_congr hv rfl fun p hp => atN_rowI hp, whole_congr hv rfl fun p hp => (atN_rowI hp).symm⟩
  have := whole_ok n a len cap es w h (some ⟨g, 0, none⟩) n c (rowI n f) (came_rowC hr hn6 fun p hp => by have := hf p hp; have := pc_bound es p es.length; omega) hz (cut_rowI hf)
  rw [hb] at this
  exact this
theorem whole_b {n : Nat} {a : Option Addr} {len cap : Nat} {es : List Ev} {w : World} (h : CameEv w a len cap es) (hz : evsCode (n : Int) es = 0) {f : Nat → Nat} (hf : ∀ p, p < n → f p ≤ pc es p es.length) (hw : WholeC es f) {base g c : Nat} (hr : RowC w base g n c f) :
    Calls Try.prog 7 #[.int .i64 (n : Int), .slice a len cap, .slice (some ⟨g, 0, none⟩) n c] w fun e W2 => e = .returned (.tuple #[.bool true, .int .i64 0]) ∧ Below w.heap.size w W2 := by
  have := whole_made h hz hf hr
  rw [wholeB_iff.2 hw] at this
  exact this
theorem nr_whole {es : List Ev} {f h : Nat → Nat} (hf : WholeC es f) (hh : WholeC es h) (great : Bool) : WholeC es (nr great f h) := by
  cases great
  · exact whole_min hf hh
  · exact whole_max hf hh
theorem nr_le {f h : Nat → Nat} {p B : Nat} (h1 : f p ≤ B) (h2 : h p ≤ B) (great : Bool) : nr great f h p ≤ B := by
  unfold nr; split <;> omega

theorem leN_rel {n g1 o1 c1 g2 o2 c2 : Nat} {f h : Nat → Nat} {w : World} (h1 : ∀ p, p < n → w.cell? ⟨g1, o1 + p, none⟩ = some (.int .i64 ((f p : Nat) : Int))) (h2 : ∀ p, p < n → w.cell? ⟨g2, o2 + p, none⟩ = some (.int .i64 ((h p : Nat) : Int))) (m1 : n ≤ 6) :
    Calls Try.prog 11 #[.slice (some ⟨g1, o1, none⟩) n c1, .slice (some ⟨g2, o2, none⟩) n c2] w fun e w2 => e = .returned (.bool (leN n f h)) ∧ Below w.heap.size w w2 :=
  (leq_cells g1 o1 g2 o2 n c1 c2 f h w h1 h2 (by omega)).mono fun e w2 ⟨p, m, q⟩ => ⟨p, by rw [q]; exact drew_below w m⟩
theorem rowI_cell0 {w : World} {base g n : Nat} {f : Nat → Nat} (h : RowI w base g n f) (p : Nat) (hp : p < n) : w.cell? ⟨g, 0 + p, none⟩ = some (.int .i64 ((f p : Nat) : Int)) := by rw [Nat.zero_add]; exact rowI_cell h hp

end Go.Proofs.Ytjglbjiekndpeab
