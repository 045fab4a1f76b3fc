/- Generals: maps of numbers in memory; what a value is, a way that goes on, what is sent. -/
import Derived.Test.YtekbglmoibglnaaGf0
import Derived.Maps.RangeWalk
import Derived.Maps.OwnOps
namespace Go.Proofs.Ytekbglmoibglnaa
open Go.RowKit Go.Maps
set_option linter.unusedVariables false

theorem lawG : Keyed Try.prog 3 := int_keyed Try.underlying3
theorem zeroG (w : World) : (zeroValue 42).run Try.prog w = .ok (.int .i64 0) w := by kernel_rfl
def atG (D : DataW Unit) (f : Int → Option Int) : Prop := ∀ z zd, D.atKey (.int .i64 z) zd = match f z with | some v => .lit (.int .i64 v) | none => zd
/-- Block M is a map of numbers; f says what it has at each. -/
def MapF (W : World) (M c : Nat) (f : Int → Option Int) : Prop := ∃ D : DataW Unit, W.ownsMap Try.prog 3 (plainElem Try.prog 42) M c D ∧ atG D f
variable {W W2 : World} {M c : Nat} {f : Int → Option Int}
theorem MapF.made (w : World) : MapF (w.alloc (.map #[] 0)) w.heap.size 0 (fun _ => none) := ⟨.map [], World.ownsMap_made w _ _ _, fun _ _ => rfl⟩
theorem MapF.lt (h : MapF W M c f) : M < W.heap.size := let ⟨_, h1, _⟩ := h; h1.lt
theorem MapF.keep {o : Nat → Prop} (h : MapF W M c f) (hw : Keep o W W2) (hM : ¬ o M) : MapF W2 M c f := by
  obtain ⟨D, ⟨es, clock, hb, r⟩, h2⟩ := h
  exact ⟨D, ⟨es, clock, (hw.block M (Array.getElem?_eq_some_iff.1 hb).1 hM).trans hb, r⟩, h2⟩
theorem MapF.still (h : MapF W M c f) (hw : Stil W W2) : MapF W2 M c f := h.keep hw (fun e => e)
theorem MapF.kept {row : Option Nat} (h : MapF W M c f) (hg : W.grownBy W2 row) (hne : some M ≠ row) : MapF W2 M c f := by
  obtain ⟨D, h1, h2⟩ := h
  exact ⟨D, h1.kept hg hne, h2⟩
theorem atG_wf {D : DataW Unit} (h1 : W.ownsMap Try.prog 3 (plainElem Try.prog 42) M c D) (h2 : atG D f) {z v : Int} (hz : I64 z) (e : f z = some v) : (Lit.int .i64 v).wf = true := by
  obtain ⟨v2, _, hat, hwf⟩ := h1.lookup_int lawG Try.underlying40 Try.underlying42 (zeroG _) (keyOf_int_mk Try.underlying3 (wf_of hz))
  rw [h2, e] at hat
  simp at hat
  rw [hat]; exact hwf
theorem MapF.look (h : MapF W M c f) {z : Int} (hz : I64 z) : (Instr.lookup 40 (.map (some M)) (.int .i64 z) false).run Try.prog W = .ok (.int .i64 ((f z).getD 0)) W := by
  obtain ⟨D, h1, h2⟩ := h
  obtain ⟨v, hrun, hat, hwf⟩ := h1.lookup_int lawG Try.underlying40 Try.underlying42 (zeroG _) (keyOf_int_mk Try.underlying3 (wf_of hz))
  rw [hrun]
  rw [h2] at hat
  cases e : f z with
  | none => rw [e] at hat; simp at hat; rw [hat]; rfl
  | some v2 => rw [e] at hat; simp at hat; rw [hat]; rfl
theorem atG_put {D : DataW Unit} (hm : IsMap D) (h : atG D f) (x v : Int) : atG (D.put (.int .i64 x) (.lit (.int .i64 v))) (updI f x (some v)) := by
  intro z zd
  unfold updI
  by_cases e : z = x
  · subst e
    rw [if_pos rfl]
    have hk : WideAt.IsKeyLit (.int .i64 z) := trivial
    exact atKey_put_same hm hk _ _
  · rw [if_neg e]
    exact (atKey_put_other (fun h2 => e (by injection h2)) _ _).trans (h z zd)
theorem MapF.store (h : MapF W M c f) (hc : c < maxLen) {x v : Int} (hx : I64 x) (hv : I64 v) :
    ∃ W2, (Instr.mapUpdate 40 (.map (some M)) (.int .i64 x) (.int .i64 v)).run Try.prog W = .ok () W2 ∧ MapF W2 M (c + 1) (updI f x (some v)) ∧ W.grownBy W2 (some M) := by
  obtain ⟨D, h1, h2⟩ := h
  obtain ⟨W2, hr, h3, h4⟩ := h1.update lawG Try.underlying40 hc (keyOf_int_mk Try.underlying3 (wf_of hx)) (plainElem_int Try.underlying42 (wf_of hv))
  exact ⟨W2, hr, ⟨_, h3, atG_put h1.isMap h2 x v⟩, h4⟩
theorem atG_has {D : DataW Unit} (h : atG D f) {z v : Int} (e : f z = some v) : Maps.has D (.int .i64 z) = true :=
  has_true_of_atKey (y := .lit (.int .i64 v)) (fun zd => by rw [h, e])
theorem accM_start {D : DataW Unit} (g : Int → Option Int) (h : atG D f) : accM g f (Maps.has D) = g := by
  funext z
  unfold accM
  cases e : f z with
  | none => rfl
  | some v => simp [atG_has h e]
theorem outM_start {D : DataW Unit} (h : atG D f) : outM f (Maps.has D) = fun _ => none := by
  funext z
  unfold outM
  cases e : f z with
  | none => rfl
  | some v => simp [atG_has h e]
theorem atG_hit {D : DataW Unit} (h : atG D f) {x v : Int} (hat : ∀ zd, D.atKey (.int .i64 x) zd = .lit (.int .i64 v)) : f x = some v := by
  have h1 := h x (.lit (.int .i64 v))
  have h2 := h x .nil
  rw [hat] at h1 h2
  cases e : f x with
  | none => rw [e] at h2; cases h2
  | some u => rw [e] at h1; simp at h1; rw [h1]

set_option maxHeartbeats 400000 in
theorem valueOf_any (x : Bool) (w : World) : Calls Try.prog 14 #[.bool x] w fun e w' => e = .returned (.int .i64 (sgn x)) ∧ w' = w := by
  cases x
  · go_enter Try.func14, Try.ntmps14
    go_wp2
    go_ret
    exact ⟨rfl, rfl⟩
  · go_enter Try.func14, Try.ntmps14
    go_wp2
    go_ret
    exact ⟨rfl, rfl⟩
/-- A way: its last one, and its code. -/
def wayV (l c : Nat) : Value := .agg #[.int .i64 (l : Int), .int .i64 (c : Int)]
set_option maxHeartbeats 800000 in
theorem with_any (l c i : Nat) (hc : c ≤ 10000) (hi : i ≤ 10) (w : World) :
    Calls Try.prog 15 #[wayV l c, .int .i64 (i : Int)] w fun e w' => e = .returned (wayV i (7 * c + i + 1)) ∧ Stil w w' := by
  unfold wayV
  go_enter Try.func15, Try.ntmps15
  go_wp2
  refine bodyPost_ret (results_cell_row (P := Try.prog) rfl _ _ (w.heap.size + 1) 45 #[.int .i64 (i : Int), .int .i64 (7 * (c : Int) + (i : Int) + 1)] (0, 0) _ rfl (by simpa using al_new (w.alloc (.cells #[.int .i64 (l : Int), .int .i64 (c : Int)] 45)) _) Try.underlying45 rfl (by kernel_rfl)) rfl ?_
  exact ⟨by rw [show ((7 * c + i + 1 : Nat) : Int) = 7 * (c : Int) + (i : Int) + 1 by omega], ((Keep.refl _ w).alloc _).alloc _⟩
theorem box2_cells (w : World) (u v : Value) (t : TypeId) : (w.alloc (.cells #[u, v] t)).cell? ⟨w.heap.size, 0, none⟩ = some u ∧ (w.alloc (.cells #[u, v] t)).cell? ⟨w.heap.size, 1, none⟩ = some v := by
  have h := al_new w (.cells #[u, v] t)
  exact ⟨by rw [cell_of_row _ _ _ _ _ _ h]; rfl, by rw [cell_of_row _ _ _ _ _ _ h]; rfl⟩
theorem shr_bit (x i : Nat) : ((x / 2 ^ i &&& 1 : Nat) : Int) = if x.testBit i = true then 1 else 0 := by
  have h : x.testBit i = decide (x / 2 ^ i % 2 = 1) := by
    rw [Nat.testBit_eq_decide_div_mod_eq]
  rw [h, Nat.and_one_is_mod]
  generalize x / 2 ^ i = y
  rcases Nat.mod_two_eq_zero_or_one y with e | e <;> simp [e]
theorem shr_cast (x i : Nat) : (x : Int) / 2 ^ i = ((x / 2 ^ i : Nat) : Int) := by simp
theorem shr32 (x i : Nat) (hx : x < 4294967296) : (bits BinOp.and IntKind.u32 ((x : Int) / 2 ^ i) 1 == 0) = !x.testBit i := by
  rw [shr_cast, show (1 : Int) = ((1 : Nat) : Int) from rfl, u32_and_nat _ 1 (Nat.lt_of_le_of_lt (Nat.div_le_self _ _) hx) (by decide), shr_bit]
  cases x.testBit i <;> rfl
theorem shr64 (x i : Nat) (hx : x < 18446744073709551616) : (bits BinOp.and IntKind.u64 ((x : Int) / 2 ^ i) 1 == 1) = x.testBit i := by
  rw [shr_cast, show (1 : Int) = ((1 : Nat) : Int) from rfl, u64_and_nat _ 1 (Nat.lt_of_le_of_lt (Nat.div_le_self _ _) hx) (by decide), shr_bit]
  cases x.testBit i <;> rfl
set_option maxHeartbeats 800000 in
theorem send_any (T L l c j : Nat) (v : Int) (hT : T < 4294967296) (hL : L < 18446744073709551616) (hl : l < 7) (hc : c ≤ 10000) (hj : j < 7) (w : World) :
    Calls Try.prog 18 #[.agg #[.int .u32 (T : Int), .int .u64 (L : Int)], .int .i64 v, wayV l c, .int .i64 (j : Int)] w fun e w' => e = .returned (.int .i64 (if T.testBit l = true then sgn (L.testBit ((7 * c + j) % 64)) else v)) ∧ Stil w w' := by
  unfold wayV
  have h1 : (l : Int) ≤ 32 := by omega
  have hb := shr32 T l hT
  have hS : Hid (Stil w ((w.alloc (.cells #[.int .u32 (T : Int), .int .u64 (L : Int)] 39)).alloc (.cells #[.int .i64 (l : Int), .int .i64 (c : Int)] 45))) := ((Keep.refl _ w).alloc _).alloc _
  cases ht : T.testBit l
  · rw [ht] at hb
    simp only [Bool.not_false] at hb
    clear ht
    simp only [Bool.false_eq_true, if_false]
    go_enter Try.func18, Try.ntmps18
    go_wp2
    go_ret
    exact ⟨rfl, hS.out⟩
  · rw [ht] at hb
    simp only [Bool.not_true] at hb
    clear ht
    obtain ⟨r, hr⟩ : ∃ r, r = (7 * c + j) % 64 := ⟨_, rfl⟩
    have r1 : (7 * (c : Int) + (j : Int)) % 64 = (r : Int) := by omega
    have r2 : (7 * (c : Int) + (j : Int)).tmod 64 = (r : Int) := by rw [Int.tmod_eq_emod_of_nonneg (by omega)]; exact r1
    have r3 : r < 64 := by rw [hr]; exact Nat.mod_lt _ (by omega)
    have r4 : (r : Int) ≤ 64 := by omega
    rw [← hr]
    have hb2 := shr64 L r hL
    clear hr
    simp only [if_true]
    go_enter Try.func18, Try.ntmps18
    go_wp2_with (go_at_call 14; refine (valueOf_any _ _).mono ?_; rintro e w2 ⟨rfl, rfl⟩)
    go_ret
    exact ⟨rfl, hS.out⟩
end Go.Proofs.Ytekbglmoibglnaa
