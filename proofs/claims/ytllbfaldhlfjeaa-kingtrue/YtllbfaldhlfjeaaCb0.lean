/- What plays of messages have in common: steps as they come in, slices that grow, maps by pairs. -/
import Derived.Test.YtllbfaldhlfjeaaT2
import Derived.Test.YtllbfaldhlfjeaaR3
import Derived.DeepKeys3
import Derived.WalkLawsBesides
import Derived.Outline
import Derived.Deep.RegionLaw
namespace Go.Proofs.Ytllbfaldhlfjeaa
open Go.RowKit Go.WideMaps
set_option linter.unusedVariables false

/-- A step of a script. -/
structure Cst where
  kind : Int
  who : Int
  msg : Int
deriving Inhabited
/-- Steps as a slice that came in. -/
def CRow (w : World) (b off : Nat) (ps : List Cst) : Prop := ∀ (j : Nat) (p : Cst), ps[j]? = some p →
  w.cell? ⟨b, off + j * 3, none⟩ = some (.int .i64 p.kind) ∧ w.cell? ⟨b, off + j * 3 + 1, none⟩ = some (.int .i64 p.who) ∧ w.cell? ⟨b, off + j * 3 + 2, none⟩ = some (.int .i64 p.msg)
def CameC (w : World) (a : Option Addr) (len cap : Nat) (ps : List Cst) : Prop :=
  ps.length = len ∧ len ≤ cap ∧ len ≤ maxLen ∧ (len = 0 ∨ ∃ b off, a = some ⟨b, off, none⟩ ∧ b < w.heap.size ∧ CRow w b off ps)
theorem CRow.keep {o : Nat → Prop} {w w' : World} {b off : Nat} {ps : List Cst} (h : CRow w b off ps) (hb : b < w.heap.size) (hk : Keep o w w') (ho : ¬ o b) : CRow w' b off ps := fun j p hj => by
  have e : ∀ k, w'.cell? ⟨b, k, none⟩ = w.cell? ⟨b, k, none⟩ := fun k => World.cell?_of_block (hk.block b hb ho)
  rw [e, e, e]
  exact h j p hj
theorem CameC.keep {o : Nat → Prop} {w w' : World} {a : Option Addr} {len cap : Nat} {ps : List Cst} (h : CameC w a len cap ps) (hb : Keep o w w') (ho : ∀ k, k < w.heap.size → ¬ o k) : CameC w' a len cap ps := by
  obtain ⟨h1, h2, h3, h4⟩ := h
  refine ⟨h1, h2, h3, ?_⟩
  rcases h4 with h4 | ⟨b, off, e, hr, hc⟩
  · exact .inl h4
  · exact .inr ⟨b, off, e, Nat.lt_of_lt_of_le hr hb.size, hc.keep hr hb (ho b hr)⟩

def natsL (xs : List Nat) : List Value := xs.map fun (z : Nat) => .int .i64 (z : Int)
/-- A map by pairs that are structs. -/
structure PairKey (T K E : TypeId) (z : Value) : Prop where
  law : WideMaps.KeyLaw Try.prog K
  hT : Try.prog.underlying T = some (.map K E)
  zero : ∀ w, (zeroValue E).run Try.prog w = .ok z w
  key : ∀ {i j : Nat}, i < 1000 → j < 1000 → keyOf Try.prog K (pairV i j) = some (pairL i j)
variable {T K E : TypeId} {z : Value} {W W2 : World} {M c : Nat} {f : Nat → Nat → Value}
theorem PairKey.keyed (h : PairKey T K E z) : Maps.Keyed Try.prog K := Maps.Keyed.of_law h.law
theorem PairKey.inj (h : PairKey T K E z) {i j a b : Nat} (hi : i < 1000) (hj : j < 1000) (ha : a < 1000) (hb : b < 1000) (e : pairL i j = pairL a b) : i = a ∧ j = b := by
  have h1 := h.keyed.inj (h.key hi hj) (e ▸ h.key ha hb)
  unfold pairV at h1
  simp at h1
  omega
theorem Pairs.lookK (h : Pairs W K z M c f) (p : PairKey T K E z) {i j : Nat} (hi : i < 1000) (hj : j < 1000) :
    (Instr.lookup T (.map (some M)) (pairV i j) false).run Try.prog W = .ok (f i j) W := by
  obtain ⟨D, h1, h2⟩ := h
  obtain ⟨v, ps, hr, hv⟩ := h1.lookup (zd := .held z) (zp := []) p.keyed p.hT (p.zero W) rfl (p.key hi hj)
  rw [h2 i j hi hj] at hv
  simp only [heldR, Option.some.injEq, Prod.mk.injEq, DataW.held.injEq] at hv
  rw [hr, hv.1]
theorem Pairs.storeK (h : Pairs W K z M c f) (p : PairKey T K E z) (hc : c < maxLen) {i j : Nat} (hi : i < 1000) (hj : j < 1000) (v : Value) :
    ∃ W2, (Instr.mapUpdate T (.map (some M)) (pairV i j) v).run Try.prog W = .ok () W2 ∧ Pairs W2 K z M (c + 1) (upd2 f i j v) ∧ W.grownBy W2 (some M) := by
  obtain ⟨D, h1, h2⟩ := h
  obtain ⟨W2, hr, h3, h4⟩ := h1.update (d := .held v) (ps := []) p.keyed p.hT hc (p.key hi hj) rfl
  refine ⟨W2, hr, ⟨_, h3, fun a b ha hb => ?_⟩, h4⟩
  by_cases e : a = i ∧ b = j
  · obtain ⟨rfl, rfl⟩ := e
    rw [upd2_same]
    exact Maps.atKey_put_same h1.isMap (p.keyed.key (p.key ha hb)) _ _
  · rw [upd2_other _ _ e, Maps.atKey_put_other (fun he => e (p.inj ha hb hi hj he))]
    exact h2 a b ha hb

/-- append to a Seg, as one step of a region that draws. -/
theorem step_append_seg {P : Program} {ops : Array Oper} {o : Oper} {a : Act} {w : World} {KK : Act → World → Prop} {Q : Exit → Act → World → Prop} {EE : Prop} {ok : Nat → Prop}
    (hg : o.guard = none) (s x : Operand) (t : TypeId) (hop : o.op = .call { callee := .builtin .append, args := #[s, x], argTypes := #[t, t] })
    (e : TypeId) (i : TypeInfo) (z : Value) (size bytes : Nat) (ht : P.underlying t = some (.slice e)) (hi : P.info? e = some i) (hz : i.zero = some z)
    (hsize : i.size = size) (hby : i.bytes = bytes) (hzs : z.cells.size = size) (hsz : 0 < size)
    (v : Value) (n : Nat) (xs : List Value) (hs : a.eval s = v) (hown : Seg w ok e size v n xs)
    (ad : Addr) (m c : Nat) (news : List Value) (hx : a.eval x = .slice (some ad) m c) (hl : news.length = m * size) (hnews : ∀ j u, news[j]? = some u → w.cell? (ad.add j) = some u) (h1 : ∀ u ∈ news, u.oneCell' = true)
    (h63 : n + m ≤ maxLen) (hbytes : (n + m) * bytes ≤ 140737488355328)
    (h : ∀ v' w', Seg w' (fun g => (v.ownBlock = some g ∧ ok g) ∨ g = w.heap.size) e size v' (n + m) (xs ++ news) → w.grownBy w' v.ownBlock → KK (a.put o.dst v') w') :
    if Region.wanted o (yielded ops a.tmps) = true then Oper.wp P o a w KK Q else EE := by
  have hw : Region.wanted o (yielded ops a.tmps) = true := by simp [Region.wanted, hg]
  rw [if_pos hw]
  obtain ⟨v', w', hr, h2, h3⟩ := run_append_seg (P := P) w t o.type e i z size bytes ht hi hz hsize hby hzs hsz v n xs hown ad m c news hl hnews h1 h63 hbytes
  unfold Oper.wp
  simp [execOp, hop, resolve, invoke, builtin, hs, hx, hr, Result.andThen]
  exact h v' w' h2 h3

theorem oper_append_seg {P : Program} {o : Oper} {a : Act} {w : World} {KK : Act → World → Prop} {Q : Exit → Act → World → Prop} {ok : Nat → Prop}
    (s x : Operand) (t : TypeId) (hop : o.op = .call { callee := .builtin .append, args := #[s, x], argTypes := #[t, t] })
    (e : TypeId) (i : TypeInfo) (z : Value) (size bytes : Nat) (ht : P.underlying t = some (.slice e)) (hi : P.info? e = some i) (hz : i.zero = some z)
    (hsize : i.size = size) (hby : i.bytes = bytes) (hzs : z.cells.size = size) (hsz : 0 < size)
    (v : Value) (n : Nat) (xs : List Value) (hs : a.eval s = v) (hown : Seg w ok e size v n xs)
    (ad : Addr) (m c : Nat) (news : List Value) (hx : a.eval x = .slice (some ad) m c) (hl : news.length = m * size) (hnews : ∀ j u, news[j]? = some u → w.cell? (ad.add j) = some u) (h1 : ∀ u ∈ news, u.oneCell' = true)
    (h63 : n + m ≤ maxLen) (hbytes : (n + m) * bytes ≤ 140737488355328)
    (h : ∀ v' w', Seg w' (fun g => (v.ownBlock = some g ∧ ok g) ∨ g = w.heap.size) e size v' (n + m) (xs ++ news) → w.grownBy w' v.ownBlock → KK (a.put o.dst v') w') :
    Oper.wp P o a w KK Q := by
  obtain ⟨v', w', hr, h2, h3⟩ := run_append_seg (P := P) w t o.type e i z size bytes ht hi hz hsize hby hzs hsz v n xs hown ad m c news hl hnews h1 h63 hbytes
  unfold Oper.wp
  simp [execOp, hop, resolve, invoke, builtin, hs, hx, hr, Result.andThen]
  exact h v' w' h2 h3

theorem cInfoInt : (Try.prog.info? 3).map (fun i => (i.zero, i.size, i.bytes)) = some (some (.int .i64 0), 1, 8) := by kernel_rfl
theorem cOne (x : Int) : ∀ u ∈ [Value.int .i64 x], u.oneCell' = true := by intro u hu; simp at hu; subst hu; rfl
theorem cTwo (x y : Int) : ∀ u ∈ [Value.int .i64 x, Value.int .i64 y], u.oneCell' = true := by intro u hu; simp at hu; rcases hu with rfl | rfl <;> rfl
theorem cCell1 (w : World) (x : Value) (t : TypeId) (g : Nat) (hg : w.heap.size = g) : ∀ j u, [x][j]? = some u → (w.alloc (.cells #[x] t)).cell? ((⟨g, 0, none⟩ : Addr).add j) = some u := by
  subst hg; exact cell_one_new w x t
theorem cCell2 (w : World) (x y : Value) (t : TypeId) (g : Nat) (hg : w.heap.size = g) : ∀ j u, [x, y][j]? = some u → (w.alloc (.cells #[x, y] t)).cell? ((⟨g, 0, none⟩ : Addr).add j) = some u := by
  subst hg
  intro j u hu
  rw [addr_add, cell_of_row _ _ _ _ _ _ (al_new w (.cells #[x, y] t))]
  simpa using hu
theorem segAlloc {W : World} {ok : Nat → Prop} {e : TypeId} {size n : Nat} {v : Value} {xs : List Value} (h : Seg W ok e size v n xs) (o : Obj) : Seg (W.alloc o) ok e size v n xs := h.keep ((Keep.refl (fun _ => False) W).alloc o) (fun _ _ _ e => e)
theorem segDrew {W : World} {ok : Nat → Prop} {e : TypeId} {size n : Nat} {v : Value} {xs : List Value} (h : Seg W ok e size v n xs) : Seg W.drew ok e size v n xs := h.keep ((Keep.refl (fun _ => False) W).drew) (fun _ _ _ e => e)
theorem segForm {W : World} {ok : Nat → Prop} {e : TypeId} {size n : Nat} {v : Value} {xs : List Value} (h : Seg W ok e size v n xs) : ∃ a c, v = .slice a n c := by
  obtain ⟨_, ⟨h1, h2⟩ | ⟨g, off, cap, cur, h1, _⟩⟩ := h
  · subst h2; exact ⟨_, _, h1⟩
  · exact ⟨_, _, h1⟩

theorem CameC.take {w : World} {a : Option Addr} {len cap : Nat} {ps : List Cst} (h : CameC w a len cap ps) {m : Nat} (hm : m ≤ len) : CameC w a m cap (ps.take m) := by
  obtain ⟨h1, h2, h3, h4⟩ := h
  refine ⟨by rw [List.length_take]; omega, by omega, by omega, ?_⟩
  rcases h4 with h4 | ⟨b, off, h5, h6, h7⟩
  · exact .inl (by omega)
  · exact .inr ⟨b, off, h5, h6, fun j z hz => h7 j z (by rw [List.getElem?_take] at hz; split at hz <;> simp_all)⟩
/-- The steps that sent, of the first k. -/
def sentTo (ps : List Cst) (cd : Nat → Int) : Nat → List Nat
  | 0 => []
  | k + 1 => if (ps.getD k ⟨0, 0, 0⟩).kind = 1 ∧ cd k = 0 then sentTo ps cd k ++ [k] else sentTo ps cd k
theorem sentTo_len (ps : List Cst) (cd : Nat → Int) : ∀ k, (sentTo ps cd k).length ≤ k
  | 0 => Nat.le_refl _
  | k + 1 => by
    have := sentTo_len ps cd k
    unfold sentTo
    split
    · simp; omega
    · omega
theorem sentTo_lt (ps : List Cst) (cd : Nat → Int) : ∀ k x, x ∈ sentTo ps cd k → x < k
  | 0, x, h => by simp [sentTo] at h
  | k + 1, x, h => by
    unfold sentTo at h
    split at h
    · rw [List.mem_append] at h
      rcases h with h | h
      · have := sentTo_lt ps cd k x h; omega
      · simp at h; omega
    · have := sentTo_lt ps cd k x h; omega
end Go.Proofs.Ytllbfaldhlfjeaa
