/- A slice that lies anywhere in a block of the call's own, and what append does to it; which blocks stay as they were. -/
import Derived.Test.YtllbfaldhlfjeaaProg
import Derived.Maps.AppendAt
import Derived.Maps.OwnSet
import Derived.WalkKit
import Derived.WalkSpells
import Derived.Deep.Draws
namespace Go.Proofs.Ytllbfaldhlfjeaa
open Go.RowKit
set_option linter.unusedVariables false

def I64 (z : Int) : Prop := -9223372036854775808 ≤ z ∧ z ≤ 9223372036854775807
theorem i64_of {z : Int} (hz : (Lit.int .i64 z).wf = true) : I64 z := by
  have h2 : IntKind.i64.min ≤ z ∧ z ≤ IntKind.i64.max := by simpa [Lit.wf] using hz
  have e1 : IntKind.i64.min = -9223372036854775808 := by decide
  have e2 : IntKind.i64.max = 9223372036854775807 := by decide
  unfold I64
  omega
theorem wf_of {z : Int} (h : I64 z) : (Lit.int .i64 z).wf = true := by
  have e1 : IntKind.i64.min = -9223372036854775808 := by decide
  have e2 : IntKind.i64.max = 9223372036854775807 := by decide
  unfold I64 at h
  simp [Lit.wf]
  omega
theorem addr_add (b o j : Nat) : (⟨b, o, none⟩ : Addr).add j = ⟨b, o + j, none⟩ := by unfold Addr.add; split <;> simp_all
theorem al_old (w : World) (o : Obj) (i : Nat) (h : i < w.heap.size) : (w.alloc o).heap[i]? = w.heap[i]? := by
  show (w.heap.push o)[i]? = _
  rw [Array.getElem?_push, if_neg (Nat.ne_of_lt h)]
theorem al_new (w : World) (o : Obj) : (w.alloc o).heap[w.heap.size]? = some o := by
  show (w.heap.push o)[w.heap.size]? = _
  simp
theorem hidMk {p : Prop} (h : p) : Hid p := h

/-- All blocks but those of 'o' stay. -/
structure Keep (o : Nat → Prop) (W W2 : World) : Prop where
  os : W2.os = W.os
  tape : W2.tape = W.tape
  output : W2.output = W.output
  size : W.heap.size ≤ W2.heap.size
  block : ∀ k, k < W.heap.size → ¬ o k → W2.heap[k]? = W.heap[k]?
theorem Keep.refl (o : Nat → Prop) (W : World) : Keep o W W := ⟨rfl, rfl, rfl, Nat.le_refl _, fun _ _ _ => rfl⟩
theorem Keep.trans {o p q : Nat → Prop} {A B C : World} (h : Keep o A B) (k : Keep p B C) (h1 : ∀ i, i < A.heap.size → o i → q i) (h2 : ∀ i, i < A.heap.size → p i → q i) : Keep q A C :=
  ⟨k.os.trans h.os, k.tape.trans h.tape, k.output.trans h.output, Nat.le_trans h.size k.size, fun i hi hq => (k.block i (Nat.lt_of_lt_of_le hi h.size) (fun e => hq (h2 i hi e))).trans (h.block i hi (fun e => hq (h1 i hi e)))⟩
theorem Keep.mono {o q : Nat → Prop} {A B : World} (h : Keep o A B) (h1 : ∀ i, i < A.heap.size → o i → q i) : Keep q A B := ⟨h.os, h.tape, h.output, h.size, fun i hi hq => h.block i hi (fun e => hq (h1 i hi e))⟩
theorem Keep.of_grown {A B : World} {r : Option Nat} (h : A.grownBy B r) : Keep (fun k => some k = r) A B := ⟨h.os, h.tape, h.output, h.size, fun k hk hr => h.block k hk hr⟩
theorem Keep.of_below {A B : World} {m : Nat} (h : Below m A B) : Keep (fun k => m ≤ k) A B := ⟨h.os, h.tape, h.output, h.size, fun k hk hr => h.block k (by omega)⟩
theorem Keep.below {o : Nat → Prop} {A B : World} {m : Nat} (h : Keep o A B) (hm : m ≤ A.heap.size) (ho : ∀ k, k < m → ¬ o k) : Below m A B := ⟨h.os, h.tape, h.output, h.size, fun k hk => h.block k (by omega) (ho k hk)⟩
theorem Keep.alloc {o : Nat → Prop} {A B : World} (h : Keep o A B) (ob : Obj) : Keep o A (B.alloc ob) :=
  ⟨h.os, h.tape, h.output, by simp; exact Nat.le_trans h.size (Nat.le_succ _), fun k hk hr => (al_old B ob k (Nat.lt_of_lt_of_le hk h.size)).trans (h.block k hk hr)⟩
theorem Keep.drew {o : Nat → Prop} {A B : World} (h : Keep o A B) : Keep o A B.drew := ⟨h.os, h.tape, h.output, h.size, h.block⟩
theorem Keep.drewN {o : Nat → Prop} {A B : World} (h : Keep o A B) (m : Nat) : Keep o A (B.drewN m) := ⟨h.os, h.tape, h.output, h.size, h.block⟩
theorem Keep.grown {o : Nat → Prop} {A B C : World} {r : Option Nat} (h : Keep o A B) (g : B.grownBy C r) (hr : ∀ k, r = some k → k < A.heap.size → o k) : Keep o A C :=
  h.trans (Keep.of_grown g) (fun _ _ e => e) (fun i hi e => hr i e.symm hi)
theorem grown_setCell (A : World) (b i : Nat) (v : Value) : A.grownBy (A.setCell ⟨b, i, none⟩ v) (some b) :=
  ⟨rfl, rfl, rfl, by simp [World.setCell], fun k _ hk => Below.heap_setCell _ _ _ k (fun e => hk (by rw [e]))⟩
theorem Keep.setCell {o : Nat → Prop} {A B : World} (h : Keep o A B) (b i : Nat) (v : Value) (hb : b < A.heap.size → o b) : Keep o A (B.setCell ⟨b, i, none⟩ v) :=
  h.grown (grown_setCell B b i v) (fun k e hk => by cases e; exact hb hk)

/-- A slice that lies in a block that 'ok' allows: n elements of so many cells each. -/
def Seg (W : World) (ok : Nat → Prop) (e : TypeId) (size : Nat) (v : Value) (n : Nat) (xs : List Value) : Prop :=
  xs.length = n * size ∧ ((v = .slice none 0 0 ∧ n = 0) ∨
   ∃ g off cap cur, v = .slice (some ⟨g, off, none⟩) n cap ∧ ok g ∧ W.heap[g]? = some (.cells cur e (0, 0)) ∧ n ≤ cap ∧ cap ≤ maxLen ∧ off + cap * size ≤ cur.size ∧ ∀ j x, xs[j]? = some x → cur[off + j]? = some x)

variable {W W2 : World} {ok ok2 : Nat → Prop} {e : TypeId} {size n : Nat} {v : Value} {xs : List Value}

theorem Seg.nil (W : World) (ok : Nat → Prop) (e : TypeId) (size : Nat) : Seg W ok e size (.slice none 0 0) 0 [] := ⟨by simp, .inl ⟨rfl, rfl⟩⟩
theorem Seg.mono (h : Seg W ok e size v n xs) (hk : ∀ g, g < W.heap.size → ok g → ok2 g) : Seg W ok2 e size v n xs := by
  obtain ⟨h1, h2 | ⟨g, off, cap, cur, h2, h3, h4, h5⟩⟩ := h
  · exact ⟨h1, .inl h2⟩
  · exact ⟨h1, .inr ⟨g, off, cap, cur, h2, hk g (Array.getElem?_eq_some_iff.1 h4).1 h3, h4, h5⟩⟩
theorem Seg.keep {o : Nat → Prop} (h : Seg W ok e size v n xs) (hw : Keep o W W2) (hd : ∀ g, g < W.heap.size → ok g → ¬ o g) : Seg W2 ok e size v n xs := by
  obtain ⟨h1, h2 | ⟨g, off, cap, cur, h2, h3, h4, h5⟩⟩ := h
  · exact ⟨h1, .inl h2⟩
  · have hg := (Array.getElem?_eq_some_iff.1 h4).1
    exact ⟨h1, .inr ⟨g, off, cap, cur, h2, h3, (hw.block g hg (hd g hg h3)).trans h4, h5⟩⟩
theorem Seg.block (h : Seg W ok e size v n xs) {k : Nat} (hk : v.ownBlock = some k) : ok k ∧ k < W.heap.size := by
  obtain ⟨h1, ⟨rfl, _⟩ | ⟨g, off, cap, cur, rfl, h3, h4, h5⟩⟩ := h
  · simp [Value.ownBlock] at hk
  · simp [Value.ownBlock] at hk
    subst hk
    exact ⟨h3, (Array.getElem?_eq_some_iff.1 h4).1⟩
/-- With at least one element: where it lies. -/
theorem Seg.at (h : Seg W ok e size v n xs) (hn : 0 < n) : ∃ g off cap, v = .slice (some ⟨g, off, none⟩) n cap ∧ ok g ∧ g < W.heap.size ∧ n ≤ cap ∧ cap ≤ maxLen ∧
    (∀ j x, xs[j]? = some x → W.cell? ⟨g, off + j, none⟩ = some x) ∧ (∀ j, W.frozen? ⟨g, j, none⟩ = false) ∧
    (∀ (i : Nat) (x : Value), i < n * size → Seg (W.setCell ⟨g, off + i, none⟩ x) ok e size v n (xs.set i x)) := by
  obtain ⟨h1, ⟨_, h0⟩ | ⟨g, off, cap, cur, rfl, h3, h4, h5, h6, h7, h8⟩⟩ := h
  · omega
  · refine ⟨g, off, cap, rfl, h3, (Array.getElem?_eq_some_iff.1 h4).1, h5, h6, fun j x hx => ?_, fun j => frozen_of_row W g j cur e h4, fun i x hi => ?_⟩
    · rw [cell_of_row W g _ cur e (0, 0) h4]; exact h8 j x hx
    · refine ⟨by simp [h1], .inr ⟨g, off, cap, cur.setIfInBounds (off + i) x, rfl, h3, heap_setCell_same W g _ cur e x h4, h5, h6, by simpa using h7, fun j y hy => ?_⟩⟩
      rw [List.getElem?_set] at hy
      by_cases hji : i = j
      · subst hji
        have hil : i < xs.length := by omega
        simp [hil] at hy
        subst hy
        have hm : n * size ≤ cap * size := Nat.mul_le_mul_right _ h5
        rw [Array.getElem?_setIfInBounds_self_of_lt (by omega)]
      · rw [if_neg hji] at hy
        have hne : off + i ≠ off + j := by omega
        rw [Array.getElem?_setIfInBounds_ne hne]
        exact h8 j y hy

theorem run_append_room_at {P : Program} (w : World) (t ty e : TypeId) (i : TypeInfo) (ht : P.underlying t = some (.slice e)) (hi : P.info? e = some i)
    (g off sLen sCap : Nat) (cur : Array Value) (hg : w.heap[g]? = some (.cells cur e (0, 0)))
    (a : Addr) (m c : Nat) (news : List Value) (hl : news.length = m * i.size) (hnews : ∀ j u, news[j]? = some u → w.cell? (a.add j) = some u) (h1 : ∀ u ∈ news, u.oneCell' = true)
    (hroom : sLen + m ≤ sCap) (hfit : off + sLen * i.size + news.length ≤ cur.size) :
    (Builtin.append_ #[t, t] ty #[.slice (some ⟨g, off, none⟩) sLen sCap, .slice (some a) m c]).run P w =
      .ok (.slice (some ⟨g, off, none⟩) (sLen + m) sCap) (w.setRow g (cur.toList.take (off + sLen * i.size) ++ news ++ cur.toList.drop (off + sLen * i.size + news.length)).toArray) := by
  have hf := run_firstCells_some (P := P) w i.size m a m c news hl hnews
  have hst := run_storeCells_at P g (off + sLen * i.size) e news 0 cur w hg (by simpa using hfit) h1
  simp only [Nat.add_zero] at hst
  simp [Builtin.append_, run_underlying ht, sizeOf, typeInfo, hi, Builtin.lenOf, hroom, hf, addr_add, hst]

theorem run_append_seg {P : Program} (w : World) (t ty e : TypeId) (i : TypeInfo) (z : Value) (size bytes : Nat) (ht : P.underlying t = some (.slice e)) (hi : P.info? e = some i) (hz : i.zero = some z)
    (hsize : i.size = size) (hby : i.bytes = bytes) (hzs : z.cells.size = size) (hsz : 0 < size)
    (v : Value) (n : Nat) (xs : List Value) (hown : Seg w ok e size v n xs)
    (a : Addr) (m c : Nat) (news : List Value) (hl : news.length = m * size) (hnews : ∀ j u, news[j]? = some u → w.cell? (a.add j) = some u) (h1 : ∀ u ∈ news, u.oneCell' = true)
    (h63 : n + m ≤ maxLen) (hbytes : (n + m) * bytes ≤ 140737488355328) :
    ∃ v' w', (Builtin.append_ #[t, t] ty #[v, .slice (some a) m c]).run P w = .ok v' w' ∧ Seg w' (fun g => (v.ownBlock = some g ∧ ok g) ∨ g = w.heap.size) e size v' (n + m) (xs ++ news) ∧ w.grownBy w' v.ownBlock := by
  subst hsize
  subst hby
  have hsmall : n + m ≤ 9223372036854775807 := by simp only [maxLen] at h63; omega
  have hlen : (xs ++ news).length = (n + m) * i.size := by rw [List.length_append, hown.1, hl, Nat.add_mul]
  have grown : ∀ (old : Nat), old < n + m → ∀ (row : Option Nat) (ok2 : Nat → Prop), ok2 w.heap.size →
      Seg (w.drew.alloc (.cells (xs.toArray ++ news.toArray ++ Builtin.zeroCells z.cells (grownCap w (n + m) old e - (n + m))) e)) ok2 e i.size
        (.slice (some ⟨w.heap.size, 0, none⟩) (n + m) (grownCap w (n + m) old e)) (n + m) (xs ++ news) ∧
      w.grownBy (w.drew.alloc (.cells (xs.toArray ++ news.toArray ++ Builtin.zeroCells z.cells (grownCap w (n + m) old e - (n + m))) e)) row := by
    intro old ho row ok2 hok2
    have hge := grownCap_ge w (n + m) old e
    have hcm : grownCap w (n + m) old e ≤ maxLen := grownCap_le_maxLen w (n + m) old e h63
    refine ⟨⟨hlen, .inr ⟨w.heap.size, 0, _, _, rfl, hok2, al_new w.drew _, hge, hcm, ?_, ?_⟩⟩, ⟨rfl, rfl, rfl, by simp, fun k hk _ => al_old w.drew _ k hk⟩⟩
    · simp only [Array.size_append, List.size_toArray, size_zeroCells, hzs, hown.1, hl, ← Nat.add_mul, Nat.zero_add]
      apply Nat.le_of_eq
      congr 1
      omega
    · intro j x hx
      have hj := (List.getElem?_eq_some_iff.1 hx).1
      rw [Nat.zero_add, Array.getElem?_append_left (by simpa using hj)]
      simpa using hx
  rcases hown.2 with ⟨rfl, rfl⟩ | ⟨g, off, cap, cur, rfl, hbg, hg, hnc, hcm, hcs, htake⟩
  · have hx : xs = [] := List.eq_nil_of_length_eq_zero (by simpa using hown.1)
    subst hx
    by_cases hm : m = 0
    · subst hm
      have hn : news = [] := List.eq_nil_of_length_eq_zero (by simpa using hl)
      subst hn
      refine ⟨.slice none 0 0, w, ?_, Seg.nil w _ e i.size, ⟨rfl, rfl, rfl, Nat.le_refl _, fun _ _ _ => rfl⟩⟩
      simp [Builtin.append_, run_underlying ht, sizeOf, typeInfo, hi, Builtin.lenOf, Builtin.firstCells, loadCells, loadCellsFrom]
    · have hr := run_append_nil (P := P) w t ty e i z ht hi hz a m c news hl hnews (by omega) (by omega) (by have hb := hbytes; simp only [Nat.zero_add] at hb; omega)
      have hgr := grown 0 (by omega) (Value.ownBlock (.slice none 0 0)) (fun g => (Value.ownBlock (.slice none 0 0) = some g ∧ ok g) ∨ g = w.heap.size) (.inr rfl)
      simp only [Nat.zero_add, List.nil_append, Array.empty_append] at hgr ⊢
      exact ⟨_, _, hr, hgr.1, hgr.2⟩
  · by_cases hroom : n + m ≤ cap
    · have hmul : (n + m) * i.size ≤ cap * i.size := Nat.mul_le_mul_right _ hroom
      have hfit : off + n * i.size + news.length ≤ cur.size := by rw [hl]; rw [Nat.add_mul] at hmul; omega
      have hr := run_append_room_at (P := P) w t ty e i ht hi g off n cap cur hg a m c news hl hnews h1 hroom hfit
      refine ⟨_, _, hr, ⟨hlen, .inr ⟨g, off, cap, _, rfl, .inl ⟨rfl, hbg⟩, setRow_heap w g cur _ e _ hg, hroom, hcm, ?_, ?_⟩⟩, ⟨rfl, rfl, rfl, by simp, fun k _ hk => setRow_other w g k _ (fun e => hk (by simp [Value.ownBlock, e]))⟩⟩
      · simp only [List.size_toArray, List.length_append, List.length_take, List.length_drop, Array.length_toList]
        omega
      · intro j x hx
        have hj := (List.getElem?_eq_some_iff.1 hx).1
        rw [hlen, Nat.add_mul] at hj
        simp only [List.getElem?_toArray]
        by_cases hjx : j < xs.length
        · rw [List.getElem?_append_left hjx] at hx
          rw [hown.1] at hjx
          rw [List.append_assoc, List.getElem?_append_left (by simp; omega), List.getElem?_take_of_lt (by omega)]
          simpa using htake j x hx
        · have hxl := hown.1
          rw [List.getElem?_append_right (by omega)] at hx
          have h2 : j - xs.length < news.length := (List.getElem?_eq_some_iff.1 hx).1
          rw [List.getElem?_append_left (by simp; omega), List.getElem?_append_right (by simp; omega)]
          rw [← hx]
          congr 1
          simp
          omega
    · have holds : ∀ j u, xs[j]? = some u → w.cell? ((⟨g, off, none⟩ : Addr).add j) = some u := fun j u hu => by
        rw [addr_add, cell_of_row w g _ cur e (0, 0) hg]; exact htake j u hu
      have hr := run_append_grow (P := P) w t ty e i z ht hi hz ⟨g, off, none⟩ n cap xs hown.1 holds a m c news hl hnews (by omega) (by omega) (growslice_fits (by omega) hbytes)
      have hgr := grown cap (by omega) (Value.ownBlock (.slice (some ⟨g, off, none⟩) n cap)) (fun g' => (Value.ownBlock (.slice (some ⟨g, off, none⟩) n cap) = some g' ∧ ok g') ∨ g' = w.heap.size) (.inr rfl)
      exact ⟨_, _, hr, hgr.1, hgr.2⟩

/-- At the operation, for the walk. -/
theorem wpList_append_seg {P : Program} (w : World) {ops : Array Oper} {rest : List Oper} {o : Oper} {a : Act} {Q : Exit → Act → World → Prop} (hgd : o.guard = none) (s x : Operand) (t : TypeId)
    (ho : o.op = .call { callee := .builtin .append, args := #[s, x], argTypes := #[t, t] })
    (e : TypeId) (i : TypeInfo) (z : Value) (size bytes : Nat) (ht : P.underlying t = some (.slice e)) (hi : P.info? e = some i) (hz : i.zero = some z)
    (hsize : i.size = size) (hby : i.bytes = bytes) (hzs : z.cells.size = size) (hsz : 0 < size)
    (v : Value) (n : Nat) (xs : List Value) (hs : a.eval s = v) (hown : Seg w ok e size v n xs)
    (ad : Addr) (m c : Nat) (news : List Value) (hx : a.eval x = .slice (some ad) m c) (hl : news.length = m * size) (hnews : ∀ j u, news[j]? = some u → w.cell? (ad.add j) = some u) (h1 : ∀ u ∈ news, u.oneCell' = true)
    (h63 : n + m ≤ maxLen) (hbytes : (n + m) * bytes ≤ 140737488355328)
    (h : ∀ v' w', Seg w' (fun g => (v.ownBlock = some g ∧ ok g) ∨ g = w.heap.size) e size v' (n + m) (xs ++ news) → w.grownBy w' v.ownBlock → wpList P ops Q rest (a.put o.dst v') w') :
    wpList P ops Q (o :: rest) a w := by
  refine wpList_plain hgd fun K hK => ?_
  obtain ⟨v', w', hr, h2, h3⟩ := run_append_seg (P := P) w t o.type e i z size bytes ht hi hz hsize hby hzs hsz v n xs hown ad m c news hl hnews h1 h63 hbytes
  unfold Oper.wp execOp
  simp only [ho, resolve, invoke, builtin, Sem.run_bind, Sem.run_pure, Result.andThen_ok, List.map_toArray, List.map_cons, List.map_nil, hs, hx, hr]
  exact hK _ _ (h v' w' h2 h3)
end Go.Proofs.Ytllbfaldhlfjeaa
