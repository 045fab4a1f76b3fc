/- Events in memory, and what is wrong with them: plain facts; no program is named here. -/
import Derived.Below
import Derived.WalkKit
namespace Go.Proofs.Ytjglbjiekndpeab
open Go.RowKit

theorem ret_bool {a b : Bool} (h : a = b) : Ending.returned (.bool a) = .returned (.bool b) := by rw [h]
theorem ret_int {k : IntKind} {a b : Int} (h : a = b) : Ending.returned (.int k a) = .returned (.int k b) := by rw [h]
theorem hidMk {p : Prop} (h : p) : Hid p := h

/-- An event: its kind, its process, and of a taking the place of the sending. -/
structure Ev where
  kind : Int
  who : Int
  of : Int
deriving Inhabited

/-- A number that an int of 64 bits holds. -/
def I64 (z : Int) : Prop := -9223372036854775808 ≤ z ∧ z ≤ 9223372036854775807
def Ev.fits (e : Ev) : Prop := I64 e.kind ∧ I64 e.who ∧ I64 e.of

/-- Events stand in a block of the heap, three cells each. -/
def EvRow (w : World) (b off : Nat) (es : List Ev) : Prop :=
  b < w.heap.size ∧ (∀ e ∈ es, e.fits) ∧ ∀ (j : Nat) (e : Ev), es[j]? = some e →
    w.cell? ⟨b, off + j * 3, none⟩ = some (.int .i64 e.kind) ∧ w.cell? ⟨b, off + j * 3 + 1, none⟩ = some (.int .i64 e.who) ∧ w.cell? ⟨b, off + j * 3 + 2, none⟩ = some (.int .i64 e.of)

theorem EvRow.below {w w' : World} {b off : Nat} {es : List Ev} (h : EvRow w b off es) {n : Nat} (hn : b < n) (hb : Below n w w') : EvRow w' b off es := by
  refine ⟨Nat.lt_of_lt_of_le h.1 hb.size, h.2.1, fun j e hj => ?_⟩
  obtain ⟨h1, h2, h3⟩ := h.2.2 j e hj
  exact ⟨(hb.cell (p := ⟨b, off + j * 3, none⟩) hn).trans h1, (hb.cell (p := ⟨b, off + j * 3 + 1, none⟩) hn).trans h2, (hb.cell (p := ⟨b, off + j * 3 + 2, none⟩) hn).trans h3⟩

theorem EvRow.take {w : World} {b off : Nat} {es : List Ev} (h : EvRow w b off es) (k : Nat) : EvRow w b off (es.take k) :=
  ⟨h.1, fun e he => h.2.1 e (List.mem_of_mem_take he), fun j e hj => h.2.2 j e (by
    rw [List.getElem?_take] at hj
    split at hj
    · exact hj
    · cases hj)⟩

theorem EvRow.at {w : World} {b off : Nat} {es : List Ev} (h : EvRow w b off es) {k : Nat} (hk : k < es.length) :
    ∃ e : Ev, es[k]? = some e ∧ e ∈ es ∧ e.fits ∧ w.cell? ⟨b, off + k * 3, none⟩ = some (.int .i64 e.kind) ∧ w.cell? ⟨b, off + k * 3 + 1, none⟩ = some (.int .i64 e.who) ∧ w.cell? ⟨b, off + k * 3 + 2, none⟩ = some (.int .i64 e.of) := by
  have he : es[k]? = some es[k] := List.getElem?_eq_getElem hk
  obtain ⟨h1, h2, h3⟩ := h.2.2 k _ he
  exact ⟨es[k], he, List.getElem_mem hk, h.2.1 _ (List.getElem_mem hk), h1, h2, h3⟩

/-- Events as a slice that came in. -/
def CameEv (w : World) (a : Option Addr) (len cap : Nat) (es : List Ev) : Prop :=
  es.length = len ∧ len ≤ cap ∧ len ≤ maxLen ∧ (len = 0 ∨ ∃ b off, a = some ⟨b, off, none⟩ ∧ EvRow w b off es)

theorem CameEv.below {w w' : World} {a : Option Addr} {len cap : Nat} {es : List Ev} (h : CameEv w a len cap es) (hb : Below w.heap.size w w') : CameEv w' a len cap es := by
  obtain ⟨h1, h2, h3, h4⟩ := h
  refine ⟨h1, h2, h3, ?_⟩
  rcases h4 with h4 | ⟨b, off, e, hr⟩
  · exact .inl h4
  · exact .inr ⟨b, off, e, hr.below hr.1 hb⟩

/-! What is wrong. -/
/-- No ESend stands at z in es. -/
def noSend (es : List Ev) (z : Int) : Bool := if z < 0 then true else match es[z.toNat]? with
  | some e => e.kind != 2
  | none => true
/-- The code of one event, of which those ahead are es. -/
def evCode (n : Int) (es : List Ev) (e : Ev) : Int :=
  if e.kind ≠ 1 ∧ e.kind ≠ 2 ∧ e.kind ≠ 3 then 4
  else if e.who < 0 ∨ n ≤ e.who then 2
  else if e.kind = 3 ∧ noSend es e.of = true then 2 else 0
/-- The code of the events from place k on. -/
def codeFrom (n : Int) (es : List Ev) (k : Nat) : Nat → Int
  | 0 => 0
  | m + 1 => match es[k]? with
    | none => 0
    | some e => if evCode n (es.take k) e = 0 then codeFrom n es (k + 1) m else evCode n (es.take k) e
def evsCode (n : Int) (es : List Ev) : Int := if n < 1 ∨ 6 < n ∨ 60 < es.length then 1 else codeFrom n es 0 es.length

theorem evsCode_large {n : Int} {es : List Ev} (h : n < 1 ∨ 6 < n ∨ 60 < es.length) : evsCode n es = 1 := by unfold evsCode; rw [if_pos h]
theorem evsCode_else {n : Int} {es : List Ev} (h : ¬ (n < 1 ∨ 6 < n ∨ 60 < es.length)) : evsCode n es = codeFrom n es 0 es.length := by unfold evsCode; rw [if_neg h]
theorem codeFrom_end (n : Int) (es : List Ev) : codeFrom n es es.length 0 = 0 := rfl
theorem codeFrom_next {n : Int} {es : List Ev} {k len : Nat} {e : Ev} (hk : k < len) (he : es[k]? = some e) (h0 : evCode n (es.take k) e = 0) : codeFrom n es k (len - k) = codeFrom n es (k + 1) (len - (k + 1)) := by
  obtain ⟨m, hm⟩ : ∃ m, len - k = m + 1 := ⟨len - k - 1, by omega⟩
  rw [hm, show len - (k + 1) = m by omega]
  simp only [codeFrom, he, h0, if_true]
theorem codeFrom_bad {n : Int} {es : List Ev} {k len : Nat} {e : Ev} (hk : k < len) (he : es[k]? = some e) (h0 : evCode n (es.take k) e ≠ 0) : codeFrom n es k (len - k) = evCode n (es.take k) e := by
  obtain ⟨m, hm⟩ : ∃ m, len - k = m + 1 := ⟨len - k - 1, by omega⟩
  rw [hm]
  simp only [codeFrom, he, if_neg h0]

theorem evCode_kind {n : Int} {es : List Ev} {e : Ev} (h1 : e.kind ≠ 1) (h2 : e.kind ≠ 2) (h3 : e.kind ≠ 3) : evCode n es e = 4 := by
  unfold evCode; rw [if_pos ⟨h1, h2, h3⟩]
theorem evCode_who {n : Int} {es : List Ev} {e : Ev} (h1 : e.kind = 1 ∨ e.kind = 2 ∨ e.kind = 3) (h2 : e.who < 0 ∨ n ≤ e.who) : evCode n es e = 2 := by
  unfold evCode; rw [if_neg (by omega), if_pos h2]
theorem evCode_of {n : Int} {es : List Ev} {e : Ev} (h1 : e.kind = 3) (h3 : noSend es e.of = true) : evCode n es e = 2 := by
  unfold evCode; rw [if_neg (by omega)]
  by_cases h : e.who < 0 ∨ n ≤ e.who
  · rw [if_pos h]
  · rw [if_neg h, if_pos ⟨h1, h3⟩]
theorem evCode_ok {n : Int} {es : List Ev} {e : Ev} (h1 : e.kind = 1 ∨ e.kind = 2 ∨ e.kind = 3) (h2 : ¬ (e.who < 0 ∨ n ≤ e.who)) (h3 : e.kind = 3 → noSend es e.of = false) : evCode n es e = 0 := by
  unfold evCode; rw [if_neg (by omega), if_neg h2, if_neg (fun h => by have := h3 h.1; rw [this] at h; exact absurd h.2 (by decide))]
theorem noSend_neg {es : List Ev} {z : Int} (h : z < 0) : noSend es z = true := by unfold noSend; rw [if_pos h]
theorem noSend_far {es : List Ev} {k : Nat} {z : Int} (h : (k : Int) ≤ z) : noSend (es.take k) z = true := by
  unfold noSend
  by_cases h0 : z < 0
  · rw [if_pos h0]
  · rw [if_neg h0, List.getElem?_eq_none (by simp; omega)]
theorem noSend_at {es : List Ev} {k j : Nat} {e : Ev} (h : j < k) (he : es[j]? = some e) : noSend (es.take k) (j : Int) = (e.kind != 2) := by
  unfold noSend
  rw [if_neg (by omega), Int.toNat_natCast, List.getElem?_take, if_pos h, he]

end Go.Proofs.Ytjglbjiekndpeab
