/- A region that draws its order, in plain code: all its operations but the last only read, and the last one waits for all others: one walk in the order of the text serves every order. -/
import Derived.Orders
import Derived.RegionTactic
import Derived.Deep.Quiet
import Derived.Deep.QuietTactic
import Derived.BigQuiet
namespace Go.Proofs.Ytllbfaldhlfjeaa
open Go Go.RowKit
set_option linter.unusedVariables false

/-- Each edge leads back. -/
def backB (os : List Oper) : Bool := (List.range os.length).all fun k => match os[k]? with
  | some o => o.after.toList.all fun e => !Region.binds .any e || decide (e.on < k)
  | none => true
/-- Each operation but the last is waited for by a later one. -/
def usedB (os : List Oper) : Bool := (List.range (os.length - 1)).all fun j => (List.range os.length).any fun k => decide (j < k) && match os[k]? with
  | some o => o.after.toList.any fun e => Region.binds .any e && e.on == j
  | none => false
def plainB (os : List Oper) : Bool := os.all fun o => o.guard.isNone && match o.op with
  | .defer _ => false
  | _ => true

theorem backB_spec {os : List Oper} (h : backB os = true) {k : Nat} {o : Oper} (ho : os[k]? = some o) {e : Edge} (he : e ∈ o.after) (hb : Region.binds .any e = true) : e.on < k := by
  have h1 := List.all_eq_true.1 h k (List.mem_range.2 (List.getElem?_eq_some_iff.1 ho).1)
  simp only [ho] at h1
  have h2 := List.all_eq_true.1 h1 e (by simpa using he)
  simp only [hb, Bool.not_true, Bool.false_or, decide_eq_true_iff] at h2
  exact h2
theorem usedB_spec {os : List Oper} (h : usedB os = true) {j : Nat} (hj : j + 1 < os.length) : ∃ k o e, j < k ∧ os[k]? = some o ∧ e ∈ o.after ∧ Region.binds .any e = true ∧ e.on = j := by
  have h1 := List.all_eq_true.1 h j (List.mem_range.2 (by omega))
  obtain ⟨k, _, h2⟩ := List.any_eq_true.1 h1
  rw [Bool.and_eq_true] at h2
  cases ho : os[k]? with
  | none => rw [ho] at h2; exact absurd h2.2 (by simp)
  | some o =>
    rw [ho] at h2
    obtain ⟨e, he, h3⟩ := List.any_eq_true.1 h2.2
    rw [Bool.and_eq_true] at h3
    exact ⟨k, o, e, by simpa using h2.1, ho, by simpa using he, h3.1, by simpa using h3.2⟩
theorem plainB_spec {os : List Oper} (h : plainB os = true) {o : Oper} (ho : o ∈ os) : o.guard = none ∧ ∀ c, o.op ≠ .defer c := by
  have h1 := List.all_eq_true.1 h o ho
  rw [Bool.and_eq_true] at h1
  refine ⟨by simpa using h1.1, fun c hc => ?_⟩
  rw [hc] at h1
  exact absurd h1.2 (by simp)

/-- Whatever is listed, what it waits for is listed. -/
def Closed (os : List Oper) (listed : Array Bool) : Prop := ∀ (j : Nat) (o : Oper), os[j]? = some o → listed.getD j false = true → ∀ e ∈ o.after, Region.binds .any e = true → listed.getD e.on false = true

theorem getD_or {listed : Array Bool} {j : Nat} (hj : j < listed.size) (h : ¬ listed.getD j false = true) : listed.getD j true = false := by
  simp [hj] at h ⊢
  exact h
theorem some_ready {os : List Oper} {listed : Array Bool} (hs : listed.size = os.length) (hb : ∀ {k : Nat} {o : Oper}, os[k]? = some o → ∀ {e : Edge}, e ∈ o.after → Region.binds .any e = true → e.on < k) : ∀ (m j : Nat), j < m → j < os.length → ¬ listed.getD j false = true → ∃ i, i ∈ Region.ready .any os.toArray listed
  | 0, _, h, _, _ => by omega
  | m + 1, j, hm, hj, hn => by
    have ho : os[j]? = some os[j] := List.getElem?_eq_getElem hj
    by_cases h : ∀ e ∈ os[j].after, Region.binds .any e = true → listed.getD e.on false = true
    · exact ⟨j, mem_ready.2 ⟨getD_or (by omega) hn, os[j], by simp, h⟩⟩
    · obtain ⟨e, h2⟩ := Classical.not_forall.1 h
      obtain ⟨he, h3⟩ := Classical.not_imp.1 h2
      obtain ⟨hbd, h4⟩ := Classical.not_imp.1 h3
      have := hb ho he hbd
      exact some_ready hs hb m e.on (by omega) (by omega) h4

theorem all_listed {os : List Oper} {last : Oper} {listed : Array Bool} (hc : Closed os listed) (hu : usedB (os ++ [last]) = true) (hl : ∀ e ∈ last.after, Region.binds .any e = true → listed.getD e.on false = true) :
    ∀ (d j : Nat), j < os.length → os.length - j ≤ d → listed.getD j false = true
  | 0, j, h, h2 => by omega
  | d + 1, j, hj, hd => by
    obtain ⟨k, o, e, hk, ho, he, hbd, hon⟩ := usedB_spec hu (j := j) (by simp; omega)
    by_cases hkl : k < os.length
    · rw [List.getElem?_append_left hkl] at ho
      rw [← hon]
      exact hc k o ho (all_listed hc hu hl d k hkl (by omega)) e he hbd
    · have hk2 : k < (os ++ [last]).length := (List.getElem?_eq_some_iff.1 ho).1
      have hk3 : k = os.length := by simp at hk2; omega
      rw [hk3, List.getElem?_append_right (Nat.le_refl _)] at ho
      simp at ho
      subst ho
      rw [← hon]
      exact hl e he hbd

variable {P : Program} {C : World → Prop}

theorem push_get {listed : Array Bool} {j : Nat} (hj : j < listed.size) (b d : Bool) : (listed.push b).getD j d = listed.getD j d := by
  simp [Array.getElem?_push, Nat.ne_of_lt hj]
theorem push_set {listed : Array Bool} {j : Nat} (hj : j < listed.size) (b : Bool) : (listed.push b).setIfInBounds j true = (listed.setIfInBounds j true).push b := by
  apply Array.ext_getElem?
  intro i
  rw [Array.getElem?_setIfInBounds, Array.getElem?_push, Array.getElem?_push, Array.getElem?_setIfInBounds]
  by_cases h : j = i
  · subst h; simp [hj, Nat.ne_of_lt hj]; omega
  · simp [h]
theorem closed_set {os : List Oper} {listed : Array Bool} {i : Nat} (hc : Closed os listed) (hi : i ∈ Region.ready .any os.toArray listed) : Closed os (listed.setIfInBounds i true) := by
  obtain ⟨_, o2, ho2, hall⟩ := mem_ready.1 hi
  intro j o ho hl e he hb
  by_cases hji : j = i
  · subst hji
    have : o = o2 := by simpa [ho] using ho2
    subst this
    exact getD_set_true (hall e he hb)
  · rw [getD_set_ne false (Ne.symm hji)] at hl
    exact getD_set_true (hc j o ho hl e he hb)

theorem any_last {os : List Oper} {last : Oper} {Q : Exit → Act → World → Prop} {Q1 : Act → Prop} (hb0 : backB (os ++ [last]) = true) (hu : usedB (os ++ [last]) = true) (hp : plainB os = true) (hg : last.guard = none)
    (hQ : ∀ a w, C w → Q1 a → last.wp P a w (fun a2 w2 => Q .normal a2 w2) Q) :
    ∀ (fuel : Nat) (listed : Array Bool) (a : Act) (w : World), listed.size = os.length → Closed os listed → C w → wpAnyQ P .any os.toArray C Q1 fuel listed a →
      wpAny P .any (os ++ [last]).toArray Q (fuel + 1) (listed.push false) a w := by
  have hb : ∀ {k : Nat} {o : Oper}, os[k]? = some o → ∀ {e : Edge}, e ∈ o.after → Region.binds .any e = true → e.on < k := by
    intro k o ho e he hbd
    exact backB_spec hb0 (k := k) (o := o) (by rw [List.getElem?_append_left (List.getElem?_eq_some_iff.1 ho).1]; exact ho) he hbd
  -- the last operation, when all others have come
  have fin : ∀ (fuel : Nat) (listed : Array Bool) (a : Act) (w : World), listed.size = os.length → (∀ j, j < os.length → listed.getD j false = true) → C w → Q1 a →
      wpOp P (os ++ [last]).toArray Q os.length (wpAny P .any (os ++ [last]).toArray Q fuel ((listed.push false).setIfInBounds os.length true)) a w := by
    intro fuel listed a w hs hall hw hq
    have ho : (os ++ [last]).toArray[os.length]? = some last := by simp
    refine wpOp_step ho fun K2 hK2 => ?_
    rw [if_pos (by simp [Region.wanted, hg])]
    refine Oper.wp_mono (fun a2 w2 h2 => hK2 a2 w2 (wpAny_done ?_ h2 _)) (hQ a w hw hq)
    apply List.eq_nil_iff_forall_not_mem.2
    intro i hi
    obtain ⟨h0, o, hoi, _⟩ := mem_ready.1 hi
    have hil : i < (os ++ [last]).length := by simpa using (Array.getElem?_eq_some_iff.1 hoi).1
    by_cases hie : i = os.length
    · subst hie
      simp [hs] at h0
    · have hil2 : i < os.length := by simp at hil; omega
      rw [getD_set_ne true (Ne.symm hie), push_get (by omega)] at h0
      have := hall i hil2
      simp [hs, hil2] at this h0
      rw [this] at h0
      cases h0
  -- which may come
  have whom : ∀ (listed : Array Bool), listed.size = os.length → Closed os listed → ∀ i, i ∈ Region.ready .any (os ++ [last]).toArray (listed.push false) → (i = os.length ∧ ∀ j, j < os.length → listed.getD j false = true) ∨ i ∈ Region.ready .any os.toArray listed := by
    intro listed hs hc i hi
    obtain ⟨h0, o, hoi, hall⟩ := mem_ready.1 hi
    have hil : i < (os ++ [last]).length := by simpa using (Array.getElem?_eq_some_iff.1 hoi).1
    by_cases hie : i = os.length
    · subst hie
      left
      have hol : o = last := by simpa using hoi.symm
      subst hol
      refine ⟨rfl, fun j hj => all_listed hc hu (fun e he hbd => ?_) os.length j hj (by omega)⟩
      have h1 := hall e he hbd
      by_cases h2 : e.on < listed.size
      · rwa [push_get h2] at h1
      · by_cases h3 : e.on = listed.size
        · rw [h3] at h1; simp at h1
        · simp [Array.getElem?_push, h3, Array.getElem?_eq_none (Nat.le_of_not_lt h2)] at h1
    · right
      have hil2 : i < os.length := by simp at hil; omega
      have ho2 : os[i]? = some o := by
        have : (os ++ [last])[i]? = some o := by simpa using hoi
        rwa [List.getElem?_append_left hil2] at this
      refine mem_ready.2 ⟨by rwa [push_get (by omega)] at h0, o, by simpa using ho2, fun e he hbd => ?_⟩
      have h1 := hall e he hbd
      have h2 := hb ho2 he hbd
      rwa [push_get (by omega)] at h1
  -- one may come
  have some1 : ∀ (listed : Array Bool), listed.size = os.length → Closed os listed → Region.ready .any (os ++ [last]).toArray (listed.push false) = [] → False := by
    intro listed hs hc h0
    by_cases hall : ∀ j, j < os.length → listed.getD j false = true
    · have : os.length ∈ Region.ready .any (os ++ [last]).toArray (listed.push false) := by
        refine mem_ready.2 ⟨by rw [← hs]; simp, last, by simp, fun e he hbd => ?_⟩
        have h1 := backB_spec hb0 (k := os.length) (o := last) (by simp) he hbd
        rw [push_get (by omega)]
        exact hall e.on h1
      rw [h0] at this
      cases this
    · obtain ⟨j, h1⟩ := Classical.not_forall.1 hall
      obtain ⟨hj, h2⟩ := Classical.not_imp.1 h1
      obtain ⟨i, hi⟩ := some_ready hs hb (j + 1) j (by omega) hj h2
      obtain ⟨h3, o, hoi, h4⟩ := mem_ready.1 hi
      have hil : i < os.length := by simpa using (Array.getElem?_eq_some_iff.1 hoi).1
      have ho2 : os[i]? = some o := by simpa using hoi
      have : i ∈ Region.ready .any (os ++ [last]).toArray (listed.push false) := by
        refine mem_ready.2 ⟨by rwa [push_get (by omega)], o, ?_, fun e he hbd => ?_⟩
        · have : (os ++ [last])[i]? = some o := by rw [List.getElem?_append_left hil]; exact ho2
          simpa using this
        · have h5 := hb ho2 he hbd
          rw [push_get (by omega)]
          exact h4 e he hbd
      rw [h0] at this
      cases this
  intro fuel
  induction fuel with
  | zero =>
    intro listed a w hs hc hw h
    refine ⟨fun h0 => (some1 listed hs hc h0).elim, fun i hi => ?_⟩
    rcases whom listed hs hc i hi with ⟨rfl, hall⟩ | hr
    · exact fin _ listed a w hs hall hw h.2
    · rw [h.1] at hr; cases hr
  | succ fuel ih =>
    intro listed a w hs hc hw h
    refine ⟨fun h0 => (some1 listed hs hc h0).elim, fun i hi => ?_⟩
    rcases whom listed hs hc i hi with ⟨rfl, hall⟩ | hr
    · refine fin _ listed a w hs hall hw (h.1 (List.eq_nil_iff_forall_not_mem.2 fun j hj => ?_))
      obtain ⟨h0, o, hoi, _⟩ := mem_ready.1 hj
      have hjl : j < os.length := by simpa using (Array.getElem?_eq_some_iff.1 hoi).1
      have := hall j hjl
      simp [hs, hjl] at this h0
      rw [this] at h0
      cases h0
    · have hq := h.2 i hr
      obtain ⟨h0, o, hoi, _⟩ := mem_ready.1 hr
      have hil : i < os.length := by simpa using (Array.getElem?_eq_some_iff.1 hoi).1
      have ho2 : os[i]? = some o := by simpa using hoi
      obtain ⟨hgo, hdo⟩ := plainB_spec hp (List.mem_of_getElem? ho2)
      have hoi2 : (os ++ [last]).toArray[i]? = some o := by
        have : (os ++ [last])[i]? = some o := by rw [List.getElem?_append_left hil]; exact ho2
        simpa using this
      unfold qOp at hq
      simp only [hoi] at hq
      rw [if_pos (by simp [Region.wanted, hgo])] at hq
      refine wpOp_step hoi2 fun K2 hK2 => ?_
      rw [if_pos (by simp [Region.wanted, hgo])]
      refine Oper.wp_of_quiet hw (fun a2 w2 hw2 hk => hK2 a2 w2 ?_) hq
      rw [push_set (by omega)]
      exact ih _ a2 w2 (by simpa using hs) (closed_set hc hr) hw2 hk

/-- The law. -/
theorem wp_region_last {id : Nat} {os : List Oper} {last : Oper} {Q : Exit → Act → World → Prop} {a : Act} {w : World} (hm : P.follows .mixedOrders = true) (hB : Region.lexB .any os.toArray = true)
    (hb : backB (os ++ [last]) = true) (hu : usedB (os ++ [last]) = true) (hp : plainB os = true) (hg : last.guard = none)
    (h : wpQuiet P os.toArray (fun w2 => ∃ m, w2 = w.drewN m) (fun a2 => ∀ w2, (∃ m, w2 = w.drewN m) → last.wp P a2 w2 (fun a3 w3 => Q .normal a3 w3) Q) os a) :
    (Code.region id (os ++ [last]).toArray true).wp P Q a w := by
  simp only [Region.lexB, Bool.and_eq_true] at hB
  refine wp_region_any hm ?_
  have hq := wpAnyQ_lex (C := fun w2 => ∃ m, w2 = w.drewN m) (md := .any) hB.1 os 0 (Array.replicate os.length false) a (by simp) (by simpa using hB.2) h
  have := any_last (last := last) (Q := Q) hb hu hp hg (fun a2 w2 hw2 hq2 => hq2 w2 hw2) os.length (Array.replicate os.length false) a { w with drawn := w.drawn + 1 } (by simp) (fun j o ho hl => by
    have hj := (List.getElem?_eq_some_iff.1 ho).1
    simp [hj] at hl) ⟨1, rfl⟩ hq
  simpa [Array.replicate_succ] using this

/-- The same for a region that is written out. -/
theorem wp_region_tail {id : Nat} {ol : List Oper} {last : Oper} {Q : Exit → Act → World → Prop} {a : Act} {w : World} (hl : ol.getLast? = some last) (hm : P.follows .mixedOrders = true) (hB : Region.lexB .any ol.dropLast.toArray = true)
    (hb : backB ol = true) (hu : usedB ol = true) (hp : plainB ol.dropLast = true) (hg : last.guard = none)
    (h : wpQuiet P ol.dropLast.toArray (fun w2 => ∃ m, w2 = w.drewN m) (fun a2 => ∀ w2, (∃ m, w2 = w.drewN m) → last.wp P a2 w2 (fun a3 w3 => Q .normal a3 w3) Q) ol.dropLast a) :
    (Code.region id ol.toArray true).wp P Q a w := by
  have e : ol = ol.dropLast ++ [last] := by
    have hne : ol ≠ [] := fun h0 => by subst h0; cases hl
    have h1 := List.dropLast_concat_getLast hne
    have h2 : ol.getLast hne = last := by have h3 := List.getLast?_eq_some_getLast hne; rw [h3] at hl; exact Option.some.inj hl
    rw [h2] at h1
    exact h1.symm
  have := wp_region_last (id := id) (os := ol.dropLast) (last := last) (Q := Q) (a := a) (w := w) hm hB (by rw [← e]; exact hb) (by rw [← e]; exact hu) hp hg h
  rwa [← e] at this
end Go.Proofs.Ytllbfaldhlfjeaa
