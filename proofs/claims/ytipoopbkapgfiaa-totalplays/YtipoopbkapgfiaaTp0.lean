/- The document's Total, plain: its searches are the program's. -/
import Derived.Test.YtipoopbkapgfiaaTb0
namespace Go.Proofs.Ytipoopbkapgfiaa
set_option linter.unusedVariables false
variable {n : Nat} {s : TS} {g : Nat → Nat → Nat}

theorem least_up {f : Nat → Option En} {a : Nat} (h : ∀ k, a ≤ k → f k = none) : ∀ b, a ≤ b → leastTo f b = leastTo f a
  | 0, hb => by
    have e : a = 0 := by omega
    rw [e]
  | b + 1, hb => by
    by_cases e : a = b + 1
    · rw [e]
    · have hb2 : a ≤ b := by omega
      show (match f b with | none => leastTo f b | some e => _) = _
      rw [h b hb2]
      exact least_up h b hb2
/-- More rounds than there is to hear change nothing. -/
theorem hear_up (hn : n ≤ 1000) {who : Nat} : ∀ (F : Nat) (s : TS), TInv n s g → unTo (s.ent who) s.sent ≤ F → ∀ d, hearN s who (F + d) = hearN s who F
  | 0, s, h, hF, d => by
    have e : leastTo (s.ent who) s.sent = none := by
      cases hl : leastTo (s.ent who) s.sent with
      | none => rfl
      | some q =>
        obtain ⟨m, e⟩ := q
        have := un_hear h hn hl
        omega
    rw [hearN_stop _ (.inl e), hearN_stop _ (.inl e)]
  | F + 1, s, h, hF, d => by
    cases hl : leastTo (s.ent who) s.sent with
    | none => rw [hearN_stop _ (.inl hl), hearN_stop _ (.inl hl)]
    | some q =>
      obtain ⟨m, e⟩ := q
      by_cases ht : e.told = true
      · have h1 := un_hear h hn hl
        rw [show F + 1 + d = (F + d) + 1 by omega, hearN_go _ hl ht, hearN_go _ hl ht]
        exact hear_up hn F _ (inv_hear h hn hl ht) (by show unTo _ s.sent ≤ F; omega) d
      · have ht : e.told = false := by simpa using ht
        rw [hearN_stop _ (.inr ⟨m, e, hl, ht⟩), hearN_stop _ (.inr ⟨m, e, hl, ht⟩)]
theorem hear_many (hn : n ≤ 1000) (h : TInv n s g) {who many : Nat} (hs : s.sent ≤ many) : hearN s who many = hearN s who s.sent := by
  have h1 := hear_up hn (who := who) s.sent s h (un_le _ _) (many - s.sent)
  rw [show s.sent + (many - s.sent) = many by omega] at h1
  exact h1
/-- The least one's place, as the document finds it. -/
def bestI (f : Nat → Option En) (k : Nat) : Int := match leastTo f k with
  | none => -1
  | some q => (q.1 : Int)
theorem least_in {f : Nat → Option En} : ∀ {k : Nat} {q : Nat × En}, leastTo f k = some q → q.1 < k ∧ f q.1 = some q.2 ∧ q.2.heard = false
  | 0, q, h => by cases h
  | k + 1, q, h => by
    unfold leastTo at h
    cases hf : f k with
    | none =>
      rw [hf] at h
      obtain ⟨h1, h2⟩ := least_in (k := k) h
      exact ⟨by omega, h2⟩
    | some e =>
      rw [hf] at h
      simp only at h
      split at h
      · rename_i hc
        cases h
        refine ⟨by show k < k + 1; omega, hf, ?_⟩
        have hc2 : (!e.heard && beats (leastTo f k) e) = true := hc
        rw [Bool.and_eq_true] at hc2
        simpa using hc2.1
      · obtain ⟨h1, h2⟩ := least_in (k := k) h
        exact ⟨by omega, h2⟩
theorem best_none {f : Nat → Option En} {k : Nat} (h : leastTo f k = none) : bestI f k = -1 := by unfold bestI; rw [h]
theorem best_some {f : Nat → Option En} {k : Nat} {q : Nat × En} (h : leastTo f k = some q) : bestI f k = (q.1 : Int) := by unfold bestI; rw [h]
theorem best_keep {f : Nat → Option En} {k : Nat} (h : f k = none ∨ ∃ e, f k = some e ∧ (e.heard = true ∨ beats (leastTo f k) e = false)) : leastTo f (k + 1) = leastTo f k := by
  rw [leastTo]
  rcases h with h | ⟨e, h, h2⟩
  · rw [h]
  · rw [h]
    simp only
    rw [if_neg (by rcases h2 with h2 | h2 <;> rw [h2] <;> simp)]
theorem best_new {f : Nat → Option En} {k : Nat} {e : En} (h : f k = some e) (h1 : e.heard = false) (h2 : beats (leastTo f k) e = true) : leastTo f (k + 1) = some (k, e) := by
  rw [leastTo, h]
  simp only
  rw [if_pos (by rw [h1, h2]; rfl)]
/-- No one has what was not sent. -/
theorem ent_far (h : TInv n s g) (who : Nat) : ∀ k, s.sent ≤ k → s.ent who k = none := fun k hk => (h.g0 who k).2 (h.hi who k hk)

/-- The five fields of what the document keeps of a message at one. -/
def gv (o : Option En) (f : Nat) : Value := match f with
  | 0 => .int .i64 (match o with | none => 0 | some e => (e.n : Int))
  | 1 => .int .i64 (match o with | none => 0 | some e => (e.p : Int))
  | 2 => .bool o.isSome
  | 3 => .bool (match o with | none => false | some e => e.told)
  | _ => .bool (match o with | none => false | some e => e.heard)
def gotV (many : Nat) (ent : Nat → Nat → Option En) (j : Nat) : Value := gv (ent (j / 5 / many) (j / 5 % many)) (j % 5)
def gotL (n many : Nat) (ent : Nat → Nat → Option En) : List Value := (List.range (n * many * 5)).map (gotV many ent)
theorem qdiv {i j k : Nat} (h : j < k) : (i * k + j) / k = i := by
  rw [Nat.mul_comm, Nat.mul_add_div (by omega), Nat.div_eq_of_lt h, Nat.add_zero]
theorem qmod {i j k : Nat} (h : j < k) : (i * k + j) % k = j := by
  rw [Nat.mul_comm, Nat.mul_add_mod, Nat.mod_eq_of_lt h]
theorem gotV_at {many w m f : Nat} (ent : Nat → Nat → Option En) (hm : m < many) (hf : f < 5) : gotV many ent ((w * many + m) * 5 + f) = gv (ent w m) f := by
  unfold gotV
  rw [qdiv hf, qmod hf, qdiv hm, qmod hm]
theorem got_lt {n many w m f : Nat} (hw : w < n) (hm : m < many) (hf : f < 5) : (w * many + m) * 5 + f < n * many * 5 := by
  have h1 : (w + 1) * many ≤ n * many := Nat.mul_le_mul_right _ hw
  rw [Nat.succ_mul] at h1
  omega
theorem gotL_at {n many w m f : Nat} (ent : Nat → Nat → Option En) (hw : w < n) (hm : m < many) (hf : f < 5) : (gotL n many ent)[(w * many + m) * 5 + f]? = some (gv (ent w m) f) := by
  have h := got_lt hw hm hf
  simp only [gotL, List.getElem?_map]
  rw [List.getElem?_range h, Option.map_some, gotV_at ent hm hf]
theorem gotL_set {n many w m f : Nat} (ent : Nat → Nat → Option En) (hw : w < n) (hm : m < many) (hf : f < 5) (e : En) (x : Value) (hx : gv (some e) f = x) (ho : ∀ f2, f2 < 5 → f2 ≠ f → gv (some e) f2 = gv (ent w m) f2) :
    (gotL n many ent).set ((w * many + m) * 5 + f) x = gotL n many (upd2 ent w m (some e)) := by
  apply List.ext_getElem?
  intro j
  rw [List.getElem?_set]
  by_cases hj : j < n * many * 5
  · have e1 : ∀ ent2, (gotL n many ent2)[j]? = some (gotV many ent2 j) := fun ent2 => by simp [gotL, hj]
    rw [e1, e1]
    by_cases e2 : (w * many + m) * 5 + f = j
    · rw [if_pos e2, if_pos (by simp [gotL]; omega), ← e2, gotV_at _ hm hf, upd2_same, hx]
    · rw [if_neg e2]
      congr 1
      have hm0 : 0 < many := by omega
      have k1 := Nat.div_add_mod j 5
      have k2 := Nat.mod_lt j (show 0 < 5 by omega)
      have k3 := Nat.div_add_mod (j / 5) many
      have k4 := Nat.mod_lt (j / 5) hm0
      show gv _ _ = gv _ _
      by_cases e3 : j / 5 / many = w ∧ j / 5 % many = m
      · obtain ⟨a, b⟩ := e3
        rw [a, b, upd2_same]
        rw [a, b, Nat.mul_comm] at k3
        exact (ho _ k2 (fun e4 => e2 (by omega))).symm
      · rw [upd2_other _ _ e3]
  · have h9 := got_lt hw hm hf
    rw [List.getElem?_eq_none (by simp [gotL]; omega), if_neg (by omega), List.getElem?_eq_none (by simp [gotL]; omega)]
end Go.Proofs.Ytipoopbkapgfiaa
