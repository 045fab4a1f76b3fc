/- Sums of a picture; plain. -/
import Derived.Test.YtdigkdebdlpnpaaU2
namespace Go.Proofs.Ytdigkdebdlpnpaa
set_option linter.unusedVariables false
variable {n : Nat} {s : St}

theorem sumN_split (f : Nat → Int) (a : Nat) : ∀ b, sumN f (a + b) = sumN f a + sumN (fun j => f (a + j)) b
  | 0 => by simp [sumN]
  | b + 1 => by
    show sumN f (a + b) + f (a + b) = sumN f a + (sumN (fun j => f (a + j)) b + f (a + b))
    rw [sumN_split f a b]; omega
/-- All ways in one row. -/
theorem sumQ (g : Nat → Nat → Int) (hn : 0 < n) : ∀ k, k ≤ n → sumN (fun q => g (q / n) (q % n)) (k * n) = sumN (fun i => sumN (g i) n) k
  | 0, _ => by simp [sumN]
  | k + 1, h => by
    rw [Nat.add_mul, Nat.one_mul, sumN_split, sumQ g hn k (by omega)]
    show _ + _ = sumN _ k + sumN (g k) n
    congr 1
    refine sumN_congr fun j hj => ?_
    have e1 : (k * n + j) / n = k := by rw [Nat.mul_comm, Nat.mul_add_div hn, Nat.div_eq_of_lt hj]; rfl
    have e2 : (k * n + j) % n = j := by rw [Nat.mul_comm, Nat.mul_add_mod, Nat.mod_eq_of_lt hj]
    rw [e1, e2]
theorem sumQ_all (g : Nat → Nat → Int) (hn : 0 < n) : sumN (fun q => g (q / n) (q % n)) (n * n) = sum2 n g := sumQ g hn n (Nat.le_refl _)

def notedQ (n : Nat) (s : St) (q : Nat) : Int := lsum (s.ways (q / n) (q % n)).noted
theorem lsum_take (l : List Int) (t : Nat) {x : Int} (h : l[t]? = some x) : lsum (l.take (t + 1)) = lsum (l.take t) + x := by
  rw [List.take_add_one, h, lsum_append]
  show _ + (x + 0) = _
  omega
theorem lsum_take_le {l : List Int} (h : ∀ x ∈ l, 0 ≤ x) (t : Nat) : 0 ≤ lsum (l.take t) ∧ lsum (l.take t) ≤ lsum l := by
  have e : lsum l = lsum (l.take t) + lsum (l.drop t) := by rw [← lsum_append, List.take_append_drop]
  have h1 := lsum_nonneg (l := l.take t) (fun x hx => h x (List.mem_of_mem_take hx))
  have h2 := lsum_nonneg (l := l.drop t) (fun x hx => h x (List.mem_of_mem_drop hx))
  omega
theorem own_ge (h : Inv n s) {i : Nat} (hi : i < n) : -1 ≤ s.own i := by rcases h.own i hi with e | e <;> omega
theorem sumN_low {f : Nat → Int} : ∀ {k : Nat}, (∀ i, i < k → -1 ≤ f i) → -(k : Int) ≤ sumN f k
  | 0, _ => by simp [sumN]
  | k + 1, h => by
    have h1 := sumN_low (k := k) (fun i hi => h i (by omega))
    have h2 := h k (by omega)
    show -((k + 1 : Nat) : Int) ≤ sumN f k + f k
    omega
/-- What is noted is no more than the picture. -/
theorem noted_le (h : Inv n s) (hn : 0 < n) : sumN s.own n + sumN (notedQ n s) (n * n) ≤ pict n s := by
  have e : sumN (notedQ n s) (n * n) = sum2 n (fun i j => lsum (s.ways i j).noted) := sumQ_all (fun i j => lsum (s.ways i j).noted) hn
  rw [e]
  unfold pict
  have h1 : sumN s.own n ≤ sumN (cOf s) n := sumN_le fun i hi => by
    unfold cOf
    split
    · rename_i e; have := h.mon i hi; omega
    · exact Int.le_refl _
  have h2 : sum2 n (fun i j => lsum (s.ways i j).noted) ≤ sum2 n (fun i j => wOf (s.ways i j)) := sumN_le fun i hi => sumN_le fun j hj => by
    show lsum (s.ways i j).noted ≤ wOf (s.ways i j)
    unfold wOf
    split
    · omega
    · have := lsum_nonneg (l := pre (s.ways i j).things) (fun x hx => h.thg i j hi hj x (pre_mem hx))
      omega
  omega
/-- CHANDY, LAMPORT. -/
theorem noted_all (h : Inv n s) (hn : 0 < n) (hd : doneB n s = true) : sumN s.own n + sumN (notedQ n s) (n * n) = pict n s := by
  have e : sumN (notedQ n s) (n * n) = sum2 n (fun i j => lsum (s.ways i j).noted) := sumQ_all (fun i j => lsum (s.ways i j).noted) hn
  rw [e]
  unfold doneB at hd
  simp only [Bool.and_eq_true, List.all_eq_true, List.mem_range, bne_iff_ne, Bool.or_eq_true, beq_iff_eq] at hd
  unfold pict
  congr 1
  · exact sumN_congr fun i hi => by unfold cOf; rw [if_neg (hd.1 i hi)]
  · refine sum2_congr fun i j hi hj => ?_
    by_cases hij : i = j
    · subst hij
      rw [h.i4 i hi]
      rfl
    · rcases hd.2 i hi j hj with e | e
      · exact absurd e hij
      · unfold wOf
        rw [if_pos e]
        omega
theorem own_done (h : Inv n s) (hd : doneB n s = true) {i : Nat} (hi : i < n) : 0 ≤ s.own i := by
  unfold doneB at hd
  simp only [Bool.and_eq_true, List.all_eq_true, List.mem_range, bne_iff_ne] at hd
  rcases h.own i hi with e | e
  · exact absurd e (hd.1 i hi)
  · exact e
theorem money_all (h : Inv n s) : sumN s.money n ≤ tot n s := by
  have h2 : 0 ≤ sum2 n fun i j => lsum (s.ways i j).things := sum2_nonneg fun i j hi hj => lsum_nonneg (h.thg i j hi hj)
  unfold tot
  omega
theorem notedQ_nonneg (h : Inv n s) (hn : 0 < n) {q : Nat} (hq : q < n * n) : 0 ≤ notedQ n s q := lsum_nonneg (h.ntd _ _ (Nat.div_lt_of_lt_mul hq) (Nat.mod_lt q hn))
end Go.Proofs.Ytdigkdebdlpnpaa
