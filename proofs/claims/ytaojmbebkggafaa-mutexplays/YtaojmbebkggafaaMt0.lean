/- The document's Mutex: how many wait, plain. -/
import Derived.Test.YtaojmbebkggafaaMr0
import Derived.Test.YtaojmbebkggafaaMb0
namespace Go.Proofs.Ytaojmbebkggafaa
set_option linter.unusedVariables false

theorem wc_cons (x : Nat) (l : List Nat) (j : Nat) : wc (x :: l) j = wc l j + if x = j then 1 else 0 := by
  unfold wc
  rw [List.countP_cons]
  by_cases h : x = j <;> simp [h]
theorem awayTo_le1 {f : Nat → Nat} : ∀ n, (∀ m, m < n → f m ≤ 1) → awayTo f n ≤ n
  | 0, _ => Nat.le_refl _
  | n + 1, h => by
    have h1 := awayTo_le1 n (fun m hm => h m (by omega))
    have h2 := h n (by omega)
    show awayTo f n + f n ≤ n + 1
    omega
theorem len_wc (n : Nat) : ∀ l : List Nat, (∀ x ∈ l, x < n) → l.length = awayTo (fun j => wc l j) n
  | [], _ => (awayTo_zero (f := fun j => wc [] j) n (fun m hm => rfl)).symm
  | x :: r, h => by
    have h1 := len_wc n r (fun y hy => h y (List.mem_cons_of_mem _ hy))
    rw [awayTo_one1 (f := fun j => wc (x :: r) j) (g := fun j => wc r j) (i := x) n (h x (List.mem_cons_self ..)) (fun m _ hm => by show wc (x :: r) m = wc r m; rw [wc_cons, if_neg (fun e => hm e.symm)]; rfl) (by show wc (x :: r) x = wc r x + 1; rw [wc_cons, if_pos rfl]), ← h1]
    rfl
theorem wait_len {n : Nat} {S : MS} (h : MInv n S) (h6 : n ≤ 6) {i : Nat} (hi : i < n) : (S.pr i).wait.length ≤ 6 := by
  rw [len_wc n (S.pr i).wait (fun x hx => (h.wt i hi x hx).1)]
  refine Nat.le_trans (awayTo_le1 n (fun j hj => ?_)) h6
  by_cases e : i = j
  · subst e
    have : wc (S.pr i).wait i = 0 := wc_zero.2 (fun hm => (h.wt i hi i hm).2.1 rfl)
    omega
  · have h1 := h.le1 i j hi hj e
    unfold cc at h1
    omega
end Go.Proofs.Ytaojmbebkggafaa
