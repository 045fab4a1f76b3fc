/- Generals, plain: sums of votes, and maps as functions. -/
import Derived.Test.YtekbglmoibglnaaGe3
namespace Go.Proofs.Ytekbglmoibglnaa
open Go.RowKit
set_option linter.unusedVariables false

def sgn (b : Bool) : Int := if b = true then 1 else -1
theorem sgn_le (b : Bool) : -1 ≤ sgn b ∧ sgn b ≤ 1 := by cases b <;> decide
theorem sgn_one (b : Bool) : (sgn b == 1) = b := by cases b <;> decide
def sumX (F : Nat → Bool) (i : Nat) : List Nat → Int
  | [] => 0
  | j :: l => (if j = i then 0 else sgn (F j)) + sumX F i l
theorem sumX_app (F : Nat → Bool) (i : Nat) : ∀ (l m : List Nat), sumX F i (l ++ m) = sumX F i l + sumX F i m
  | [], m => by simp [sumX]
  | a :: l, m => by simp only [List.cons_append, sumX, sumX_app F i l m]; omega
theorem sumX_take (F : Nat → Bool) (i : Nat) {l : List Nat} {k j : Nat} (h : l[k]? = some j) : sumX F i (l.take (k + 1)) = sumX F i (l.take k) + (if j = i then 0 else sgn (F j)) := by
  rw [List.take_add_one, h, Option.toList_some, sumX_app]
  simp [sumX]
theorem sumX_le (F : Nat → Bool) (i : Nat) : ∀ l : List Nat, -(l.length : Int) ≤ sumX F i l ∧ sumX F i l ≤ l.length
  | [] => by simp [sumX]
  | a :: l => by
    have ih := sumX_le F i l
    have := sgn_le (F a)
    simp only [sumX, List.length_cons]
    split <;> omega
theorem sumX_out (F : Nat → Bool) (i : Nat) : ∀ l : List Nat, i ∉ l → sumX F i l = (l.countP F : Int) - (l.countP (fun j => !F j) : Int)
  | [], _ => by simp [sumX]
  | a :: l, h => by
    have h1 : a ≠ i := fun e => h (e ▸ List.mem_cons_self ..)
    have ih := sumX_out F i l (fun e => h (List.mem_cons_of_mem _ e))
    simp only [sumX, if_neg h1, ih, List.countP_cons, sgn]
    cases F a <;> simp <;> omega
theorem sumX_all (F : Nat → Bool) (i : Nat) : ∀ l : List Nat, l.Nodup → i ∈ l → sgn (F i) + sumX F i l = (l.countP F : Int) - (l.countP (fun j => !F j) : Int)
  | [], _, h => by simp at h
  | a :: l, hd, h => by
    rw [List.nodup_cons] at hd
    by_cases e : a = i
    · subst e
      have := sumX_out F a l hd.1
      simp only [sumX, if_true, this, List.countP_cons, sgn]
      cases F a <;> simp <;> omega
    · have hi : i ∈ l := by
        rcases List.mem_cons.1 h with h | h
        · exact absurd h.symm e
        · exact h
      have ih := sumX_all F i l hd.2 hi
      simp only [sumX, if_neg e, List.countP_cons]
      have : sgn (F i) + sumX F i l = (l.countP F : Int) - (l.countP (fun j => !F j) : Int) := ih
      unfold sgn at *
      cases F a <;> simp at this ⊢ <;> omega
/-- More often true than not: the sum is above 0. -/
theorem holds_sum (tr lie : Nat → Bool) (d : Nat) {way l : List Nat} {i : Nat} (x : Bool) (hd : l.Nodup) (hi : i ∈ l) :
    holdsG tr lie (d + 1) way l i x = decide (0 < sgn (sentG tr lie way i x) + sumX (fG tr lie d way l i x) i l) := by
  rw [holdsG_succ]
  have h := sumX_all (fG tr lie d way l i x) i l hd hi
  have e : fG tr lie d way l i x i = sentG tr lie way i x := by unfold fG; rw [if_pos rfl]
  rw [e] at h
  rw [h]
  rw [decide_eq_decide]
  omega

/-- A map that has at each of a list a number. -/
def mapN (l : List Nat) (h : Nat → Int) : Int → Option Int := fun z => if 0 ≤ z ∧ z.toNat ∈ l then some (h z.toNat) else none
theorem mapN_nil (h : Nat → Int) : mapN [] h = fun _ => none := by funext z; simp [mapN]
theorem mapN_in {l : List Nat} {i : Nat} (h : Nat → Int) (hi : i ∈ l) : mapN l h (i : Int) = some (h i) := by simp [mapN, hi]
theorem mapN_congr {l : List Nat} {h h2 : Nat → Int} (e : ∀ i ∈ l, h i = h2 i) : mapN l h = mapN l h2 := by
  funext z
  unfold mapN
  split
  · rename_i c; rw [e _ c.2]
  · rfl
def updI (f : Int → Option Int) (x : Int) (v : Option Int) : Int → Option Int := fun z => if z = x then v else f z
theorem mapN_take {l : List Nat} {k j : Nat} (h : Nat → Int) (e : l[k]? = some j) : mapN (l.take (k + 1)) h = updI (mapN (l.take k) h) (j : Int) (some (h j)) := by
  funext z
  unfold updI mapN
  rw [List.take_add_one, e, Option.toList_some]
  by_cases hz : z = (j : Int)
  · subst hz; simp
  · rw [if_neg hz]
    have : ∀ n : Nat, 0 ≤ z → z.toNat = n → n ≠ j := fun n h0 h1 h2 => hz (by omega)
    by_cases h0 : 0 ≤ z
    · have h3 : z.toNat ≠ j := this _ h0 rfl
      simp [h0, h3]
    · simp [h0]
def addM (g f : Int → Option Int) : Int → Option Int := fun z => match f z with
  | some c => some ((g z).getD 0 + c)
  | none => g z
theorem addM_first (l : List Nat) (h : Nat → Int) : addM (fun _ => none) (mapN l h) = mapN l h := by
  funext z
  unfold addM
  cases e : mapN l h z <;> simp
theorem addM_more {l m : List Nat} (h h2 : Nat → Int) (hs : ∀ i ∈ m, i ∈ l) : addM (mapN l h) (mapN m h2) = mapN l (fun i => h i + if i ∈ m then h2 i else 0) := by
  funext z
  unfold addM mapN
  by_cases h0 : 0 ≤ z
  · by_cases h1 : z.toNat ∈ m
    · have h3 := hs _ h1
      simp [h0, h1, h3]
    · by_cases h3 : z.toNat ∈ l
      · simp [h0, h1, h3]
      · simp [h0, h1, h3]
  · simp [h0]
/-- The votes, when so many have spread what was sent to them. -/
def voteG (tr lie : Nat → Bool) (d : Nat) (way l : List Nat) (x : Bool) (k : Nat) (i : Nat) : Int := sgn (sentG tr lie way i x) + sumX (fG tr lie d way l i x) i (l.take k)
theorem vote_zero (tr lie : Nat → Bool) (d : Nat) (way l : List Nat) (x : Bool) : mapN l (voteG tr lie d way l x 0) = mapN l (fun i => sgn (sentG tr lie way i x)) :=
  mapN_congr fun i _ => by simp [voteG, sumX]
theorem vote_more (tr lie : Nat → Bool) (d : Nat) {way l : List Nat} (x : Bool) {k j : Nat} (e : l[k]? = some j) :
    addM (mapN l (voteG tr lie d way l x k)) (mapN (l.filter (fun q => q != j)) (fun i => sgn (holdsG tr lie d (way ++ [j]) (l.filter (fun q => q != j)) i (sentG tr lie way j x)))) = mapN l (voteG tr lie d way l x (k + 1)) := by
  rw [addM_more _ _ (fun i hi => (List.mem_filter.1 hi).1)]
  refine mapN_congr fun i hi => ?_
  unfold voteG
  rw [sumX_take _ _ e]
  have : (if i ∈ l.filter (fun q => q != j) then sgn (holdsG tr lie d (way ++ [j]) (l.filter (fun q => q != j)) i (sentG tr lie way j x)) else 0) = (if j = i then 0 else sgn (fG tr lie d way l i x j)) := by
    by_cases h : j = i
    · subst h; simp
    · rw [if_neg h, if_pos (List.mem_filter.2 ⟨hi, by simpa using fun e => h e.symm⟩)]
      unfold fG
      rw [if_neg h]
  rw [this]
  omega
theorem vote_le (tr lie : Nat → Bool) (d : Nat) (way l : List Nat) (x : Bool) (k i : Nat) (hl : l.length ≤ 6) : -7 ≤ voteG tr lie d way l x k i ∧ voteG tr lie d way l x k i ≤ 7 := by
  unfold voteG
  have h1 := sgn_le (sentG tr lie way i x)
  have h2 := sumX_le (fG tr lie d way l i x) i (l.take k)
  have h3 : (l.take k).length ≤ 6 := by rw [List.length_take]; omega
  omega
/-- What is told of the votes. -/
def tellM (f : Int → Option Int) : Int → Option Int := fun z => match f z with
  | some c => some (sgn (decide (0 < c)))
  | none => none
theorem tell_held (tr lie : Nat → Bool) (d : Nat) {way l : List Nat} (x : Bool) (hd : l.Nodup) : tellM (mapN l (voteG tr lie d way l x l.length)) = mapN l (fun i => sgn (holdsG tr lie (d + 1) way l i x)) := by
  funext z
  unfold tellM mapN
  by_cases h : 0 ≤ z ∧ z.toNat ∈ l
  · simp only [if_pos h]
    rw [holds_sum tr lie d x hd h.2]
    unfold voteG
    rw [List.take_of_length_le (Nat.le_refl _)]
  · simp only [if_neg h]

def accM (g f : Int → Option Int) (left : Lit → Bool) : Int → Option Int := fun z => match f z with
  | some c => if left (.int .i64 z) = true then g z else some ((g z).getD 0 + c)
  | none => g z
def outM (f : Int → Option Int) (left : Lit → Bool) : Int → Option Int := fun z => match f z with
  | some c => if left (.int .i64 z) = true then none else some (sgn (decide (0 < c)))
  | none => none
theorem same_self (z : Int) : (Lit.int .i64 z).sameKey (.int .i64 z) = true := by simp [Lit.sameKey]
theorem same_other {z x : Int} (h : z ≠ x) : (Lit.int .i64 z).sameKey (.int .i64 x) = false := Maps.sameKey_ne (fun e => h (by injection e))
theorem accM_step {g f : Int → Option Int} {left : Lit → Bool} {x c : Int} (hf : f x = some c) :
    accM g f (fun z => left z && !z.sameKey (.int .i64 x)) = updI (accM g f left) x (some ((g x).getD 0 + c)) := by
  funext z
  unfold updI accM
  by_cases e : z = x
  · subst e; simp [hf, same_self]
  · rw [if_neg e]
    cases hz : f z
    · simp
    · simp [same_other e]
theorem accM_at {g f : Int → Option Int} {left : Lit → Bool} {x : Int} (hl : left (.int .i64 x) = true) : accM g f left x = g x := by
  unfold accM
  cases f x <;> simp [hl]
theorem accM_end {g f : Int → Option Int} {left : Lit → Bool} (hl : ∀ k, left k = false) : accM g f left = addM g f := by
  funext z
  unfold accM addM
  cases f z <;> simp [hl]
theorem outM_step {f : Int → Option Int} {left : Lit → Bool} {x c : Int} (hf : f x = some c) :
    outM f (fun z => left z && !z.sameKey (.int .i64 x)) = updI (outM f left) x (some (sgn (decide (0 < c)))) := by
  funext z
  unfold updI outM
  by_cases e : z = x
  · subst e; simp [hf, same_self]
  · rw [if_neg e]
    cases hz : f z
    · simp
    · simp [same_other e]
theorem outM_end {f : Int → Option Int} {left : Lit → Bool} (hl : ∀ k, left k = false) : outM f left = tellM f := by
  funext z
  unfold outM tellM
  cases f z <;> simp [hl]
end Go.Proofs.Ytekbglmoibglnaa
