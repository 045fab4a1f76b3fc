/- One at a time: plain; no program is named here. -/
import Derived.Test.YtaojmbebkggafaaCb0
namespace Go.Proofs.Ytaojmbebkggafaa
set_option linter.unusedVariables false

/-- A process: its number, how it stands (0: outside, 1: asks, 2: inside), its key, how many yeses have come, who waits for it. -/
structure Pr where
  num : Nat
  st : Nat
  kn : Nat
  kp : Nat
  yes : Nat
  wait : List Nat
structure MS where
  pr : Nat → Pr
  ways : Nat → Nat → List Nat
  ins : List Nat
def mlt (a b c d : Nat) : Bool := decide (a < c ∨ (a = c ∧ b < d))
def putM (s : MS) (i j x : Nat) : MS := ⟨s.pr, upd2 s.ways i j (s.ways i j ++ [x]), s.ins⟩
def prM (s : MS) (i : Nat) (p : Pr) : MS := ⟨upd1 s.pr i p, s.ways, s.ins⟩
def enterM (n : Nat) (s : MS) (i : Nat) : MS :=
  if (s.pr i).yes + 1 = n then ⟨upd1 s.pr i { s.pr i with st := 2 }, s.ways, s.ins ++ [i]⟩ else s
/-- A key to all others below m. -/
def keysTo (s : MS) (who x : Nat) : Nat → MS
  | 0 => s
  | m + 1 => if m = who then keysTo s who x m else putM (keysTo s who x m) who m x
def askS (s : MS) (who : Nat) : MS := prM s who ⟨(s.pr who).num + 1, 1, (s.pr who).num + 1, who, 0, (s.pr who).wait⟩
def askM (n : Nat) (s : MS) (who : Nat) : MS := enterM n (keysTo (askS s who) who ((s.pr who).num + 1) n) who
def holdB (p : Pr) (x frm : Nat) : Bool := decide (p.st = 2) || (decide (p.st = 1) && mlt p.kn p.kp x frm)
def numS (s : MS) (who x : Nat) : MS := prM s who { s.pr who with num := max (s.pr who).num x }
def answerM (s : MS) (who x frm : Nat) : MS :=
  if holdB (s.pr who) x frm = true then prM s who { s.pr who with num := max (s.pr who).num x, wait := (s.pr who).wait ++ [frm] }
  else putM (numS s who x) who frm 0
def wayM (s : MS) (i j : Nat) (l : List Nat) : MS := ⟨s.pr, upd2 s.ways i j l, s.ins⟩
def yesS (s : MS) (i : Nat) : MS := prM s i { s.pr i with yes := (s.pr i).yes + 1 }
def takeM (n : Nat) (s : MS) (frm to : Nat) : MS := match s.ways frm to with
  | [] => s
  | x :: r => if x = 0 then enterM n (yesS (wayM s frm to r) to) to else answerM (wayM s frm to r) to x frm
/-- A yes to each of a list. -/
def yesesTo (s : MS) (who : Nat) : List Nat → MS
  | [] => s
  | j :: r => yesesTo (putM s who j 0) who r
def outS (s : MS) (who : Nat) : MS := prM s who { s.pr who with st := 0 }
def noneS (s : MS) (who : Nat) : MS := prM s who { s.pr who with wait := [] }
def leaveM (s : MS) (who : Nat) : MS := noneS (yesesTo (outS s who) who (s.pr who).wait) who
def codeM (n : Nat) (s : MS) (p : Cst) : Int :=
  if p.kind ≠ 1 ∧ p.kind ≠ 2 ∧ p.kind ≠ 3 then 4
  else if inP n p.who = false ∨ (p.kind = 2 ∧ (inP n p.msg = false ∨ p.who = p.msg)) then 2
  else if p.kind = 2 then (if s.ways p.msg.toNat p.who.toNat = [] then 5 else 0)
  else if (p.kind = 1 ∧ (s.pr p.who.toNat).st ≠ 0) ∨ (p.kind = 3 ∧ (s.pr p.who.toNat).st ≠ 2) then 6 else 0
def doM (n : Nat) (s : MS) (p : Cst) : MS :=
  if p.kind = 1 then askM n s p.who.toNat
  else if p.kind = 2 then takeM n s p.msg.toNat p.who.toNat
  else leaveM s p.who.toNat
def stepM (n : Nat) (s : MS) (p : Cst) : MS := if codeM n s p = 0 then doM n s p else s
def ms0 : MS := ⟨fun _ => ⟨0, 0, 0, 0, 0, []⟩, fun _ _ => [], []⟩
def msAt (n : Nat) (ps : List Cst) : Nat → MS
  | 0 => ms0
  | k + 1 => match ps[k]? with
    | some p => stepM n (msAt n ps k) p
    | none => msAt n ps k
def mcAt (n : Nat) (ps : List Cst) (k : Nat) : Int := match ps[k]? with
  | some p => codeM n (msAt n ps k) p
  | none => 0
/-- Who is inside. -/
def insideM (n : Nat) (s : MS) : List Nat := (List.range n).filter fun i => (s.pr i).st == 2
/-- What is on the ways. -/
def awayTo (f : Nat → Nat) : Nat → Nat
  | 0 => 0
  | m + 1 => awayTo f m + f m
def awayM (n : Nat) (s : MS) : Nat := awayTo (fun i => awayTo (fun j => (s.ways i j).length) n) n

/-! Counting. -/
def nk (l : List Nat) : Nat := l.countP (fun x => x != 0)
def nz (l : List Nat) : Nat := l.countP (fun x => x == 0)
def wc (l : List Nat) (j : Nat) : Nat := l.countP (fun x => x == j)
def cc (s : MS) (i j : Nat) : Nat := nk (s.ways j i) + nz (s.ways i j) + wc (s.pr i).wait j
def sumO (f : Nat → Nat) (j : Nat) : Nat → Nat
  | 0 => 0
  | m + 1 => sumO f j m + if m = j then 0 else f m
theorem nk_app (l : List Nat) (x : Nat) : nk (l ++ [x]) = nk l + if x = 0 then 0 else 1 := by
  unfold nk; rw [List.countP_append]; by_cases h : x = 0 <;> simp [h]
theorem nz_app (l : List Nat) (x : Nat) : nz (l ++ [x]) = nz l + if x = 0 then 1 else 0 := by
  unfold nz; rw [List.countP_append]; by_cases h : x = 0 <;> simp [h]
theorem nk_cons (x : Nat) (l : List Nat) : nk (x :: l) = nk l + if x = 0 then 0 else 1 := by
  unfold nk; rw [List.countP_cons]; by_cases h : x = 0 <;> simp [h]
theorem nz_cons (x : Nat) (l : List Nat) : nz (x :: l) = nz l + if x = 0 then 1 else 0 := by
  unfold nz; rw [List.countP_cons]; by_cases h : x = 0 <;> simp [h]
theorem wc_app (l : List Nat) (x j : Nat) : wc (l ++ [x]) j = wc l j + if x = j then 1 else 0 := by
  unfold wc; rw [List.countP_append]; by_cases h : x = j <;> simp [h]
theorem nk_nz (l : List Nat) : l.length = nk l + nz l := by
  induction l with
  | nil => rfl
  | cons x r ih => rw [nk_cons, nz_cons, List.length_cons, ih]; split <;> omega
theorem nk_zero {l : List Nat} (h : nk l = 0) {x : Nat} (hx : x ∈ l) : x = 0 := by
  unfold nk at h
  rw [List.countP_eq_zero] at h
  simpa using h x hx
theorem wc_zero {l : List Nat} {j : Nat} : wc l j = 0 ↔ j ∉ l := by
  unfold wc
  rw [List.countP_eq_zero]
  constructor
  · intro h hj; simpa using h j hj
  · intro h x hx e; have : x = j := by simpa using e
    exact h (this ▸ hx)
theorem sumO_congr {f g : Nat → Nat} {j : Nat} : ∀ n, (∀ m, m < n → m ≠ j → f m = g m) → sumO f j n = sumO g j n
  | 0, _ => rfl
  | n + 1, h => by
    unfold sumO
    rw [sumO_congr n (fun m hm => h m (by omega))]
    split
    · rfl
    · rename_i e; rw [h n (by omega) e]
theorem sumO_one {f g : Nat → Nat} {j i : Nat} (hij : i ≠ j) : ∀ n, i < n → (∀ m, m < n → m ≠ j → m ≠ i → f m = g m) → sumO f j n + g i = sumO g j n + f i
  | 0, h, _ => by omega
  | n + 1, hi, h => by
    unfold sumO
    by_cases e : i = n
    · subst e
      rw [sumO_congr i (f := f) (g := g) (fun m hm hj => h m (by omega) hj (by omega)), if_neg hij, if_neg hij]
      omega
    · have := sumO_one (f := f) (g := g) hij n (by omega) (fun m hm => h m (by omega))
      split
      · omega
      · rename_i e2
        rw [h n (by omega) e2 (by omega)]
        omega
theorem sumO_zero {f : Nat → Nat} {j : Nat} : ∀ n, sumO f j n = 0 → ∀ m, m < n → m ≠ j → f m = 0
  | 0, _, m, h, _ => by omega
  | n + 1, h, m, hm, hj => by
    unfold sumO at h
    by_cases e : m = n
    · subst e; rw [if_neg hj] at h; omega
    · exact sumO_zero n (by omega) m (by omega) hj
theorem sumO_all {f : Nat → Nat} {j : Nat} : ∀ n, (∀ m, m < n → m ≠ j → f m = 1) → sumO f j n = if j < n then n - 1 else n
  | 0, _ => by simp [sumO]
  | n + 1, h => by
    unfold sumO
    rw [sumO_all n (fun m hm => h m (by omega))]
    by_cases e : n = j
    · subst e; simp
    · rw [if_neg e, h n (by omega) e]
      by_cases h2 : j < n
      · rw [if_pos h2, if_pos (by omega)]; omega
      · rw [if_neg h2, if_neg (by omega)]

/-! What holds at every step. -/
def kl (s : MS) (a b : Nat) : Prop := (s.pr a).kn < (s.pr b).kn ∨ ((s.pr a).kn = (s.pr b).kn ∧ a < b)
def Perm (s : MS) (i j : Nat) : Prop := (s.pr j).st = 2 ∨ ((s.pr j).st = 1 ∧ nk (s.ways j i) = 0 ∧ j ∉ (s.pr i).wait)
structure MI0 (n : Nat) (s : MS) : Prop where
  le1 : ∀ i j, i < n → j < n → i ≠ j → cc s i j ≤ 1
  off : ∀ i j, i < n → j < n → i ≠ j → (s.pr j).st ≠ 1 → cc s i j = 0
  sum : ∀ j, j < n → (s.pr j).st = 1 → (s.pr j).yes + sumO (fun i => cc s i j) j n + 1 = n
  key : ∀ i j, i < n → j < n → i ≠ j → ∀ x ∈ s.ways j i, x ≠ 0 → x = (s.pr j).kn
  own : ∀ j, j < n → (s.pr j).st ≠ 0 → (s.pr j).kp = j ∧ 1 ≤ (s.pr j).kn ∧ (s.pr j).kn ≤ (s.pr j).num
  wt : ∀ i, i < n → ∀ j, j ∈ (s.pr i).wait → j < n ∧ j ≠ i ∧ (s.pr j).kn ≤ (s.pr i).num ∧ ((s.pr i).st = 2 ∨ ((s.pr i).st = 1 ∧ kl s i j))
  perm : ∀ i j, i < n → j < n → i ≠ j → Perm s i j → (s.pr j).kn ≤ (s.pr i).num ∧ ((s.pr i).st ≠ 0 → kl s j i)
  st3 : ∀ j, (s.pr j).st ≤ 2
structure MInv (n : Nat) (s : MS) : Prop extends MI0 n s where
  lt : ∀ j, j < n → (s.pr j).st = 1 → (s.pr j).yes + 1 < n
theorem minv0 (n : Nat) : MInv n ms0 :=
  ⟨⟨fun _ _ _ _ _ => by simp [cc, ms0, nk, nz, wc], fun _ _ _ _ _ _ => by simp [cc, ms0, nk, nz, wc], fun _ _ h => by simp [ms0] at h, fun _ _ _ _ _ x h => by simp [ms0] at h, fun _ _ h => by simp [ms0] at h, fun _ _ _ h => by simp [ms0] at h,
    fun _ _ _ _ _ h => by simp [ms0, Perm] at h, fun _ => by simp [ms0]⟩, fun _ _ h => by simp [ms0] at h⟩

/-- One that asks comes inside, if it may. -/
theorem enter_inv {n : Nat} {s : MS} (h : MI0 n s) {i : Nat} (hi : i < n) (hs : (s.pr i).st = 1) (hl : ∀ j, j < n → j ≠ i → (s.pr j).st = 1 → (s.pr j).yes + 1 < n) : MInv n (enterM n s i) := by
  have hsum := h.sum i hi hs
  unfold enterM
  by_cases e : (s.pr i).yes + 1 = n
  · rw [if_pos e]
    have hz : ∀ a, a < n → a ≠ i → cc s a i = 0 := fun a ha hai => sumO_zero (f := fun a => cc s a i) n (by omega) a ha hai
    have hp : ∀ k, ((upd1 s.pr i { s.pr i with st := 2 }) k).num = (s.pr k).num ∧ ((upd1 s.pr i { s.pr i with st := 2 }) k).kn = (s.pr k).kn ∧ ((upd1 s.pr i { s.pr i with st := 2 }) k).kp = (s.pr k).kp ∧
        ((upd1 s.pr i { s.pr i with st := 2 }) k).yes = (s.pr k).yes ∧ ((upd1 s.pr i { s.pr i with st := 2 }) k).wait = (s.pr k).wait ∧ ((upd1 s.pr i { s.pr i with st := 2 }) k).st = if k = i then 2 else (s.pr k).st := by
      intro k
      by_cases hk : k = i
      · subst hk; simp [upd1_same]
      · simp [upd1_other _ _ hk, hk]
    have hc : ∀ a b, cc ⟨upd1 s.pr i { s.pr i with st := 2 }, s.ways, s.ins ++ [i]⟩ a b = cc s a b := fun a b => by
      unfold cc
      simp only [(hp a).2.2.2.2.1]
    refine ⟨⟨?_, ?_, ?_, ?_, ?_, ?_, ?_, ?_⟩, ?_⟩
    · intro a b ha hb hab; rw [hc]; exact h.le1 a b ha hb hab
    · intro a b ha hb hab hst
      rw [hc]
      simp only [(hp b).2.2.2.2.2] at hst
      by_cases hbi : b = i
      · subst hbi; exact hz a ha hab
      · rw [if_neg hbi] at hst; exact h.off a b ha hb hab hst
    · intro b hb hst
      simp only [(hp b).2.2.2.2.2] at hst
      by_cases hbi : b = i
      · rw [if_pos hbi] at hst; omega
      · rw [if_neg hbi] at hst
        simp only [(hp b).2.2.2.1, hc]
        exact h.sum b hb hst
    · intro a b ha hb hab x hx hx0
      simp only [(hp b).2.1]
      exact h.key a b ha hb hab x hx hx0
    · intro b hb hst
      simp only [(hp b).2.2.1, (hp b).2.1, (hp b).1]
      refine h.own b hb ?_
      simp only [(hp b).2.2.2.2.2] at hst
      by_cases hbi : b = i
      · subst hbi; omega
      · rwa [if_neg hbi] at hst
    · intro a ha b hb
      simp only [(hp a).2.2.2.2.1] at hb
      obtain ⟨h1, h2, h3, h4⟩ := h.wt a ha b hb
      refine ⟨h1, h2, ?_, ?_⟩
      · simp only [(hp b).2.1, (hp a).1]; exact h3
      · unfold kl at h4 ⊢
        simp only [(hp a).2.2.2.2.2, (hp a).2.1, (hp b).2.1]
        by_cases hai : a = i
        · left; rw [if_pos hai]
        · rw [if_neg hai]; exact h4
    · intro a b ha hb hab hP
      have hP2 : Perm s a b := by
        unfold Perm at hP ⊢
        simp only [(hp b).2.2.2.2.2, (hp a).2.2.2.2.1] at hP
        by_cases hbi : b = i
        · subst hbi
          have := hz a ha hab
          unfold cc at this
          exact .inr ⟨hs, by omega, wc_zero.1 (by omega)⟩
        · rw [if_neg hbi] at hP; exact hP
      obtain ⟨h1, h2⟩ := h.perm a b ha hb hab hP2
      refine ⟨by simp only [(hp b).2.1, (hp a).1]; exact h1, fun hst => ?_⟩
      unfold kl at h2 ⊢
      simp only [(hp a).2.1, (hp b).2.1]
      refine h2 ?_
      simp only [(hp a).2.2.2.2.2] at hst
      by_cases hai : a = i
      · subst hai; omega
      · rwa [if_neg hai] at hst
    · intro b
      simp only [(hp b).2.2.2.2.2]
      split
      · omega
      · exact h.st3 b
    · intro b hb hst
      simp only [(hp b).2.2.2.2.2] at hst
      by_cases hbi : b = i
      · rw [if_pos hbi] at hst; omega
      · rw [if_neg hbi] at hst
        simp only [(hp b).2.2.2.1]
        exact hl b hb hbi hst
  · rw [if_neg e]
    refine ⟨h, fun j hj hst => ?_⟩
    by_cases hji : j = i
    · subst hji; omega
    · exact hl j hj hji hst
end Go.Proofs.Ytaojmbebkggafaa
