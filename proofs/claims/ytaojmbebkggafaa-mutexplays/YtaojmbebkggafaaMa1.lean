/- One at a time: what each step leaves; plain. -/
import Derived.Test.YtaojmbebkggafaaMa0
namespace Go.Proofs.Ytaojmbebkggafaa
set_option linter.unusedVariables false

theorem keysTo_pr (s : MS) (who x : Nat) : ∀ m, (keysTo s who x m).pr = s.pr ∧ (keysTo s who x m).ins = s.ins
  | 0 => ⟨rfl, rfl⟩
  | m + 1 => by
    unfold keysTo
    split
    · exact keysTo_pr s who x m
    · exact keysTo_pr s who x m
theorem keysTo_ways (s : MS) (who x a b : Nat) : ∀ m, (keysTo s who x m).ways a b = if a = who ∧ b ≠ who ∧ b < m then s.ways a b ++ [x] else s.ways a b
  | 0 => by simp [keysTo]
  | m + 1 => by
    have ih := keysTo_ways s who x a b m
    unfold keysTo
    split
    · rename_i e
      rw [ih]
      by_cases h : a = who ∧ b ≠ who ∧ b < m
      · rw [if_pos h, if_pos ⟨h.1, h.2.1, by omega⟩]
      · rw [if_neg h, if_neg (fun h2 => h ⟨h2.1, h2.2.1, by omega⟩)]
    · rename_i e
      show upd2 (keysTo s who x m).ways who m ((keysTo s who x m).ways who m ++ [x]) a b = _
      by_cases h : a = who ∧ b = m
      · obtain ⟨rfl, rfl⟩ := h
        have e3 : (keysTo s a x b).ways a b = s.ways a b := by rw [ih, if_neg (by omega)]
        rw [upd2_same, e3, if_pos ⟨rfl, e, by omega⟩]
      · rw [upd2_other _ _ h, ih]
        by_cases h2 : a = who ∧ b ≠ who ∧ b < m
        · rw [if_pos h2, if_pos ⟨h2.1, h2.2.1, by omega⟩]
        · rw [if_neg h2, if_neg (fun h3 => h2 ⟨h3.1, h3.2.1, by have := h3.2.2; have : b ≠ m := fun e => h ⟨h3.1, e⟩; omega⟩)]
theorem yesesTo_pr (who : Nat) : ∀ (l : List Nat) (s : MS), (yesesTo s who l).pr = s.pr ∧ (yesesTo s who l).ins = s.ins
  | [], s => ⟨rfl, rfl⟩
  | j :: r, s => yesesTo_pr who r (putM s who j 0)
theorem yesesTo_ways (who a b : Nat) : ∀ (l : List Nat) (s : MS), (yesesTo s who l).ways a b = if a = who then s.ways a b ++ List.replicate (wc l b) 0 else s.ways a b
  | [], s => by simp [yesesTo, wc]
  | j :: r, s => by
    show (yesesTo (putM s who j 0) who r).ways a b = _
    rw [yesesTo_ways who a b r (putM s who j 0)]
    have hw : wc (j :: r) b = wc r b + if j = b then 1 else 0 := by
      unfold wc; rw [List.countP_cons]; by_cases h : j = b <;> simp [h]
    by_cases e : a = who
    · subst e
      rw [if_pos rfl, if_pos rfl, hw]
      show upd2 s.ways a j (s.ways a j ++ [0]) a b ++ _ = _
      by_cases h : b = j
      · subst h
        rw [upd2_same, if_pos rfl, List.append_assoc, List.replicate_succ]; rfl
      · rw [upd2_other _ _ (by simp [h]), if_neg (Ne.symm h)]; rfl
    · rw [if_neg e, if_neg e]
      show upd2 s.ways who j (s.ways who j ++ [0]) a b = _
      rw [upd2_other _ _ (by simp [e])]
theorem nk_rep (l : List Nat) (m : Nat) : nk (l ++ List.replicate m 0) = nk l := by
  unfold nk; rw [List.countP_append, List.countP_replicate]; simp
theorem nz_rep (l : List Nat) (m : Nat) : nz (l ++ List.replicate m 0) = nz l + m := by
  unfold nz; rw [List.countP_append, List.countP_replicate]; simp

variable {n : Nat} {s : MS}
theorem upd1_ite {α : Type} (f : Nat → α) (i : Nat) (v : α) (k : Nat) : upd1 f i v k = if k = i then v else f k := rfl

theorem ask_inv (h : MInv n s) {who : Nat} (hw : who < n) (h0 : (s.pr who).st = 0) : MInv n (askM n s who) := by
  have hwt : (s.pr who).wait = [] := by
    cases hl : (s.pr who).wait with
    | nil => rfl
    | cons j r =>
      have := (h.wt who hw j (by rw [hl]; simp)).2.2.2
      omega
  have hpr := keysTo_pr (askS s who) who ((s.pr who).num + 1) n
  have hws := fun a b => keysTo_ways (askS s who) who ((s.pr who).num + 1) a b n
  have hP : ∀ k, (keysTo (askS s who) who ((s.pr who).num + 1) n).pr k = if k = who then ⟨(s.pr who).num + 1, 1, (s.pr who).num + 1, who, 0, []⟩ else s.pr k := by
    intro k; rw [hpr.1]; show upd1 s.pr who _ k = _; rw [upd1_ite, hwt]
  have hW : ∀ a b, (keysTo (askS s who) who ((s.pr who).num + 1) n).ways a b = if a = who ∧ b ≠ who ∧ b < n then s.ways a b ++ [(s.pr who).num + 1] else s.ways a b := hws
  unfold askM
  generalize keysTo (askS s who) who ((s.pr who).num + 1) n = t at *
  clear hpr hws
  have hnk : ∀ a b, nk (t.ways a b) = nk (s.ways a b) + if a = who ∧ b ≠ who ∧ b < n then 1 else 0 := by
    intro a b; rw [hW]; split
    · rw [nk_app]; simp
    · rfl
  have hnz : ∀ a b, nz (t.ways a b) = nz (s.ways a b) := by
    intro a b; rw [hW]; split
    · rw [nz_app]; simp
    · rfl
  have hwait : ∀ k, (t.pr k).wait = (s.pr k).wait := by
    intro k; rw [hP]; split
    · rename_i e; rw [e, hwt]
    · rfl
  have hcc : ∀ a b, cc t a b = cc s a b + if b = who ∧ a ≠ who ∧ a < n then 1 else 0 := by
    intro a b; unfold cc; rw [hnk, hnz, hwait]; omega
  have hst : ∀ k, (t.pr k).st = if k = who then 1 else (s.pr k).st := by intro k; rw [hP]; split <;> rfl
  have hnum : ∀ k, (t.pr k).num = if k = who then (s.pr who).num + 1 else (s.pr k).num := by intro k; rw [hP]; split <;> rfl
  have hkn : ∀ k, (t.pr k).kn = if k = who then (s.pr who).num + 1 else (s.pr k).kn := by intro k; rw [hP]; split <;> rfl
  have hkp : ∀ k, (t.pr k).kp = if k = who then who else (s.pr k).kp := by intro k; rw [hP]; split <;> rfl
  have hy : ∀ k, (t.pr k).yes = if k = who then 0 else (s.pr k).yes := by intro k; rw [hP]; split <;> rfl
  clear hP
  have hoff : ∀ a, a < n → a ≠ who → cc s a who = 0 := fun a ha hne => h.off a who ha hw hne (by omega)
  refine enter_inv (i := who) ⟨?_, ?_, ?_, ?_, ?_, ?_, ?_, ?_⟩ hw (by rw [hst, if_pos rfl]) ?_
  · intro a b ha hb hab
    rw [hcc]
    have := h.le1 a b ha hb hab
    split
    · rename_i e; rw [e.1, hoff a ha e.2.1]; omega
    · omega
  · intro a b ha hb hab h1
    rw [hst] at h1
    by_cases e : b = who
    · rw [if_pos e] at h1; omega
    · rw [if_neg e] at h1
      rw [hcc, if_neg (fun h2 => e h2.1), h.off a b ha hb hab h1]
  · intro b hb h1
    by_cases e : b = who
    · subst e
      rw [hy, if_pos rfl, sumO_all n (fun m hm hne => by show cc t m b = 1; rw [hcc, hoff m hm hne, if_pos ⟨rfl, hne, hm⟩]), if_pos hb]
      omega
    · rw [hst, if_neg e] at h1
      rw [hy, if_neg e, sumO_congr n (g := fun i => cc s i b) (fun m hm hne => by show cc t m b = cc s m b; rw [hcc, if_neg (fun h2 => e h2.1)]; rfl)]
      exact h.sum b hb h1
  · intro a b ha hb hab x hx hx0
    rw [hW] at hx
    rw [hkn]
    by_cases e : b = who
    · subst e
      rw [if_pos rfl]
      split at hx
      · rw [List.mem_append] at hx
        rcases hx with hx | hx
        · have := hoff a ha hab
          unfold cc at this
          exact absurd (nk_zero (by omega) hx) hx0
        · simpa using hx
      · rename_i h2; exact absurd ⟨rfl, hab, ha⟩ h2
    · rw [if_neg e]
      rw [if_neg (fun h2 => e h2.1)] at hx
      exact h.key a b ha hb hab x hx hx0
  · intro b hb h1
    rw [hkp, hkn, hnum]
    by_cases e : b = who
    · rw [if_pos e, if_pos e, if_pos e]; omega
    · rw [if_neg e, if_neg e, if_neg e]
      rw [hst, if_neg e] at h1
      exact h.own b hb h1
  · intro a ha b hb
    rw [hwait] at hb
    have hane : a ≠ who := fun e => by rw [e, hwt] at hb; simp at hb
    obtain ⟨h1, h2, h3, h4⟩ := h.wt a ha b hb
    have hbne : b ≠ who := fun e => by
      subst e
      have := hoff a ha hane
      unfold cc at this
      exact wc_zero.1 (by omega) hb
    refine ⟨h1, h2, ?_, ?_⟩
    · rw [hkn, hnum, if_neg hbne, if_neg hane]; exact h3
    · unfold kl at h4 ⊢
      rw [hst, hkn, hkn, if_neg hane, if_neg hane, if_neg hbne]; exact h4
  · intro a b ha hb hab hPm
    by_cases e : b = who
    · subst e
      unfold Perm at hPm
      rw [hst, if_pos rfl, hnk, if_pos ⟨rfl, hab, ha⟩] at hPm
      omega
    · have hP2 : Perm s a b := by
        unfold Perm at hPm ⊢
        rw [hst, if_neg e, hnk, if_neg (fun h2 => e h2.1), hwait] at hPm
        exact hPm
      obtain ⟨h1, h2⟩ := h.perm a b ha hb hab hP2
      unfold kl at h2 ⊢
      rw [hkn, hkn, hnum, hst, if_neg e]
      by_cases e2 : a = who
      · subst e2
        simp only [if_true]
        exact ⟨by omega, fun _ => .inl (by omega)⟩
      · rw [if_neg e2, if_neg e2, if_neg e2]
        exact ⟨h1, h2⟩
  · intro b
    rw [hst]; split
    · omega
    · exact h.st3 b
  · intro b hb hne h1
    rw [hst, if_neg hne] at h1
    rw [hy, if_neg hne]
    exact h.lt b hb h1

theorem leave_inv (h : MInv n s) {who : Nat} (hw : who < n) (h2 : (s.pr who).st = 2) : MInv n (leaveM s who) := by
  have hpr := yesesTo_pr who (s.pr who).wait (outS s who)
  have hP : ∀ k, (leaveM s who).pr k = if k = who then { s.pr who with st := 0, wait := [] } else s.pr k := by
    intro k
    show upd1 (yesesTo (outS s who) who (s.pr who).wait).pr who { (yesesTo (outS s who) who (s.pr who).wait).pr who with wait := [] } k = _
    rw [upd1_ite, hpr.1]
    split
    · show { (upd1 s.pr who { s.pr who with st := 0 }) who with wait := [] } = _; rw [upd1_same]
    · rename_i e; show upd1 s.pr who _ k = _; rw [upd1_other _ _ e]
  have hW : ∀ a b, (leaveM s who).ways a b = if a = who then s.ways a b ++ List.replicate (wc (s.pr who).wait b) 0 else s.ways a b := fun a b => yesesTo_ways who a b _ _
  generalize leaveM s who = t at *
  clear hpr
  have hnk : ∀ a b, nk (t.ways a b) = nk (s.ways a b) := by
    intro a b; rw [hW]; split
    · rw [nk_rep]
    · rfl
  have hnz : ∀ a b, nz (t.ways a b) = nz (s.ways a b) + if a = who then wc (s.pr who).wait b else 0 := by
    intro a b; rw [hW]; split
    · rw [nz_rep]
    · rfl
  have hwait : ∀ k, (t.pr k).wait = if k = who then [] else (s.pr k).wait := by intro k; rw [hP]; split <;> rfl
  have hcc : ∀ a b, cc t a b = cc s a b := by
    intro a b; unfold cc; rw [hnk, hnz, hwait]
    by_cases e : a = who
    · subst e
      rw [if_pos rfl, if_pos rfl]
      have : wc [] b = 0 := rfl
      omega
    · rw [if_neg e, if_neg e]; omega
  have hst : ∀ k, (t.pr k).st = if k = who then 0 else (s.pr k).st := by intro k; rw [hP]; split <;> rfl
  have hnum : ∀ k, (t.pr k).num = (s.pr k).num := by intro k; rw [hP]; split <;> (try subst_vars) <;> rfl
  have hkn : ∀ k, (t.pr k).kn = (s.pr k).kn := by intro k; rw [hP]; split <;> (try subst_vars) <;> rfl
  have hkp : ∀ k, (t.pr k).kp = (s.pr k).kp := by intro k; rw [hP]; split <;> (try subst_vars) <;> rfl
  have hy : ∀ k, (t.pr k).yes = (s.pr k).yes := by intro k; rw [hP]; split <;> (try subst_vars) <;> rfl
  clear hP
  refine ⟨⟨?_, ?_, ?_, ?_, ?_, ?_, ?_, ?_⟩, ?_⟩
  · intro a b ha hb hab; rw [hcc]; exact h.le1 a b ha hb hab
  · intro a b ha hb hab h1
    rw [hcc]
    refine h.off a b ha hb hab ?_
    rw [hst] at h1
    by_cases e : b = who
    · rw [e]; omega
    · rwa [if_neg e] at h1
  · intro b hb h1
    rw [hst] at h1
    by_cases e : b = who
    · rw [if_pos e] at h1; omega
    · rw [if_neg e] at h1
      rw [hy, sumO_congr n (g := fun i => cc s i b) (fun m hm hne => hcc m b)]
      exact h.sum b hb h1
  · intro a b ha hb hab x hx hx0
    rw [hkn]
    refine h.key a b ha hb hab x ?_ hx0
    rw [hW] at hx
    split at hx
    · rw [List.mem_append, List.mem_replicate] at hx
      rcases hx with hx | hx
      · exact hx
      · exact absurd hx.2 hx0
    · exact hx
  · intro b hb h1
    rw [hkp, hkn, hnum]
    refine h.own b hb ?_
    rw [hst] at h1
    by_cases e : b = who
    · rw [e]; omega
    · rwa [if_neg e] at h1
  · intro a ha b hb
    rw [hwait] at hb
    have hane : a ≠ who := fun e => by rw [if_pos e] at hb; simp at hb
    rw [if_neg hane] at hb
    obtain ⟨h1, h3, h4, h5⟩ := h.wt a ha b hb
    refine ⟨h1, h3, by rw [hkn, hnum]; exact h4, ?_⟩
    unfold kl at h5 ⊢
    rw [hst, hkn, hkn, if_neg hane]; exact h5
  · intro a b ha hb hab hPm
    have hbne : b ≠ who := fun e => by
      unfold Perm at hPm
      rw [hst, if_pos e] at hPm
      omega
    unfold Perm at hPm
    rw [hst, if_neg hbne, hnk, hwait] at hPm
    rw [hkn, hnum, hst]
    by_cases e : a = who
    · subst e
      refine ⟨?_, fun h1 => absurd (if_pos rfl) h1⟩
      by_cases hb2 : b ∈ (s.pr a).wait
      · exact (h.wt a ha b hb2).2.2.1
      · refine (h.perm a b ha hb hab ?_).1
        rcases hPm with hPm | hPm
        · exact .inl hPm
        · exact .inr ⟨hPm.1, hPm.2.1, hb2⟩
    · rw [if_neg e] at hPm ⊢
      obtain ⟨h1, h3⟩ := h.perm a b ha hb hab hPm
      refine ⟨h1, ?_⟩
      unfold kl at h3 ⊢
      rw [hkn, hkn]; exact h3
  · intro b
    rw [hst]; split
    · omega
    · exact h.st3 b
  · intro b hb h1
    rw [hst] at h1
    by_cases e : b = who
    · rw [if_pos e] at h1; omega
    · rw [if_neg e] at h1; rw [hy]; exact h.lt b hb h1

theorem take_yes_inv (h : MInv n s) {frm to : Nat} {r : List Nat} (hf : frm < n) (ht : to < n) (hne : frm ≠ to) (hw : s.ways frm to = 0 :: r) : MInv n (enterM n (yesS (wayM s frm to r) to) to) := by
  have hP : ∀ k, (yesS (wayM s frm to r) to).pr k = if k = to then { s.pr to with yes := (s.pr to).yes + 1 } else s.pr k := fun k => rfl
  have hW : ∀ a b, (yesS (wayM s frm to r) to).ways a b = if a = frm ∧ b = to then r else s.ways a b := fun a b => rfl
  generalize yesS (wayM s frm to r) to = t at *
  have hnk : ∀ a b, nk (t.ways a b) = nk (s.ways a b) := by
    intro a b; rw [hW]; split
    · rename_i e; rw [e.1, e.2, hw, nk_cons, if_pos rfl]; rfl
    · rfl
  have hnz : ∀ a b, nz (t.ways a b) + (if a = frm ∧ b = to then 1 else 0) = nz (s.ways a b) := by
    intro a b; rw [hW]; split
    · rename_i e; rw [e.1, e.2, hw, nz_cons, if_pos rfl]
    · rfl
  have hwait : ∀ k, (t.pr k).wait = (s.pr k).wait := by intro k; rw [hP]; split <;> (try subst_vars) <;> rfl
  have hcc : ∀ a b, cc t a b + (if a = frm ∧ b = to then 1 else 0) = cc s a b := by
    intro a b; unfold cc; rw [hnk, hwait]; have := hnz a b; omega
  have hst : ∀ k, (t.pr k).st = (s.pr k).st := by intro k; rw [hP]; split <;> (try subst_vars) <;> rfl
  have hnum : ∀ k, (t.pr k).num = (s.pr k).num := by intro k; rw [hP]; split <;> (try subst_vars) <;> rfl
  have hkn : ∀ k, (t.pr k).kn = (s.pr k).kn := by intro k; rw [hP]; split <;> (try subst_vars) <;> rfl
  have hkp : ∀ k, (t.pr k).kp = (s.pr k).kp := by intro k; rw [hP]; split <;> (try subst_vars) <;> rfl
  have hy : ∀ k, (t.pr k).yes = (s.pr k).yes + if k = to then 1 else 0 := by intro k; rw [hP]; split <;> (try subst_vars) <;> rfl
  clear hP
  have hst1 : (s.pr to).st = 1 := by
    refine Classical.byContradiction fun e => ?_
    have h1 := h.off frm to hf ht hne e
    have h3 := hcc frm to
    rw [if_pos ⟨rfl, rfl⟩] at h3
    omega
  refine enter_inv (i := to) ⟨?_, ?_, ?_, ?_, ?_, ?_, ?_, ?_⟩ ht (by rw [hst, hst1]) ?_
  · intro a b ha hb hab; have := h.le1 a b ha hb hab; have := hcc a b; omega
  · intro a b ha hb hab h1; rw [hst] at h1; have := h.off a b ha hb hab h1; have := hcc a b; omega
  · intro b hb h1
    rw [hst] at h1
    have h3 := h.sum b hb h1
    rw [hy]
    by_cases e : b = to
    · subst e
      have h4 := sumO_one (f := fun i => cc t i b) (g := fun i => cc s i b) (j := b) (i := frm) hne n hf (fun m hm _ hmf => by
        have := hcc m b; rw [if_neg (fun e => hmf e.1)] at this; exact this)
      have h5 := hcc frm b
      rw [if_pos ⟨rfl, rfl⟩] at h5
      rw [if_pos rfl]
      omega
    · rw [if_neg e, sumO_congr n (g := fun i => cc s i b) (fun m hm _ => by have := hcc m b; rw [if_neg (fun e2 => e e2.2)] at this; exact this)]
      exact h3
  · intro a b ha hb hab x hx hx0
    rw [hkn]
    refine h.key a b ha hb hab x ?_ hx0
    rw [hW] at hx
    split at hx
    · rename_i e; rw [e.1, e.2, hw]; exact List.mem_cons_of_mem _ hx
    · exact hx
  · intro b hb h1; rw [hkp, hkn, hnum]; rw [hst] at h1; exact h.own b hb h1
  · intro a ha b hb
    rw [hwait] at hb
    have := h.wt a ha b hb
    unfold kl at this ⊢
    rw [hkn, hkn, hnum, hst]; exact this
  · intro a b ha hb hab hPm
    unfold Perm at hPm
    rw [hst, hnk, hwait] at hPm
    have := h.perm a b ha hb hab hPm
    unfold kl at this ⊢
    rw [hkn, hkn, hnum, hst]; exact this
  · intro b; rw [hst]; exact h.st3 b
  · intro b hb hbt h1; rw [hst] at h1; rw [hy, if_neg hbt]; exact h.lt b hb h1

theorem take_key_inv (h : MInv n s) {frm to x : Nat} {r : List Nat} (hf : frm < n) (ht : to < n) (hne : frm ≠ to) (hw : s.ways frm to = x :: r) (hx : x ≠ 0) : MInv n (answerM (wayM s frm to r) to x frm) := by
  -- whose key it is asks, with that key
  have hcpos : cc s to frm ≥ 1 := by unfold cc; rw [hw, nk_cons, if_neg hx]; omega
  have hstf : (s.pr frm).st = 1 := Classical.byContradiction fun e => by have := h.off to frm ht hf (Ne.symm hne) e; omega
  have hkx : x = (s.pr frm).kn := h.key to frm ht hf (Ne.symm hne) x (by rw [hw]; simp) hx
  have hc1 := h.le1 to frm ht hf (Ne.symm hne)
  have hnoW : frm ∉ (s.pr to).wait := by
    intro hm
    have h1 : wc (s.pr to).wait frm ≠ 0 := fun e => wc_zero.1 e hm
    unfold cc at hc1
    rw [hw, nk_cons, if_neg hx] at hc1
    omega
  -- what both ways of answering have in common
  have key : ∀ t : MS, (∀ k, (t.pr k).st = (s.pr k).st) → (∀ k, (t.pr k).num = if k = to then max (s.pr to).num x else (s.pr k).num) → (∀ k, (t.pr k).kn = (s.pr k).kn) → (∀ k, (t.pr k).kp = (s.pr k).kp) → (∀ k, (t.pr k).yes = (s.pr k).yes) →
      (∀ a b, nk (t.ways a b) + (if a = frm ∧ b = to then 1 else 0) = nk (s.ways a b)) → (∀ a b, cc t a b = cc s a b) → (∀ a b y, y ∈ t.ways a b → y ≠ 0 → y ∈ s.ways a b) →
      (∀ a j, j ∈ (t.pr a).wait → j ∈ (s.pr a).wait ∨ (a = to ∧ j = frm)) → (∀ a j, j ∈ (s.pr a).wait → j ∈ (t.pr a).wait) →
      (frm ∈ (t.pr to).wait ∧ ((s.pr to).st = 2 ∨ ((s.pr to).st = 1 ∧ kl s to frm)) ∨ frm ∉ (t.pr to).wait ∧ ((s.pr to).st ≠ 0 → kl s frm to)) → MInv n t := by
    intro t hst hnum hkn hkp hy hnk hcc hmem hw1 hw2 hor
    have hnum2 : ∀ k, (s.pr k).num ≤ (t.pr k).num := fun k => by rw [hnum]; split <;> (try subst_vars) <;> omega
    refine ⟨⟨?_, ?_, ?_, ?_, ?_, ?_, ?_, ?_⟩, ?_⟩
    · intro a b ha hb hab; rw [hcc]; exact h.le1 a b ha hb hab
    · intro a b ha hb hab h1; rw [hst] at h1; rw [hcc]; exact h.off a b ha hb hab h1
    · intro b hb h1; rw [hst] at h1; rw [hy, sumO_congr n (g := fun i => cc s i b) (fun m _ _ => hcc m b)]; exact h.sum b hb h1
    · intro a b ha hb hab y hy2 hy0; rw [hkn]; exact h.key a b ha hb hab y (hmem _ _ y hy2 hy0) hy0
    · intro b hb h1
      rw [hst] at h1
      obtain ⟨h3, h4, h5⟩ := h.own b hb h1
      rw [hkp, hkn]
      exact ⟨h3, h4, Nat.le_trans h5 (hnum2 b)⟩
    · intro a ha b hb
      unfold kl
      rw [hst, hkn, hkn]
      rcases hw1 a b hb with h1 | ⟨rfl, rfl⟩
      · obtain ⟨h3, h4, h5, h6⟩ := h.wt a ha b h1
        exact ⟨h3, h4, Nat.le_trans h5 (hnum2 a), h6⟩
      · rcases hor with ⟨_, h3⟩ | ⟨h3, _⟩
        · exact ⟨hf, hne, by rw [hnum, if_pos rfl, ← hkx]; omega, h3⟩
        · exact absurd hb h3
    · intro a b ha hb hab hPm
      unfold kl
      rw [hst, hkn, hkn]
      by_cases e : a = to ∧ b = frm
      · obtain ⟨rfl, rfl⟩ := e
        refine ⟨by rw [hnum, if_pos rfl, ← hkx]; omega, ?_⟩
        rcases hor with ⟨h3, _⟩ | ⟨_, h3⟩
        · unfold Perm at hPm
          rw [hst, hstf] at hPm
          rcases hPm with hPm | hPm
          · omega
          · exact absurd h3 hPm.2.2
        · exact h3
      · have hP2 : Perm s a b := by
          unfold Perm at hPm ⊢
          rw [hst] at hPm
          rcases hPm with hPm | ⟨h3, h4, h5⟩
          · exact .inl hPm
          · refine .inr ⟨h3, ?_, fun h6 => h5 (hw2 a b h6)⟩
            have h7 := hnk b a
            rw [if_neg (fun e2 => e ⟨e2.2, e2.1⟩)] at h7
            omega
        obtain ⟨h3, h4⟩ := h.perm a b ha hb hab hP2
        exact ⟨Nat.le_trans h3 (hnum2 a), h4⟩
    · intro b; rw [hst]; exact h.st3 b
    · intro b hb h1; rw [hst] at h1; rw [hy]; exact h.lt b hb h1
  have hway : ∀ a b, (wayM s frm to r).ways a b = if a = frm ∧ b = to then r else s.ways a b := fun a b => rfl
  have hnkw : ∀ a b, nk ((wayM s frm to r).ways a b) + (if a = frm ∧ b = to then 1 else 0) = nk (s.ways a b) := by
    intro a b; rw [hway]; split
    · rename_i e; rw [e.1, e.2, hw, nk_cons, if_neg hx]
    · rfl
  have hnzw : ∀ a b, nz ((wayM s frm to r).ways a b) = nz (s.ways a b) := by
    intro a b; rw [hway]; split
    · rename_i e; rw [e.1, e.2, hw, nz_cons, if_neg hx]; rfl
    · rfl
  have hmemw : ∀ a b y, y ∈ (wayM s frm to r).ways a b → y ∈ s.ways a b := by
    intro a b y hy
    rw [hway] at hy
    split at hy
    · rename_i e; rw [e.1, e.2, hw]; exact List.mem_cons_of_mem _ hy
    · exact hy
  unfold answerM
  by_cases hB : holdB ((wayM s frm to r).pr to) x frm = true
  · rw [if_pos hB]
    have hP : ∀ k, (prM (wayM s frm to r) to { (wayM s frm to r).pr to with num := max ((wayM s frm to r).pr to).num x, wait := ((wayM s frm to r).pr to).wait ++ [frm] }).pr k = if k = to then { s.pr to with num := max (s.pr to).num x, wait := (s.pr to).wait ++ [frm] } else s.pr k := fun k => rfl
    have hWw : ∀ a b, (prM (wayM s frm to r) to { (wayM s frm to r).pr to with num := max ((wayM s frm to r).pr to).num x, wait := ((wayM s frm to r).pr to).wait ++ [frm] }).ways a b = (wayM s frm to r).ways a b := fun a b => rfl
    have hB2 : holdB (s.pr to) x frm = true := hB
    generalize prM (wayM s frm to r) to { (wayM s frm to r).pr to with num := max ((wayM s frm to r).pr to).num x, wait := ((wayM s frm to r).pr to).wait ++ [frm] } = t at *
    have hwait : ∀ k, (t.pr k).wait = if k = to then (s.pr to).wait ++ [frm] else (s.pr k).wait := by intro k; rw [hP]; split <;> rfl
    refine key t ?_ ?_ ?_ ?_ ?_ ?_ ?_ ?_ ?_ ?_ ?_
    · intro k; rw [hP]; split <;> (try subst_vars) <;> rfl
    · intro k; rw [hP]; split <;> (try subst_vars) <;> rfl
    · intro k; rw [hP]; split <;> (try subst_vars) <;> rfl
    · intro k; rw [hP]; split <;> (try subst_vars) <;> rfl
    · intro k; rw [hP]; split <;> (try subst_vars) <;> rfl
    · intro a b; rw [hWw]; exact hnkw a b
    · intro a b
      unfold cc
      rw [hWw, hWw, hnzw, hwait]
      have h1 := hnkw b a
      by_cases e : a = to
      · subst e
        rw [if_pos rfl, wc_app]
        by_cases e2 : b = frm
        · subst e2; rw [if_pos ⟨rfl, rfl⟩] at h1; rw [if_pos rfl]; omega
        · rw [if_neg (fun h => e2 h.1)] at h1; rw [if_neg (Ne.symm e2)]; omega
      · rw [if_neg (fun h => e h.2)] at h1; rw [if_neg e]; omega
    · intro a b y hy _; rw [hWw] at hy; exact hmemw a b y hy
    · intro a j hj
      rw [hwait] at hj
      split at hj
      · rename_i e
        rw [List.mem_append] at hj
        rcases hj with hj | hj
        · left; rw [e]; exact hj
        · right; exact ⟨e, by simpa using hj⟩
      · exact .inl hj
    · intro a j hj
      rw [hwait]; split
      · rename_i e; rw [e] at hj; exact List.mem_append_left _ hj
      · exact hj
    · left
      refine ⟨by rw [hwait, if_pos rfl]; simp, ?_⟩
      unfold holdB at hB2
      rw [Bool.or_eq_true, Bool.and_eq_true, decide_eq_true_iff, decide_eq_true_iff] at hB2
      rcases hB2 with h1 | ⟨h1, h3⟩
      · exact .inl h1
      · refine .inr ⟨h1, ?_⟩
        have h4 := (h.own to ht (by omega)).1
        unfold mlt at h3
        rw [decide_eq_true_iff, h4, hkx] at h3
        exact h3
  · rw [if_neg hB]
    have hP : ∀ k, (putM (numS (wayM s frm to r) to x) to frm 0).pr k = if k = to then { s.pr to with num := max (s.pr to).num x } else s.pr k := fun k => rfl
    have hWw : ∀ a b, (putM (numS (wayM s frm to r) to x) to frm 0).ways a b = if a = to ∧ b = frm then (wayM s frm to r).ways to frm ++ [0] else (wayM s frm to r).ways a b := fun a b => rfl
    have hB2 : ¬ holdB (s.pr to) x frm = true := hB
    generalize putM (numS (wayM s frm to r) to x) to frm 0 = t at *
    have hwait : ∀ k, (t.pr k).wait = (s.pr k).wait := by intro k; rw [hP]; split <;> (try subst_vars) <;> rfl
    have hnk : ∀ a b, nk (t.ways a b) = nk ((wayM s frm to r).ways a b) := by
      intro a b; rw [hWw]; split
      · rename_i e; rw [nk_app, e.1, e.2]; simp
      · rfl
    have hnz : ∀ a b, nz (t.ways a b) = nz (s.ways a b) + if a = to ∧ b = frm then 1 else 0 := by
      intro a b; rw [hWw]; split
      · rename_i e; rw [nz_app, e.1, e.2, hnzw]; simp
      · rw [hnzw]; rfl
    refine key t ?_ ?_ ?_ ?_ ?_ ?_ ?_ ?_ ?_ ?_ ?_
    · intro k; rw [hP]; split <;> (try subst_vars) <;> rfl
    · intro k; rw [hP]; split <;> (try subst_vars) <;> rfl
    · intro k; rw [hP]; split <;> (try subst_vars) <;> rfl
    · intro k; rw [hP]; split <;> (try subst_vars) <;> rfl
    · intro k; rw [hP]; split <;> (try subst_vars) <;> rfl
    · intro a b; rw [hnk]; exact hnkw a b
    · intro a b
      unfold cc
      rw [hnk, hnz, hwait]
      have h1 := hnkw b a
      by_cases e : a = to ∧ b = frm
      · rw [if_pos ⟨e.2, e.1⟩] at h1; rw [if_pos e]; omega
      · rw [if_neg (fun h => e ⟨h.2, h.1⟩)] at h1; rw [if_neg e]; omega
    · intro a b y hy hy0
      rw [hWw] at hy
      split at hy
      · rename_i e
        rw [List.mem_append] at hy
        rcases hy with hy | hy
        · rw [e.1, e.2]; exact hmemw _ _ y hy
        · exact absurd (by simpa using hy) hy0
      · exact hmemw a b y hy
    · intro a j hj; rw [hwait] at hj; exact .inl hj
    · intro a j hj; rw [hwait]; exact hj
    · right
      refine ⟨by rw [hwait]; exact hnoW, fun h1 => ?_⟩
      have h4 := h.own to ht h1
      have h5 := h.st3 to
      unfold holdB mlt at hB2
      rw [Bool.or_eq_true, Bool.and_eq_true, decide_eq_true_iff, decide_eq_true_iff, decide_eq_true_iff, h4.1, hkx] at hB2
      unfold kl
      omega
end Go.Proofs.Ytaojmbebkggafaa
