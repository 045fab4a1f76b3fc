/- hasNoted, note. -/
import Derived.Test.YthadhhconkjpmaaT5
namespace Go.Proofs.Ythadhhconkjpmaa
open Go.RowKit Go.WideMaps
set_option linter.unusedVariables false

variable {W W2 : World} {mb n : Nat} {s : St} {h : Sh}
theorem Mov.setCell {g k : Nat} {x : Value} (m : Mov W mb n s h) {mo ow : Nat → Int} (htag : h.t g = .money ∨ h.t g = .own)
    (h1 : Seg (W.setCell ⟨g, k, none⟩ x) (fun g => h.t g = .money) 3 1 h.mv n (rowF n mo)) (h2 : Seg (W.setCell ⟨g, k, none⟩ x) (fun g => h.t g = .own) 3 1 h.ov n (rowF n ow)) :
    Mov (W.setCell ⟨g, k, none⟩ x) mb n ⟨mo, ow, s.ways⟩ h := by
  have hk : Keep (fun q => q = g) W (W.setCell ⟨g, k, none⟩ x) := (Keep.refl _ W).setCell g k x (fun _ => rfl)
  have hmb := (Array.getElem?_eq_some_iff.1 m.blk).1
  have no : ∀ {z : Tag} q, h.t q = z → z ≠ .money → z ≠ .own → ¬ (q = g) := fun {z} q e h3 h4 e2 => by
    subst e2
    rcases htag with h5 | h5
    · exact h3 (e.symm.trans h5)
    · exact h4 (e.symm.trans h5)
  exact ⟨fun g hg => m.fresh g (Nat.le_trans hk.size hg), m.tmb, (hk.block mb hmb (no mb m.tmb (by simp) (by simp))).trans m.blk, h1, h2, m.tM, m.map.keep hk (no _ m.tM (by simp) (by simp)),
    fun i j hi hj => (m.th i j hi hj).keep hk (fun q _ e => no q e (by simp) (by simp)), fun i j hi hj => (m.nt i j hi hj).keep hk (fun q _ e => no q e (by simp) (by simp)), m.bm⟩
theorem Mov.own_at (m : Mov W mb n s h) (hn : 0 < n) : ∃ g off cap, h.ov = .slice (some ⟨g, off, none⟩) n cap ∧ n ≤ cap ∧ h.t g = .own ∧ (∀ i, i < n → W.cell? ⟨g, off + i, none⟩ = some (.int .i64 (s.own i))) ∧ (∀ j, W.frozen? ⟨g, j, none⟩ = false) ∧
    (∀ i x, i < n → Mov (W.setCell ⟨g, off + i, none⟩ (.int .i64 x)) mb n ⟨s.money, upd1 s.own i x, s.ways⟩ h) := by
  obtain ⟨g, off, cap, e, h1, h2, h3, h4, h5, h6, h7⟩ := m.own.at hn
  refine ⟨g, off, cap, e, h3, h1, fun i hi => h5 i _ (rowF_at _ hi), h6, fun i x hi => ?_⟩
  have h8 := h7 i (.int .i64 x) (by omega)
  rw [rowF_set] at h8
  exact m.setCell (.inr h1) (m.mon.keep ((Keep.refl (fun q => q = g) W).setCell g _ _ (fun _ => rfl)) (fun q _ e1 e2 => by subst e2; rw [h1] at e1; cases e1)) h8
theorem Mov.mon_at (m : Mov W mb n s h) (hn : 0 < n) : ∃ g off cap, h.mv = .slice (some ⟨g, off, none⟩) n cap ∧ n ≤ cap ∧ h.t g = .money ∧ (∀ i, i < n → W.cell? ⟨g, off + i, none⟩ = some (.int .i64 (s.money i))) ∧ (∀ j, W.frozen? ⟨g, j, none⟩ = false) ∧
    (∀ i x, i < n → Mov (W.setCell ⟨g, off + i, none⟩ (.int .i64 x)) mb n ⟨upd1 s.money i x, s.own, s.ways⟩ h) := by
  obtain ⟨g, off, cap, e, h1, h2, h3, h4, h5, h6, h7⟩ := m.mon.at hn
  refine ⟨g, off, cap, e, h3, h1, fun i hi => h5 i _ (rowF_at _ hi), h6, fun i x hi => ?_⟩
  have h8 := h7 i (.int .i64 x) (by omega)
  rw [rowF_set] at h8
  exact m.setCell (.inl h1) h8 (m.own.keep ((Keep.refl (fun q => q = g) W).setCell g _ _ (fun _ => rfl)) (fun q _ e1 e2 => by subst e2; rw [h1] at e1; cases e1))
theorem Mov.setStep {g k : Nat} {x : Value} (htag : h.t g ≠ .no) : Step W h (W.setCell ⟨g, k, none⟩ x) h 0 :=
  ⟨(Keep.refl _ W).setCell g k x (fun _ => htag), fun _ _ => rfl, Nat.le_refl _⟩

theorem noteTo_ge (s : St) (who : Nat) : ∀ {k j : Nat}, k ≤ j → (noteTo s who k).ways who j = s.ways who j
  | 0, _, _ => rfl
  | k + 1, j, h => by
    unfold noteTo
    split
    · exact noteTo_ge s who (by omega)
    · show upd2 _ who k _ who j = _
      rw [upd2_other _ _ (by omega)]
      exact noteTo_ge s who (by omega)

set_option maxRecDepth 100000 in
set_option maxHeartbeats 4000000 in
/-- Has it noted? -/
theorem hasNoted_any (m : Mov W mb n s h) {i : Nat} (hi : i < n) :
    Calls Try.prog 19 #[.pointer (some ⟨mb, 0, none⟩), .int .i64 (i : Int)] W fun e W2 => e = .returned (.bool (decide (s.own i ≠ -1))) ∧ W2 = W := by
  obtain ⟨g, off, cap, e, hcap, _, hc, _⟩ := m.own_at (by omega)
  have c1 := m.cells.2.1
  rw [e] at c1
  have hci := hc i hi
  have hi' : (i : Int) < (n : Int) := by omega
  clear m hc e
  go_enter Try.func19, Try.ntmps19
  go_wp2
  go_ret
  exact ⟨by rw [show (s.own i != -1) = decide (s.own i ≠ -1) from by by_cases e : s.own i = -1 <;> simp [e]]; rfl, rfl⟩

set_option maxRecDepth 100000 in
set_option maxHeartbeats 4000000 in
theorem note_any (m : Mov W mb n s h) {who : Nat} (hw : who < n) (hn : n ≤ 6) (hc : h.c ≤ 900) (hlen : ∀ j, j < n → (s.ways who j).things.length ≤ 900) :
    Calls Try.prog 22 #[.pointer (some ⟨mb, 0, none⟩), .int .i64 (who : Int)] W fun e W2 => e = .returned (.tuple #[]) ∧
      ∃ h2, Mov W2 mb n (noteS n s who) h2 ∧ Step W h W2 h2 6 ∧ h2.mv = h.mv ∧ h2.ov = h.ov ∧ h2.M = h.M ∧ ∀ a b, a ≠ who → h2.f a b = h.f a b := by
  have H0 := hidMk (hasNoted_any m hw)
  by_cases hown : s.own who = -1
  · obtain ⟨g, off, cap, e, hcap, ht, hcl, hfr, hset⟩ := m.own_at (by omega)
    obtain ⟨gm, om, cm, em, hcm, htm, hclm, _⟩ := m.mon_at (by omega)
    have c0 := m.cells.1
    have c1 := m.cells.2.1
    rw [em] at c0
    rw [e] at c1
    have hcw := hclm who hw
    have hco := hcl who hw
    have hfw := hfr (off + who)
    have hw' : (who : Int) < (n : Int) := by omega
    have hd : decide (s.own who ≠ -1) = false := by simp [hown]
    have HM := hidMk m
    have HS := hidMk (fun k : Nat => (m.drewN k).own_at (by omega))
    clear hcl hclm hfr hset m
    rw [hd] at H0
    go_enter Try.func22, Try.ntmps22
    go_wp2_with (go_at_call 19; refine (H0.out).mono ?_; rintro e w1 ⟨rfl, hw1⟩; obtain rfl := hw1.symm)
    refine wp_region_tail rfl (by kernel_rfl) (by kernel_rfl) (by kernel_rfl) (by kernel_rfl) (by kernel_rfl) rfl ?_
    simp only [List.dropLast]
    repeat (go_big_quiet_step (fail))
    refine wpQuiet_nil ?_
    rintro _ ⟨q, rfl⟩
    obtain ⟨g', off', cap', e', _, _, _, _, hset⟩ := HS.out q
    have hset := hset who (s.money who) hw
    rw [e] at e'
    simp only [Value.slice.injEq, Option.some.injEq, Addr.mk.injEq] at e'
    obtain ⟨⟨rfl, rfl, _⟩, _, _⟩ := e'
    have HM1 : Hid (Mov ((W.drewN q).setCell ⟨g, off + who, none⟩ (.int .i64 (s.money who))) mb n (ownS s who) h) := hset
    have HS1 : Hid (Step W h ((W.drewN q).setCell ⟨g, off + who, none⟩ (.int .i64 (s.money who))) h 0) := ⟨((Keep.refl _ W).drewN q).setCell g _ _ (fun _ => by rw [ht]; simp), fun _ _ => rfl, Nat.le_refl _⟩
    have c0' : ((W.drewN q).setCell ⟨g, off + who, none⟩ (.int .i64 (s.money who))).cell? ⟨mb, 0, none⟩ = some (.slice (some ⟨gm, om, none⟩) n cm) := by rw [HM1.out.cells.1, em]
    clear hset HS HM c1 hcw
    go_wp2
    generalize (W.drewN q).setCell ⟨g, off + who, none⟩ (.int .i64 (s.money who)) = w1 at *
    clear hco hfw c0 H0 hcm htm
    go_loopw [26] (fun u wr => ∃ k h2, k ≤ n ∧ u = .int .i64 (k : Int) ∧ Hid (Mov wr mb n (noteTo (ownS s who) who k) h2) ∧ Hid (Step W h wr h2 k) ∧ Hid (h2.mv = h.mv ∧ h2.ov = h.ov ∧ h2.M = h.M ∧ ∀ a b, a ≠ who → h2.f a b = h.f a b)) (fun u _ => n - (intOf u).toNat)
    case atStart => exact ⟨0, h, Nat.zero_le _, rfl, HM1, HS1, rfl, rfl, rfl, fun _ _ _ => rfl⟩
    case round =>
      obtain ⟨k, h2, hk, rfl, HM2, HS2, HE2⟩ := hrel
      by_cases hlt : k < n
      · have hlt' : (k : Int) < (n : Int) := by omega
        by_cases hkw : k = who
        · subst hkw
          have HM3 : Hid (Mov wr mb n (noteTo (ownS s k) k (k + 1)) h2) := by
            show Mov wr mb n (if k = k then noteTo (ownS s k) k k else _) h2
            rw [if_pos rfl]; exact HM2
          have HS3 : Hid (Step W h wr h2 (k + 1)) := ⟨HS2.out.keep, HS2.out.tags, by have := HS2.out.count; omega⟩
          go_wp2
          go_roundw
          case rel => exact ⟨k + 1, h2, by omega, by go_num, HM3, HS3, HE2⟩
          case measure => simp [intOf]; omega
        · have hkw' : (k : Int) ≠ (who : Int) := by omega
          have HP := hidMk (put_any HM2.out hw hlt hn 0 (by have := HS2.out.count; omega) (by rw [noteTo_ge _ _ (Nat.le_refl k)]; exact Nat.le_trans (hlen k hlt) (by omega)))
          go_wp2_with (go_at_call 20; refine (HP.out).mono ?_; rintro e w3 ⟨rfl, h3, HM3, HS3, HE3⟩)
          have HM4 : Hid (Mov w3 mb n (noteTo (ownS s who) who (k + 1)) h3) := by
            show Mov w3 mb n (if k = who then noteTo (ownS s who) who k else _) h3
            rw [if_neg hkw]; exact HM3
          have HS4 := hidMk (HS2.out.trans HS3)
          have HE4 : Hid (h3.mv = h.mv ∧ h3.ov = h.ov ∧ h3.M = h.M ∧ ∀ a b, a ≠ who → h3.f a b = h.f a b) :=
            ⟨HE3.1.trans HE2.out.1, HE3.2.1.trans HE2.out.2.1, HE3.2.2.1.trans HE2.out.2.2.1, fun a b ha => (HE3.2.2.2 a b (fun e => ha e.1)).trans (HE2.out.2.2.2 a b ha)⟩
          clear HM3 HS3 HE3 HP
          go_wp2
          go_roundw
          case rel => exact ⟨k + 1, h3, by omega, by go_num, HM4, HS4, HE4⟩
          case measure => simp [intOf]; omega
      · obtain rfl : k = n := by omega
        go_wp2
        go_end0
        have e1 : noteS k s who = noteTo (ownS s who) who k := by unfold noteS; rw [if_neg (by simp [hown])]
        refine ⟨rfl, h2, by rw [e1]; exact HM2, ⟨HS2.out.keep, HS2.out.tags, by have := HS2.out.count; omega⟩, HE2⟩
  · have hd : decide (s.own who ≠ -1) = true := by simp [hown]
    rw [hd] at H0
    go_enter Try.func22, Try.ntmps22
    go_wp2_with (go_at_call 19; refine (H0.out).mono ?_; rintro e w1 ⟨rfl, hw1⟩; obtain rfl := hw1.symm)
    refine bodyPost_ret (results_none rfl _ _ _) rfl ?_
    have e1 : noteS n s who = s := by unfold noteS; rw [if_pos hown]
    exact ⟨rfl, h, by rw [e1]; exact m, ⟨Keep.refl _ _, fun _ _ => rfl, by omega⟩, rfl, rfl, rfl, fun _ _ _ => rfl⟩
end Go.Proofs.Ythadhhconkjpmaa
