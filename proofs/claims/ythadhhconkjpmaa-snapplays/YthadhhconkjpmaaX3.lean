/- folkmootref.note. -/
import Derived.Test.YthadhhconkjpmaaX2
import Derived.Test.YthadhhconkjpmaaT7
namespace Go.Proofs.Ythadhhconkjpmaa
open Go.RowKit Go.WideMaps
set_option linter.unusedVariables false

variable {W W2 : World} {ob lb n : Nat} {r : Rf} {h h2 : RSh}
/-- Where a line stands, as the walk reckons it. -/
theorem idx_facts {n a b : Nat} (hn : n ≤ 6) (ha : a < n) (hb : b < n) : IntKind.i64.wrap ((a : Int) * (n : Int)) = (a : Int) * (n : Int) ∧ IntKind.i64.wrap ((a : Int) * (n : Int) + (b : Int)) = (a : Int) * (n : Int) + (b : Int) ∧
    ((a : Int) * (n : Int) + (b : Int)).toNat = a * n + b ∧ 0 ≤ (a : Int) * (n : Int) + (b : Int) ∧ (a : Int) * (n : Int) + (b : Int) < (n : Int) * (n : Int) := by
  have hl := ln_lt ha hb
  have hs : n * n ≤ 36 := Nat.mul_le_mul hn hn
  have e1 : (a : Int) * (n : Int) = ((a * n : Nat) : Int) := (Int.natCast_mul a n).symm
  have e2 : (n : Int) * (n : Int) = ((n * n : Nat) : Int) := (Int.natCast_mul n n).symm
  refine ⟨wrap_of ⟨by omega, by omega⟩, wrap_of ⟨by omega, by omega⟩, by omega, by omega, by omega⟩

theorem nLn_skip (L : Nat → Nat → Ln) (i a b : Nat) : upd2 (fun a b => nLn i i a b (L a b)) i i ⟨(nLn i i i i (L i i)).sent, (nLn i i i i (L i i)).come, (L i i).come⟩ a b = nLn i (i + 1) a b (L a b) := by
  by_cases e : a = i ∧ b = i
  · obtain ⟨rfl, rfl⟩ := e
    rw [upd2_same]
    unfold nLn
    simp
  · rw [upd2_other _ _ e]
    unfold nLn
    have e1 : (a = i ∧ b ≠ i ∧ b < i) ↔ (a = i ∧ b ≠ i ∧ b < i + 1) := ⟨fun h => ⟨h.1, h.2.1, by omega⟩, fun h => ⟨h.1, h.2.1, by omega⟩⟩
    have e2 : (b = i ∧ a < i) ↔ (b = i ∧ a < i + 1) := ⟨fun h => ⟨h.1, by omega⟩, fun h => ⟨h.1, by have : a ≠ i := fun e3 => e ⟨e3, h.1⟩; omega⟩⟩
    simp only [e1, e2]
theorem nLn_push (L : Nat → Nat → Ln) {i k : Nat} (hk : k ≠ i) (a b : Nat) :
    upd2 (upd2 (fun a b => nLn i k a b (L a b)) k i ⟨(nLn i k k i (L k i)).sent, (nLn i k k i (L k i)).come, (L k i).come⟩) i k
      ⟨(upd2 (fun a b => nLn i k a b (L a b)) k i ⟨(nLn i k k i (L k i)).sent, (nLn i k k i (L k i)).come, (L k i).come⟩ i k).sent ++ [-1], (upd2 (fun a b => nLn i k a b (L a b)) k i ⟨(nLn i k k i (L k i)).sent, (nLn i k k i (L k i)).come, (L k i).come⟩ i k).come,
        (upd2 (fun a b => nLn i k a b (L a b)) k i ⟨(nLn i k k i (L k i)).sent, (nLn i k k i (L k i)).come, (L k i).come⟩ i k).ntd⟩ a b = nLn i (k + 1) a b (L a b) := by
  have hne : ¬ (i = k ∧ k = i) := fun e => hk e.2
  rw [upd2_other (fun a b => nLn i k a b (L a b)) _ hne]
  by_cases e : a = i ∧ b = k
  · obtain ⟨rfl, rfl⟩ := e
    rw [upd2_same]
    unfold nLn
    simp [hk]
  · rw [upd2_other _ _ e]
    by_cases e2 : a = k ∧ b = i
    · obtain ⟨rfl, rfl⟩ := e2
      rw [upd2_same]
      unfold nLn
      simp [hk]
    · rw [upd2_other _ _ e2]
      unfold nLn
      have e3 : (a = i ∧ b ≠ i ∧ b < k) ↔ (a = i ∧ b ≠ i ∧ b < k + 1) := ⟨fun h => ⟨h.1, h.2.1, by omega⟩, fun h => ⟨h.1, h.2.1, by have : b ≠ k := fun e4 => e ⟨h.1, e4⟩; omega⟩⟩
      have e4 : (b = i ∧ a < k) ↔ (b = i ∧ a < k + 1) := ⟨fun h => ⟨h.1, by omega⟩, fun h => ⟨h.1, by have : a ≠ k := fun e5 => e2 ⟨e5, h.1⟩; omega⟩⟩
      simp only [e3, e4]

set_option maxRecDepth 100000 in
set_option maxHeartbeats 4000000 in
theorem rnote_any (m : RMov W ob lb n r h) {i : Nat} (hi : i < n) (hn : n ≤ 6) (hlen : ∀ a b, a < n → b < n → (r.lines a b).sent.length ≤ 900) :
    Calls Try.prog 24 #[.int .i64 (i : Int), .int .i64 (n : Int), .pointer (some ⟨ob, 0, none⟩), .slice (some ⟨lb, 0, none⟩) (n * n) (n * n)] W fun e W2 => e = .returned (.tuple #[]) ∧ ∃ h2, RMov W2 ob lb n (noteR r i) h2 ∧ RStep W h W2 h2 := by
  obtain ⟨g, off, cap, e, hcap, ht, hcl, hfr, hset⟩ := m.own_at (by omega)
  obtain ⟨gm, om, cm, em, hcm, htm, hclm, _⟩ := m.mon_at (by omega)
  have c1 := m.cells.2.1
  have c2 := m.cells.2.2
  rw [em] at c1
  rw [e] at c2
  have hco := hcl i hi
  have hcw := hclm i hi
  have hfw := hfr (off + i)
  have hi' : (i : Int) < (n : Int) := by omega
  have hn' : (n : Int) ≤ 6 := by omega
  by_cases hown : 0 ≤ r.own i
  · have e1 : noteR r i = r := by unfold noteR; rw [if_pos hown]
    rw [e1]
    clear hcl hclm hfr hset
    go_enter Try.func24, Try.ntmps24
    go_wp2
    refine bodyPost_ret (results_none rfl _ _ _) rfl ?_
    exact ⟨rfl, h, m, RStep.refl W h⟩
  · have hown' : r.own i < 0 := by omega
    obtain ⟨i0, hit, hz0, hz1, hz2⟩ := info_parts Try.info3
    have HM := hidMk m
    have HL := hidMk hlen
    clear hcl hclm hfr hset m hlen
    go_enter Try.func24, Try.ntmps24
    go_wp2
    refine wp_region_tail rfl (by kernel_rfl) (by kernel_rfl) (by kernel_rfl) (by kernel_rfl) (by kernel_rfl) rfl ?_
    simp only [List.dropLast]
    repeat (go_big_quiet_step (fail))
    refine wpQuiet_nil ?_
    rintro _ ⟨q, rfl⟩
    obtain ⟨g', off', cap', e', _, _, _, _, hset⟩ := (HM.out.drewN q).own_at (by omega)
    have hset := hset i (r.money i) hi
    rw [e] at e'
    simp only [Value.slice.injEq, Option.some.injEq, Addr.mk.injEq] at e'
    obtain ⟨⟨rfl, rfl, _⟩, _, _⟩ := e'
    have HM1 : Hid (RMov ((W.drewN q).setCell ⟨g, off + i, none⟩ (.int .i64 (r.money i))) ob lb n ⟨r.money, upd1 r.own i (r.money i), fun a b => nLn i 0 a b (r.lines a b)⟩ h) := hset.congr (fun _ _ => rfl) (fun _ _ => rfl) (fun a b _ _ => nLn_zero i a b _)
    have HS1 : Hid (RStep W h ((W.drewN q).setCell ⟨g, off + i, none⟩ (.int .i64 (r.money i))) h) := ⟨((Keep.refl _ W).drewN q).setCell g _ _ (fun _ => by rw [ht]; simp), fun _ _ => rfl, rfl, rfl, rfl⟩
    clear hset HM c1 c2 hco hcw
    go_wp2
    generalize (W.drewN q).setCell ⟨g, off + i, none⟩ (.int .i64 (r.money i)) = w1 at *
    clear hfw
    go_loopw [8] (fun u wr => ∃ k h2, k ≤ n ∧ u = .int .i64 (k : Int) ∧ Hid (RMov wr ob lb n ⟨r.money, upd1 r.own i (r.money i), fun a b => nLn i k a b (r.lines a b)⟩ h2) ∧ Hid (RStep W h wr h2)) (fun u _ => n - (intOf u).toNat)
    case atStart => exact ⟨0, h, Nat.zero_le _, rfl, HM1, HS1⟩
    case round =>
      obtain ⟨k, h2, hk, rfl, HM2, HS2⟩ := hrel
      by_cases hlt : k < n
      · have hlt' : (k : Int) < (n : Int) := by omega
        obtain ⟨x1, x2, x3, x4, x5⟩ := idx_facts hn hlt hi
        obtain ⟨y1, y2, y3, y4, y5⟩ := idx_facts hn hi hlt
        obtain ⟨_, d1, d2, d3⟩ := HM2.out.line hlt hi
        have d4 := d3 ((k * n + i) * 3 + 2)
        obtain ⟨M3, S3⟩ := HM2.out.setLine hlt hi (c := 2) (.inr rfl) (r.lines k i).come _ rfl
        rw [if_neg (by omega)] at M3
        have HM3 := hidMk M3
        have HS3 := hidMk S3
        clear M3 S3 d3
        have enn : ((n * n : Nat) : Int) = (n : Int) * (n : Int) := Int.natCast_mul n n
        have d1 : wr.cell? ⟨lb, (k * n + i) * 3 + 1, none⟩ = some (.int .i64 ((r.lines k i).come : Int)) := d1
        have hst := HS2.out.trans HS3.out
        have HS4 := hidMk hst
        clear hst HS3
        have enn' := enn
        clear enn
        by_cases hki : k = i
        · subst hki
          have hne : ((k : Int) != (k : Int)) = false := by simp
          have HM4 : Hid (RMov (wr.setCell ⟨lb, (k * n + k) * 3 + 2, none⟩ (.int .i64 ((r.lines k k).come : Int))) ob lb n ⟨r.money, upd1 r.own k (r.money k), fun a b => nLn k (k + 1) a b (r.lines a b)⟩ h2) :=
            HM3.out.congr (fun _ _ => rfl) (fun _ _ => rfl) (fun a b _ _ => (nLn_skip r.lines k a b).symm)
          clear HM2 HM3 HS2 HL
          go_wp2
          go_roundw
          case rel => exact ⟨k + 1, h2, by omega, by go_num, HM4, HS4⟩
          case measure => simp [intOf]; omega
        · have hne : ((k : Int) != (i : Int)) = true := by simp; omega
          obtain ⟨R5, hR5, HM5⟩ : ∃ R5 : Rf, R5 = ⟨r.money, upd1 r.own i (r.money i), upd2 (fun a b => nLn i k a b (r.lines a b)) k i ⟨(nLn i k k i (r.lines k i)).sent, (nLn i k k i (r.lines k i)).come, (r.lines k i).come⟩⟩ ∧ Hid (RMov (wr.setCell ⟨lb, (k * n + i) * 3 + 2, none⟩ (.int .i64 ((r.lines k i).come : Int))) ob lb n R5 h2) := ⟨_, rfl, HM3⟩
          have HEq : Hid (R5.money = r.money ∧ R5.own = upd1 r.own i (r.money i) ∧ ∀ a b, upd2 R5.lines i k ⟨(R5.lines i k).sent ++ [-1], (R5.lines i k).come, (R5.lines i k).ntd⟩ a b = nLn i (k + 1) a b (r.lines a b)) := by
            subst hR5
            exact ⟨rfl, rfl, nLn_push r.lines hki⟩
          have elen : (R5.lines i k).sent.length ≤ 1000 := by
            subst hR5
            simp only
            rw [upd2_other _ _ (fun e => hki e.2)]
            have := HL.out i k hi hlt
            unfold nLn
            simp
            omega
          obtain ⟨fw, _, _, _⟩ := HM2.out.line hi hlt
          clear hR5 HM3 HM2 HS2
          obtain ⟨f1, _, _, f4⟩ := HM5.out.line hi hlt
          have hsg := HM5.out.st i k hi hlt
          obtain ⟨sa, sc, es⟩ := hsg.form
          rw [es] at f1 hsg
          have HPu := hidMk (fun (w3 : World) (v : Value) hk3 hs3 => HM5.out.push hi hlt (-1) (w3 := w3) (v := v) hk3 hs3)
          have HSg := hidMk hsg
          have hsz5 : (wr.setCell ⟨lb, (k * n + i) * 3 + 2, none⟩ (.int .i64 ((r.lines k i).come : Int))).heap.size = wr.heap.size := by simp [World.setCell]
          have HLin := hidMk HM5.out.lin
          have HTl := hidMk HM5.out.tl
          have hne3 : ¬ ((k * n + i) * 3 + 2 = (i * n + k) * 3) := by omega
          have hne4 : ¬ ((i * n + k) * 3 = (k * n + i) * 3 + 2) := by omega
          rw [es] at fw
          clear hsg f4 HL
          generalize hsl : (R5.lines i k).sent = sl at *
          generalize hslen : sl.length = ln at *
          go_wp2_with (at_builtin; refine wpList_append_seg _ rfl _ _ 22 rfl 3 i0 (.int .i64 0) 1 8 Try.underlying22 hit hz0 hz1 hz2 rfl (by decide) _ _ _ rfl (HSg.out.alloc _) ⟨wr.heap.size, 0, none⟩ 1 1 [.int .i64 (-1)] rfl rfl (cell_one_at _ _ _ _ (by simp [World.setCell])) (one_cell _) (by unfold maxLen; omega) (by omega) ?_)
          intro v3 w3 hs3 hg3
          obtain ⟨a3, c3, rfl⟩ := hs3.form
          have hlb5 := (Array.getElem?_eq_some_iff.1 HLin.out).1
          have hob3 : ∀ q, (Value.slice sa ln sc).ownBlock = some q → h2.t q = .th i k := fun q e => (HSg.out.block e).1
          have hk3 : Keep (fun q => h2.t q = .th i k) (wr.setCell ⟨lb, (k * n + i) * 3 + 2, none⟩ (.int .i64 ((r.lines k i).come : Int))) w3 := ((Keep.refl _ _).alloc _).grown hg3 (fun q e _ => hob3 q e)
          have hlin3 := (hk3.block lb hlb5 (fun e => by rw [HTl.out] at e; cases e)).trans HLin.out
          obtain ⟨p1, _, _⟩ := lnRow_at (n := n) (f := h2.f) (L := R5.lines) hi hlt
          have s1 : w3.cell? ⟨lb, (i * n + k) * 3, none⟩ = some (h2.f i k) := by rw [cell_of_row w3 _ _ _ _ _ hlin3]; simpa using p1
          rw [es] at s1
          have s2 : w3.frozen? ⟨lb, (i * n + k) * 3, none⟩ = false := frozen_of_row w3 _ _ _ _ hlin3
          have hs4 : Seg w3 (fun q => (q < (wr.setCell ⟨lb, (k * n + i) * 3 + 2, none⟩ (.int .i64 ((r.lines k i).come : Int))).heap.size ∧ h2.t q = .th i k) ∨ (wr.setCell ⟨lb, (k * n + i) * 3 + 2, none⟩ (.int .i64 ((r.lines k i).come : Int))).heap.size ≤ q) 3 1 (.slice a3 (ln + 1) c3) (ln + 1) (intsL (sl ++ [-1])) := by
            have h5 := hs3.mono (ok2 := fun q => (q < (wr.setCell ⟨lb, (k * n + i) * 3 + 2, none⟩ (.int .i64 ((r.lines k i).come : Int))).heap.size ∧ h2.t q = .th i k) ∨ (wr.setCell ⟨lb, (k * n + i) * 3 + 2, none⟩ (.int .i64 ((r.lines k i).come : Int))).heap.size ≤ q) (fun q _ e => by
              rcases e with ⟨e, e2⟩ | e
              · exact .inl ⟨(HSg.out.block e).2, e2⟩
              · exact .inr (by rw [hsz5]; (try simp at e); omega))
            simpa [intsL] using h5
          obtain ⟨M6, S6⟩ := HPu.out w3 (.slice a3 (ln + 1) c3) hk3 hs4
          have HM7 : Hid (RMov (w3.setCell ⟨lb, (i * n + k) * 3, none⟩ (.slice a3 (ln + 1) c3)) ob lb n ⟨r.money, upd1 r.own i (r.money i), fun a b => nLn i (k + 1) a b (r.lines a b)⟩ (pushT h2 i k (.slice a3 (ln + 1) c3))) :=
            M6.congr (fun q _ => by rw [HEq.out.1]) (fun q _ => by rw [HEq.out.2.1]) (fun a b _ _ => by first | exact (HEq.out.2.2 a b).symm | (show nLn i (k + 1) a b (r.lines a b) = _; rw [← HEq.out.2.2 a b]; try rw [hsl]))
          have HS7 := hidMk (HS4.out.trans S6)
          clear hs3 hg3 hk3 hlin3 p1 hs4 M6 S6 HPu HEq HSg HLin HTl HM5 HS4 hob3
          go_wp2
          go_roundw
          case rel => exact ⟨k + 1, _, by omega, by go_num, HM7, HS7⟩
          case measure => simp [intOf]; omega
      · obtain rfl : k = n := by omega
        go_wp2
        go_end0
        have e1 : noteR r i = ⟨r.money, upd1 r.own i (r.money i), fun a b => noteLn i a b (r.lines a b)⟩ := by unfold noteR; rw [if_neg (by omega)]
        rw [e1]
        exact ⟨rfl, h2, HM2.out.congr (fun _ _ => rfl) (fun _ _ => rfl) (fun a b ha hb => (nLn_all ha hb _).symm), HS2⟩
end Go.Proofs.Ythadhhconkjpmaa
