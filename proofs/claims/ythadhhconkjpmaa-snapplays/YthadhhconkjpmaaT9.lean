/- do. -/
import Derived.Test.YthadhhconkjpmaaT8
namespace Go.Proofs.Ythadhhconkjpmaa
open Go.RowKit Go.WideMaps
set_option linter.unusedVariables false

variable {W W2 : World} {mb n : Nat} {s : St} {h h2 : Sh}
theorem Step.alloc {o : Obj} {k : Nat} (st : Step (W.alloc o) h W2 h2 k) : Step W h W2 h2 k :=
  ⟨((Keep.refl (fun q => h.t q ≠ .no) W).alloc o).trans st.keep (fun _ _ e => e) (fun _ _ e => e), fun q hq => st.tags q (by simp; omega), st.count⟩
theorem Step.mono {a b : Nat} (st : Step W h W2 h2 a) (hab : a ≤ b) : Step W h W2 h2 b := ⟨st.keep, st.tags, Nat.le_trans st.count (by omega)⟩

set_option maxRecDepth 100000 in
set_option maxHeartbeats 4000000 in
theorem do_send (m : Mov W mb n s h) {w o : Nat} (hw : w < n) (ho : o < n) (hn : n ≤ 6) (hc : h.c ≤ 1000) (hlen : (s.ways w o).things.length ≤ 900) (x : Int) (hI : I64 (s.money w - x)) :
    Calls Try.prog 11 #[.pointer (some ⟨mb, 0, none⟩), .agg #[.int .i64 1, .int .i64 (w : Int), .int .i64 (o : Int), .int .i64 x]] W fun e W2 => e = .returned (.tuple #[]) ∧
      ∃ h2, Mov W2 mb n (putS (payS s w (-x)) w o x) h2 ∧ Step W h W2 h2 7 := by
  have hw' : (w : Int) < (n : Int) := by omega
  have hwr : IntKind.i64.wrap (s.money w - x) = s.money w - x := wrap_of hI
  have HM := hidMk (m.alloc (.cells #[.int .i64 1, .int .i64 (w : Int), .int .i64 (o : Int), .int .i64 x] 41))
  have HK : Hid (Step W h (W.alloc (.cells #[.int .i64 1, .int .i64 (w : Int), .int .i64 (o : Int), .int .i64 x] 41)) h 0) := ⟨(Keep.refl _ W).alloc _, fun _ _ => rfl, Nat.le_refl _⟩
  have htL : h.t W.heap.size = .no := m.fresh _ (Nat.le_refl _)
  clear m
  go_enter Try.func11, Try.ntmps11
  go_wp2
  have b1 : (W.alloc (.cells #[.int .i64 1, .int .i64 (w : Int), .int .i64 (o : Int), .int .i64 x] 41)).cell? ⟨W.heap.size, 1, none⟩ = some (.int .i64 (w : Int)) := by go_simp
  have b2 : (W.alloc (.cells #[.int .i64 1, .int .i64 (w : Int), .int .i64 (o : Int), .int .i64 x] 41)).cell? ⟨W.heap.size, 2, none⟩ = some (.int .i64 (o : Int)) := by go_simp
  have b3 : (W.alloc (.cells #[.int .i64 1, .int .i64 (w : Int), .int .i64 (o : Int), .int .i64 x] 41)).cell? ⟨W.heap.size, 3, none⟩ = some (.int .i64 x) := by go_simp
  generalize W.alloc (.cells #[.int .i64 1, .int .i64 (w : Int), .int .i64 (o : Int), .int .i64 x] 41) = w0 at *
  obtain ⟨gm, om, cm, em, hcm, htgm, hclm, hfrm, hsetm⟩ := HM.out.mon_at (by omega)
  have c0 := HM.out.cells.1
  rw [em] at c0
  have hcw := hclm w hw
  have hfw := hfrm (om + w)
  have hgL : gm ≠ W.heap.size := fun e => by rw [e, htL] at htgm; cases htgm
  clear hclm hfrm hsetm
  refine wp_region_tail rfl (by kernel_rfl) (by kernel_rfl) (by kernel_rfl) (by kernel_rfl) (by kernel_rfl) rfl ?_
  simp only [List.dropLast]
  repeat (go_big_quiet_step (fail))
  refine wpQuiet_nil ?_
  rintro _ ⟨q, rfl⟩
  obtain ⟨gm2, om2, cm2, em2, _, _, _, _, hset⟩ := (HM.out.drewN q).mon_at (by omega)
  rw [em] at em2
  simp only [Value.slice.injEq, Option.some.injEq, Addr.mk.injEq] at em2
  obtain ⟨⟨rfl, rfl, _⟩, _, _⟩ := em2
  have HM1 : Hid (Mov ((w0.drewN q).setCell ⟨gm, om + w, none⟩ (.int .i64 (s.money w - x))) mb n (payS s w (-x)) h) := hset w (s.money w - x) hw
  have HS1 : Hid (Step W h ((w0.drewN q).setCell ⟨gm, om + w, none⟩ (.int .i64 (s.money w - x))) h 0) := ⟨(HK.out.keep.drewN q).setCell gm _ _ (fun _ => by rw [htgm]; simp), fun _ _ => rfl, Nat.le_refl _⟩
  have d1 : ((w0.drewN q).setCell ⟨gm, om + w, none⟩ (.int .i64 (s.money w - x))).cell? ⟨W.heap.size, 1, none⟩ = some (.int .i64 (w : Int)) := (World.cell?_of_block (Below.heap_setCell _ _ _ _ (Ne.symm hgL))).trans b1
  have d2 : ((w0.drewN q).setCell ⟨gm, om + w, none⟩ (.int .i64 (s.money w - x))).cell? ⟨W.heap.size, 2, none⟩ = some (.int .i64 (o : Int)) := (World.cell?_of_block (Below.heap_setCell _ _ _ _ (Ne.symm hgL))).trans b2
  have d3 : ((w0.drewN q).setCell ⟨gm, om + w, none⟩ (.int .i64 (s.money w - x))).cell? ⟨W.heap.size, 3, none⟩ = some (.int .i64 x) := (World.cell?_of_block (Below.heap_setCell _ _ _ _ (Ne.symm hgL))).trans b3
  have HP := hidMk (put_any HM1.out hw ho hn x hc (by show (s.ways w o).things.length ≤ _; omega))
  clear hset HM HK b1 b2 b3
  go_wp2_with (fail)
  go_at_call 20
  refine (HP.out).mono ?_
  rintro e w3 ⟨rfl, h3, HM3, HS3, _⟩
  have HM4 := hidMk HM3
  have HS4 := hidMk ((HS1.out.trans HS3).mono (b := 7) (by omega))
  clear HM3 HS3 HP HM1 HS1
  go_wp2
  go_end0
  exact ⟨rfl, h3, HM4, HS4⟩

set_option maxRecDepth 100000 in
set_option maxHeartbeats 4000000 in
theorem do_take {r : World → Prop} {w o : Nat} {x : Int}
    (H : Hid (∀ ob, Calls Try.prog 21 #[.pointer (some ⟨mb, 0, none⟩), .int .i64 (o : Int), .int .i64 (w : Int)] (W.alloc ob) fun e W2 => e = .returned (.tuple #[]) ∧ r W2)) :
    Calls Try.prog 11 #[.pointer (some ⟨mb, 0, none⟩), .agg #[.int .i64 2, .int .i64 (w : Int), .int .i64 (o : Int), .int .i64 x]] W fun e W2 => e = .returned (.tuple #[]) ∧ r W2 := by
  go_enter Try.func11, Try.ntmps11
  go_wp2_with (go_at_call 21; refine (H.out _).mono ?_; rintro e w3 ⟨rfl, HR⟩)
  go_end0
  exact ⟨rfl, HR⟩

set_option maxRecDepth 100000 in
set_option maxHeartbeats 4000000 in
theorem do_begin {r : World → Prop} {w : Nat} {o x : Int}
    (H : Hid (∀ ob, Calls Try.prog 22 #[.pointer (some ⟨mb, 0, none⟩), .int .i64 (w : Int)] (W.alloc ob) fun e W2 => e = .returned (.tuple #[]) ∧ r W2)) :
    Calls Try.prog 11 #[.pointer (some ⟨mb, 0, none⟩), .agg #[.int .i64 3, .int .i64 (w : Int), .int .i64 o, .int .i64 x]] W fun e W2 => e = .returned (.tuple #[]) ∧ r W2 := by
  go_enter Try.func11, Try.ntmps11
  go_wp2_with (go_at_call 22; refine (H.out _).mono ?_; rintro e w3 ⟨rfl, HR⟩)
  go_end0
  exact ⟨rfl, HR⟩

/-- A step as a value. -/
def passV (p : Pass) : Value := .agg #[.int .i64 p.kind, .int .i64 p.who, .int .i64 p.other, .int .i64 p.n]

theorem in_of {z : Int} (hz : inP n z = true) : ∃ k : Nat, k < n ∧ z = (k : Int) := by
  simp [inP] at hz
  exact ⟨z.toNat, by omega, by omega⟩

theorem do_any (m : Mov W mb n s h) {p : Pass} (hp : codeS n s p = 0) (hn : n ≤ 6) (hc : h.c ≤ 890) (hlen : ∀ a b, a < n → b < n → (s.ways a b).things.length ≤ 900) (hnl : ∀ a b, a < n → b < n → (s.ways a b).noted.length ≤ 900)
    (hI : ∀ a b x, a < n → b < n → x ∈ (s.ways a b).things → I64 (s.money b + x)) (hm : ∀ a, a < n → 0 ≤ s.money a ∧ s.money a ≤ 1000000) :
    Calls Try.prog 11 #[.pointer (some ⟨mb, 0, none⟩), passV p] W fun e W2 => e = .returned (.tuple #[]) ∧ ∃ h2, Mov W2 mb n (doS n s p) h2 ∧ Step W h W2 h2 7 := by
  obtain ⟨kind, who, other, x⟩ := p
  unfold codeS at hp
  simp only [] at hp
  split at hp
  · rename_i hk
    split at hp
    · omega
    · rename_i hb
      have hb1 : inP n who = true := by
        cases e : inP n who with
        | true => rfl
        | false => exact absurd (Or.inl e) hb
      have hb2 : inP n other = true := by
        cases e : inP n other with
        | true => rfl
        | false => exact absurd (Or.inr (Or.inl e)) hb
      have hb3 : who ≠ other := fun e => hb (.inr (.inr e))
      obtain ⟨w, hw, rfl⟩ := in_of hb1
      obtain ⟨o, ho, rfl⟩ := in_of hb2
      have hwo : w ≠ o := by omega
      by_cases hk1 : kind = 1
      · subst hk1
        rw [if_pos rfl] at hp
        split at hp
        · omega
        · rename_i hx
          simp only [Int.toNat_natCast] at hx
          have := hm w hw
          have e1 : doS n s ⟨1, w, o, x⟩ = putS (payS s w (-x)) w o x := by unfold doS; rw [if_pos rfl]; simp
          rw [e1]
          exact do_send m hw ho hn (by omega) (hlen w o hw ho) x ⟨by omega, by omega⟩
      · have hk2 : kind = 2 := by omega
        subst hk2
        rw [if_neg (by omega)] at hp
        split at hp
        · omega
        · rename_i hx
          simp only [Int.toNat_natCast] at hx
          have e1 : doS n s ⟨2, w, o, x⟩ = takeS n s o w := by unfold doS; rw [if_neg (by simp), if_pos rfl]; simp
          rw [e1]
          cases hth : (s.ways o w).things with
          | nil => exact absurd hth hx
          | cons y r =>
            refine do_take (hidMk fun ob => ((take_any (m.alloc ob) ho hw (Ne.symm hwo) hn hc hlen (hnl o w ho hw) hth (hI o w y ho hw (by rw [hth]; simp))).mono ?_))
            rintro e W2 ⟨rfl, h2, m2, st2⟩
            exact ⟨rfl, h2, m2, st2.alloc⟩
  · split at hp
    · rename_i hk
      subst hk
      split at hp
      · omega
      · rename_i hb
        have hb1 : inP n who = true := by simpa using hb
        obtain ⟨w, hw, rfl⟩ := in_of hb1
        have e1 : doS n s ⟨3, w, other, x⟩ = noteS n s w := by unfold doS; rw [if_neg (by simp), if_neg (by simp)]; simp
        rw [e1]
        refine do_begin (hidMk fun ob => ((note_any (m.alloc ob) hw hn (by omega) (fun j hj => hlen w j hw hj)).mono ?_))
        rintro e W2 ⟨rfl, h2, m2, st2, _⟩
        exact ⟨rfl, h2, m2, (st2.alloc).mono (by omega)⟩
    · omega
end Go.Proofs.Ythadhhconkjpmaa
