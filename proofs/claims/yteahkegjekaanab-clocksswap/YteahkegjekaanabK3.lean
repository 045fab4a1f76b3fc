/- What comes later changes nothing: plain facts; folkmootkeep.ClocksFront, walked. -/
import Derived.Test.YteahkegjekaanabK1
namespace Go.Proofs.Yteahkegjekaanab
open Go.RowKit Go.Shelf
set_option linter.unusedVariables false

variable {N : Int} {es : List Ev}

theorem codeFrom_all : ∀ (m k : Nat), k + m = es.length → (∀ (j : Nat) (e : Ev), k ≤ j → es[j]? = some e → evCode N (es.take j) e = 0) → codeFrom N es k m = 0
  | 0, _, _, _ => rfl
  | m + 1, k, hk, h => by
    have hke : es[k]? = some (es[k]'(by omega)) := List.getElem?_eq_getElem _
    simp only [codeFrom, hke]
    rw [if_pos (h k _ (Nat.le_refl _) hke)]
    exact codeFrom_all m (k + 1) (by omega) (fun j e hj he => h j e (by omega) he)
theorem evs_ok_iff : evsCode N es = 0 ↔ (¬ (N < 1 ∨ 6 < N ∨ 60 < es.length)) ∧ ∀ (j : Nat) (e : Ev), es[j]? = some e → evCode N (es.take j) e = 0 := by
  constructor
  · intro h
    unfold evsCode at h
    by_cases h1 : N < 1 ∨ 6 < N ∨ 60 < es.length
    · rw [if_pos h1] at h; omega
    · rw [if_neg h1] at h
      exact ⟨h1, fun j e he => codeFrom_zero es.length 0 (by omega) h j e (Nat.zero_le _) he⟩
  · rintro ⟨h1, h2⟩
    unfold evsCode
    rw [if_neg h1]
    exact codeFrom_all es.length 0 (by omega) (fun j e _ he => h2 j e he)
theorem take_at {m j : Nat} {e : Ev} (h : (es.take m)[j]? = some e) : j < m ∧ es[j]? = some e := by
  rw [List.getElem?_take] at h
  split at h
  · exact ⟨by assumption, h⟩
  · cases h
theorem evs_take (h : evsCode N es = 0) (m : Nat) : evsCode N (es.take m) = 0 := by
  rw [evs_ok_iff] at h ⊢
  refine ⟨by have := h.1; rw [List.length_take]; omega, fun j e he => ?_⟩
  obtain ⟨h1, h2⟩ := take_at he
  rw [List.take_take, Nat.min_eq_left (by omega)]
  exact h.2 j e h2
theorem take_get {m j : Nat} (h : j < m) : (es.take m)[j]? = es[j]? := by rw [List.getElem?_take, if_pos h]
theorem last_take {m : Nat} {p : Int} : ∀ {k : Nat}, k ≤ m → lastAt (es.take m) k p = lastAt es k p
  | 0, _ => rfl
  | k + 1, hk => by
    simp only [lastAt]
    rw [take_get (by omega), last_take (by omega)]
theorem who_take {m j : Nat} (h : j < m) : whoAt (es.take m) j = whoAt es j := by unfold whoAt; rw [take_get h]
theorem taken_take {m j : Nat} (h : j < m) : takenAt (es.take m) j = takenAt es j := by unfold takenAt; rw [take_get h]
theorem map_opt_congr {α : Type} {f g : Nat → α} {o : Option Nat} (h : ∀ k, o = some k → f k = g k) : o.map f = o.map g := by
  cases o with
  | none => rfl
  | some k => simp [h k rfl]
theorem sc_take (hv : Valid N es) {m : Nat} (hv2 : Valid N (es.take m)) : ∀ (q j : Nat), j < q → j < m → sc (es.take m) j = sc es j
  | 0, _, h, _ => by omega
  | q + 1, j, h, hj => by
    rw [sc_eq hv2 j, sc_eq hv j, last_take (by omega), who_take hj, taken_take hj,
      map_opt_congr (f := sc (es.take m)) (g := sc es) (o := lastAt es j (whoAt es j)) (fun k hk => by have := lastAt_lt hk; exact sc_take hv hv2 q k (by omega) (by omega)),
      map_opt_congr (f := sc (es.take m)) (g := sc es) (o := takenAt es j) (fun k hk => by have := taken_lt hv hk; exact sc_take hv hv2 q k (by omega) (by omega))]
theorem vc_take (hv : Valid N es) {m : Nat} (hv2 : Valid N (es.take m)) (p : Nat) : ∀ (q j : Nat), j < q → j < m → vc (es.take m) p j = vc es p j
  | 0, _, h, _ => by omega
  | q + 1, j, h, hj => by
    rw [vc_eq hv2 p j, vc_eq hv p j, last_take (by omega), who_take hj, taken_take hj,
      map_opt_congr (f := vc (es.take m) p) (g := vc es p) (o := lastAt es j (whoAt es j)) (fun k hk => by have := lastAt_lt hk; exact vc_take hv hv2 p q k (by omega) (by omega)),
      map_opt_congr (f := vc (es.take m) p) (g := vc es p) (o := takenAt es j) (fun k hk => by have := taken_lt hv hk; exact vc_take hv hv2 p q k (by omega) (by omega))]

theorem CameEv.take {w : World} {a : Option Addr} {len cap : Nat} (h : CameEv w a len cap es) {m : Nat} (hm : m ≤ len) : CameEv w a m cap (es.take m) := by
  obtain ⟨h1, h2, h3, h4⟩ := h
  refine ⟨by rw [List.length_take]; omega, by omega, by omega, ?_⟩
  rcases h4 with h4 | ⟨b, off, h5, h6⟩
  · exact .inl (by omega)
  · exact .inr ⟨b, off, h5, h6.take m⟩
theorem RowZ.front {w : World} {g n m : Nat} {f : Nat → Nat} (h : RowZ w (some ⟨g, 0, none⟩) n (rowN n f)) (hm : m ≤ n) : RowZ w (some ⟨g, 0, none⟩) m (rowN m f) := by
  refine ⟨rowN_len m f, .inr ⟨g, rfl, fun j z hz => ?_⟩⟩
  have hj : j < m := by have := (List.getElem?_eq_some_iff.1 hz).1; rwa [rowN_len] at this
  rw [rowN_at hj] at hz
  cases hz
  obtain ⟨g2, z2, h1, h2, h3⟩ := h.at (k := j) (by omega)
  cases h1
  rw [rowN_at (by omega)] at h2
  cases h2
  exact h3

theorem u8_of {z : Int} (hz : (Lit.int .u8 z).wf = true) : 0 ≤ z ∧ z ≤ 255 := by
  have h2 : IntKind.u8.min ≤ z ∧ z ≤ IntKind.u8.max := by simpa [Lit.wf] using hz
  have e1 : IntKind.u8.min = 0 := by decide
  have e2 : IntKind.u8.max = 255 := by decide
  omega

theorem RowsZ.front {w : World} {g n len m : Nat} (h : RowsZ w (some ⟨g, 0, none⟩) len (vecs es n len)) (hm : m ≤ len) : RowsZ w (some ⟨g, 0, none⟩) m (vecs es n m) := by
  refine ⟨by simp [vecs], .inr ⟨g, rfl, fun j zs hz => ?_⟩⟩
  have hj : j < m := by have := (List.getElem?_eq_some_iff.1 hz).1; simpa [vecs] using this
  rw [vecs_at hj] at hz
  cases hz
  obtain ⟨g2, z2, a2, c2, h1, h2, h3⟩ := h.at (k := j) (by omega)
  cases h1
  rw [vecs_at (by omega)] at h2
  cases h2
  exact ⟨a2, c2, h3⟩

set_option maxHeartbeats 4000000 in
theorem clocksFront_walk (N : Int) (k : Int) (a : Option Addr) (len cap : Nat) (es : List Ev) (w : World) (h : CameEv w a len cap es) (hk0 : 0 ≤ k) (hk1 : k ≤ 255) :
    Calls Try.prog 6 #[.int .i64 N, .slice a len cap, .int .u8 k] w fun e w2 => e = .returned (.bool true) ∧ Below w.heap.size w w2 := by
  have HE : Hid (∀ w1, Below w.heap.size w w1 → Calls Try.prog 7 #[.int .i64 N, .slice a len cap] w1 fun e w2 => e = .returned (.bool (evsCode N es == 0)) ∧ Below w1.heap.size w1 w2) := fun w1 hb => events_from N a len cap es w1 w1 (h.below hb) (Below.refl _ _)
  by_cases hz : evsCode N es = 0
  · have hzb : (evsCode N es == 0) = true := by simpa using hz
    rw [hzb] at HE
    have hl := h.1
    have hv := valid_of hz
    obtain ⟨n, rfl⟩ : ∃ n : Nat, N = n := ⟨N.toNat, by have := hv.1; omega⟩
    obtain ⟨kn, rfl⟩ : ∃ x : Nat, k = x := ⟨k.toNat, by omega⟩
    have hmx' : (len : Int) ≤ 60 := by have := hv.2.2.1; omega
    have hn6 : n ≤ 6 := by have := hv.2.1; omega
    generalize hat : kn % (len + 1) = at0
    have hat1 : at0 ≤ len := by rw [← hat]; have := Nat.mod_lt kn (show 0 < len + 1 by omega); omega
    have hmod : (kn : Int).tmod ((len : Int) + 1) = (at0 : Int) := by rw [← hat]; rfl
    have hmod2 : (kn : Int) % ((len : Int) + 1) = (at0 : Int) := by rw [← hat]; rfl
    have hza := evs_take hz at0
    have HVs := hidMk (Vectors_ok n a len cap es w h hz)
    have HSs : Hid (∀ w1, Below w.heap.size w w1 → Calls Try.prog 14 #[.int .i64 (n : Int), .slice a len cap] w1 fun e w2 => (∃ O, e = .returned (.tuple #[.slice (some ⟨O, 0, none⟩) len len, .int .i64 0]) ∧ RowI w2 w.heap.size O len (sc es)) ∧ Below w1.heap.size w1 w2) := fun w1 hb => scalars_rel (n : Int) a len cap es w w1 h hz hb
    have HV2 : Hid (∀ w1, Below w.heap.size w w1 → Calls Try.prog 9 #[.int .i64 (n : Int), .slice a at0 cap] w1 fun e w2 => (∃ O R, e = .returned (.tuple #[.slice (some ⟨O, 0, none⟩) at0 at0, .int .i64 0]) ∧ Rows2 (es.take at0) w.heap.size at0 n w2 O R) ∧ Below w1.heap.size w1 w2) := fun w1 hb => Vectors_rel n a at0 cap (es.take at0) w w1 (h.take hat1) hza hb
    have HS2 : Hid (∀ w1, Below w.heap.size w w1 → Calls Try.prog 14 #[.int .i64 (n : Int), .slice a at0 cap] w1 fun e w2 => (∃ O, e = .returned (.tuple #[.slice (some ⟨O, 0, none⟩) at0 at0, .int .i64 0]) ∧ RowI w2 w.heap.size O at0 (sc (es.take at0))) ∧ Below w1.heap.size w1 w2) := fun w1 hb => scalars_rel (n : Int) a at0 cap (es.take at0) w w1 (h.take hat1) hza hb
    have hcap := h.2.1
    have hcap' : (len : Int) ≤ (cap : Int) := by omega
    have hat' : (at0 : Int) ≤ (len : Int) := by omega
    have hat2 : (at0 : Int) ≤ (cap : Int) := by omega
    have HEV : Hid (vecs (es.take at0) n at0 = vecs es n at0) := List.map_congr_left fun j hj => rowN_congr fun p _ => vc_take hv (valid_of hza) p (j + 1) j (by omega) (List.mem_range.1 hj)
    have HES : Hid (rowN at0 (sc (es.take at0)) = rowN at0 (sc es)) := rowN_congr fun j hj => sc_take hv (valid_of hza) (j + 1) j (by omega) hj
    clear hz hv h hza hat
    go_enter Try.func6, Try.ntmps6
    go_wp2_with (first
      | (go_at_call 14; refine (HS2.out _ hB4').mono ?_; rintro e w5 ⟨⟨O4, rfl, hO4⟩, hB5⟩; have hB5' := below_from hB4' hB5; have hZ1 := (rows2_z (by omega) (rows2_below (rows2_below (rows2_below (rows2_below hO1 hB2) hB3) hB4) hB5)).front hat1; have hZ3 := rows2_z (by omega) (rows2_below hO3 hB5); rw [HEV.out] at hZ3; have hT2 := (rowZ_of (owns_below (owns_below (owns_below hO2 hB3) hB4) hB5)).front hat1; have hT4 := rowZ_of hO4; rw [HES.out] at hT4; have HZ1 := hidMk hZ1; have HZ3 := hidMk hZ3; have HT2 := hidMk hT2; have HT4 := hidMk hT4; clear hZ1 hZ3 hT2 hT4 hO1 hO2 hO3 hO4)
      | (go_at_call 15; refine (lists_any _ _ at0 at0 _ _ (vecs es n at0) (vecs es n at0) w5 HZ3.out HZ1.out (by omega) (by omega)).mono ?_; rintro e w6 ⟨rfl, m6, hw6⟩)
      | (go_at_call 13; refine (ints_any _ _ at0 at0 _ _ (rowN at0 (sc es)) (rowN at0 (sc es)) (w5.drewN m6) HT4.out HT2.out (by omega) (by omega)).mono ?_; rintro e w7 ⟨rfl, m7, hw7⟩)
      | (go_at_call 9; refine (HV2.out _ hB3').mono ?_; rintro e w4 ⟨⟨O3, R3, rfl, hO3⟩, hB4⟩; have hB4' := below_from hB3' hB4)
      | (go_at_call 7; refine (HE.out _ hB2').mono ?_; rintro e w3 ⟨rfl, hB3⟩; have hB3' := below_from hB2' hB3)
      | (go_at_call 14; refine (HSs.out _ hB1).mono ?_; rintro e w2 ⟨⟨O2, rfl, hO2⟩, hB2⟩; have hB2' := below_from hB1 hB2)
      | (go_at_call 9; refine (HVs.out).mono ?_; rintro e w1 ⟨⟨O1, R1, rfl, hO1⟩, hB1⟩))
    go_ret
    exact ⟨by simp, by first | exact below_drewN hB5' _ | exact below_drewN (below_drewN hB5' _) _⟩
  · have hzb : (evsCode N es == 0) = false := by simpa using hz
    have hzn : (evsCode N es != 0) = true := by simpa using hz
    have HV := hidMk (Vectors_err N a len cap es w h hz)
    have HS : Hid (∀ w1, Below w.heap.size w w1 → Calls Try.prog 14 #[.int .i64 N, .slice a len cap] w1 fun e w2 => e = .returned (.tuple #[.slice none 0 0, .int .i64 (evsCode N es)]) ∧ Below w1.heap.size w1 w2) := fun w1 hb => scalars_err N a len cap es w1 (h.below hb) hz
    rw [hzb] at HE
    generalize evsCode N es = c at HS HV hzn
    clear h hz hzb
    go_enter Try.func6, Try.ntmps6
    go_wp2_with (first | (go_at_call 7; refine (HE.out _ hB3).mono ?_; rintro e w3 ⟨rfl, hB4⟩; have hB5 := below_from hB3 hB4) | (go_at_call 14; refine (HS.out _ hB1).mono ?_; rintro e w2 ⟨rfl, hB2⟩; have hB3 := below_from hB1 hB2) | (go_at_call 9; refine (HV.out).mono ?_; rintro e w1 ⟨rfl, hB1⟩))
    go_ret
    exact ⟨by simp, hB5⟩
end Go.Proofs.Yteahkegjekaanab
