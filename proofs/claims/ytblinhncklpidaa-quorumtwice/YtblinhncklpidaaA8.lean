/- Contract of quorum.leastCommon: the least number of members that two sets of a family have in common. -/
import Derived.Test.YtblinhncklpidaaA7
namespace Go.Proofs.Ytblinhncklpidaa
open Go.RowKit Go.Shelf

attribute [local go_sem] Oper.semAt_some

/-- m is the least size of what two sets that have come have in common, or 12 if none is less. -/
def LeastOf (pre : List (W32 × W32)) (m : Nat) : Prop :=
  m ≤ 12 ∧ (∀ p ∈ pre, m ≤ sz (p.1.1 &&& p.2.1)) ∧ (m = 12 ∨ ∃ p ∈ pre, m = sz (p.1.1 &&& p.2.1))
theorem LeastOf.next {pre : List (W32 × W32)} {m : Nat} (h : LeastOf pre m) (x : W32 × W32) : LeastOf (pre ++ [x]) (min m (sz (x.1.1 &&& x.2.1))) := by
  refine ⟨by have := h.1; omega, fun p hp => ?_, ?_⟩
  · rcases List.mem_append.1 hp with hp | hp
    · have := h.2.1 p hp; omega
    · rw [List.mem_singleton] at hp; rw [hp]; omega
  · by_cases hm : m ≤ sz (x.1.1 &&& x.2.1)
    · rw [Nat.min_eq_left hm]
      rcases h.2.2 with e | ⟨p, hp, e⟩
      · exact .inl e
      · exact .inr ⟨p, List.mem_append_left _ hp, e⟩
    · rw [Nat.min_eq_right (by omega)]
      exact .inr ⟨x, by simp, rfl⟩
/-- What leastCommon answers of a family. -/
def Common (qs : List Nat) (m : Nat) : Prop :=
  m ≤ 12 ∧ (∀ a ∈ qs, ∀ b ∈ qs, m ≤ sz (a &&& b)) ∧ (m = 12 ∨ ∃ a ∈ qs, ∃ b ∈ qs, m = sz (a &&& b))

theorem common_done {qs : List Nat} {ys : List (W32 × W32)} {m : Nat} (h1 : ∀ p ∈ ys, Of qs p) (h2 : Came qs qs.length ys) (h : LeastOf ys m) : Common qs m := by
  refine ⟨h.1, fun a ha b hb => ?_, ?_⟩
  · obtain ⟨i, hi, ea⟩ := List.getElem_of_mem ha
    obtain ⟨j, hj, eb⟩ := List.getElem_of_mem hb
    have ea' : qs[i]? = some a := by rw [List.getElem?_eq_getElem hi, ea]
    have eb' : qs[j]? = some b := by rw [List.getElem?_eq_getElem hj, eb]
    by_cases hij : i ≤ j
    · obtain ⟨p, hp, e1, e2⟩ := h2 i j a b hi hij ea' eb'
      rw [← e1, ← e2]; exact h.2.1 p hp
    · obtain ⟨p, hp, e1, e2⟩ := h2 j i b a hj (by omega) eb' ea'
      rw [Nat.and_comm, ← e1, ← e2]; exact h.2.1 p hp
  · rcases h.2.2 with e | ⟨p, hp, e⟩
    · exact .inl e
    · exact .inr ⟨_, (h1 p hp).1, _, (h1 p hp).2, e⟩
theorem common_zero {qs : List Nat} {ys : List (W32 × W32)} (h1 : ∀ p ∈ ys, Of qs p) {p : W32 × W32} (hp : p ∈ ys) (h : sz (p.1.1 &&& p.2.1) = 0) : Common qs 0 :=
  ⟨Nat.zero_le _, fun _ _ _ _ => Nat.zero_le _, .inr ⟨_, (h1 p hp).1, _, (h1 p hp).2, h.symm⟩⟩

theorem and_bounds (s t : Nat) (hs : s < 4294967296) (ht : t < 4294967296) : 0 ≤ bits .and .u32 (s : Int) (t : Int) ∧ bits .and .u32 (s : Int) (t : Int) < 4294967296 := by
  rw [u32_and_nat s t hs ht]
  have : s &&& t ≤ s := Nat.and_le_left
  constructor <;> omega
theorem and_lt (a b : Nat) (ha : a < 4294967296) : a &&& b < 4294967296 := Nat.lt_of_le_of_lt Nat.and_le_left ha

/-- Between two rounds: the variable holds the least, which is not 0. -/
def LcI (w : World) (pre : List (W32 × W32)) (W : World) : Prop :=
  (∃ m : Nat, LeastOf pre m ∧ m ≠ 0 ∧ W.cell? ⟨w.heap.size, 0, none⟩ = some (.int .i64 (m : Int)) ∧ W.frozen? ⟨w.heap.size, 0, none⟩ = false) ∧ Below w.heap.size w W
/-- A round has left the loop: two have come that have nothing in common. -/
def LcX (w : World) (c : Code) (pre : List (W32 × W32)) (W : World) : Prop :=
  (c = .exit 0 ∧ (∃ p ∈ pre, sz (p.1.1 &&& p.2.1) = 0) ∧ W.cell? ⟨w.heap.size, 0, none⟩ = some (.int .i64 0)) ∧ Below w.heap.size w W

theorem lc_step (w W : World) (k : Nat) (z : Int) {v : Value} (hB : Below w.heap.size w W) (hc : W.cell? ⟨w.heap.size, 0, none⟩ = some v) (hf : W.frozen? ⟨w.heap.size, 0, none⟩ = false) (B : Nat) :
    KeepsFrom B W ((W.drewN k).setCell ⟨w.heap.size, 0, none⟩ (.int .i64 z)) ∧ Keeps w.heap.size (w.heap.size + 1) W ((W.drewN k).setCell ⟨w.heap.size, 0, none⟩ (.int .i64 z)) ∧
    ((W.drewN k).setCell ⟨w.heap.size, 0, none⟩ (.int .i64 z)).cell? ⟨w.heap.size, 0, none⟩ = some (.int .i64 z) ∧ ((W.drewN k).setCell ⟨w.heap.size, 0, none⟩ (.int .i64 z)).frozen? ⟨w.heap.size, 0, none⟩ = false ∧
    Below w.heap.size w ((W.drewN k).setCell ⟨w.heap.size, 0, none⟩ (.int .i64 z)) := by
  have hd : KeepsOthers W (W.drewN k) := ⟨Nat.le_refl _, fun _ _ h _ => h⟩
  refine ⟨(hd.trans (KeepsOthers.setCell _ _ _)).from _, ⟨(below_drewN (Below.refl _ W) k).setCell (p := ⟨w.heap.size, 0, none⟩) (Nat.le_refl _) _, fun u hu => ?_⟩, ?_, ?_, (below_drewN hB k).setCell (p := ⟨w.heap.size, 0, none⟩) (Nat.le_refl _) _⟩
  · exact (World.cell?_setCell_other _ ⟨w.heap.size, 0, none⟩ ⟨w.heap.size + 1, 0, none⟩ _ (by simp)).trans hu
  · exact World.cell?_setCell_same' _ _ _ (by show ((W.drewN k).cell? _).isSome = true; have : (W.drewN k).cell? ⟨w.heap.size, 0, none⟩ = some v := hc; rw [this]; rfl)
  · rw [World.frozen?_setCell]; exact hf

theorem lc_go (w W : World) (k z : Nat) {v : Value} (hB : Below w.heap.size w W) (hc : W.cell? ⟨w.heap.size, 0, none⟩ = some v) (hf : W.frozen? ⟨w.heap.size, 0, none⟩ = false) (B : Nat) {pre : List (W32 × W32)} (h : LeastOf pre z) (h0 : z ≠ 0) :
    KeepsFrom B W ((W.drewN k).setCell ⟨w.heap.size, 0, none⟩ (.int .i64 (z : Int))) ∧ Keeps w.heap.size (w.heap.size + 1) W ((W.drewN k).setCell ⟨w.heap.size, 0, none⟩ (.int .i64 (z : Int))) ∧ LcI w pre ((W.drewN k).setCell ⟨w.heap.size, 0, none⟩ (.int .i64 (z : Int))) := by
  obtain ⟨h1, h2, h3, h4, h5⟩ := lc_step w W k (z : Int) hB hc hf B
  exact ⟨h1, h2, ⟨z, h, h0, h3, h4⟩, h5⟩
theorem lc_out (w W : World) (k z : Nat) {v : Value} (hB : Below w.heap.size w W) (hc : W.cell? ⟨w.heap.size, 0, none⟩ = some v) (hf : W.frozen? ⟨w.heap.size, 0, none⟩ = false) (B : Nat) {pre : List (W32 × W32)} (h : ∃ p ∈ pre, sz (p.1.1 &&& p.2.1) = 0) (h0 : z = 0) :
    KeepsFrom B W ((W.drewN k).setCell ⟨w.heap.size, 0, none⟩ (.int .i64 (z : Int))) ∧ LcX w (.exit 0) pre ((W.drewN k).setCell ⟨w.heap.size, 0, none⟩ (.int .i64 (z : Int))) := by
  obtain ⟨h1, h2, h3, h4, h5⟩ := lc_step w W k (z : Int) hB hc hf B
  subst h0
  exact ⟨h1, ⟨rfl, h, h3⟩, h5⟩

set_option maxRecDepth 100000 in
set_option maxHeartbeats 2000000 in
theorem leastCommon_row (b off len cap : Nat) (qs : List Nat) (w : World) (hl : qs.length = len) (hl2 : len ≤ 64) (hcap : len ≤ cap) (hq : Row w b off qs) :
    Calls Try.prog 23 #[.slice (some ⟨b, off, none⟩) len cap] w fun e W' => (∃ m : Nat, Common qs m ∧ e = .returned (.int .i64 m)) ∧ Below w.heap.size w W' := by
  refine (callsIn_wide (n := 6)).1 ?_
  refine callsIn_of_wp_marks Try.func23 rfl trivial ?_ rfl
  simp only [Try.ntmps23, List.size_toArray, List.length_cons, List.length_nil, Nat.reduceAdd, Nat.reduceSub, Array.replicate_succ, Array.replicate_zero, List.push_toArray, List.append_toArray, List.nil_append, List.cons_append]
  gi_wp2_with (refine ⟨trivial, ?_⟩; gi_at_call 36; refine (eachTwo_in _ _ trivial rfl _ _ _ _).mono ?_; rintro e w' ⟨rfl, rfl⟩)
  have bS := Boxed.new w 3 (.int .i64 12)
  have bN := Boxed.new (w.alloc (.cells #[.int .i64 12] 3)) 22 (.slice (some ⟨b, off, none⟩) len cap)
  rw [World.size_alloc] at bN
  have hB0 : Below w.heap.size w ((w.alloc (.cells #[.int .i64 12] 3)).alloc (.cells #[.slice (some ⟨b, off, none⟩) len cap] 22)) := ((Below.refl _ w).alloc (Nat.le_refl _) _).alloc (by simp) _
  have hblt := hq.1
  refine wpIn_rangeFunc_ownG rfl (by decide) (gf := 47) (lb := #[.pointer (some ⟨w.heap.size + 1, 0, none⟩)]) rfl trivial (enters_of Try.func47 (by kernel_rfl) rfl)
    (eachTwo_stops Fence.wide _ trivial rfl (by decide) (w.heap.size + 1) w.heap.size b off len cap qs hl hl2 hcap _ (by simp) hblt bN.cell (hq.below rfl hB0)) keeps_t (keeps_b (by simp; omega)) (Below.refl _ _) (fun _ => rfl)
    (LcI w) (LcX w)
    (OwnFrom.and (Own.from (fun s A B row hs hg hr => by obtain ⟨m, h1, h2, h3, h4⟩ := hs; exact ⟨m, h1, h2, cell_kept h3 hg hr, (frozen_kept h3 hg hr).trans h4⟩) _) (ownFrom_below (Nat.le_refl _) (by simp; omega)))
    (fun c => OwnFrom.and (Own.from (fun s A B row hs hg hr => ⟨hs.1, hs.2.1, cell_kept hs.2.2 hg hr⟩) _) (ownFrom_below (Nat.le_refl _) (by simp; omega)))
    ⟨⟨12, ⟨Nat.le_refl _, by simp, .inl rfl⟩, by decide, (bS.alloc _).cell, (bS.alloc _).frozen⟩, hB0⟩
    (fun x => { tmps := #[.slice (some ⟨b, off, none⟩) len cap, undef, .int .i64 0, .pointer (some ⟨w.heap.size, 0, none⟩), .int .u32 (x.1.1 : Int), .int .u32 (x.2.1 : Int), .slice (some ⟨b, off, none⟩) len cap, .func (.func 47) #[] #[.pointer (some ⟨w.heap.size + 1, 0, none⟩)], .int .u32 (x.1.1 : Int), .int .u32 (x.2.1 : Int), undef, undef, undef, undef, undef, undef, undef, undef, undef], defers := [] }) ?assign ?body ?done ?stop
  case assign =>
    intro l x W K hK
    gi_wp2
    exact hK
  case body =>
    rintro l pre x W ⟨⟨m, hm, hm0, hc, hf⟩, hB⟩ _
    obtain ⟨⟨s, hs⟩, ⟨t, ht⟩⟩ := x
    have hmx : Try.prog.follows .mixedOrders = true := by kernel_rfl
    have hz := and_bounds s t hs ht
    have hO := ones_int _ hz.1 hz.2
    have hsz : sz (bits .and .u32 (s : Int) (t : Int)).toNat = sz (s &&& t) := by rw [u32_and_nat s t hs ht]; rfl
    rw [hsz] at hO
    have HN := hidMk (hm.next (⟨s, hs⟩, ⟨t, ht⟩))
    have HZ : Hid (∀ z : Nat, z = sz (s &&& t) → z = 0 → ∃ p ∈ pre ++ [((⟨s, hs⟩, ⟨t, ht⟩) : W32 × W32)], sz (p.1.1 &&& p.2.1) = 0) := fun z e1 e2 => ⟨(⟨s, hs⟩, ⟨t, ht⟩), by simp, by show sz (s &&& t) = 0; omega⟩
    dsimp only at HN
    generalize hv : sz (s &&& t) = v at hO HN HZ
    have HO := hidMk hO
    have HV := hidMk hv
    clear hO hsz hv hm
    by_cases hle : m ≤ v
    · have hle' : (m : Int) ≤ (v : Int) := by omega
      have hm0' : ((m : Int) == 0) = false := by simp; omega
      gi_wp2
      gi_region_with_o (refine ⟨trivial, ?_⟩; gi_at_call 37; refine (CallsIn.inRound l (callsIn_wide.2 (HO.out _))).mono ?_; rintro e w' ⟨rfl, nq, rfl⟩)
      all_goals gi_wp2
      all_goals exact lc_go w W _ m hB hc hf _ (by have := HN.out; rwa [Nat.min_eq_left hle] at this) hm0
    · have hle' : (v : Int) < (m : Int) := by omega
      by_cases hv0 : v = 0
      · have hv0' : ((v : Int) == 0) = true := by simp; omega
        have HV0 := hidMk hv0
        clear hv0
        gi_wp2
        gi_region_with_o (refine ⟨trivial, ?_⟩; gi_at_call 37; refine (CallsIn.inRound l (callsIn_wide.2 (HO.out _))).mono ?_; rintro e w' ⟨rfl, nq, rfl⟩)
        all_goals gi_wp2
        all_goals exact lc_out w W _ v hB hc hf _ (HZ.out v rfl HV0.out) HV0.out
      · have hv0' : ((v : Int) == 0) = false := by simp; omega
        gi_wp2
        gi_region_with_o (refine ⟨trivial, ?_⟩; gi_at_call 37; refine (CallsIn.inRound l (callsIn_wide.2 (HO.out _))).mono ?_; rintro e w' ⟨rfl, nq, rfl⟩)
        all_goals gi_wp2
        all_goals exact lc_go w W _ v hB hc hf _ (by have := HN.out; rwa [Nat.min_eq_right (by omega)] at this) hv0
  case done =>
    rintro D ys W hD ⟨hof, hcame⟩ ⟨⟨m, hm, hm0, hc, hf⟩, hB⟩ hK
    gi_wp2
    refine ⟨by simp, .inl ⟨_, _, rfl, run_takeDeferred hK, ?_⟩⟩
    exact ⟨_, results_tmp rfl _ _ _, ⟨m, common_done hof (by rw [hl]; exact hcame) hm, rfl⟩, hB.trans (belowK_b (w := w) (Nat.le_refl _) W D _ _ (by simp at hD; omega) hK rfl rfl)⟩
  case stop =>
    rintro D c pre W hD hof ⟨⟨rfl, ⟨p, hp, hz⟩, hc⟩, hB⟩ hK
    gi_wp2
    refine ⟨by simp, .inl ⟨_, _, rfl, run_takeDeferred hK, ?_⟩⟩
    exact ⟨_, results_tmp rfl _ _ _, ⟨0, common_zero hof hp hz, rfl⟩, hB.trans (belowK_b (w := w) (Nat.le_refl _) W D _ _ (by simp at hD; omega) hK rfl rfl)⟩
end Go.Proofs.Ytblinhncklpidaa
