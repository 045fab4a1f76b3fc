/- Contracts of quorum.outlasts and its closure, and of quorum.Masks. -/
import Derived.Test.YtblinhncklpidaaC5
namespace Go.Proofs.Ytblinhncklpidaa
open Go.RowKit

set_option maxHeartbeats 400000 in
theorem fewFn_any (t B : Nat) (m : Int) (ht : t < 4294967296) (w : World) (hc : w.cell? ⟨B, 0, none⟩ = some (.int .i64 m)) :
    Calls Try.prog 43 #[.int .u32 (t : Int), .pointer (some ⟨B, 0, none⟩)] w fun e w' => e = .returned (.bool (decide ((sz t : Int) ≤ m))) ∧ ∃ nq, w' = w.drewN nq := by
  go_enter Try.func43, Try.ntmps43
  go_wp2
  go_quiet ((go_at_call 37; exact Calls.quiet_of (ones_any t ht _)))
  go_wp2
  go_ret
  exact ⟨rfl, _, rfl⟩

theorem enters_few : ∀ args w, (callFunc 43 args).run Try.prog w = .ok (.enter 43 args) w :=
  Go.Proofs.enters_of Try.func43 (by kernel_rfl) rfl

theorem asks_few (w : World) (m : Int) (B : Nat) (hB : B < w.heap.size) (hc : w.cell? ⟨B, 0, none⟩ = some (.int .i64 m)) :
    Asks w 43 (.pointer (some ⟨B, 0, none⟩)) (fun t => decide ((sz t : Int) ≤ m)) := by
  intro x w1 hx hb
  refine (fewFn_any x B m hx w1 ((hb.cell (p := ⟨B, 0, none⟩) hB).trans hc)).mono ?_
  rintro e w' ⟨rfl, nq, rfl⟩
  exact ⟨rfl, below_drewN (Below.refl _ _) _⟩

set_option maxHeartbeats 400000 in
theorem indexFunc_none (a : Option Addr) (cap : Nat) (f : Value) (w : World) :
    Calls Try.prog 45 #[.slice a 0 cap, f] w fun e w' => e = .returned (.int .i64 (-1)) ∧ w' = w := by
  go_enter Try.func45, Try.ntmps45
  go_wp2
  go_loop [8] (fun i => i = .int .i64 0) (fun _ => 0)
  case atStart => rfl
  case round =>
    obtain rfl := hrel
    go_wp2
    go_ret
    exact ⟨rfl, rfl⟩

set_option maxHeartbeats 400000 in
theorem containsFunc_none (a : Option Addr) (cap : Nat) (f : Value) (w : World) :
    Calls Try.prog 33 #[.slice a 0 cap, f] w fun e w' => e = .returned (.bool false) ∧ w' = w := by
  go_enter Try.func33, Try.ntmps33
  go_wp2_with (go_at_call 45; refine (indexFunc_none a cap f _).mono ?_; rintro e w' ⟨rfl, rfl⟩)
  go_ret
  exact ⟨rfl, rfl⟩

theorem containsFunc_any (g : Nat) (c : Value) (p : Nat → Bool) (a : Option Addr) (len cap : Nat) (qs : List Nat) (w : World) (eg : ∀ args w, (callFunc g args).run Try.prog w = .ok (.enter g args) w) (hl2 : len ≤ 4096) (hq : Came32 w a len cap qs) (hA : Asks w g c p) :
    Calls Try.prog 33 #[.slice a len cap, .func (.func g) #[] #[c]] w fun e w' => e = .returned (.bool (qs.any p)) ∧ Below w.heap.size w w' := by
  by_cases h0 : len = 0
  · subst h0
    have e1 : qs = [] := List.length_eq_zero_iff.1 hq.1
    subst e1
    exact (containsFunc_none a cap _ w).mono fun e w' ⟨he, hw⟩ => ⟨he, hw ▸ Below.refl _ _⟩
  · obtain ⟨b, off, rfl, q⟩ := hq.2.2.2.resolve_left h0
    exact containsFunc_row g c p b off len cap qs w eg hq.1 hl2 q hA

/-- Whatever so many fall out, some set has none of them. -/
def outB (n : Nat) (qs : List Nat) (m : Int) : Bool := !(blocksTo qs (2 ^ n)).any fun s => decide ((sz s : Int) ≤ m)

set_option maxHeartbeats 800000 in
theorem outlasts_row (n b off len cap : Nat) (m : Int) (qs : List Nat) (w : World) (hn : n ≤ 12) (hl : qs.length = len) (hl2 : len ≤ 4096) (hq : Row w b off qs) :
    Calls Try.prog 29 #[.int .i64 n, .slice (some ⟨b, off, none⟩) len cap, .int .i64 m] w fun e w' => e = .returned (.bool (outB n qs m)) ∧ Below w.heap.size w w' := by
  have hB0 : Below w.heap.size w (w.alloc (.cells #[.int .i64 m] 3)) := (Below.refl _ w).alloc (Nat.le_refl _) _
  have HB := hidMk (leastBlocks_row n b off len cap qs _ hn hl hl2 (hq.below rfl hB0))
  have HX : Hid (∀ x ∈ blocksTo qs (2 ^ n), x < 4294967296) := fun x hx => Nat.lt_trans (blocksTo_lt hx) (two_pow_lt n (by omega))
  have hLl : (blocksTo qs (2 ^ n)).length ≤ 4096 := Nat.le_trans (blocksTo_len qs _) (Nat.le_trans (Nat.pow_le_pow_right (by omega) hn) (by decide))
  have HO : Hid (outB n qs m = !(blocksTo qs (2 ^ n)).any fun s => decide ((sz s : Int) ≤ m)) := rfl
  have HA := hidMk (asks_few (w.alloc (.cells #[.int .i64 m] 3)) m w.heap.size (by simp) (Boxed.new w 3 _).cell)
  have hmf : ∀ (fn : Fn) (first cap : Array Value) (w : World), (Instr.makeFunc fn first cap).run Try.prog w = .ok (.func fn first cap) w := fun _ _ _ _ => rfl
  generalize blocksTo qs (2 ^ n) = L at *
  clear hl hB0 hq
  go_enter Try.func29, Try.ntmps29
  go_wp2_with (first
    | (go_at_call 26; refine (HB.out).mono ?_; rintro e w1 ⟨v, rfl, hM, hB1⟩; obtain ⟨a1, c1, rfl, hC1, _⟩ := came_owned hM HX.out)
    | (go_at_call 33; refine (containsFunc_any _ _ _ a1 _ c1 L _ enters_few hLl hC1 (HA.out.below rfl hB1)).mono ?_; rintro e w2 ⟨rfl, hB2⟩))
  go_ret
  have hB0 : Below w.heap.size w (w.alloc (.cells #[.int .i64 m] 3)) := (Below.refl _ w).alloc (Nat.le_refl _) _
  exact ⟨ret_bool HO.out.symm, (hB0.trans (hB1.mono hB0.size)).trans (hB2.mono (Nat.le_trans hB0.size hB1.size))⟩

set_option maxHeartbeats 400000 in
theorem masks_err (n c m : Int) (a : Option Addr) (len cap : Nat) (w : World) (hc : (c != 0) = true)
    (hF : Calls Try.prog 9 #[.int .i64 n, .slice a len cap] w fun e w' => e = .returned (.int .i64 c) ∧ Below w.heap.size w w') :
    Calls Try.prog 15 #[.int .i64 n, .slice a len cap, .int .i64 m] w fun e w' => e = .returned (.tuple #[.bool false, .int .i64 c]) ∧ Below w.heap.size w w' := by
  have HF := hidMk hF
  clear hF
  go_enter Try.func15, Try.ntmps15
  go_wp2_with (go_at_call 9; refine (HF.out).mono ?_; rintro e w' ⟨rfl, hB⟩)
  go_ret2
  exact ⟨rfl, hB⟩

set_option maxHeartbeats 400000 in
theorem masks_arg (n m : Int) (a : Option Addr) (len cap : Nat) (w : World) (hm : m < 0 ∨ n < m)
    (hF : Calls Try.prog 9 #[.int .i64 n, .slice a len cap] w fun e w' => e = .returned (.int .i64 0) ∧ Below w.heap.size w w') :
    Calls Try.prog 15 #[.int .i64 n, .slice a len cap, .int .i64 m] w fun e w' => e = .returned (.tuple #[.bool false, .int .i64 2]) ∧ Below w.heap.size w w' := by
  have HF := hidMk hF
  clear hF
  by_cases h1 : m < 0
  · clear hm
    go_enter Try.func15, Try.ntmps15
    go_wp2_with (go_at_call 9; refine (HF.out).mono ?_; rintro e w' ⟨rfl, hB⟩)
    go_ret2
    exact ⟨rfl, hB⟩
  · have h2 : n < m := by omega
    clear hm
    go_enter Try.func15, Try.ntmps15
    go_wp2_with (go_at_call 9; refine (HF.out).mono ?_; rintro e w' ⟨rfl, hB⟩)
    go_ret2
    exact ⟨rfl, hB⟩

/-- Each two sets have so many members in common. -/
def commonB (qs : List Nat) (m : Int) : Bool := qs.all fun a => qs.all fun b => decide (2 * m + 1 ≤ (sz (a &&& b) : Int))
/-- What Masks answers of a system. -/
def masksB (n : Nat) (qs : List Nat) (m : Int) : Bool := commonB qs m && outB n qs m

theorem common_geq {qs : List Nat} {c : Nat} (h : Common qs c) {m : Int} (hb : ∀ x ∈ qs, x < 2 ^ 12) (h1 : 1 ≤ qs.length) : decide (2 * m + 1 ≤ (c : Int)) = commonB qs m := by
  rw [Bool.eq_iff_iff, decide_eq_true_iff]
  unfold commonB
  rw [List.all_eq_true]
  constructor
  · intro hc a ha
    rw [List.all_eq_true]
    intro b hb'
    have := h.2.1 a ha b hb'
    exact decide_eq_true (by omega)
  · intro hall
    rcases h.2.2 with e | ⟨a, ha, b, hb', e⟩
    · obtain ⟨x, hx⟩ : ∃ x, x ∈ qs := ⟨qs[0], List.getElem_mem (by omega)⟩
      have h2 := hall x hx
      rw [List.all_eq_true] at h2
      have h3 := of_decide_eq_true (h2 x hx)
      have h4 : sz (x &&& x) ≤ 12 := sz_lt (by rw [Nat.and_self]; exact hb x hx)
      omega
    · have h2 := hall a ha
      rw [List.all_eq_true] at h2
      have h3 := of_decide_eq_true (h2 b hb')
      omega

set_option maxHeartbeats 800000 in
theorem masks_row (n b off len cap : Nat) (m : Int) (qs : List Nat) (w : World) (hn : n ≤ 12) (hl : qs.length = len) (hl1 : 1 ≤ len) (hl2 : len ≤ 64) (hcap : len ≤ cap) (hq : Row w b off qs) (hb : ∀ x ∈ qs, x < 2 ^ 12) (hm0 : 0 ≤ m) (hm1 : m ≤ n)
    (hF : Calls Try.prog 9 #[.int .i64 n, .slice (some ⟨b, off, none⟩) len cap] w fun e w' => e = .returned (.int .i64 0) ∧ Below w.heap.size w w') :
    Calls Try.prog 15 #[.int .i64 n, .slice (some ⟨b, off, none⟩) len cap, .int .i64 m] w fun e w' => e = .returned (.tuple #[.bool (masksB n qs m), .int .i64 0]) ∧ Below w.heap.size w w' := by
  have HF := hidMk hF
  have hm2 : m ≤ 12 := by omega
  have HC : Hid (∀ w1, Below w.heap.size w w1 → Calls Try.prog 23 #[.slice (some ⟨b, off, none⟩) len cap] w1 fun e W' => (∃ c : Nat, (Common qs c ∧ c ≤ 12) ∧ e = .returned (.int .i64 c)) ∧ Below w1.heap.size w1 W') :=
    fun w1 hb1 => (leastCommon_row b off len cap qs w1 hl hl2 hcap (hq.below rfl hb1)).mono fun e w' ⟨⟨c, h1, h2⟩, h3⟩ => ⟨⟨c, ⟨h1, h1.1⟩, h2⟩, h3⟩
  have HG : Hid (∀ c : Nat, Common qs c → decide (2 * m + 1 ≤ (c : Int)) = commonB qs m) := fun c hc => common_geq hc hb (by omega)
  have HO : Hid (∀ w1, Below w.heap.size w w1 → Calls Try.prog 29 #[.int .i64 n, .slice (some ⟨b, off, none⟩) len cap, .int .i64 m] w1 fun e w' => e = .returned (.bool (outB n qs m)) ∧ Below w1.heap.size w1 w') :=
    fun w1 hb1 => outlasts_row n b off len cap m qs w1 hn hl (by omega) (hq.below rfl hb1)
  have HM : Hid (masksB n qs m = (commonB qs m && outB n qs m)) := rfl
  clear hF hl hq hb
  generalize outB n qs m = o at *
  cases hcb : commonB qs m
  · rw [hcb] at HM HG
    have HM' : Hid (masksB n qs m = false) := by show masksB n qs m = false; rw [HM.out]; simp
    clear HM hcb
    go_enter Try.func15, Try.ntmps15
    go_wp2_with (first
      | (go_at_call 9; refine (HF.out).mono ?_; rintro e w1 ⟨rfl, hB⟩)
      | (go_at_call 23; refine (HC.out _ hB).mono ?_; rintro e w2 ⟨⟨c, ⟨hc, hc12⟩, rfl⟩, hB2⟩; have hg : (c : Int) < 2 * m + 1 := by (have := of_decide_eq_false (HG.out c hc); omega)))
    go_ret2
    exact ⟨by rw [HM'.out]; rfl, hB.trans (hB2.mono hB.size)⟩
  · rw [hcb] at HM HG
    have HM' : Hid (masksB n qs m = o) := by show masksB n qs m = o; rw [HM.out]; simp
    clear HM hcb
    go_enter Try.func15, Try.ntmps15
    go_wp2_with (first
      | (go_at_call 9; refine (HF.out).mono ?_; rintro e w1 ⟨rfl, hB⟩)
      | (go_at_call 23; refine (HC.out _ hB).mono ?_; rintro e w2 ⟨⟨c, ⟨hc, hc12⟩, rfl⟩, hB2⟩; have hg : 2 * m + 1 ≤ (c : Int) := of_decide_eq_true (HG.out c hc))
      | (go_at_call 29; refine (HO.out _ (hB.trans (hB2.mono hB.size))).mono ?_; rintro e w3 ⟨rfl, hB3⟩))
    go_ret2
    exact ⟨by rw [HM'.out]; rfl, (hB.trans (hB2.mono hB.size)).trans (hB3.mono (Nat.le_trans hB.size hB2.size))⟩
end Go.Proofs.Ytblinhncklpidaa
