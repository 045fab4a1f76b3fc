/- Generals: the others of a set. -/
import Derived.Test.YtekbglmoibglnaaGf1
import Derived.Shelf.Abstract
import Derived.Lib.SliceRun
namespace Go.Proofs.Ytekbglmoibglnaa
open Go.RowKit
set_option linter.unusedVariables false

theorem natsL_one (l : List Nat) : ∀ u ∈ natsL l, u.oneCell' = true := by
  intro u hu
  simp only [natsL, List.mem_map] at hu
  obtain ⟨z, _, rfl⟩ := hu
  rfl
theorem natsL_atG {l : List Nat} {j : Nat} {u : Value} (h : (natsL l)[j]? = some u) : ∃ z, l[j]? = some z ∧ u = .int .i64 (z : Int) := by
  simp only [natsL, List.getElem?_map, Option.map_eq_some_iff] at h
  obtain ⟨z, h1, h2⟩ := h
  exact ⟨z, h1, h2.symm⟩
theorem natsL_set (l : List Nat) (i x : Nat) : (natsL l).set i (.int .i64 (x : Int)) = natsL (l.set i x) := by simp [natsL, List.map_set]
/-- Zeros from a place on. -/
theorem seg_zeros {ok : Nat → Prop} {g off n cap : Nat} : ∀ (m i : Nat) (w : World) (ys : List Nat), 0 < n → Seg w ok 3 1 (.slice (some ⟨g, off, none⟩) n cap) n (natsL ys) → i + m ≤ n →
    (∃ zs, Seg (w.setCells g (off + i) (List.replicate m (.int .i64 0))) ok 3 1 (.slice (some ⟨g, off, none⟩) n cap) n (natsL zs) ∧ zs.take i = ys.take i) ∧ w.grownBy (w.setCells g (off + i) (List.replicate m (.int .i64 0))) (some g)
  | 0, i, w, ys, h0, h, hb => ⟨⟨ys, h, rfl⟩, World.grownBy.refl _ _⟩
  | m + 1, i, w, ys, h0, h, hb => by
    obtain ⟨g2, off2, cap2, hv, _, _, _, _, _, _, hset⟩ := h.at h0
    cases hv
    have h2 := hset i (.int .i64 ((0 : Nat) : Int)) (by omega)
    rw [natsL_set] at h2
    obtain ⟨⟨zs, h3, h4⟩, h5⟩ := seg_zeros m (i + 1) (w.setCell ⟨g, off + i, none⟩ (.int .i64 ((0 : Nat) : Int))) (ys.set i 0) h0 h2 (by omega)
    refine ⟨⟨zs, h3, ?_⟩, (grown_setCell w g (off + i) _).trans h5⟩
    have h6 := congrArg (List.take i) h4
    rw [List.take_take, List.take_take, Nat.min_eq_left (Nat.le_succ i), List.take_set_of_le (Nat.le_refl i)] at h6
    exact h6

theorem not_nilG (b off len cap : Nat) (W : World) : (binOp .eql 37 (.slice (some ⟨b, off, none⟩) len cap) (.slice none 0 0)).run Try.prog W = .ok (.bool false) W := by kernel_rfl
theorem own_ltG {p : Prop} {g n c k : Nat} (e : (Value.slice (some ⟨g, 0, none⟩) n c).ownBlock = some k) (hk : k < g) : p := by
  simp [Value.ownBlock] at e
  omega
set_option maxRecDepth 100000 in
set_option maxHeartbeats 4000000 in
theorem cloneG {W : World} {a : Option Addr} {len cap : Nat} {zs : List Nat} (h : RowI W a len cap (natsI zs)) (h0 : 0 < len) (h6 : len ≤ 100) :
    Calls Try.prog 24 #[.slice a len cap] W fun e W2 => ∃ v, e = .returned v ∧ Seg W2 (fun g => W.heap.size ≤ g) 3 1 v len (natsL zs) ∧ Stil W W2 := by
  obtain ⟨h1, h2, h3, h4 | ⟨b, off, rfl, hlt, hc⟩⟩ := h
  · omega
  rw [natsI_len] at h1
  obtain ⟨i0, hi, hz0, hz1, hz2⟩ := info_parts cInfoInt
  have hs : Seg (W.alloc (.cells #[] 3)) (fun g => g = W.heap.size) 3 1 (.slice (some ⟨W.heap.size, 0, none⟩) 0 0) 0 [] := ⟨by simp, .inr ⟨_, 0, 0, #[], rfl, rfl, al_new _ _, Nat.le_refl _, Nat.zero_le _, by simp, by simp⟩⟩
  have hn : ∀ j u, (natsL zs)[j]? = some u → (W.alloc (.cells #[] 3)).cell? ((⟨b, off, none⟩ : Addr).add j) = some u := fun j u hu => by
    obtain ⟨z, hz, rfl⟩ := natsL_atG hu
    rw [addr_add, World.cell?_of_block (al_old _ _ _ hlt)]
    exact hc j _ (natsI_at hz)
  have hl : (natsL zs).length = len * 1 := by rw [natsL_len]; omega
  have h1c := natsL_one zs
  clear hc h1
  generalize natsL zs = xs at *
  have hnil := not_nilG b off len cap W
  go_enter Try.func24, Try.ntmps24
  go_wp2_with (at_builtin; refine wpList_append_seg _ rfl _ _ 37 rfl 3 i0 (.int .i64 0) 1 8 Try.underlying37 hi hz0 hz1 hz2 rfl (by decide) _ _ _ rfl hs ⟨b, off, none⟩ len cap xs rfl hl hn h1c (by unfold maxLen; omega) (by omega) ?_)
  intro v3 w3 hs3 hg3
  have HS : Hid (Seg w3 (fun g => W.heap.size ≤ g) 3 1 v3 len xs) := by
    have h5 := hs3.mono (ok2 := fun g => W.heap.size ≤ g) (fun g _ e => by
      rcases e with ⟨_, e⟩ | e
      · omega
      · rw [e]; simp)
    show Seg w3 (fun g => W.heap.size ≤ g) 3 1 v3 len xs
    simpa using h5
  have HK : Hid (Keep (fun _ => False) W w3) := ((Keep.refl (fun _ => False) W).alloc _).grown hg3 (fun k e hk => own_ltG e hk)
  clear hs3 hg3
  go_wp2
  go_ret
  exact ⟨v3, rfl, HS, HK⟩

def AsksG (g : Nat) (c : Value) (B k : Nat) : Prop := ∀ (x : Nat) (w : World), w.cell? ⟨B, 0, none⟩ = some (.int .i64 (k : Int)) →
  Calls Try.prog g #[.int .i64 (x : Int), c] w fun e w' => e = .returned (.bool (x == k)) ∧ w' = w
set_option maxHeartbeats 400000 in
theorem asks_without (B k : Nat) : AsksG 25 (.pointer (some ⟨B, 0, none⟩)) B k := by
  intro x w hc
  go_enter Try.func25, Try.ntmps25
  go_wp2
  go_ret
  exact ⟨gret_bool (by rw [Bool.eq_iff_iff, beq_iff_eq, beq_iff_eq]; omega), rfl⟩
theorem enters_without : ∀ args w, (callFunc 25 args).run Try.prog w = .ok (.enter 25 args) w :=
  Go.Proofs.enters_of Try.func25 (by kernel_rfl) rfl

set_option maxHeartbeats 800000 in
theorem indexG (g : Nat) (c : Value) {B k b off len cap k0 : Nat} {l : List Nat} {w : World} (eg : ∀ args w, (callFunc g args).run Try.prog w = .ok (.enter g args) w) (hA : AsksG g c B k) (hl : l.length = len) (hl2 : len ≤ 100)
    (hq : ∀ (j x : Nat), l[j]? = some x → w.cell? ⟨b, off + j, none⟩ = some (.int .i64 (x : Int))) (hB : w.cell? ⟨B, 0, none⟩ = some (.int .i64 (k : Int))) (h0 : l[k0]? = some k) (hn : ∀ j, j < k0 → l[j]? ≠ some k) :
    Calls Try.prog 26 #[.slice (some ⟨b, off, none⟩) len cap, .func (.func g) #[] #[c]] w fun e w' => e = .returned (.int .i64 (k0 : Int)) ∧ w' = w := by
  have hk0 : k0 < len := by rw [← hl]; exact (List.getElem?_eq_some_iff.1 h0).1
  have HL := hidMk hl
  have HQ := hidMk hq
  have HB := hidMk hB
  have H0 := hidMk h0
  have HN := hidMk hn
  clear hl hq hB h0 hn
  have hl2' : (len : Int) ≤ 100 := by omega
  go_enter Try.func26, Try.ntmps26
  go_wp2
  go_loopw [8] (fun i wr => ∃ j : Nat, j ≤ k0 ∧ i = .int .i64 (j : Int) ∧ wr = w) (fun i _ => len - (intOf i).toNat)
  case atStart => exact ⟨0, Nat.zero_le _, rfl, rfl⟩
  case round =>
    obtain ⟨j, hj, rfl, hwr⟩ := hrel
    subst hwr
    have hlt : j < len := by omega
    have hlt' : (j : Int) < (len : Int) := by omega
    obtain ⟨x, hx⟩ : ∃ x, l[j]? = some x := ⟨l[j]'(by rw [HL.out]; exact hlt), List.getElem?_eq_getElem _⟩
    have hc := HQ.out j x hx
    have hcall := hA x wr HB.out
    by_cases e : j = k0
    · subst e
      have e2 : x = k := by have := H0.out; rw [hx] at this; exact Option.some.inj this
      rw [show (x == k) = true by simpa using e2] at hcall
      have HC := hidMk hcall
      clear hcall e2 hx
      go_wp2_with (go_at_fn g; refine (HC.out).mono ?_; rintro e w' ⟨rfl, rfl⟩)
      go_ret
      exact ⟨rfl, by trivial⟩
    · have e2 : x ≠ k := fun h => HN.out j (by omega) (by rw [hx, h])
      rw [show (x == k) = false by simpa using e2] at hcall
      have HC := hidMk hcall
      clear hcall e2 hx
      go_wp2_with (go_at_fn g; refine (HC.out).mono ?_; rintro e w' ⟨rfl, rfl⟩)
      go_roundw
      case rel => exact ⟨j + 1, by omega, by go_num, by trivial⟩
      case measure => simp [intOf]; omega
end Go.Proofs.Ytekbglmoibglnaa
