/- Contract of folkmootref.CutCheck. -/
import Derived.Test.YtjglbjiekndpeabN4
namespace Go.Proofs.Ytjglbjiekndpeab
open Go.RowKit Go.Shelf
set_option linter.unusedVariables false

theorem pc_here {es : List Ev} {k p : Nat} {e : Ev} (he : es[k]? = some e) : pc es p (k + 1) = pc es p k + if e.who = (p : Int) then 1 else 0 := by
  show pc es p k + _ = _
  rw [whoAt_at he]

set_option maxHeartbeats 4000000 in
theorem refCut_row (n : Nat) (a : Option Addr) (len cap : Nat) (es : List Ev) (w : World) (h : CameEv w a len cap es) (hz : evsCode (n : Int) es = 0) (b off c2 : Nat) (zs : List Int) (hl : zs.length = n) (hq : IRow w b off zs) :
    Calls Try.prog 14 #[.int .i64 (n : Int), .slice a len cap, .slice (some ⟨b, off, none⟩) n c2] w fun e W2 => e = .returned (.int .i64 (cutCode (n : Int) es zs)) ∧ Below w.heap.size w W2 := by
  have hv := valid_of hz
  have hel : es.length = len := h.1
  have hmx' : (len : Int) ≤ 60 := by have := hv.2.2.1; omega
  have hn6 : n ≤ 6 := by have := hv.2.1; omega
  have hn6' : (n : Int) ≤ 6 := by omega
  have hne : ((n : Int) != (n : Int)) = false := by simp
  have HE : Hid (∀ k, k < len → ∃ be oe, a = some ⟨be, oe, none⟩ ∧ EvRow w be oe es) := fun k hk => by
    rcases h.2.2.2 with h0 | h0
    · omega
    · exact h0
  have HL := hidMk hl
  have HQ := hidMk hq
  have HEL := hidMk hel
  have HM : Hid (∀ p k, k ≤ len → ((pc es p k : Nat) : Int) ≤ 60) := fun p k hk => by have := pc_bound es p k; omega
  clear h hz hv hl hq hel
  go_enter Try.func14, Try.ntmps14
  go_wp2
  go_loopw [7] (fun i wr => ∃ p : Nat, p ≤ n ∧ i = .int .i64 (p : Int) ∧ Hid (Below w.heap.size w wr) ∧ Hid (∀ q, q < p → badAt es zs q = false)) (fun i _ => n - (intOf i).toNat)
  case atStart => exact ⟨0, Nat.zero_le _, rfl, Below.refl _ _, fun q hq => by omega⟩
  case round =>
    obtain ⟨p, hp, rfl, HB, HG⟩ := hrel
    by_cases hlt : p < n
    · have hlt' : (p : Int) < (n : Int) := by omega
      go_wp2
      go_loopw [8, 22] (fun m i wq => ∃ k : Nat, k ≤ len ∧ i = .int .i64 (k : Int) ∧ m = .int .i64 ((pc es p k : Nat) : Int) ∧ Hid (Below w.heap.size w wq)) (fun _ i _ => len - (intOf i).toNat)
      case atStart => exact ⟨0, Nat.zero_le _, rfl, rfl, HB⟩
      case round =>
        clear HB
        obtain ⟨k, hk, rfl, rfl, HB⟩ := hrel
        by_cases hkl : k < len
        · have hkl' : (k : Int) < (len : Int) := by omega
          obtain ⟨be, oe, rfl, hr⟩ := HE.out k hkl
          obtain ⟨⟨kd, wh, of⟩, he, _, _, hc1, hc2, hc3⟩ := (hr.below hr.1 HB.out).at (k := k) (by rw [HEL.out]; exact hkl)
          dsimp only at hc1 hc2 hc3
          have hpm := HM.out p k hk
          have HS := hidMk (pc_here (p := p) he)
          clear he hr
          dsimp only at HS
          by_cases hwh : wh = (p : Int)
          · have hb : (wh == (p : Int)) = true := by simpa using hwh
            have HS2 : Hid (pc es p (k + 1) = pc es p k + 1) := by have := HS.out; rw [if_pos hwh] at this; exact this
            clear hwh HS
            go_wp2
            go_roundw
            case rel => exact ⟨k + 1, by omega, by go_num, by rw [HS2.out]; rfl, HB.out.alloc HB.out.size _⟩
            case measure => simp [intOf]; omega
          · have hb : (wh == (p : Int)) = false := by simpa using hwh
            have HS2 : Hid (pc es p (k + 1) = pc es p k) := by have := HS.out; rw [if_neg hwh] at this; exact this
            clear hwh HS
            go_wp2
            go_roundw
            case rel => exact ⟨k + 1, by omega, by go_num, by rw [HS2.out], HB.out.alloc HB.out.size _⟩
            case measure => simp [intOf]; omega
        · obtain rfl : k = len := by omega
          have hcz := (HQ.out.below HQ.out.1 HB.out).getD (p := p) (by rw [HL.out]; exact hlt)
          have HBA : Hid (badAt es zs p = (decide (zs.getD p 0 < 0) || decide (((pc es p k : Nat) : Int) < zs.getD p 0))) := by show badAt es zs p = _; unfold badAt; rw [HEL.out]
          have hpm := HM.out p k (Nat.le_refl _)
          generalize zs.getD p 0 = z at hcz HBA
          by_cases hz0 : z < 0
          · have HCC : Hid (cutCode (n : Int) es zs = 2) := cutCode_bad (p := p) (by rw [HL.out]) (by rw [HL.out]; exact hlt) (by rw [HBA.out]; simp [hz0])
            go_wp2
            go_ret
            exact ⟨ret_int HCC.out.symm, HB.out⟩
          · by_cases hz1 : ((pc es p k : Nat) : Int) < z
            · have HCC : Hid (cutCode (n : Int) es zs = 2) := cutCode_bad (p := p) (by rw [HL.out]) (by rw [HL.out]; exact hlt) (by rw [HBA.out]; simp [hz1])
              have hz0' : 0 ≤ z := by omega
              go_wp2
              go_ret
              exact ⟨ret_int HCC.out.symm, HB.out⟩
            · have hz0' : 0 ≤ z := by omega
              have hz1' : z ≤ ((pc es p k : Nat) : Int) := by omega
              have HG2 : Hid (∀ q, q < p + 1 → badAt es zs q = false) := fun q hq => by
                by_cases e : q = p
                · subst e; rw [HBA.out]; simp; omega
                · exact HG.out q (by omega)
              go_wp2
              go_roundw
              case rel => exact ⟨p + 1, by omega, by go_num, HB, HG2⟩
              case measure => simp [intOf]; omega
    · obtain rfl : p = n := by omega
      have HCC : Hid (cutCode (p : Int) es zs = 0) := cutCode_ok (by rw [HL.out]) (fun q hq => HG.out q (by rw [HL.out] at hq; exact hq))
      go_wp2
      go_ret
      exact ⟨ret_int HCC.out.symm, HB.out⟩

set_option maxHeartbeats 1000000 in
theorem refCut_len (n : Nat) (a a2 : Option Addr) (len cap n2 c2 : Nat) (w : World) (hn2 : n2 ≤ 9223372036854775807) (hl : n2 ≠ n) :
    Calls Try.prog 14 #[.int .i64 (n : Int), .slice a len cap, .slice a2 n2 c2] w fun e W2 => e = .returned (.int .i64 2) ∧ W2 = w := by
  have hne : ((n2 : Int) != (n : Int)) = true := by simp; omega
  have hn2' : (n2 : Int) ≤ 9223372036854775807 := by omega
  clear hn2 hl
  go_enter Try.func14, Try.ntmps14
  go_wp2
  go_ret
  exact ⟨rfl, rfl⟩
theorem refCut_any (n : Nat) (a : Option Addr) (len cap : Nat) (es : List Ev) (w : World) (h : CameEv w a len cap es) (hz : evsCode (n : Int) es = 0) (a2 : Option Addr) (n2 c2 : Nat) (zs : List Int) (hc : CameI w a2 n2 c2 zs) :
    Calls Try.prog 14 #[.int .i64 (n : Int), .slice a len cap, .slice a2 n2 c2] w fun e W2 => e = .returned (.int .i64 (cutCode (n : Int) es zs)) ∧ Below w.heap.size w W2 := by
  by_cases hl : zs.length = n
  · obtain ⟨h1, h2, h3, h4⟩ := hc
    have hn2 : n2 = n := by omega
    subst hn2
    rcases h4 with h4 | ⟨b, off, rfl, hq⟩
    · have := (valid_of hz).1; omega
    · exact refCut_row n2 a len cap es w h hz b off c2 zs hl hq
  · rw [cutCode_len (by omega)]
    refine (refCut_len n a a2 len cap n2 c2 w ?_ (by have := hc.1; omega)).mono fun e W2 ⟨h1, h2⟩ => ⟨h1, by rw [h2]; exact Below.refl _ _⟩
    have := hc.2.2.1
    unfold maxLen at this
    omega

set_option maxHeartbeats 1000000 in
theorem cut_any (n : Nat) (a : Option Addr) (len cap : Nat) (es : List Ev) (w : World) (h : CameEv w a len cap es) (hz : evsCode (n : Int) es = 0) (a2 : Option Addr) (n2 c2 : Nat) (zs : List Int) (hc : CameI w a2 n2 c2 zs) :
    Calls Try.prog 6 #[.int .i64 (n : Int), .slice a len cap, .slice a2 n2 c2] w fun e W2 => e = .returned (.bool (cutCode (n : Int) es zs == 0)) ∧ Below w.heap.size w W2 := by
  have HC := hidMk (refCut_any n a len cap es w h hz a2 n2 c2 zs hc)
  generalize cutCode (n : Int) es zs = c at HC ⊢
  clear h hz hc
  go_enter Try.func6, Try.ntmps6
  go_wp2_with (go_at_call 14; refine (HC.out).mono ?_; rintro e w2 ⟨rfl, hB⟩)
  go_ret
  exact ⟨rfl, hB⟩

end Go.Proofs.Ytjglbjiekndpeab
