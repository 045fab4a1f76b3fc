/- Contracts of math/bits.Len64 and Len, slices.nextPowerOfTwo, (*slices.xorshift).Next and breakPatternsOrdered at rows of 32 bits. -/
import Derived.Test.YtblinhncklpidaaS6
namespace Go.Proofs.Ytblinhncklpidaa
open Go.RowKit

theorem len8_small : ∀ n : Fin 256, Lib.len8 (n.val : Int) = (Lib.bitLen n.val : Int) := Lib.len8_eq
theorem pow_small : ∀ n : Fin 256, 1 ≤ n.val → 2 ^ Lib.bitLen n.val ≤ 2 * n.val ∧ n.val < 2 ^ Lib.bitLen n.val := by decide +kernel

set_option maxRecDepth 100000 in
set_option maxHeartbeats 1000000 in
theorem len64_any (x : Nat) (hx : x < 256) (w : World) :
    Calls Try.prog 61 #[.int .u64 (x : Int)] w fun e w' => e = .returned (.int .i64 (Lib.bitLen x : Int)) ∧ w' = w := by
  have HE : Hid (Lib.len8 (x : Int) = (Lib.bitLen x : Int)) := len8_small ⟨x, hx⟩
  have HB : Hid (Lib.bitLen x ≤ 8) := Lib.bitLen_le8 ⟨x, hx⟩
  generalize Lib.bitLen x = L at *
  obtain ⟨z, hz⟩ : ∃ z : Int, (x : Int) = z := ⟨_, rfl⟩
  rw [hz] at HE ⊢
  have h2 : z ≤ 255 := by omega
  have h3 : 0 ≤ z := by omega
  have t1 : decide (4294967296 ≤ z) = false := by simp; omega
  have t2 : decide (65536 ≤ z) = false := by simp; omega
  have t3 : decide (256 ≤ z) = false := by simp; omega
  clear hz hx
  go_enter Try.func61, Try.ntmps61
  go_wp2
  go_ret
  refine ⟨ret_int ?_, rfl⟩
  have e1 := HE.out
  have e2 := HB.out
  rw [e1]
  unfold wrap64
  omega

set_option maxHeartbeats 1000000 in
theorem next_any (x : Int) (B : Nat) (w : World) (hB : Boxed w B 65 (.int .u64 x)) :
    Calls Try.prog 64 #[.pointer (some ⟨B, 0, none⟩)] w fun e w' => ∃ r : Int, e = .returned (.int .u64 r) ∧ Boxed w' B 65 (.int .u64 r) ∧ w.grownBy w' (some B) := by
  have cB := hB.cell
  have fB := hB.frozen
  go_enter Try.func64, Try.ntmps64
  go_upto_region 1 with fail
  go_cut [2] (fun s2 wx => s2 = .int .u64 0 ∧ ∃ y : Int, Boxed wx B 65 (.int .u64 y) ∧ w.grownBy wx (some B))
  case first =>
    go_region
    go_wp2
    go_meet
    case rel => exact ⟨rfl, _, hB.set _, turned_drew (turned_setCell w B 0 _)⟩
  case rest =>
    clear cB fB hB
    obtain ⟨rfl, y, hB, hG⟩ := hcut
    have cB := hB.cell
    have fB := hB.frozen
    go_upto_region 2 with fail
    go_cut [2] (fun s2 wx => s2 = .int .u64 0 ∧ ∃ y : Int, Boxed wx B 65 (.int .u64 y) ∧ w.grownBy wx (some B))
    case first =>
      go_region
      go_wp2
      go_meet
      case rel => exact ⟨rfl, _, hB.set _, turned_drew (hG.trans (turned_setCell _ B 0 _))⟩
    case rest =>
      clear cB fB hB hG
      obtain ⟨rfl, z, hB, hG⟩ := hcut
      have cB := hB.cell
      have fB := hB.frozen
      go_upto_region 3 with fail
      go_cut [2] (fun s2 wx => s2 = .int .u64 0 ∧ ∃ y : Int, Boxed wx B 65 (.int .u64 y) ∧ w.grownBy wx (some B))
      case first =>
        go_region
        go_wp2
        go_meet
        case rel => exact ⟨rfl, _, hB.set _, turned_drew (hG.trans (turned_setCell _ B 0 _))⟩
      case rest =>
        clear cB fB hB hG
        obtain ⟨rfl, r, hB, hG⟩ := hcut
        have cB := hB.cell
        go_wp2
        go_ret
        exact ⟨r, rfl, hB, hG⟩

theorem and_mask (r : Int) (m : Nat) (hm : m < 65536) : ∃ o : Nat, bits .and .u64 r (m : Int) = (o : Int) ∧ o ≤ m := by
  have hx : (BitVec.ofInt 64 r &&& BitVec.ofInt 64 (m : Int)).toNat ≤ m := by
    rw [BitVec.toNat_and]
    have e : (BitVec.ofInt 64 (m : Int)).toNat = m := by
      rw [BitVec.ofInt_natCast, BitVec.toNat_ofNat]; exact Nat.mod_eq_of_lt (by omega)
    rw [e]; exact Nat.and_le_right
  refine ⟨(BitVec.ofInt 64 r &&& BitVec.ofInt 64 (m : Int)).toNat, ?_, hx⟩
  show IntKind.u64.wrap ((BitVec.ofInt 64 r &&& BitVec.ofInt 64 (m : Int)).toNat : Int) = _
  generalize (BitVec.ofInt 64 r &&& BitVec.ofInt 64 (m : Int)).toNat = o at *
  simp [IntKind.wrap, IntKind.bits, IntKind.signed]
  omega

set_option maxHeartbeats 1000000 in
theorem len_any (x : Nat) (hx : x < 256) (w : World) :
    Calls Try.prog 49 #[.int .u64 (x : Int)] w fun e w' => e = .returned (.int .i64 (Lib.bitLen x : Int)) ∧ w' = w := by
  have HL := hidMk (len64_any x hx)
  go_enter Try.func49, Try.ntmps49
  go_wp2_with (go_at_call 61; refine (HL.out _).mono ?_; rintro e w' ⟨rfl, hw⟩; obtain rfl := hw.symm)
  go_ret
  exact ⟨rfl, rfl⟩

theorem pow_u64 (L : Nat) (h : L ≤ 8) : IntKind.u64.wrap ((2 : Int) ^ L) = ((2 ^ L : Nat) : Int) := by
  have h2 : 2 ^ L ≤ 256 := Nat.le_trans (Nat.pow_le_pow_right (by omega) h) (by decide)
  have e : ((2 : Int) ^ L) = ((2 ^ L : Nat) : Int) := by simp
  rw [e]
  simp only [IntKind.wrap, IntKind.bits, IntKind.signed]
  generalize 2 ^ L = p at *
  simp
  omega

set_option maxHeartbeats 1000000 in
theorem nextPow_any (x : Nat) (hx : x < 256) (w : World) :
    Calls Try.prog 63 #[.int .i64 (x : Int)] w fun e w' => e = .returned (.int .u64 ((2 ^ Lib.bitLen x : Nat) : Int)) ∧ w' = w := by
  have HL := hidMk (len_any x hx)
  have hb : Lib.bitLen x ≤ 8 := Lib.bitLen_le8 ⟨x, hx⟩
  have hx' : (x : Int) < 256 := by omega
  generalize Lib.bitLen x = L at *
  go_enter Try.func63, Try.ntmps63
  go_wp2_with (go_at_call 49; refine (HL.out _).mono ?_; rintro e w' ⟨rfl, hw⟩; obtain rfl := hw.symm)
  go_ret
  exact ⟨ret_int (pow_u64 L hb), rfl⟩

/-- d' is d with some of the places from a to b exchanged. -/
theorem perm_swap {d d1 : Array Nat} {a b i j : Nat} (h : Go.Sort.PermIn a b d d1) (hb : b ≤ d.size) (h1 : a ≤ i) (h2 : i < b) (h3 : a ≤ j) (h4 : j < b) : Go.Sort.PermIn a b d (Go.Sort.swp d1 i j) :=
  Go.Sort.permIn_trans _ _ _ a b h (Go.Sort.swp_permIn d1 a b i j h1 h2 h3 h4 (by rw [h.1]; exact hb))

set_option maxRecDepth 100000 in
set_option maxHeartbeats 4000000 in
theorem break_any (g cap : Nat) (d : Array Nat) (n a b : Nat) (w : World) (hn : n = d.size) (hb : b ≤ d.size) (hab : a + 12 < b) (hd : d.size ≤ 64) (h : Arr w g cap d) :
    Calls Try.prog 53 #[.slice (some ⟨g, 0, none⟩) n cap, .int .i64 (a : Int), .int .i64 (b : Int)] w fun e w' => (∃ v, e = .returned v) ∧ (∃ d', Arr w' g cap d' ∧ Go.Sort.PermIn a b d d') ∧ w.grownBy w' (some g) := by
  subst hn
  obtain ⟨l, hl⟩ : ∃ l, b - a = l := ⟨_, rfl⟩
  have hle : (b : Int) - (a : Int) = (l : Int) := by omega
  obtain ⟨q, hq⟩ : ∃ q, l / 4 = q := ⟨_, rfl⟩
  have hqe : (l : Int) / 4 = (q : Int) := by omega
  obtain ⟨c, hc⟩ : ∃ c, a + q * 2 = c := ⟨_, rfl⟩
  have hce : (a : Int) + (q : Int) * 2 = (c : Int) := by omega
  have hl8 : (8 : Int) ≤ (l : Int) := by omega
  have hl64 : (l : Int) ≤ 64 := by omega
  have hqb : (q : Int) ≤ 64 := by omega
  have hcb : (c : Int) ≤ 64 := by omega
  have hc1 : a + 1 ≤ c ∧ c + 1 < b := by omega
  have hbl : b = a + l := by omega
  have hab' : (a : Int) ≤ 64 := by omega
  have hbb' : (b : Int) ≤ 64 := by omega
  have hps := pow_small ⟨l, by omega⟩ (by show 1 ≤ l; omega)
  have HN := hidMk (nextPow_any l (by omega))
  obtain ⟨mk, hmk⟩ : ∃ mk, 2 ^ Lib.bitLen l = mk + 1 := ⟨2 ^ Lib.bitLen l - 1, by have := Nat.two_pow_pos (Lib.bitLen l); omega⟩
  have hps2 : 2 ^ Lib.bitLen l ≤ 2 * l := hps.1
  rw [hmk] at HN hps2
  have hmke : ((mk + 1 : Nat) : Int) = (mk : Int) + 1 := by omega
  rw [hmke] at HN
  have hmk' : (mk : Int) ≤ 128 := by omega
  clear hps hmk hmke
  have hgl := h.lt
  have bB := Boxed.new w 65 (.int .u64 (l : Int))
  have hA1 : Arr (w.alloc (.cells #[.int .u64 (l : Int)] 65)) g cap d := h.kept (World.grownBy_alloc w _ none) (by simp)
  have hne' : some g ≠ some w.heap.size := fun e => by have := Option.some.inj e; omega
  have HBL := hidMk hbl
  clear hl hq hc hbl
  go_enter Try.func53, Try.ntmps53
  go_wp2_with (go_at_call 63; refine (HN.out _).mono ?_; rintro e w' ⟨rfl, hw⟩; obtain rfl := hw.symm)
  go_loopg [9, 10] 10 (fun gg s9 s10 wr => ∃ (i : Nat) (d1 : Array Nat) (x : Int), c ≤ i + 1 ∧ i ≤ c + 2 ∧ c + 2 - i ≤ gg ∧ s9 = .int .i64 (i : Int) ∧ d1.size = d.size ∧ Arr wr g cap d1 ∧ Boxed wr w.heap.size 65 (.int .u64 x) ∧ w.grownBy wr (some g) ∧ Hid (Go.Sort.PermIn a b d d1))
  case atStart => exact ⟨c - 1, d, _, by omega, by omega, by omega, by rw [Int.ofNat_sub (by omega)]; rfl, rfl, hA1, bB, World.grownBy_alloc w _ _, Go.Sort.permIn_refl _ _ _⟩
  case round =>
    clear hA1 bB
    obtain ⟨i, d1, x, hi1, hi2, hgg, rfl, hsz, hA, hX, hG, HP⟩ := hrel
    by_cases hlt : i ≤ c + 1
    · have hlt' : (i : Int) ≤ (c : Int) + 1 := by omega
      go_wp2_with fail
      refine (next_any x w.heap.size _ hX).mono ?_
      rintro e w2 ⟨r, rfl, hX2, hG2⟩
      have hA2 := hA.kept hG2 hne'
      have hG3 : w.grownBy w2 (some g) := hG.andThen hG2 (fun j e => by cases e; exact .inl (Nat.le_refl _))
      obtain ⟨o, ho, hob⟩ := and_mask r mk (by omega)
      have hob' : (o : Int) ≤ 128 := by omega
      have hid : (i : Int) < (d.size : Int) := by omega
      have ci := hA2.cell (j := i) (by omega)
      have fi := hA2.frozen i
      clear hA hX hG hG2
      by_cases hol : o < l
      · have hol' : (o : Int) < (l : Int) := by omega
        have hao : a + o < b := by have := HBL.out; omega
        have co := hA2.cell (j := a + o) (by omega)
        have fo := hA2.frozen (a + o)
        have HSW := hidMk (hA2.swapD i (a + o) (by omega) (by omega))
        have HPS := hidMk (perm_swap HP.out hb (i := i) (j := a + o) (by omega) (by omega) (by omega) hao)
        have hs3 : (Go.Sort.swp d1 i (a + o)).size = d.size := by rw [Go.Sort.size_swp]; exact hsz
        have w1 := wrap_i64 ((a : Int) + (o : Int)) (by omega) (by omega)
        have b1 : (a : Int) + (o : Int) < (d.size : Int) := by omega
        have n1 : 0 ≤ (a : Int) + (o : Int) := by omega
        have t1 : ((a : Int) + (o : Int)).toNat = a + o := by omega
        have HXS : Hid (∀ u v, Boxed ((w2.setCell ⟨g, i, none⟩ u).setCell ⟨g, a + o, none⟩ v).drew w.heap.size 65 (.int .u64 r)) := fun u v => hX2.kept (turned_drew (turned_swap w2 g i (a + o) u v)) (fun e => hne' e.symm)
        by_cases hal : i = a + o
        · have HAL := hidMk hal
          generalize Go.Sort.swp d1 i (a + o) = d2 at *
          rw [← hal] at co fo HSW HXS t1
          clear hal
          generalize d1[i]! = x1 at *
          go_wp2
          go_region
          go_wp2
          go_roundg (c + 2 - (i + 1))
          case measure => omega
          case rel => exact ⟨i + 1, d2, r, by omega, by omega, Nat.le_refl _, by go_num, hs3, HSW.out, HXS.out _ _, turned_swapD hG3 _ _ _ _, HPS⟩
        · have hal2 : ¬ a + o = i := fun e => hal e.symm
          generalize Go.Sort.swp d1 i (a + o) = d2 at *
          generalize d1[i]! = x1 at *
          generalize d1[a + o]! = x2 at *
          go_wp2
          go_region
          go_wp2
          go_roundg (c + 2 - (i + 1))
          case measure => omega
          case rel => exact ⟨i + 1, d2, r, by omega, by omega, Nat.le_refl _, by go_num, hs3, HSW.out, HXS.out _ _, turned_swapD hG3 _ _ _ _, HPS⟩
      · obtain ⟨o2, ho2⟩ : ∃ o2, o = l + o2 := ⟨o - l, by omega⟩
        have hoe : (o : Int) - (l : Int) = (o2 : Int) := by omega
        have hol' : (l : Int) ≤ (o : Int) := by omega
        have ho2b : (o2 : Int) ≤ 64 := by omega
        have HO2 := hidMk ho2
        have ho2l : o2 < l := by omega
        clear ho2
        have hao : a + o2 < b := by have := HBL.out; omega
        have co := hA2.cell (j := a + o2) (by omega)
        have fo := hA2.frozen (a + o2)
        have HSW := hidMk (hA2.swapD i (a + o2) (by omega) (by omega))
        have HPS := hidMk (perm_swap HP.out hb (i := i) (j := a + o2) (by omega) (by omega) (by omega) hao)
        have hs3 : (Go.Sort.swp d1 i (a + o2)).size = d.size := by rw [Go.Sort.size_swp]; exact hsz
        have w1 := wrap_i64 ((a : Int) + (o2 : Int)) (by omega) (by omega)
        have b1 : (a : Int) + (o2 : Int) < (d.size : Int) := by omega
        have n1 : 0 ≤ (a : Int) + (o2 : Int) := by omega
        have t1 : ((a : Int) + (o2 : Int)).toNat = a + o2 := by omega
        have HXS : Hid (∀ u v, Boxed ((w2.setCell ⟨g, i, none⟩ u).setCell ⟨g, a + o2, none⟩ v).drew w.heap.size 65 (.int .u64 r)) := fun u v => hX2.kept (turned_drew (turned_swap w2 g i (a + o2) u v)) (fun e => hne' e.symm)
        by_cases hal : i = a + o2
        · have HAL := hidMk hal
          generalize Go.Sort.swp d1 i (a + o2) = d2 at *
          rw [← hal] at co fo HSW HXS t1
          clear hal
          generalize d1[i]! = x1 at *
          go_wp2
          go_region
          go_wp2
          go_roundg (c + 2 - (i + 1))
          case measure => omega
          case rel => exact ⟨i + 1, d2, r, by omega, by omega, Nat.le_refl _, by go_num, hs3, HSW.out, HXS.out _ _, turned_swapD hG3 _ _ _ _, HPS⟩
        · have hal2 : ¬ a + o2 = i := fun e => hal e.symm
          generalize Go.Sort.swp d1 i (a + o2) = d2 at *
          generalize d1[i]! = x1 at *
          generalize d1[a + o2]! = x2 at *
          go_wp2
          go_region
          go_wp2
          go_roundg (c + 2 - (i + 1))
          case measure => omega
          case rel => exact ⟨i + 1, d2, r, by omega, by omega, Nat.le_refl _, by go_num, hs3, HSW.out, HXS.out _ _, turned_swapD hG3 _ _ _ _, HPS⟩
    · have hlt' : ¬ (i : Int) ≤ (c : Int) + 1 := by omega
      go_wp2
      go_end0
      exact ⟨⟨_, rfl⟩, ⟨d1, hA, HP.out⟩, hG⟩
end Go.Proofs.Ytblinhncklpidaa
