/- Contract of slices.partitionOrdered at rows of 32 bits. -/
import Derived.Test.YtblinhncklpidaaS3
namespace Go.Proofs.Ytblinhncklpidaa
open Go.RowKit

set_option maxRecDepth 100000 in
set_option maxHeartbeats 4000000 in
theorem part_any (g cap : Nat) (d : Array Nat) (n a b pivot : Nat) (w : World) (hn : n = d.size) (hb : b ≤ d.size) (hab : a ≤ pivot) (hpb : pivot < b) (hd : d.size ≤ 4096) (h : Arr w g cap d) :
    Calls Try.prog 59 #[.slice (some ⟨g, 0, none⟩) n cap, .int .i64 (a : Int), .int .i64 (b : Int), .int .i64 (pivot : Int)] w fun e w' => e = .returned (.tuple #[.int .i64 ((Go.Sort.partition lt32 d a b pivot).1 : Int), .bool (Go.Sort.partition lt32 d a b pivot).2.1]) ∧ Arr w' g cap (Go.Sort.partition lt32 d a b pivot).2.2 ∧ w.grownBy w' (some g) := by
  subst hn
  have ca := h.cell (j := a) (by omega)
  have cp := h.cell (j := pivot) (by omega)
  have fa := h.frozen a
  have fp := h.frozen pivot
  have HSW := hidMk (h.swapD a pivot (by omega) (by omega))
  have hsz0 : (Go.Sort.swp d a pivot).size = d.size := Go.Sort.size_swp d a pivot
  have hb' : (b : Int) ≤ 4096 := by omega
  have hab' : (a : Int) ≤ (pivot : Int) := by omega
  have hpb' : (pivot : Int) < (b : Int) := by omega
  have hbd : (b : Int) ≤ (d.size : Int) := by omega
  have had : (a : Int) < (d.size : Int) := by omega
  have HR : Hid (∀ d0, d0 = Go.Sort.swp d a pivot → Go.Sort.partition lt32 d a b pivot =
      if Go.Sort.scanUp (fun x => lt32 x d0[a]!) d0 (b - 1) (a + 1) > Go.Sort.scanDown (fun x => !lt32 x d0[a]!) d0 (Go.Sort.scanUp (fun x => lt32 x d0[a]!) d0 (b - 1) (a + 1)) (b - 1) then (Go.Sort.scanDown (fun x => !lt32 x d0[a]!) d0 (Go.Sort.scanUp (fun x => lt32 x d0[a]!) d0 (b - 1) (a + 1)) (b - 1), true, Go.Sort.swp d0 (Go.Sort.scanDown (fun x => !lt32 x d0[a]!) d0 (Go.Sort.scanUp (fun x => lt32 x d0[a]!) d0 (b - 1) (a + 1)) (b - 1)) a) else
        ((Go.Sort.partLoop lt32 a (Go.Sort.scanUp (fun x => lt32 x d0[a]!) d0 (b - 1) (a + 1) + 1) (Go.Sort.scanDown (fun x => !lt32 x d0[a]!) d0 (Go.Sort.scanUp (fun x => lt32 x d0[a]!) d0 (b - 1) (a + 1)) (b - 1) - 1) (Go.Sort.swp d0 (Go.Sort.scanUp (fun x => lt32 x d0[a]!) d0 (b - 1) (a + 1)) (Go.Sort.scanDown (fun x => !lt32 x d0[a]!) d0 (Go.Sort.scanUp (fun x => lt32 x d0[a]!) d0 (b - 1) (a + 1)) (b - 1)))).1, false,
          Go.Sort.swp (Go.Sort.partLoop lt32 a (Go.Sort.scanUp (fun x => lt32 x d0[a]!) d0 (b - 1) (a + 1) + 1) (Go.Sort.scanDown (fun x => !lt32 x d0[a]!) d0 (Go.Sort.scanUp (fun x => lt32 x d0[a]!) d0 (b - 1) (a + 1)) (b - 1) - 1) (Go.Sort.swp d0 (Go.Sort.scanUp (fun x => lt32 x d0[a]!) d0 (b - 1) (a + 1)) (Go.Sort.scanDown (fun x => !lt32 x d0[a]!) d0 (Go.Sort.scanUp (fun x => lt32 x d0[a]!) d0 (b - 1) (a + 1)) (b - 1)))).2
            (Go.Sort.partLoop lt32 a (Go.Sort.scanUp (fun x => lt32 x d0[a]!) d0 (b - 1) (a + 1) + 1) (Go.Sort.scanDown (fun x => !lt32 x d0[a]!) d0 (Go.Sort.scanUp (fun x => lt32 x d0[a]!) d0 (b - 1) (a + 1)) (b - 1) - 1) (Go.Sort.swp d0 (Go.Sort.scanUp (fun x => lt32 x d0[a]!) d0 (b - 1) (a + 1)) (Go.Sort.scanDown (fun x => !lt32 x d0[a]!) d0 (Go.Sort.scanUp (fun x => lt32 x d0[a]!) d0 (b - 1) (a + 1)) (b - 1)))).1 a)) := by
    rintro d0 rfl; rfl
  replace HR := hidMk (HR.out _ rfl)
  generalize Go.Sort.swp d a pivot = d0 at *
  generalize Go.Sort.partition lt32 d a b pivot = res at *
  go_enter Try.func59, Try.ntmps59
  go_upto_region 1 with fail
  go_cut [8] (fun s8 wx => s8 = .int .i64 0 ∧ Arr wx g cap d0 ∧ w.grownBy wx (some g))
  case first =>
    by_cases hne : a = pivot
    · subst hne
      generalize d[a]! = x at *
      go_region
      go_wp2
      go_meet
      case rel => exact ⟨rfl, HSW.out, turned_swapD (World.grownBy.refl _ _) _ _ _ _⟩
    · have hne2 : ¬ pivot = a := fun e => hne e.symm
      generalize d[a]! = x at *
      generalize d[pivot]! = y at *
      go_region
      go_wp2
      go_meet
      case rel => exact ⟨rfl, HSW.out, turned_swapD (World.grownBy.refl _ _) _ _ _ _⟩
  case rest =>
  clear HSW ca cp fa fp
  obtain ⟨rfl, hA, hG⟩ := hcut
  obtain ⟨P, hP⟩ : ∃ P : Nat → Bool, P = fun x => lt32 x d0[a]! := ⟨_, rfl⟩
  obtain ⟨Q, hQ⟩ : ∃ Q : Nat → Bool, Q = fun x => !lt32 x d0[a]! := ⟨_, rfl⟩
  have hR2 := HR.out
  rw [← hP, ← hQ] at hR2
  clear HR
  have HP := hidMk hP
  have HQ := hidMk hQ
  clear hP hQ
  obtain ⟨j0, hj0⟩ : ∃ j0, b - 1 = j0 := ⟨_, rfl⟩
  obtain ⟨i0, hi0⟩ : ∃ i0, a + 1 = i0 := ⟨_, rfl⟩
  rw [hj0, hi0] at hR2
  have HR2 := hidMk hR2
  have hje : (b : Int) - 1 = (j0 : Int) := by omega
  have hie : (a : Int) + 1 = (i0 : Int) := by omega
  have hij : i0 ≤ j0 + 1 := by omega
  clear hR2 hj0 hi0
  have hx1 : ∃ x1, d0[a]! = x1 := ⟨_, rfl⟩
  obtain ⟨x1, hx1⟩ := hx1
  rw [hx1] at HP HQ
  have HX1 := hidMk hx1
  clear hx1
  go_upto_block 0 with fail
  go_cut [10] (fun s9 wx => s9 = .int .i64 ((Go.Sort.scanUp P d0 j0 i0 : Nat) : Int) ∧ Arr wx g cap d0 ∧ w.grownBy wx (some g))
  case first =>
    go_wp2
    go_loopg [10] (j0 + 1 - i0) (fun gg s9 wr => ∃ i' : Nat, i0 ≤ i' ∧ i' ≤ j0 + 1 ∧ j0 + 1 - i' ≤ gg ∧ s9 = .int .i64 (i' : Int) ∧ Arr wr g cap d0 ∧ w.grownBy wr (some g) ∧ Hid (Go.Sort.scanUp P d0 j0 i' = Go.Sort.scanUp P d0 j0 i0))
    case atStart => exact ⟨i0, Nat.le_refl _, hij, Nat.le_refl _, by first | rfl | go_num, hA, hG, rfl⟩
    case round =>
      clear hA hG
      obtain ⟨i', hi2, hi3, hg2, rfl, hA, hG, HS⟩ := hrel
      have ca1 := hA.cell (j := a) (by omega)
      rw [HX1.out] at ca1
      by_cases hlt : i' ≤ j0
      · have hlt' : (i' : Int) ≤ ((j0 : Nat) : Int) := by omega
        have hid : (i' : Int) < (d.size : Int) := by omega
        have ci := hA.cell (j := i') (by omega)
        have HLE := hidMk (less_any d0[i']! x1)
        have hpv : P d0[i']! = lt32 d0[i']! x1 := by rw [HP.out]
        cases hls : lt32 d0[i']! x1
        · rw [hls] at HLE hpv
          have HS2 := hidMk ((scanUp_end (p := P) (d := d0) (j := j0) (.inr hpv)).symm.trans HS.out)
          clear hls hpv
          generalize d0[i']! = xi at *
          go_wp2
          go_quiet ((go_at_call 57; exact Calls.quiet_of_same (HLE.out _)))
          go_wp2
          go_meet
          case rel => exact ⟨by rw [← HS2.out], hA.drewN _, turned_drewN hG _⟩
        · rw [hls] at HLE hpv
          have HS2 := hidMk ((scanUp_go hlt hpv).trans HS.out)
          clear hls hpv
          generalize d0[i']! = xi at *
          go_wp2
          go_quiet ((go_at_call 57; exact Calls.quiet_of_same (HLE.out _)))
          go_wp2
          go_roundg (j0 + 1 - (i' + 1))
          case measure => omega
          case rel => exact ⟨i' + 1, by omega, by omega, Nat.le_refl _, by go_num, hA.drewN _, turned_drewN hG _, HS2⟩
      · have hlt' : decide ((i' : Int) ≤ ((j0 : Nat) : Int)) = false := by simp; omega
        have HS2 := hidMk ((scanUp_end (p := P) (d := d0) (i := i') (j := j0) (.inl hlt)).symm.trans HS.out)
        go_wp2
        go_quiet ((go_at_call 57; exact Calls.quiet_of_same (less_any _ _ _)))
        go_wp2
        go_meet
        case rel => exact ⟨by rw [← HS2.out], hA.drewN _, turned_drewN hG _⟩
  case rest =>
    clear hA hG
    obtain ⟨rfl, hA, hG⟩ := hcut
    have hsp := Go.Sort.scanUp_spec P d0 j0 _ i0 rfl
    obtain ⟨I2, hI2⟩ : ∃ I2, Go.Sort.scanUp P d0 j0 i0 = I2 := ⟨_, rfl⟩
    rw [hI2] at hsp ⊢
    have HI2 := hidMk hI2
    clear hI2
    have hu1 := hsp.1
    have hu2 := hsp.2.1 hij
    have HU4 := hidMk hsp.2.2.2
    clear hsp
    go_upto_block 2 with fail
    go_cut [11] (fun s10 wx => s10 = .int .i64 ((Go.Sort.scanDown Q d0 I2 j0 : Nat) : Int) ∧ Arr wx g cap d0 ∧ w.grownBy wx (some g))
    case first =>
      go_wp2
      go_loopg [11] (j0 + 1 - I2) (fun gg s10 wr => ∃ j' : Nat, j' ≤ j0 ∧ I2 ≤ j' + 1 ∧ j' + 1 - I2 ≤ gg ∧ s10 = .int .i64 (j' : Int) ∧ Arr wr g cap d0 ∧ w.grownBy wr (some g) ∧ Hid (Go.Sort.scanDown Q d0 I2 j' = Go.Sort.scanDown Q d0 I2 j0))
      case atStart => exact ⟨j0, Nat.le_refl _, hu2, Nat.le_refl _, by first | rfl | go_num, hA, hG, rfl⟩
      case round =>
        clear hA hG
        obtain ⟨j', hj2, hj3, hg2, rfl, hA, hG, HS⟩ := hrel
        have ca1 := hA.cell (j := a) (by omega)
        rw [HX1.out] at ca1
        by_cases hlt : I2 ≤ j'
        · obtain ⟨k, rfl⟩ : ∃ k, j' = k + 1 := ⟨j' - 1, by omega⟩
          have hlt' : (I2 : Int) ≤ (k : Int) + 1 := by omega
          have hid : (k : Int) + 1 < (d.size : Int) := by omega
          have ci := hA.cell (j := k + 1) (by omega)
          have HLE := hidMk (less_any d0[k + 1]! x1)
          have hpv : Q d0[k + 1]! = !lt32 d0[k + 1]! x1 := by rw [HQ.out]
          cases hls : lt32 d0[k + 1]! x1
          · rw [hls] at HLE hpv
            have HS2 := hidMk ((scanDown_go hlt hpv).trans HS.out)
            clear hls hpv
            generalize d0[k + 1]! = xi at *
            go_wp2
            go_quiet ((go_at_call 57; exact Calls.quiet_of_same (HLE.out _)))
            go_wp2
            go_roundg (k + 1 - I2)
            case measure => omega
            case rel => exact ⟨k, by omega, by omega, Nat.le_refl _, by go_num, hA.drewN _, turned_drewN hG _, HS2⟩
          · rw [hls] at HLE hpv
            have HS2 := hidMk ((scanDown_end (p := Q) (d := d0) (i := I2) (.inr hpv)).symm.trans HS.out)
            clear hls hpv
            generalize d0[k + 1]! = xi at *
            go_wp2
            go_quiet ((go_at_call 57; exact Calls.quiet_of_same (HLE.out _)))
            go_wp2
            go_meet
            case rel => exact ⟨by rw [← HS2.out], hA.drewN _, turned_drewN hG _⟩
        · have hlt' : decide ((I2 : Int) ≤ (j' : Int)) = false := by simp; omega
          have HS2 := hidMk ((scanDown_end (p := Q) (d := d0) (j := j') (i := I2) (.inl hlt)).symm.trans HS.out)
          go_wp2
          go_quiet ((go_at_call 57; exact Calls.quiet_of_same (less_any _ _ _)))
          go_wp2
          go_meet
          case rel => exact ⟨by rw [← HS2.out], hA.drewN _, turned_drewN hG _⟩
    case rest =>
      clear hA hG
      obtain ⟨rfl, hA, hG⟩ := hcut
      have hsp := Go.Sort.scanDown_spec Q d0 I2 j0
      obtain ⟨J2, hJ2⟩ : ∃ J2, Go.Sort.scanDown Q d0 I2 j0 = J2 := ⟨_, rfl⟩
      rw [hJ2] at hsp ⊢
      have hv1 := hsp.1
      have hv2 := hsp.2.1 hu2
      have hv4 := hsp.2.2.2
      have HJ2 := hidMk hJ2
      have hIJ : I2 ≤ J2 → I2 ≠ J2 := by
        intro h1 h2
        have p1 := HU4.out (by omega)
        have p2 := hv4 h1 (by omega)
        rw [HP.out] at p1
        rw [HQ.out] at p2
        rw [h2] at p1
        simp only at p1 p2
        rw [p1] at p2
        cases p2
      clear hsp hv4 hJ2
      have hr := HR2.out
      rw [HI2.out, HJ2.out] at hr
      clear HR2
      by_cases hgt : I2 > J2
      · rw [if_pos hgt] at hr
        have HQ2 := hidMk hr
        clear hr
        have hgt' : (J2 : Int) < (I2 : Int) := by omega
        have hJd : (J2 : Int) < (d.size : Int) := by omega
        have cI := hA.cell (j := J2) (by omega)
        have cJ := hA.cell (j := a) (by omega)
        have fI := hA.frozen J2
        have fJ := hA.frozen a
        have HSW2 := hidMk (hA.swapD J2 a (by omega) (by omega))
        clear hIJ
        by_cases hne : J2 = a
        · subst hne
          generalize d0[J2]! = y1 at *
          go_wp2
          go_region
          go_wp2
          go_ret2
          exact ⟨by rw [HQ2.out]; rfl, by rw [HQ2.out]; exact HSW2.out, turned_swapD hG _ _ _ _⟩
        · have hne2 : ¬ a = J2 := fun e => hne e.symm
          generalize d0[J2]! = y1 at *
          generalize d0[a]! = y2 at *
          go_wp2
          go_region
          go_wp2
          go_ret2
          exact ⟨by rw [HQ2.out]; rfl, by rw [HQ2.out]; exact HSW2.out, turned_swapD hG _ _ _ _⟩
      · rw [if_neg hgt] at hr
        have hlt : I2 < J2 := by have := hIJ (by omega); omega
        have hgt' : (I2 : Int) < (J2 : Int) := by omega
        have hJd : (J2 : Int) < (d.size : Int) := by omega
        have cI := hA.cell (j := I2) (by omega)
        have cJ := hA.cell (j := J2) (by omega)
        have fI := hA.frozen I2
        have fJ := hA.frozen J2
        have HSW2 := hidMk (hA.swapD I2 J2 (by omega) (by omega))
        have hs3 : (Go.Sort.swp d0 I2 J2).size = d.size := by rw [Go.Sort.size_swp]; exact hsz0
        have hneI : ¬ I2 = J2 := by omega
        have hneJ : ¬ J2 = I2 := by omega
        obtain ⟨L, hL⟩ : ∃ L, Go.Sort.partLoop lt32 a (I2 + 1) (J2 - 1) (Go.Sort.swp d0 I2 J2) = L := ⟨_, rfl⟩
        rw [hL] at hr
        have HQ2 := hidMk hr
        have HL2 := hidMk hL
        clear hIJ hr hL
        generalize Go.Sort.swp d0 I2 J2 = e0 at *
        generalize d0[I2]! = y1 at *
        generalize d0[J2]! = y2 at *
        go_wp2
        go_region
        go_wp2
        clear HP HQ HX1 HI2 HJ2 HU4 cI cJ fI fJ hneI hneJ
        go_loopg [10, 11] b (fun gg s9 s10 wr => ∃ (i j : Nat) (d1 : Array Nat), a + 1 ≤ i ∧ i ≤ j + 1 ∧ j < b ∧ j + 1 - i ≤ gg ∧ s9 = .int .i64 (i : Int) ∧ s10 = .int .i64 (j : Int) ∧ d1.size = d.size ∧ Arr wr g cap d1 ∧ w.grownBy wr (some g) ∧ Hid (Go.Sort.partLoop lt32 a i j d1 = L))
        case atStart => exact ⟨I2 + 1, J2 - 1, e0, by omega, by omega, by omega, by omega, by go_num, by rw [Int.ofNat_sub (by omega)]; rfl, hs3, HSW2.out, turned_swapD hG _ _ _ _, HL2⟩
        case round =>
          clear hA hG hu1 hu2 hv1 hv2 hgt hlt hgt' hJd hij
          clear P Q x1
          obtain ⟨i, j, d1, hi1, hij, hjb, hgg, rfl, rfl, hsz, hA, hG, HE⟩ := hrel
          obtain ⟨P, hP⟩ : ∃ P : Nat → Bool, P = fun x => lt32 x d1[a]! := ⟨_, rfl⟩
          obtain ⟨Q, hQ⟩ : ∃ Q : Nat → Bool, Q = fun x => !lt32 x d1[a]! := ⟨_, rfl⟩
          have HP := hidMk hP
          have HQ := hidMk hQ
          clear hP hQ
          have hx1 : ∃ x1, d1[a]! = x1 := ⟨_, rfl⟩
          obtain ⟨x1, hx1⟩ := hx1
          rw [hx1] at HP HQ
          have HX1 := hidMk hx1
          clear hx1
          have hjb' : (j : Int) < (b : Int) := by omega
          have hab2 : (a : Int) < (b : Int) := by omega
          go_upto_block 6 with fail
          go_cut [10] (fun s9 wx => s9 = .int .i64 ((Go.Sort.scanUp P d1 j i : Nat) : Int) ∧ Arr wx g cap d1 ∧ w.grownBy wx (some g))
          case first =>
            go_wp2
            go_loopg [10] (j + 1 - i) (fun gg s9 wr => ∃ i' : Nat, i ≤ i' ∧ i' ≤ j + 1 ∧ j + 1 - i' ≤ gg ∧ s9 = .int .i64 (i' : Int) ∧ Arr wr g cap d1 ∧ w.grownBy wr (some g) ∧ Hid (Go.Sort.scanUp P d1 j i' = Go.Sort.scanUp P d1 j i))
            case atStart => exact ⟨i, Nat.le_refl _, hij, Nat.le_refl _, by first | rfl | go_num, hA, hG, rfl⟩
            case round =>
              clear hA hG
              obtain ⟨i', hi2, hi3, hg2, rfl, hA, hG, HS⟩ := hrel
              have ca1 := hA.cell (j := a) (by omega)
              rw [HX1.out] at ca1
              by_cases hlt : i' ≤ j
              · have hlt' : (i' : Int) ≤ ((j : Nat) : Int) := by omega
                have hid : (i' : Int) < (d.size : Int) := by omega
                have ci := hA.cell (j := i') (by omega)
                have HLE := hidMk (less_any d1[i']! x1)
                have hpv : P d1[i']! = lt32 d1[i']! x1 := by rw [HP.out]
                cases hls : lt32 d1[i']! x1
                · rw [hls] at HLE hpv
                  have HS2 := hidMk ((scanUp_end (p := P) (d := d1) (j := j) (.inr hpv)).symm.trans HS.out)
                  clear hls hpv
                  generalize d1[i']! = xi at *
                  go_wp2
                  go_quiet ((go_at_call 57; exact Calls.quiet_of_same (HLE.out _)))
                  go_wp2
                  go_meet
                  case rel => exact ⟨by rw [← HS2.out], hA.drewN _, turned_drewN hG _⟩
                · rw [hls] at HLE hpv
                  have HS2 := hidMk ((scanUp_go hlt hpv).trans HS.out)
                  clear hls hpv
                  generalize d1[i']! = xi at *
                  go_wp2
                  go_quiet ((go_at_call 57; exact Calls.quiet_of_same (HLE.out _)))
                  go_wp2
                  go_roundg (j + 1 - (i' + 1))
                  case measure => omega
                  case rel => exact ⟨i' + 1, by omega, by omega, Nat.le_refl _, by go_num, hA.drewN _, turned_drewN hG _, HS2⟩
              · have hlt' : decide ((i' : Int) ≤ ((j : Nat) : Int)) = false := by simp; omega
                have HS2 := hidMk ((scanUp_end (p := P) (d := d1) (i := i') (j := j) (.inl hlt)).symm.trans HS.out)
                go_wp2
                go_quiet ((go_at_call 57; exact Calls.quiet_of_same (less_any _ _ _)))
                go_wp2
                go_meet
                case rel => exact ⟨by rw [← HS2.out], hA.drewN _, turned_drewN hG _⟩
          case rest =>
            clear hA hG
            obtain ⟨rfl, hA, hG⟩ := hcut
            have hsp := Go.Sort.scanUp_spec P d1 j _ i rfl
            obtain ⟨I2, hI2⟩ : ∃ I2, Go.Sort.scanUp P d1 j i = I2 := ⟨_, rfl⟩
            rw [hI2] at hsp ⊢
            have HI2 := hidMk hI2
            clear hI2
            have hu1 := hsp.1
            have hu2 := hsp.2.1 hij
            have HU4 := hidMk hsp.2.2.2
            clear hsp
            go_upto_block 8 with fail
            go_cut [11] (fun s10 wx => s10 = .int .i64 ((Go.Sort.scanDown Q d1 I2 j : Nat) : Int) ∧ Arr wx g cap d1 ∧ w.grownBy wx (some g))
            case first =>
              go_wp2
              go_loopg [11] (j + 1 - I2) (fun gg s10 wr => ∃ j' : Nat, j' ≤ j ∧ I2 ≤ j' + 1 ∧ j' + 1 - I2 ≤ gg ∧ s10 = .int .i64 (j' : Int) ∧ Arr wr g cap d1 ∧ w.grownBy wr (some g) ∧ Hid (Go.Sort.scanDown Q d1 I2 j' = Go.Sort.scanDown Q d1 I2 j))
              case atStart => exact ⟨j, Nat.le_refl _, hu2, Nat.le_refl _, by first | rfl | go_num, hA, hG, rfl⟩
              case round =>
                clear hA hG
                obtain ⟨j', hj2, hj3, hg2, rfl, hA, hG, HS⟩ := hrel
                have ca1 := hA.cell (j := a) (by omega)
                rw [HX1.out] at ca1
                by_cases hlt : I2 ≤ j'
                · obtain ⟨k, rfl⟩ : ∃ k, j' = k + 1 := ⟨j' - 1, by omega⟩
                  have hlt' : (I2 : Int) ≤ (k : Int) + 1 := by omega
                  have hid : (k : Int) + 1 < (d.size : Int) := by omega
                  have ci := hA.cell (j := k + 1) (by omega)
                  have HLE := hidMk (less_any d1[k + 1]! x1)
                  have hpv : Q d1[k + 1]! = !lt32 d1[k + 1]! x1 := by rw [HQ.out]
                  cases hls : lt32 d1[k + 1]! x1
                  · rw [hls] at HLE hpv
                    have HS2 := hidMk ((scanDown_go hlt hpv).trans HS.out)
                    clear hls hpv
                    generalize d1[k + 1]! = xi at *
                    go_wp2
                    go_quiet ((go_at_call 57; exact Calls.quiet_of_same (HLE.out _)))
                    go_wp2
                    go_roundg (k + 1 - I2)
                    case measure => omega
                    case rel => exact ⟨k, by omega, by omega, Nat.le_refl _, by go_num, hA.drewN _, turned_drewN hG _, HS2⟩
                  · rw [hls] at HLE hpv
                    have HS2 := hidMk ((scanDown_end (p := Q) (d := d1) (i := I2) (.inr hpv)).symm.trans HS.out)
                    clear hls hpv
                    generalize d1[k + 1]! = xi at *
                    go_wp2
                    go_quiet ((go_at_call 57; exact Calls.quiet_of_same (HLE.out _)))
                    go_wp2
                    go_meet
                    case rel => exact ⟨by rw [← HS2.out], hA.drewN _, turned_drewN hG _⟩
                · have hlt' : decide ((I2 : Int) ≤ (j' : Int)) = false := by simp; omega
                  have HS2 := hidMk ((scanDown_end (p := Q) (d := d1) (j := j') (i := I2) (.inl hlt)).symm.trans HS.out)
                  go_wp2
                  go_quiet ((go_at_call 57; exact Calls.quiet_of_same (less_any _ _ _)))
                  go_wp2
                  go_meet
                  case rel => exact ⟨by rw [← HS2.out], hA.drewN _, turned_drewN hG _⟩
            case rest =>
              clear hA hG
              obtain ⟨rfl, hA, hG⟩ := hcut
              have hsp := Go.Sort.scanDown_spec Q d1 I2 j
              obtain ⟨J2, hJ2⟩ : ∃ J2, Go.Sort.scanDown Q d1 I2 j = J2 := ⟨_, rfl⟩
              rw [hJ2] at hsp ⊢
              have hv1 := hsp.1
              have hv2 := hsp.2.1 hu2
              have hv4 := hsp.2.2.2
              have HJ2 := hidMk hJ2
              have hIJ : I2 ≤ J2 → I2 ≠ J2 := by
                intro h1 h2
                have p1 := HU4.out (by omega)
                have p2 := hv4 h1 (by omega)
                rw [HP.out] at p1
                rw [HQ.out] at p2
                rw [h2] at p1
                simp only at p1 p2
                rw [p1] at p2
                cases p2
              clear hsp hv4 hJ2
              have heq := Go.Sort.partLoop_eq lt32 a i j d1
              have eP : (fun x => lt32 x d1[a]!) = P := by rw [HP.out, HX1.out]
              have eQ : (fun x => !lt32 x d1[a]!) = Q := by rw [HQ.out, HX1.out]
              rw [eP, eQ, HI2.out, HJ2.out, HE.out] at heq
              clear eP eQ
              by_cases hgt : I2 > J2
              · rw [if_pos hgt] at heq
                have HQ3 := hidMk heq
                clear heq
                have hgt' : (J2 : Int) < (I2 : Int) := by omega
                have hJd : (J2 : Int) < (d.size : Int) := by omega
                have cI := hA.cell (j := J2) (by omega)
                have cJ := hA.cell (j := a) (by omega)
                have fI := hA.frozen J2
                have fJ := hA.frozen a
                have HSW2 := hidMk (hA.swapD J2 a (by omega) (by omega))
                clear hIJ
                by_cases hne : J2 = a
                · subst hne
                  generalize d1[J2]! = y1 at *
                  go_wp2
                  go_region
                  go_wp2
                  go_ret2
                  exact ⟨by rw [HQ2.out, HQ3.out]; rfl, by rw [HQ2.out, HQ3.out]; exact HSW2.out, turned_swapD hG _ _ _ _⟩
                · have hne2 : ¬ a = J2 := fun e => hne e.symm
                  generalize d1[J2]! = y1 at *
                  generalize d1[a]! = y2 at *
                  go_wp2
                  go_region
                  go_wp2
                  go_ret2
                  exact ⟨by rw [HQ2.out, HQ3.out]; rfl, by rw [HQ2.out, HQ3.out]; exact HSW2.out, turned_swapD hG _ _ _ _⟩
              · rw [if_neg hgt] at heq
                have HQ3 := hidMk heq
                clear heq
                have hlt : I2 < J2 := by have := hIJ (by omega); omega
                have hgt' : (I2 : Int) < (J2 : Int) := by omega
                have hJd : (J2 : Int) < (d.size : Int) := by omega
                have cI := hA.cell (j := I2) (by omega)
                have cJ := hA.cell (j := J2) (by omega)
                have fI := hA.frozen I2
                have fJ := hA.frozen J2
                have HSW2 := hidMk (hA.swapD I2 J2 (by omega) (by omega))
                have hs3 : (Go.Sort.swp d1 I2 J2).size = d.size := by rw [Go.Sort.size_swp]; exact hsz
                have hneI : ¬ I2 = J2 := by omega
                have hneJ : ¬ J2 = I2 := by omega
                clear hIJ
                generalize d1[I2]! = y1 at *
                generalize d1[J2]! = y2 at *
                go_wp2
                go_region
                go_wp2
                go_roundg (J2 - 1 + 1 - (I2 + 1))
                case measure => omega
                case rel => exact ⟨I2 + 1, J2 - 1, _, by omega, by omega, by omega, Nat.le_refl _, by go_num, by rw [Int.ofNat_sub (by omega)]; rfl, hs3, HSW2.out, turned_swapD hG _ _ _ _, hidMk HQ3.out.symm⟩
end Go.Proofs.Ytblinhncklpidaa
