/- Contract of slices.pdqsortOrdered at rows of 32 bits: the part that it is given comes out sorted. -/
import Derived.Test.YtblinhncklpidaaS4
import Derived.Test.YtblinhncklpidaaS7
import Derived.Test.YtblinhncklpidaaS8
namespace Go.Proofs.Ytblinhncklpidaa
open Go.RowKit

/-- Where the loop stands: whatever sorted permutation of [a', b') comes out of d1, the whole is one of d. -/
def St (a b : Nat) (d : Array Nat) (a' b' : Nat) (d1 : Array Nat) : Prop :=
  Go.Sort.Below lt32 a' b' d1 ∧ ∀ R, Go.Sort.PermIn a' b' d1 R → Go.Sort.SortedIn lt32 a' b' R → Go.Sort.PermIn a b d R ∧ Go.Sort.SortedIn lt32 a b R

theorem St.perm {a b : Nat} {d : Array Nat} {a' b' : Nat} {d1 d2 : Array Nat} (h : St a b d a' b' d1) (hb : b' ≤ d1.size) (hp : Go.Sort.PermIn a' b' d1 d2) : St a b d a' b' d2 :=
  ⟨h.1.perm hb hp, fun R hR hs => h.2 R (Go.Sort.permIn_trans _ _ _ a' b' hp hR) hs⟩
theorem St.start {a b : Nat} {d : Array Nat} (h : Go.Sort.Below lt32 a b d) : St a b d a b d := ⟨h, fun _ h1 h2 => ⟨h1, h2⟩⟩
theorem St.eqPart {a b : Nat} {d : Array Nat} {a' b' p : Nat} {d1 : Array Nat} (h : St a b d a' b' d1) (hb : b' ≤ d1.size) (h0 : 0 < a') (h1 : a' ≤ p) (h2 : p < b') (hl : lt32 d1[a' - 1]! d1[p]! = false) :
    a' < (Go.Sort.partitionEqual lt32 d1 a' b' p).1 ∧ (Go.Sort.partitionEqual lt32 d1 a' b' p).1 ≤ b' ∧ (Go.Sort.partitionEqual lt32 d1 a' b' p).2.size = d1.size ∧ St a b d (Go.Sort.partitionEqual lt32 d1 a' b' p).1 b' (Go.Sort.partitionEqual lt32 d1 a' b' p).2 := by
  obtain ⟨e1, e2, e3, e4, e5⟩ := Go.Sort.round_eq swo32 (Go.Sort.partitionEqual_holds lt32) h0 h1 h2 hb h.1 hl (mid := (Go.Sort.partitionEqual lt32 d1 a' b' p).1) (d4 := (Go.Sort.partitionEqual lt32 d1 a' b' p).2) rfl
  exact ⟨e1, e2, e3, e4, fun R hR hs => by obtain ⟨q1, q2⟩ := e5 R hR hs; exact h.2 R q1 q2⟩

theorem perm_below {w w' : World} {g : Nat} (h : RowKit.Below w.heap.size w w') : w.grownBy w' (some g) := ⟨h.os, h.tape, h.output, h.size, fun i hi _ => h.block i hi⟩

/-- What the contract says of a part. -/
def Sorts (m : Nat) : Prop := ∀ (g cap : Nat) (d : Array Nat) (n a b lim : Nat) (w : World), n = d.size → b ≤ d.size → a ≤ b → b - a ≤ m → d.size ≤ 64 → lim ≤ 64 → Go.Sort.Below lt32 a b d → Arr w g cap d →
    Calls Try.prog 48 #[.slice (some ⟨g, 0, none⟩) n cap, .int .i64 (a : Int), .int .i64 (b : Int), .int .i64 (lim : Int)] w fun e w' =>
      (∃ v, e = .returned v) ∧ (∃ d', Arr w' g cap d' ∧ Go.Sort.PermIn a b d d' ∧ Go.Sort.SortedIn lt32 a b d') ∧ w.grownBy w' (some g)

set_option maxRecDepth 100000 in
set_option maxHeartbeats 8000000 in
theorem pdq_step (m : Nat) (ih : ∀ k, k < m → Sorts k) : Sorts m := by
  intro g cap d n a b lim w hn hb hab hm hd hlim hBl h
  subst hn
  have HI := hidMk ih
  have HS0 := hidMk (St.start hBl)
  clear ih hBl
  go_enter Try.func48, Try.ntmps48
  go_wp2
  go_loopg [1, 2, 3, 8, 9] (b - a) (fun gg s1 s2 s3 s8 s9 wr => ∃ (a' b' lm : Nat) (wb wp : Bool) (d1 : Array Nat), a ≤ a' ∧ a' ≤ b' ∧ b' ≤ b ∧ b' - a' ≤ gg ∧ s1 = .int .i64 (a' : Int) ∧ s2 = .int .i64 (b' : Int) ∧ s3 = .int .i64 (lm : Int) ∧ lm ≤ 64 ∧ s8 = .bool wb ∧ s9 = .bool wp ∧ d1.size = d.size ∧ Arr wr g cap d1 ∧ w.grownBy wr (some g) ∧ Hid (St a b d a' b' d1))
  case atStart => exact ⟨a, b, lim, true, true, d, Nat.le_refl _, hab, Nat.le_refl _, Nat.le_refl _, rfl, rfl, rfl, hlim, rfl, rfl, rfl, h, World.grownBy.refl _ _, HS0⟩
  case round =>
    clear h HS0
    obtain ⟨a', b', lm, wb, wp, d1, ha1, hab1, hb1, hgg, rfl, rfl, rfl, hlm, rfl, rfl, hsz, hA, hG, HS⟩ := hrel
    obtain ⟨l, hl⟩ : ∃ l, b' - a' = l := ⟨_, rfl⟩
    have hle : (b' : Int) - (a' : Int) = (l : Int) := by omega
    have hbb : (b' : Int) ≤ 64 := by omega
    have haa : (a' : Int) ≤ (b' : Int) := by omega
    have hlmb : (lm : Int) ≤ 64 := by omega
    have HLL := hidMk hl
    by_cases h12 : l ≤ 12
    · have h12' : (l : Int) ≤ 12 := by omega
      have HIN := hidMk (insert_any g cap d1 d.size a' b' wr hsz.symm (by omega) hab1 (by omega) hA)
      obtain ⟨p1, p2⟩ := Go.Sort.insertionSort_holds swo32 d1 a' b' hab1 (by omega)
      have HP := hidMk (HS.out.2 _ p1 p2)
      clear p1 p2 hl
      generalize Go.Sort.insertionSort lt32 d1 a' b' = d2 at *
      go_wp2_with (go_at_call 51; refine (HIN.out).mono ?_; rintro e w2 ⟨⟨v, rfl⟩, hA2, hG2⟩)
      refine bodyPost_ret (results_none rfl _ _ _) rfl ?_
      exact ⟨⟨_, rfl⟩, ⟨d2, hA2, HP.out.1, HP.out.2⟩, hG.trans hG2⟩
    · have h12' : (12 : Int) < (l : Int) := by omega
      by_cases hl0 : lm = 0
      · subst hl0
        have HIN := hidMk (heap_any g cap d1 d.size a' b' wr hsz.symm (by omega) (by omega) (by omega) hA)
        obtain ⟨p1, p2⟩ := Go.Sort.heapSort_holds swo32 d1 a' b' hab1 (by omega)
        have HP := hidMk (HS.out.2 _ p1 p2)
        clear p1 p2 hl
        generalize Go.Sort.heapSort lt32 d1 a' b' = d2 at *
        go_wp2_with (go_at_call 52; refine (HIN.out).mono ?_; rintro e w2 ⟨⟨v, rfl⟩, hA2, hG2⟩)
        refine bodyPost_ret (results_none rfl _ _ _) rfl ?_
        exact ⟨⟨_, rfl⟩, ⟨d2, hA2, HP.out.1, HP.out.2⟩, hG.trans hG2⟩
      · have hl0' : ((lm : Int) == 0) = false := by simp; omega
        have HAB : Hid (a' + 12 < b') := by show a' + 12 < b'; omega
        clear hl
        go_upto_if 35 with fail
        go_cut [3] (fun s3 wx => ∃ (lm : Nat) (d2 : Array Nat), s3 = .int .i64 (lm : Int) ∧ lm ≤ 64 ∧ d2.size = d.size ∧ Arr wx g cap d2 ∧ w.grownBy wx (some g) ∧ Hid (St a b d a' b' d2))
        case first =>
          cases wb
          · have HIN := hidMk (break_any g cap d1 d.size a' b' wr hsz.symm (by omega) HAB.out (by omega) hA)
            go_wp2_with (go_at_call 53; refine (HIN.out).mono ?_; rintro e w2 ⟨⟨v, rfl⟩, ⟨d2, hA2, hP2⟩, hG2⟩)
            go_meet
            case rel => exact ⟨lm - 1, d2, by rw [Int.ofNat_sub (by omega)]; rfl, by omega, hP2.1.trans hsz, hA2, hG.trans hG2, hidMk (HS.out.perm (by omega) hP2)⟩
          · go_wp2
            go_meet
            case rel => exact ⟨lm, d1, rfl, hlm, hsz, hA, hG, HS⟩
        case rest =>
          clear hA hG HS hsz hlm hlmb hl0 hl0'
          clear d1
          obtain ⟨lm, d1, rfl, hlm, hsz, hA, hG, HS⟩ := hcut
          have HPV := hidMk (pivot_any g cap d1 d.size a' b' wc hsz.symm (by omega) HAB.out (by omega) hA)
          go_upto_if 50 with (go_at_call 54; refine (HPV.out).mono ?_; rintro e w2 ⟨p, c, hp1, hp2, hc, rfl, hBel⟩)
          have hA2 := hA.kept (perm_below (g := w2.heap.size) hBel) (fun e => by have := Option.some.inj e; have := hA.lt; have := hBel.size; omega)
          have hG2 : w.grownBy w2 (some g) := hG.trans (perm_below hBel)
          clear hA hG HPV hBel
          go_cut [11, 12] (fun s11 s12 wx => ∃ (p : Nat) (c : Int) (d2 : Array Nat), s11 = .int .i64 (p : Int) ∧ s12 = .int .i64 c ∧ a' ≤ p ∧ p < b' ∧ d2.size = d.size ∧ Arr wx g cap d2 ∧ w.grownBy wx (some g) ∧ Hid (St a b d a' b' d2))
          case first =>
            by_cases hc2 : c = 2
            · subst hc2
              have HIN := hidMk (reverse_any g cap d1 d.size a' b' w2 hsz.symm (by omega) (by have := HAB.out; omega) (by omega) hA2)
              have hP2 := Go.Sort.reverseRange_holds d1 a' b' hab1 (by omega)
              have HP2 := hidMk (HS.out.perm (by omega) hP2)
              have hs2 := hP2.1.trans hsz
              clear hP2
              generalize Go.Sort.reverseRange d1 a' b' = d2 at *
              have hpe : (p : Int) - (a' : Int) = ((p - a' : Nat) : Int) := by omega
              have hpe2 : (b' : Int) - 1 - ((p - a' : Nat) : Int) = ((b' - 1 - (p - a') : Nat) : Int) := by omega
              have HPE : Hid (a' ≤ b' - 1 - (p - a') ∧ b' - 1 - (p - a') < b') := by show a' ≤ b' - 1 - (p - a') ∧ b' - 1 - (p - a') < b'; omega
              have hpa : ((p - a' : Nat) : Int) ≤ 64 := by omega
              have hpa0 : 0 ≤ ((p - a' : Nat) : Int) := by omega
              generalize p - a' = pa at *
              generalize b' - 1 - pa = pn at *
              go_wp2_with (go_at_call 55; refine (HIN.out).mono ?_; rintro e w3 ⟨⟨v, rfl⟩, hA3, hG3⟩)
              go_meet
              case rel => exact ⟨pn, 1, d2, rfl, rfl, HPE.out.1, HPE.out.2, hs2, hA3, hG2.trans hG3, HP2⟩
            · have hc2' : (c == 2) = false := by simpa using hc2
              go_wp2
              go_meet
              case rel => exact ⟨p, c, d1, rfl, rfl, hp1, hp2, hsz, hA2, hG2, HS⟩
          case rest =>
            clear hA2 hG2 HS hsz hp1 hp2 hc
            clear d1 p c
            obtain ⟨p, c, d1, rfl, rfl, hp1, hp2, hsz, hA, hG, HS⟩ := hcut
            go_upto_region 15 with fail
            go_cut [68] (fun s68 wx => ∃ y : Bool, s68 = .bool y ∧ Arr wx g cap d1 ∧ w.grownBy wx (some g))
            case first =>
              cases wb
              · go_wp2
                go_meet
                case rel => exact ⟨_, rfl, hA, hG⟩
              · cases wp
                · go_wp2
                  go_meet
                  case rel => exact ⟨_, rfl, hA, hG⟩
                · go_wp2
                  go_meet
                  case rel => exact ⟨_, rfl, hA, hG⟩
            case rest =>
              clear hA hG
              obtain ⟨y, rfl, hA, hG⟩ := hcut
              go_upto_if 68 with fail
              go_cut [12] (fun s12 wx => s12 = .int .i64 c ∧ ∃ d2 : Array Nat, d2.size = d.size ∧ Arr wx g cap d2 ∧ w.grownBy wx (some g) ∧ Hid (St a b d a' b' d2))
              case first =>
                cases y
                · go_wp2
                  go_meet
                  case rel => exact ⟨rfl, d1, hsz, hA, hG, HS⟩
                · have HIN := hidMk (partial_any g cap d1 d.size a' b' _ hsz.symm (by omega) HAB.out (by omega) hA)
                  obtain ⟨q1, q2⟩ := Go.Sort.partialInsertionSort_holds swo32 d1 a' b' (by have := HAB.out; omega) (by omega) HS.out.1
                  have HP2 := hidMk (HS.out.perm (by omega) q1)
                  have HP3 : Hid ((Go.Sort.partialInsertionSort lt32 d1 a' b').2 = true → Go.Sort.PermIn a b d (Go.Sort.partialInsertionSort lt32 d1 a' b').1 ∧ Go.Sort.SortedIn lt32 a b (Go.Sort.partialInsertionSort lt32 d1 a' b').1) := fun ht => HS.out.2 _ q1 (q2 ht)
                  have hs2 := q1.1.trans hsz
                  clear q1 q2
                  generalize Go.Sort.partialInsertionSort lt32 d1 a' b' = res at *
                  obtain ⟨d2, z⟩ := res
                  dsimp only at HIN HP2 HP3 hs2
                  cases z
                  · go_wp2_with (go_at_call 56; refine (HIN.out).mono ?_; rintro e w3 ⟨rfl, hA3, hG3⟩)
                    go_meet
                    case rel => exact ⟨rfl, d2, hs2, hA3, hG.trans hG3, HP2⟩
                  · go_wp2_with (go_at_call 56; refine (HIN.out).mono ?_; rintro e w3 ⟨rfl, hA3, hG3⟩)
                    refine bodyPost_ret (results_none rfl _ _ _) rfl ?_
                    exact ⟨⟨_, rfl⟩, ⟨d2, hA3, HP3.out (by simp)⟩, hG.trans hG3⟩
              case rest =>
                clear hA hG HS hsz
                clear d1
                obtain ⟨rfl, d1, hsz, hA, hG, HS⟩ := hcut
                go_upto_region 17 with fail
                go_cut [87] (fun s87 wx => ∃ y : Bool, s87 = .bool y ∧ Arr wx g cap d1 ∧ w.grownBy wx (some g) ∧ Hid (y = true → 0 < a' ∧ lt32 d1[a' - 1]! d1[p]! = false))
                case first =>
                  have hpd : (p : Int) < (d.size : Int) := by omega
                  have cp := hA.cell (j := p) (by omega)
                  by_cases h0 : a' = 0
                  · have h0' : decide (0 < (a' : Int)) = false := by simp; omega
                    have h0'' : decide (0 < a') = false := by simp; omega
                    have H0 := hidMk h0
                    clear h0
                    go_quiet ((go_at_call 57; exact Calls.quiet_of_same (less_any _ _ _)))
                    go_wp2
                    go_meet
                    case rel => exact ⟨false, rfl, hA.drewN _, turned_drewN hG _, hidMk (fun e => by cases e)⟩
                  · obtain ⟨k, hk⟩ : ∃ k, a' = k + 1 := ⟨a' - 1, by omega⟩
                    have h0' : (0 : Int) < (a' : Int) := by omega
                    have hke : (a' : Int) - 1 = (k : Int) := by omega
                    have hn0 : 0 < a' := by omega
                    have hw0 := wrap_i64 ((a' : Int) - 1) (by omega) (by omega)
                    rw [hke] at hw0
                    have hw1 := wrap_i64 ((k : Int)) (by omega) (by omega)
                    have hkd : (k : Int) < (d.size : Int) := by omega
                    have ck := hA.cell (j := k) (by omega)
                    have HLE := hidMk (less_any d1[k]! d1[p]!)
                    have HK : Hid (a' - 1 = k) := by show a' - 1 = k; omega
                    clear hk
                    cases hls : lt32 d1[k]! d1[p]!
                    · rw [hls] at HLE
                      have HLS := hidMk hls
                      clear hls
                      generalize hx1 : d1[k]! = x1 at ck HLE
                      generalize hx2 : d1[p]! = x2 at cp HLE
                      clear hx1 hx2
                      go_quiet ((go_at_call 57; exact Calls.quiet_of_same (HLE.out _)))
                      go_wp2
                      go_meet
                      case rel => exact ⟨true, rfl, hA.drewN _, turned_drewN hG _, hidMk (fun _ => ⟨by omega, by rw [HK.out]; exact HLS.out⟩)⟩
                    · rw [hls] at HLE
                      clear hls
                      generalize hx1 : d1[k]! = x1 at ck HLE
                      generalize hx2 : d1[p]! = x2 at cp HLE
                      clear hx1 hx2
                      go_quiet ((go_at_call 57; exact Calls.quiet_of_same (HLE.out _)))
                      go_wp2
                      go_meet
                      case rel => exact ⟨false, rfl, hA.drewN _, turned_drewN hG _, hidMk (fun e => by cases e)⟩
                case rest =>
                  clear hA hG
                  obtain ⟨y, rfl, hA, hG, HY⟩ := hcut
                  cases y
                  · have HIN := hidMk (part_any g cap d1 d.size a' b' p _ hsz.symm (by omega) hp1 hp2 (by omega) hA)
                    obtain ⟨e1, e2, e3, e4, e5, e6, e7⟩ := Go.Sort.round_part swo32 (Go.Sort.partition_holds lt32) hp1 hp2 (by omega) HS.out.1 (mid := (Go.Sort.partition lt32 d1 a' b' p).1) (ap := (Go.Sort.partition lt32 d1 a' b' p).2.1) (d4 := (Go.Sort.partition lt32 d1 a' b' p).2.2) rfl
                    have HE4 := hidMk e4
                    have HE5 := hidMk e5
                    have HE6 := hidMk e6
                    have HE7 := hidMk e7
                    have hs2 := e3.trans hsz
                    clear e3 e4 e5 e6 e7 HY
                    generalize Go.Sort.partition lt32 d1 a' b' p = res at *
                    obtain ⟨mid, ap, d2⟩ := res
                    dsimp only at HIN e1 e2 HE4 HE5 HE6 HE7 hs2
                    have hme : (mid : Int) - (a' : Int) = ((mid - a' : Nat) : Int) := by omega
                    have hmf : (b' : Int) - (mid : Int) = ((b' - mid : Nat) : Int) := by omega
                    by_cases hlr : mid - a' < b' - mid
                    · have hlr' : ((mid - a' : Nat) : Int) < ((b' - mid : Nat) : Int) := by omega
                      have HRC : Hid (∀ w3, Arr w3 g cap d2 → Calls Try.prog 48 #[.slice (some ⟨g, 0, none⟩) d.size cap, .int .i64 (a' : Int), .int .i64 (mid : Int), .int .i64 (lm : Int)] w3 fun e w' => (∃ v, e = .returned v) ∧ (∃ d', Arr w' g cap d' ∧ Go.Sort.PermIn a' mid d2 d' ∧ Go.Sort.SortedIn lt32 a' mid d') ∧ w3.grownBy w' (some g)) :=
                        fun w3 hA3 => HI.out (mid - a') (by omega) g cap d2 d.size a' mid lm w3 hs2.symm (by omega) (by omega) (Nat.le_refl _) (by omega) hlm HE4.out hA3
                      generalize mid - a' = q1 at *
                      generalize b' - mid = q2 at *
                      go_wp2_with (first | (go_at_call 59; refine (HIN.out).mono ?_; rintro e w3 ⟨rfl, hA3, hG3⟩) | (go_at_call 48; refine (HRC.out _ hA3).mono ?_; rintro e w4 ⟨⟨v, rfl⟩, ⟨d3, hA4, hP4, hS4⟩, hG4⟩))
                      go_roundg (b' - (mid + 1))
                      case measure => omega
                      case rel =>
                        obtain ⟨z1, z2⟩ := HE6.out d3 hP4 hS4
                        exact ⟨mid + 1, b', lm, _, ap, d3, by omega, by omega, hb1, Nat.le_refl _, by go_num, rfl, rfl, hlm, rfl, rfl, hP4.1.trans hs2, hA4, (hG.trans hG3).trans hG4, hidMk ⟨z1, fun R hR hs => by obtain ⟨y1, y2⟩ := z2 R hR hs; exact HS.out.2 R y1 y2⟩⟩
                    · have hlr' : ((b' - mid : Nat) : Int) ≤ ((mid - a' : Nat) : Int) := by omega
                      have hmid1 : (mid : Int) + 1 = ((mid + 1 : Nat) : Int) := by omega
                      have HRC : Hid (∀ w3, Arr w3 g cap d2 → Calls Try.prog 48 #[.slice (some ⟨g, 0, none⟩) d.size cap, .int .i64 ((mid : Int) + 1), .int .i64 (b' : Int), .int .i64 (lm : Int)] w3 fun e w' => (∃ v, e = .returned v) ∧ (∃ d', Arr w' g cap d' ∧ Go.Sort.PermIn (mid + 1) b' d2 d' ∧ Go.Sort.SortedIn lt32 (mid + 1) b' d') ∧ w3.grownBy w' (some g)) := by
                        intro w3 hA3
                        rw [hmid1]
                        exact HI.out (b' - (mid + 1)) (by omega) g cap d2 d.size (mid + 1) b' lm w3 hs2.symm (by omega) (by omega) (Nat.le_refl _) (by omega) hlm HE5.out hA3
                      clear hmid1
                      have hmb : (mid : Int) ≤ 64 := by omega
                      generalize mid - a' = q1 at *
                      generalize b' - mid = q2 at *
                      go_wp2_with (first | (go_at_call 59; refine (HIN.out).mono ?_; rintro e w3 ⟨rfl, hA3, hG3⟩) | (go_at_call 48; refine (HRC.out _ hA3).mono ?_; rintro e w4 ⟨⟨v, rfl⟩, ⟨d3, hA4, hP4, hS4⟩, hG4⟩))
                      go_roundg (mid - a')
                      case measure => omega
                      case rel =>
                        obtain ⟨z1, z2⟩ := HE7.out d3 hP4 hS4
                        exact ⟨a', mid, lm, _, ap, d3, ha1, by omega, by omega, Nat.le_refl _, rfl, rfl, rfl, hlm, rfl, rfl, hP4.1.trans hs2, hA4, (hG.trans hG3).trans hG4, hidMk ⟨z1, fun R hR hs => by obtain ⟨y1, y2⟩ := z2 R hR hs; exact HS.out.2 R y1 y2⟩⟩
                  · obtain ⟨y1, y2⟩ := HY.out rfl
                    have HIN := hidMk (partEq_any g cap d1 d.size a' b' p _ hsz.symm (by omega) hp1 hp2 (by omega) hA)
                    obtain ⟨e1, e2, e3, e4⟩ := HS.out.eqPart (by omega) y1 hp1 hp2 y2
                    have HE4 := hidMk e4
                    have hs2 := e3.trans hsz
                    clear y1 y2 e3 e4 HY
                    generalize Go.Sort.partitionEqual lt32 d1 a' b' p = res at *
                    obtain ⟨mid, d2⟩ := res
                    dsimp only at HIN e1 e2 HE4 hs2
                    go_wp2_with (go_at_call 58; refine (HIN.out).mono ?_; rintro e w3 ⟨rfl, hA3, hG3⟩)
                    go_roundg (b' - mid)
                    case measure => omega
                    case rel => exact ⟨mid, b', lm, wb, wp, d2, by omega, by omega, hb1, Nat.le_refl _, rfl, rfl, rfl, hlm, rfl, rfl, hs2, hA3, hG.trans hG3, HE4⟩
end Go.Proofs.Ytblinhncklpidaa
