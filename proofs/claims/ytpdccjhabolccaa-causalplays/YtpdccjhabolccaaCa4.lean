/- hearWaiting: all that waits and may be heard is heard. -/
import Derived.Test.YtpdccjhabolccaaCa2
import Derived.Test.YtpdccjhabolccaaCa3
import Derived.Laws.EntriesVeiled
namespace Go.Proofs.Ytpdccjhabolccaa
open Go.RowKit Go.WideMaps
set_option linter.unusedVariables false

variable {W W2 : World} {mb n : Nat} {s : CS} {h h2 : CSh}
theorem CStp.free {A B : World} {f g : CSh} {k : Nat} (x : CStp A f B g k) {b i : Nat} {v : Value} (ht : f.t b = .no) (hv : A.cell? ⟨b, i, none⟩ = some v) : B.cell? ⟨b, i, none⟩ = some v :=
  (World.cell?_of_block (x.keep.block b (World.block_lt_of_cell? _ _ hv) (fun e => e ht))).trans hv
theorem Cmov.look (m : Cmov W mb n s h) {i k : Nat} (hi : i < 1000) (hk : k < 1000) : (Instr.lookup 69 (.map (some h.M)) (.agg #[.int .i64 (i : Int), .int .i64 (k : Int)]) false).run Try.prog W = .ok (.int .i64 (s.came i k : Int)) W := m.map.lookK cameMap hi hk

set_option maxRecDepth 100000 in
set_option maxHeartbeats 8000000 in
theorem hearWait_any (m : Cmov W mb n s h) (inv : CInv n s) {i : Nat} (hi : i < n) (hn : n ≤ 6) (hml : s.msgs.length ≤ 200) (hc : h.c + s.msgs.length < 100000) :
    Calls Try.prog 44 #[.pointer (some ⟨mb, 0, none⟩), .int .i64 (i : Int)] W fun e W2 => e = .returned (.tuple #[]) ∧ ∃ h2, Cmov W2 mb n (hearTo s i s.msgs.length) h2 ∧ CStp W h W2 h2 s.msgs.length := by
  have HG := hidMk (fun k => gone_to inv hi k)
  obtain ⟨am, km, em⟩ := segForm m.ms
  have mc := m.cells
  have K3 : Still W (((W.alloc (.cells #[.pointer (some ⟨mb, 0, none⟩)] 91)).alloc (.cells #[.int .i64 (i : Int)] 3)).alloc (.cells #[.func (.func 49) #[] #[.pointer (some ⟨W.heap.size, 0, none⟩), .pointer (some ⟨W.heap.size + 1, 0, none⟩)]] 81)) := (((Keep.refl _ W).alloc _).alloc _).alloc _
  have b1 : (((W.alloc (.cells #[.pointer (some ⟨mb, 0, none⟩)] 91)).alloc (.cells #[.int .i64 (i : Int)] 3)).alloc (.cells #[.func (.func 49) #[] #[.pointer (some ⟨W.heap.size, 0, none⟩), .pointer (some ⟨W.heap.size + 1, 0, none⟩)]] 81)).cell? ⟨W.heap.size, 0, none⟩ = some (.pointer (some ⟨mb, 0, none⟩)) := by go_simp
  have b2 : (((W.alloc (.cells #[.pointer (some ⟨mb, 0, none⟩)] 91)).alloc (.cells #[.int .i64 (i : Int)] 3)).alloc (.cells #[.func (.func 49) #[] #[.pointer (some ⟨W.heap.size, 0, none⟩), .pointer (some ⟨W.heap.size + 1, 0, none⟩)]] 81)).cell? ⟨W.heap.size + 1, 0, none⟩ = some (.int .i64 (i : Int)) := by go_simp
  have b4 : (((W.alloc (.cells #[.pointer (some ⟨mb, 0, none⟩)] 91)).alloc (.cells #[.int .i64 (i : Int)] 3)).alloc (.cells #[.func (.func 49) #[] #[.pointer (some ⟨W.heap.size, 0, none⟩), .pointer (some ⟨W.heap.size + 1, 0, none⟩)]] 81)).cell? ⟨W.heap.size + 2, 0, none⟩ = some (.func (.func 49) #[] #[.pointer (some ⟨W.heap.size, 0, none⟩), .pointer (some ⟨W.heap.size + 1, 0, none⟩)]) := by go_simp
  have f1 := hidMk (m.fresh W.heap.size (Nat.le_refl _))
  have f2 := hidMk (m.fresh (W.heap.size + 1) (by omega))
  have f4 := hidMk (m.fresh (W.heap.size + 2) (by omega))
  have M0 := m.still K3
  obtain ⟨d0, _, _⟩ := M0.cells
  rw [em] at d0
  have HM0 := hidMk M0
  have HS0 := hidMk (K3.step h)
  generalize hln : s.msgs.length = ml at *
  have hml' : (ml : Int) ≤ 200 := by omega
  clear m mc M0 K3 em inv
  go_enter Try.func44, Try.ntmps44
  go_wp2
  generalize (((W.alloc (.cells #[.pointer (some ⟨mb, 0, none⟩)] 91)).alloc (.cells #[.int .i64 (i : Int)] 3)).alloc (.cells #[.func (.func 49) #[] #[.pointer (some ⟨W.heap.size, 0, none⟩), .pointer (some ⟨W.heap.size + 1, 0, none⟩)]] 81)) = w0 at *
  have B1 := hidMk b1
  have B2 := hidMk b2
  have B4 := hidMk b4
  clear b1 b2 b4 d0
  generalize hz1 : W.heap.size = z1 at *
  go_loopw [14] (fun u wr => ∃ k h2, k ≤ ml ∧ u = .int .i64 (k : Int) ∧ Hid (Cmov wr mb n (hearTo s i k) h2) ∧ Hid (CStp w0 h wr h2 k)) (fun u _ => ml - (intOf u).toNat)
  case atStart => exact ⟨0, h, Nat.zero_le _, rfl, HM0, hidMk (CStp.refl w0 h)⟩
  case round =>
    obtain ⟨k, h2, hk, rfl, HM, HS⟩ := hrel
    by_cases hlt : k < ml
    · have hlt' : (k : Int) < (ml : Int) := by omega
      have G := HG.out k
      obtain ⟨q, hq⟩ : ∃ q, (hearTo s i k).msgs[k]? = some q := ⟨_, List.getElem?_eq_getElem (by rw [G.msgs, hln]; exact hlt)⟩
      have c1 := HM.out.cells.2.1
      have b1 := HS.out.free f1.out B1.out
      have b2 := HS.out.free f2.out B2.out
      have b4 := HS.out.free f4.out B4.out
      have l0 := HM.out.look (show i < 1000 by omega) (show k < 1000 by omega)
      have lq := fun q => (HM.out.drewN q).look (show i < 1000 by omega) (show k < 1000 by omega)
      have ld := (HM.out.keep ((Keep.refl (fun _ => False) wr).drew) (fun _ _ e => e.elim)).look (show i < 1000 by omega) (show k < 1000 by omega)
      have hcnt := HS.out.count
      by_cases h1 : (hearTo s i k).came i k = 1
      · have HB : Hid (∀ w1, Still wr w1 → Calls Try.prog 50 #[.int .i64 (k : Int), .pointer (some ⟨z1, 0, none⟩), .pointer (some ⟨z1 + 2, 0, none⟩)] w1 fun e W2 => e = .returned (.bool (okC (hearTo s i k) i k)) ∧ Still w1 W2) :=
          hidMk (fun w1 hs => mayBe_any (HM.out.still hs) hi hq (by omega) (G.inv.i10 k q hq) (get_lt (G.inv.i2 k q hq)) hn (by have := ls_len G.inv q.1; rw [G.msgs, hln] at this; omega) (by rw [G.msgs, hln]; omega)
            (fun x hx => by have := G.inv.i9 k x hx; omega) (hs.cell b1) (hs.cell b2) (hs.cell b4))
        rw [h1] at l0 ld
        simp only [h1] at lq
        have hcm : h2.c < 100000 := by omega
        have HH : Hid (∀ w1, Still wr w1 → Calls Try.prog 48 #[.pointer (some ⟨mb, 0, none⟩), .int .i64 (i : Int), .int .i64 (k : Int)] w1 fun e W2 => e = .returned (.tuple #[]) ∧ ∃ h3, Cmov W2 mb n (hearC (hearTo s i k) i k) h3 ∧ CStp w1 h2 W2 h3 1) :=
          hidMk (fun w1 hs => hear_any (HM.out.still hs) hi hn (by omega) hcm (by have := ls_len G.inv i; rw [G.msgs, hln] at this; omega))
        have HR : Hid (hearTo s i (k + 1) = if okC (hearTo s i k) i k = true then hearC (hearTo s i k) i k else hearTo s i k) := by
          show hearTo s i (k + 1) = _
          rw [hearTo]
          unfold readyC
          rw [h1]; simp
        have hst : Hid (∀ w1, Still wr w1 → w1.cell? ⟨z1, 0, none⟩ = some (.pointer (some ⟨mb, 0, none⟩)) ∧ w1.cell? ⟨z1 + 1, 0, none⟩ = some (.int .i64 (i : Int))) := hidMk (fun w1 hs => ⟨hs.cell b1, hs.cell b2⟩)
        clear hq G h1 hcnt b4
        cases ho : okC (hearTo s i k) i k
        · rw [ho] at HB HR
          have HR2 : Hid (hearTo s i (k + 1) = hearTo s i k) := hidMk (by have := HR.out; simpa using this)
          clear ho HR
          go_wp2
          go_region_with (refine (HB.out _ ((Keep.refl _ _).drew)).mono ?_; rintro e w' ⟨rfl, hB2⟩; have hB : Hid (Still wr w') := hidMk (((Keep.refl _ wr).drew).trans hB2 (fun _ _ e => e) (fun _ _ e => e)); clear hB2)
          all_goals go_wp2
          all_goals go_roundw
          all_goals first
            | exact ⟨k + 1, h2, by omega, by go_num, hidMk (by rw [HR2.out]; exact HM.out.still hB.out), hidMk ((HS.out.trans (hB.out.step h2)).mono (by omega))⟩
            | (simp [intOf]; omega)
        · rw [ho] at HB HR
          have HR2 : Hid (hearTo s i (k + 1) = hearC (hearTo s i k) i k) := hidMk (by have := HR.out; simpa using this)
          clear ho HR
          go_wp2
          go_region_with (refine (HB.out _ ((Keep.refl _ _).drew)).mono ?_; rintro e w' ⟨rfl, hB2⟩; have hB : Hid (Still wr w') := hidMk (((Keep.refl _ wr).drew).trans hB2 (fun _ _ e => e) (fun _ _ e => e)); obtain ⟨y1, y2⟩ := hst.out _ hB.out; clear hB2)
          all_goals go_wp2_with (go_at_call 48; refine (HH.out _ hB.out).mono ?_; rintro e w'' ⟨rfl, h3, HM3, HS3⟩)
          all_goals go_roundw
          all_goals first
            | exact ⟨k + 1, h3, by omega, by go_num, hidMk (by rw [HR2.out]; exact HM3), hidMk (((HS.out.trans (hB.out.step h2)).trans HS3).mono (by omega))⟩
            | (simp [intOf]; omega)
      · have hb : (((hearTo s i k).came i k : Int) == 1) = false := by simp; omega
        have HR : Hid (hearTo s i (k + 1) = hearTo s i k) := by
          show hearTo s i (k + 1) = _
          rw [hearTo]
          unfold readyC
          rw [show ((hearTo s i k).came i k == 1) = false from by simpa using h1]; simp
        generalize (hearTo s i k).came i k = cm at *
        clear hq G h1 hcnt b4
        go_wp2
        go_quiet (fail)
        go_wp2
        go_roundw
        case rel => exact ⟨k + 1, h2, by omega, by go_num, hidMk (by rw [HR.out]; exact HM.out.drewN _), hidMk ((HS.out.trans (Still.step (A := wr) ((Keep.refl (fun _ => False) wr).drewN _) h2)).mono (by omega))⟩
        case measure => simp [intOf]; omega
    · obtain rfl : k = ml := by omega
      go_wp2
      go_end0
      exact ⟨rfl, h2, HM.out, (HS0.out.trans HS.out).mono (by omega)⟩
end Go.Proofs.Ytpdccjhabolccaa
