/- Generals: DeleteFunc, without. -/
import Derived.Test.YtekbglmoibglnaaGf2
namespace Go.Proofs.Ytekbglmoibglnaa
open Go.RowKit
set_option linter.unusedVariables false

theorem filt_take2 {l : List Nat} {j x k : Nat} (h : l[j]? = some x) : (l.take (j + 1)).filter (fun q => q != k) = (l.take j).filter (fun q => q != k) ++ (if x = k then [] else [x]) := by
  rw [List.take_add_one, h, Option.toList_some, List.filter_append]
  by_cases e : x = k <;> simp [e]
theorem filt_first {l : List Nat} {k k0 : Nat} (h0 : l[k0]? = some k) (hn : ∀ j, j < k0 → l[j]? ≠ some k) : (l.take (k0 + 1)).filter (fun q => q != k) = l.take k0 := by
  rw [filt_take2 h0, if_pos rfl, List.append_nil, List.filter_eq_self]
  intro a ha
  obtain ⟨i, hi, rfl⟩ := List.mem_iff_getElem.1 ha
  rw [List.length_take] at hi
  have := hn i (by omega)
  simp only [List.getElem_take]
  rw [List.getElem?_eq_getElem (by omega)] at this
  simpa using this
theorem take_set {l : List Nat} {i x : Nat} (h : i < l.length) : (l.set i x).take (i + 1) = l.take i ++ [x] := by
  rw [List.take_add_one, List.take_set_of_le (Nat.le_refl i)]
  simp [h]
theorem natsL_get {l : List Nat} {j : Nat} (h : j < l.length) : (natsL l)[j]? = some (.int .i64 ((l[j] : Nat) : Int)) := by simp [natsL, h]
theorem filt_len2 (l : List Nat) (k j : Nat) : ((l.take j).filter (fun q => q != k)).length ≤ j := Nat.le_trans (List.length_filter_le _ _) (by rw [List.length_take]; omega)

theorem zeroInt : ∀ w, (zeroValue 3).run Try.prog w = .ok (.int .i64 0) w := fun w => by kernel_rfl
set_option maxRecDepth 100000 in
set_option maxHeartbeats 4000000 in
theorem deleteG (g : Nat) (c : Value) {B k len k0 : Nat} {v : Value} {l : List Nat} {w : World} {ok : Nat → Prop} (eg : ∀ args w, (callFunc g args).run Try.prog w = .ok (.enter g args) w) (hA : AsksG g c B k) (hl2 : len ≤ 100)
    (hs : Seg w ok 3 1 v len (natsL l)) (hok : ¬ ok B) (hB : w.cell? ⟨B, 0, none⟩ = some (.int .i64 (k : Int))) (h0 : l[k0]? = some k) (hn : ∀ j, j < k0 → l[j]? ≠ some k) :
    Calls Try.prog 23 #[v, .func (.func g) #[] #[c]] w fun e w' => ∃ a m cp, e = .returned (.slice a m cp) ∧ RowI w' a m cp (natsI (l.filter (fun q => q != k))) ∧ Keep (fun g => v.ownBlock = some g) w w' := by
  have hl : l.length = len := by have := hs.1; rw [natsL_len] at this; omega
  have hk0 : k0 < len := by rw [← hl]; exact (List.getElem?_eq_some_iff.1 h0).1
  obtain ⟨gb, off, cap, rfl, hgo, hgl, hnc, hcm, hcell, hfz, hset⟩ := hs.at (by omega)
  have hgB : gb ≠ B := fun e => hok (e ▸ hgo)
  have hi := indexG (cap := cap) g c eg hA hl hl2 (fun j x hx => hcell j _ (by simp [natsL, hx])) hB h0 hn
  have HI := hidMk hi
  have HL := hidMk hl
  have HF : Hid ((l.take (k0 + 1)).filter (fun q => q != k) = l.take k0) := filt_first h0 hn
  have HS := hidMk hs
  have HB := hidMk hB
  have HK : Hid (∀ w9, Keep (fun g => (Value.slice (some ⟨gb, off, none⟩) len cap).ownBlock = some g) w w9 → w9.cell? ⟨B, 0, none⟩ = some (.int .i64 (k : Int))) := fun w9 h9 =>
    (World.cell?_of_block (h9.block B (World.block_lt_of_cell? _ _ hB) (fun e => hgB (by simpa [Value.ownBlock] using e)))).trans hB
  have hl2' : (len : Int) ≤ 100 := by omega
  have hk0' : (k0 : Int) < (len : Int) := by omega
  have hm1 : ((k0 : Int) == -1) = false := by rw [beq_eq_false_iff_ne]; omega
  clear hl hs hB h0 hn hcell hfz hset hi
  go_enter Try.func23, Try.ntmps23
  go_wp2_with (go_at_call 26; refine (HI.out).mono ?_; rintro e w' ⟨rfl, rfl⟩)
  obtain ⟨w0, rfl⟩ : ∃ w0 : World, w0 = w' := ⟨_, rfl⟩
  go_loopw [5, 6] (fun vi vj wr => ∃ (i j : Nat) (ys : List Nat), i < j ∧ j ≤ len ∧ vi = .int .i64 (i : Int) ∧ vj = .int .i64 (j : Int) ∧ Hid (Seg wr ok 3 1 (.slice (some ⟨gb, off, none⟩) len cap) len (natsL ys)) ∧ Hid (Keep (fun g => (Value.slice (some ⟨gb, off, none⟩) len cap).ownBlock = some g) w0 wr) ∧ Hid (ys.length = len ∧ (∀ q, j ≤ q → ys[q]? = l[q]?) ∧ ys.take i = (l.take j).filter (fun q => q != k))) (fun _ vj _ => len - (intOf vj).toNat)
  case atStart => exact ⟨k0, k0 + 1, l, by omega, by omega, rfl, by go_num, HS.out, Keep.refl _ _, HL.out, fun _ _ => rfl, HF.out.symm⟩
  case round =>
    obtain ⟨i, j, ys, hij, hj, rfl, rfl, HG, HW, HY⟩ := hrel
    by_cases hlt : j < len
    · have hlt' : (j : Int) < (len : Int) := by omega
      have hi' : (i : Int) < (len : Int) := by omega
      obtain ⟨x, hx⟩ : ∃ x, l[j]? = some x := ⟨l[j]'(by rw [HL.out]; exact hlt), List.getElem?_eq_getElem _⟩
      obtain ⟨gb2, off2, cap2, hv, _, _, _, _, hcell, hfz, hset⟩ := HG.out.at (by omega)
      cases hv
      have c0 := hcell j (.int .i64 (x : Int)) (by simp [natsL, HY.out.2.1 j (Nat.le_refl _), hx])
      have f0 := hfz (off + i)
      have c1 := hcell i _ (natsL_get (by rw [HY.out.1]; omega))
      generalize ys[i]'(by rw [HY.out.1]; omega) = old at c1
      have hcall := hA x wr (HK.out _ HW.out)
      have HT := hidMk (filt_take2 (k := k) hx)
      by_cases e : x = k
      · rw [show (x == k) = true by simpa using e] at hcall
        rw [if_pos e] at HT
        have HC := hidMk hcall
        clear hcall hx hset hcell hfz e c1 f0
        go_wp2_with (go_at_fn g; refine (HC.out).mono ?_; rintro e w' ⟨rfl, rfl⟩)
        go_roundw
        case rel => exact ⟨i, j + 1, ys, by omega, by omega, rfl, by go_num, HG, HW, HY.out.1, fun q hq => HY.out.2.1 q (by omega), by rw [HT.out, List.append_nil]; exact HY.out.2.2⟩
        case measure => simp [intOf]; omega
      · rw [show (x == k) = false by simpa using e] at hcall
        rw [if_neg e] at HT
        have HC := hidMk hcall
        have HG2 := hidMk (hset i (.int .i64 (x : Int)) (by omega))
        have HW2 := hidMk (HW.out.setCell gb (off + i) (.int .i64 (x : Int)) (fun _ => by simp [Value.ownBlock]))
        clear hcall hx hset hcell hfz e
        go_wp2_with (go_at_fn g; refine (HC.out).mono ?_; rintro e w' ⟨rfl, rfl⟩)
        go_roundw
        case rel => exact ⟨i + 1, j + 1, ys.set i x, by omega, by omega, by go_num, by go_num, by show Seg _ _ _ _ _ _ _; rw [← natsL_set]; exact HG2.out, HW2, by rw [List.length_set]; exact HY.out.1, fun q hq => by rw [List.getElem?_set, if_neg (by omega)]; exact HY.out.2.1 q (by omega), by rw [HT.out, take_set (by rw [HY.out.1]; omega), HY.out.2.2]⟩
        case measure => simp [intOf]; omega
    · obtain rfl : j = len := by omega
      have hi' : (i : Int) < (j : Int) := by omega
      obtain ⟨gb2, off2, cap2, hv, _, _, _, _, hcell, hfz, _⟩ := HG.out.at (by omega)
      cases hv
      have hcl : ∀ ty, (Builtin.clear_ #[37] ty #[.slice (some ⟨gb, off + i, none⟩) (j - i) (cap - i)]).run Try.prog wr = .ok (.tuple #[]) (wr.setCells gb (off + i) (List.replicate (j - i) (.int .i64 0))) :=
        fun ty => Lib.run_clear_slice wr _ _ ty _ Try.underlying37 zeroInt rfl rfl gb (off + i) (j - i) (cap - i) (by omega) (fun q hq => by
          rw [show off + i + q = off + (i + q) by omega, hcell (i + q) _ (natsL_get (by rw [HY.out.1]; omega))]; rfl) (fun q _ => hfz _)
      obtain ⟨⟨zs, z1, z2⟩, z3⟩ := seg_zeros (j - i) i wr ys (by omega) HG.out (by omega)
      have HZ := hidMk (seg_row z1)
      have HZ3 := hidMk (HW.out.grown z3 (fun q e _ => by cases e; simp [Value.ownBlock]))
      have HE : Hid (zs.take i = l.filter (fun q => q != k)) := by
        show _ = _
        rw [z2, HY.out.2.2, List.take_of_length_le (by rw [HL.out]; exact Nat.le_refl _)]
      clear hcell hfz z1 z2 z3
      generalize wr.setCells gb (off + i) (List.replicate (j - i) (.int .i64 0)) = w9 at *
      go_wp2
      go_ret
      refine ⟨_, _, _, rfl, ?_, HZ3.out⟩
      have h9 := HZ.out.take (m := i) (by omega)
      rw [← HE.out]
      have e9 : natsI (zs.take i) = (natsI zs).take i := by simp [natsI, List.map_take]
      rw [e9]
      exact h9
set_option maxRecDepth 100000 in
set_option maxHeartbeats 4000000 in
theorem without_any {W : World} {a : Option Addr} {len cap k : Nat} {l : List Nat} (h : RowI W a len cap (natsI l)) (h6 : len ≤ 100) (hk : k ∈ l) :
    Calls Try.prog 20 #[.slice a len cap, .int .i64 (k : Int)] W fun e W2 => ∃ a2 m2 c2, e = .returned (.slice a2 m2 c2) ∧ RowI W2 a2 m2 c2 (natsI (l.filter (fun q => q != k))) ∧ Stil W W2 := by
  obtain ⟨k0, h0, hn⟩ : ∃ k0, l[k0]? = some k ∧ ∀ j, j < k0 → l[j]? ≠ some k := by
    have h1 : (l.findIdx? (fun y => y == k)).isSome = true := by
      rw [List.findIdx?_isSome]
      exact List.any_eq_true.2 ⟨k, hk, by simp⟩
    obtain ⟨k0, h2⟩ := Option.isSome_iff_exists.1 h1
    rw [List.findIdx?_eq_some_iff_getElem] at h2
    obtain ⟨h3, h4, h5⟩ := h2
    refine ⟨k0, by rw [List.getElem?_eq_getElem h3]; simpa using h4, fun j hj e => ?_⟩
    have := h5 j hj
    rw [List.getElem?_eq_getElem (by omega)] at e
    simp at e this
    exact this e
  have hln : 0 < len := by
    have := (List.getElem?_eq_some_iff.1 h0).1
    have h1 := h.1
    rw [natsI_len] at h1
    omega
  have HA : Hid (Stil W (W.alloc (.cells #[.int .i64 (k : Int)] 3))) := Stil.new _ _
  have hnb := al_new W (.cells #[.int .i64 (k : Int)] 3)
  have y0 : (W.alloc (.cells #[.int .i64 (k : Int)] 3)).cell? ⟨W.heap.size, 0, none⟩ = some (.int .i64 (k : Int)) := by rw [cell_of_row _ _ _ _ _ _ hnb]; rfl
  have HCl := hidMk (cloneG (h.still HA.out) hln h6)
  have H0 := hidMk h0
  have HN := hidMk hn
  have HY := hidMk y0
  have HSz : Hid ((W.alloc (.cells #[.int .i64 (k : Int)] 3)).heap.size = W.heap.size + 1) := by show _ = _; simp
  clear h h0 hn hnb y0
  go_enter Try.func20, Try.ntmps20
  go_wp2_with (first
    | (go_at_call 23; refine (deleteG 25 (.pointer (some ⟨W.heap.size, 0, none⟩)) enters_without (asks_without W.heap.size k) h6 HS2.out (by rw [HSz.out]; omega) (HK2.out.cell HY.out) H0.out HN.out).mono ?_; rintro e w3 ⟨a2, m2, c2, rfl, hr3, hk3⟩)
    | (go_at_call 24; refine (HCl.out).mono ?_; rintro e w2 ⟨v, rfl, hs2, hk2⟩; have HS2 := hidMk hs2; have HK2 := hidMk hk2; clear hs2 hk2))
  have HR := hidMk hr3
  have HK : Hid (Stil W w3) := HA.out.tr ((HK2.out.trans hk3 (q := fun _ => False) (fun _ _ e => e) (fun i hi e => by have := (HS2.out.block e).1; omega)))
  clear hr3 hk3
  go_ret
  exact ⟨a2, m2, c2, rfl, HR.out, HK.out⟩
end Go.Proofs.Ytekbglmoibglnaa
