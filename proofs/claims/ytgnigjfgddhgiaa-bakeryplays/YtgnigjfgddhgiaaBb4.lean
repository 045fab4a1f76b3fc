/- folkmootkeep.BakeryAlone, walked. -/
import Derived.Test.YtgnigjfgddhgiaaBb0
namespace Go.Proofs.Ytgnigjfgddhgiaa
open Go.RowKit
set_option linter.unusedVariables false

def intsV (l : List Int) : List Value := l.map fun (z : Int) => .int .i64 z
theorem intsV_app (a b : List Int) : intsV (a ++ b) = intsV a ++ intsV b := by simp [intsV]
theorem intsV_len (a : List Int) : (intsV a).length = a.length := by simp [intsV]
theorem intsV_back {l : List Int} {k : Nat} {x : Value} (h : (intsV l)[k]? = some x) : ∃ m : Int, l[k]? = some m ∧ x = .int .i64 m := by
  simp [intsV] at h
  obtain ⟨m, h1, h2⟩ := h
  exact ⟨m, h1, h2.symm⟩
theorem seg_rowZ {W : World} {ok : Nat → Prop} {e : TypeId} {a : Option Addr} {n c : Nat} {l : List Int} (h : Seg W ok e 1 (.slice a n c) n (intsV l)) : RowI W a n c l := by
  obtain ⟨h1, ⟨h2, h3⟩ | ⟨g, off, cap, cur, h2, h3, h4, h5, h6, h7, h8⟩⟩ := h
  · subst h3
    cases h2
    exact ⟨by simpa [intsV] using h1, Nat.le_refl _, Nat.zero_le _, .inl rfl⟩
  · cases h2
    refine ⟨by simpa [intsV] using h1, h5, by omega, .inr ⟨g, off, rfl, (Array.getElem?_eq_some_iff.1 h4).1, fun j x hx => ?_⟩⟩
    rw [cell_of_row W _ _ _ _ _ h4]
    exact h8 j _ (by simp [intsV, hx])
theorem intsV_cell (l : List Int) : ∀ u ∈ intsV l, u.oneCell' = true := by
  intro u hu
  simp [intsV] at hu
  obtain ⟨z, _, rfl⟩ := hu
  rfl
theorem run_append_noneI {P : Program} (w : World) (t ty e : TypeId) (i : TypeInfo) (ht : P.underlying t = some (.slice e)) (hi : P.info? e = some i) (g off n cap c : Nat) (a : Option Addr) (hn : n ≤ cap) :
    (Builtin.append_ #[t, t] ty #[.slice (some ⟨g, off, none⟩) n cap, .slice a 0 c]).run P w = .ok (.slice (some ⟨g, off, none⟩) n cap) w := by
  cases a <;> simp [Builtin.append_, run_underlying ht, sizeOf, typeInfo, hi, Builtin.lenOf, Builtin.firstCells, loadCells, loadCellsFrom, storeCells, hn]
theorem wpList_append_ints {w : World} {ops : Array Oper} {rest : List Oper} {o : Oper} {a : Act} {Q : Exit → Act → World → Prop} (hgd : o.guard = none) (s x : Operand)
    (ho : o.op = .call { callee := .builtin .append, args := #[s, x], argTypes := #[22, 22] })
    (ok : Nat → Prop) (g off n cap : Nat) (xs : List Value) (hs : a.eval s = .slice (some ⟨g, off, none⟩) n cap) (hown : Seg w ok 3 1 (.slice (some ⟨g, off, none⟩) n cap) n xs)
    (pa : Option Addr) (pl pc : Nat) (zs : List Int) (hx : a.eval x = .slice pa pl pc) (hp : RowI w pa pl pc zs) (h63 : n + pl ≤ 100000)
    (h : ∀ v' w', Seg w' (fun q => (q = g ∧ ok q) ∨ q = w.heap.size) 3 1 v' (n + pl) (xs ++ intsV zs) → w.grownBy w' (some g) → wpList Try.prog ops Q rest (a.put o.dst v') w') :
    wpList Try.prog ops Q (o :: rest) a w := by
  refine wpList_plain hgd fun K hK => ?_
  obtain ⟨i0, hi, hz0, hz1, hz2⟩ := info_parts cInfoInt
  have key : ∃ v' w', (Builtin.append_ #[22, 22] o.type #[.slice (some ⟨g, off, none⟩) n cap, .slice pa pl pc]).run Try.prog w = .ok v' w' ∧ Seg w' (fun q => (q = g ∧ ok q) ∨ q = w.heap.size) 3 1 v' (n + pl) (xs ++ intsV zs) ∧ w.grownBy w' (some g) := by
    obtain ⟨h1, h2, h3, h4⟩ := hp
    have hnc : n ≤ cap ∧ ok g := by
      obtain ⟨_, ⟨e, _⟩ | ⟨g', off', cap', cur, e, hk, _, h5, _⟩⟩ := hown
      · cases e
      · simp only [Value.slice.injEq, Option.some.injEq, Addr.mk.injEq] at e
        obtain ⟨⟨rfl, rfl, _⟩, _, rfl⟩ := e
        exact ⟨h5, hk⟩
    rcases h4 with h4 | ⟨b, of2, rfl, hb, hr⟩
    · subst h4
      have e : zs = [] := List.eq_nil_of_length_eq_zero h1
      subst e
      refine ⟨_, _, run_append_noneI w _ _ _ i0 Try.underlying22 hi g off n cap pc pa hnc.1, ?_, ⟨rfl, rfl, rfl, Nat.le_refl _, fun _ _ _ => rfl⟩⟩
      have e2 : xs ++ intsV [] = xs := by simp [intsV]
      rw [e2, Nat.add_zero]
      obtain ⟨h5, ⟨e, _⟩ | ⟨g', off', cap', cur, e, hk, h6⟩⟩ := hown
      · cases e
      · have e3 := e
        simp only [Value.slice.injEq, Option.some.injEq, Addr.mk.injEq] at e3
        obtain ⟨⟨rfl, rfl, _⟩, _, rfl⟩ := e3
        exact ⟨h5, .inr ⟨g, off, cap, cur, rfl, .inl ⟨rfl, hk⟩, h6⟩⟩
    · obtain ⟨v', w', hr1, hr2, hr3⟩ := run_append_seg (P := Try.prog) w 22 o.type 3 i0 _ 1 8 Try.underlying22 hi hz0 hz1 hz2 rfl (by decide) _ n xs hown ⟨b, of2, none⟩ pl pc (intsV zs) (by rw [intsV_len, h1, Nat.mul_one]) (fun j u hu => by
        obtain ⟨m, hm, rfl⟩ := intsV_back hu
        rw [addr_add]
        exact hr j m hm) (intsV_cell zs) (by unfold maxLen; omega) (by omega)
      refine ⟨v', w', hr1, hr2.mono (fun q _ e => ?_), hr3⟩
      rcases e with ⟨e, e2⟩ | e
      · simp [Value.ownBlock] at e
        exact .inl ⟨e.symm, e2⟩
      · exact .inr e
  obtain ⟨v', w', hr, h2, h3⟩ := key
  unfold Oper.wp execOp
  simp only [ho, resolve, invoke, builtin, Sem.run_bind, Sem.run_pure, Result.andThen_ok, List.map_toArray, List.map_cons, List.map_nil, hs, hx, hr]
  exact hK _ _ (h v' w' h2 h3)

set_option maxRecDepth 100000 in
set_option maxHeartbeats 4000000 in
theorem alone_bad {W : World} {zi : Int} {pa : Option Addr} {z : Int} {pl pc : Nat} {zs : List Int} (hp : RowI W pa pl pc zs) (hz : bakCode z pl ≠ 0) :
    Calls Try.prog 6 #[.int .i64 z, .slice pa pl pc, .int .i64 zi] W fun e W2 => e = .returned (.bool true) ∧ Below W.heap.size W W2 := by
  have HP := hidMk (play_badB (W := W) (pa := pa) (pc := pc) hz hp.2.2.1)
  clear hz hp
  go_enter Try.func6, Try.ntmps6
  go_wp2_with (fail)
  go_at_call 8
  refine (HP.out).mono ?_
  rintro e w1 ⟨rfl, hk1⟩
  have HK1 := hidMk (hk1.alloc (.cells #[.slice none 0 0, .slice none 0 0, .slice none 0 0, .slice none 0 0, .slice none 0 0] 26))
  clear hk1 HP
  go_wp2
  go_ret
  exact ⟨rfl, Stil.below HK1.out⟩

set_option maxRecDepth 100000 in
set_option maxHeartbeats 8000000 in
theorem alone_ok {W : World} {zi : Int} {pa : Option Addr} {n pl pc : Nat} {zs : List Int} (hp : RowI W pa pl pc zs) (h0 : 0 < n) (h4 : n ≤ 4) (hpl : pl ≤ 120) :
    Calls Try.prog 6 #[.int .i64 (n : Int), .slice pa pl pc, .int .i64 zi] W fun e W2 => e = .returned (.bool true) ∧ Below W.heap.size W W2 := by
  have HP := hidMk (play_seenB hp h0 h4 hpl)
  have HCm := hidMk hp
  have hlp := hp.1
  have hpl' : (pl : Int) ≤ 120 := by omega
  have hn4 : (n : Int) ≤ 4 := by omega
  have hn1 : 1 ≤ (n : Int) := by omega
  have hw1 : IntKind.i64.wrap (3 * (n : Int)) = ((3 * n : Nat) : Int) := by rw [wrap_of ⟨by omega, by omega⟩]; omega
  have hw2 : IntKind.i64.wrap ((pl : Int) + ((3 * n : Nat) : Int)) = ((pl + 3 * n : Nat) : Int) := by rw [wrap_of ⟨by omega, by omega⟩]; omega
  have hw3 : IntKind.i64.wrap (((pl + 3 * n : Nat) : Int) + 6) = ((pl + 3 * n + 6 : Nat) : Int) := by rw [wrap_of ⟨by omega, by omega⟩]; omega
  have HSolo : Hid (∀ i : Nat, i < n → Solo n (bsAt n zs pl) i → ∃ r, (bsAt n (soloZ zs i (3 * n + 6)) (pl + (3 * n + 6))).ins = (bsAt n zs pl).ins ++ i :: r) := fun i hi hs => by
    have := solo_in (zs := zs) hi (by rw [hlp]; exact hs)
    rwa [hlp] at this
  have hil : (bsAt n zs pl).ins.length ≤ 120 := by have := (binv_at n zs pl).ins; omega
  generalize bsAt n zs pl = S1 at *
  clear hp
  go_enter Try.func6, Try.ntmps6
  go_wp2_with (fail)
  go_at_call 8
  refine (HP.out).mono ?_
  rintro e w1 ⟨⟨C1, a1, c1, a2, c2, a3, c3, va1, vc1, rfl, hS1⟩, hk1⟩
  have HK1 := hidMk (hk1.alloc (.cells #[.slice (some ⟨C1, 0, none⟩) pl pl, .slice a1 n c1, .slice a2 n c2, .slice a3 n c3, .slice va1 S1.ins.length vc1] 26))
  have HS1 := hidMk (hS1.still (Stil.new w1 (.cells #[.slice (some ⟨C1, 0, none⟩) pl pl, .slice a1 n c1, .slice a2 n c2, .slice a3 n c3, .slice va1 S1.ins.length vc1] 26)))
  have x1 : (w1.alloc (.cells #[.slice (some ⟨C1, 0, none⟩) pl pl, .slice a1 n c1, .slice a2 n c2, .slice a3 n c3, .slice va1 S1.ins.length vc1] 26)).cell? ⟨w1.heap.size, 1, none⟩ = some (.slice a1 n c1) := by rw [cell_of_row _ _ _ _ _ _ (al_new _ _)]; rfl
  have x4 : (w1.alloc (.cells #[.slice (some ⟨C1, 0, none⟩) pl pl, .slice a1 n c1, .slice a2 n c2, .slice a3 n c3, .slice va1 S1.ins.length vc1] 26)).cell? ⟨w1.heap.size, 4, none⟩ = some (.slice va1 S1.ins.length vc1) := by rw [cell_of_row _ _ _ _ _ _ (al_new _ _)]; rfl
  clear hk1 hS1 HP
  go_upto_region 2 with fail
  generalize hi1 : S1.ins.length = i1 at *
  have HI1 := hidMk hi1
  clear hi1
  generalize w1.alloc (.cells #[.slice (some ⟨C1, 0, none⟩) pl pl, .slice a1 n c1, .slice a2 n c2, .slice a3 n c3, .slice va1 i1 vc1] 26) = w2 at *
  generalize w1.heap.size = La at *
  have HIn := hidMk (inside_any (w := w2.alloc (.cells #[.int .i64 zi] 3)) (a := some ⟨w2.heap.size, 0, none⟩) (m := 1) (c := 1) (xs := [zi]) n ⟨rfl, Nat.le_refl _, by decide, .inr ⟨w2.heap.size, 0, rfl, by simp, fun j x hx => by
    rw [cell_of_row _ _ _ _ _ _ (al_new _ _)]
    match j, hx with
    | 0, hx => simp at hx; subst hx; rfl⟩⟩ (by omega))
  have HK2 := hidMk (HK1.out.alloc (.cells #[.int .i64 zi] 3))
  have HS2 := hidMk (HS1.out.still (Stil.new w2 (.cells #[.int .i64 zi] 3)))
  have x1 := (Stil.new w2 (.cells #[.int .i64 zi] 3)).cell x1
  have x4 := (Stil.new w2 (.cells #[.int .i64 zi] 3)).cell x4
  clear HK1 HS1
  go_wp2_with (fail)
  go_at_call 12
  refine (HIn.out).mono ?_
  rintro e w7 ⟨rfl, hw7⟩
  obtain rfl := hw7.symm
  clear HIn
  generalize w2.alloc (.cells #[.int .i64 zi] 3) = w3 at *
  have hin1 : ([zi].all fun z => inP n z) = inP n zi := by simp
  rw [hin1]
  clear hin1
  by_cases hin : inP n zi = true
  · rw [hin]
    obtain ⟨ei, hi⟩ := inP_nat hin
    generalize zi.toNat = i at *
    subst ei
    have hi' : (i : Int) < (n : Int) := by omega
    clear hin
    by_cases hbig : 120 < pl + 3 * n + 6
    · have q1 : decide ((120 : Int) < ((pl + 3 * n + 6 : Nat) : Int)) = true := decide_eq_true (by omega)
      go_wp2
      go_ret
      exact ⟨rfl, Stil.below HK2.out⟩
    · have q1 : decide ((120 : Int) < ((pl + 3 * n + 6 : Nat) : Int)) = false := decide_eq_false (by omega)
      obtain ⟨rl, rc, _, rr⟩ := HS2.out.at
      rcases rr with rr | ⟨gb, off, rfl, _, hcell⟩
      · omega
      have HCell := hidMk hcell
      clear hcell
      go_wp2
      go_loop [9] (fun u => ∃ k : Nat, k ≤ n ∧ u = .int .i64 (k : Int) ∧ Hid (∀ j, j < k → j ≠ i → (S1.pr j).pl = 0)) (fun u => n - (intOf u).toNat)
      case atStart => exact ⟨0, Nat.zero_le _, rfl, fun j hj => by omega⟩
      case round =>
        obtain ⟨k, hk, rfl, HA⟩ := hrel
        by_cases hlt : k < n
        · have hlt' : (k : Int) < (n : Int) := by omega
          have d1 := HCell.out k ((S1.pr k).pl : Int) (natsI_at (by simp [plL, hlt]))
          have HV : Hid ((S1.pr k).pl = (S1.pr k).pl) := rfl
          generalize hv1 : (S1.pr k).pl = v1 at *
          have HV1 := hidMk hv1
          clear HV hv1
          by_cases eki : k = i
          · have q2 : ((k : Int) != (i : Int)) = false := by simp; omega
            have HE := hidMk eki
            clear eki
            go_wp2
            go_round
            case rel => exact ⟨k + 1, by omega, by go_num, fun j hj hji => HA.out j (by have := HE.out; omega) hji⟩
            case measure => simp [intOf]; omega
          · have q2 : ((k : Int) != (i : Int)) = true := by simp; omega
            have HE := hidMk eki
            clear eki
            by_cases ev : v1 = 0
            · have q3 : ((v1 : Int) != 0) = false := by simp; omega
              go_wp2
              go_round
              case rel => exact ⟨k + 1, by omega, by go_num, fun j hj hji => by
                by_cases ejk : j = k
                · subst ejk; rw [HV1.out]; exact ev
                · exact HA.out j (by omega) hji⟩
              case measure => simp [intOf]; omega
            · have q3 : ((v1 : Int) != 0) = true := by simp; omega
              go_wp2
              go_ret
              exact ⟨rfl, Stil.below HK2.out⟩
        · obtain rfl : k = n := by omega
          have HSo := hidMk (HSolo.out i hi (fun p hp hpi => HA.out p hp hpi))
          clear HSolo HA HCell rl rc
          go_upto_region 11 with fail
          have HS0 : Hid (Seg (w3.alloc (.cells #[] 3)) (fun g => w3.heap.size ≤ g) 3 1 (.slice (some ⟨w3.heap.size, 0, none⟩) 0 0) 0 []) :=
            ⟨by simp, .inr ⟨_, 0, 0, #[], rfl, Nat.le_refl _, al_new _ _, Nat.le_refl _, Nat.zero_le _, by simp, by simp⟩⟩
          have HP2 := hidMk (HCm.out.still (HK2.out.alloc (.cells #[] 3)))
          have hw4 : IntKind.i64.wrap (((3 * k : Nat) : Int) + 6) = ((3 * k + 6 : Nat) : Int) := by rw [wrap_of ⟨by omega, by omega⟩]; omega
          go_wp2_with (at_builtin; refine wpList_append_ints rfl _ _ rfl (fun g => w3.heap.size ≤ g) w3.heap.size 0 0 0 [] rfl HS0.out pa pl pc zs rfl HP2.out (by omega) ?_)
          intro v4 w4 hs4 hg4
          have HS4 : Hid (Seg w4 (fun g => w3.heap.size ≤ g) 3 1 v4 pl (intsV (soloZ zs i 0))) := by
            have h1 := hs4.mono (ok2 := fun g => w3.heap.size ≤ g) (fun g _ e => by
              rcases e with ⟨_, e⟩ | e
              · exact e
              · (try simp at e); omega)
            show Seg w4 _ _ 1 v4 _ _
            simpa [soloZ] using h1
          have HK4 : Hid (Stil w3 w4) := (Stil.new w3 (.cells #[] 3)).grown hg4 (fun g e hk => by cases e; omega)
          clear hs4 hg4 HS0 HP2
          obtain ⟨a4, c4, hv4⟩ := segForm HS4.out
          subst hv4
          have q7 : decide (3 * k + 6 ≤ 0) = false := decide_eq_false (by omega)
          clear q1 hw2 hw3 q7
          go_wp2
          go_loopw [10, 11] (fun v u wr => ∃ q : Nat, q ≤ 3 * k + 6 ∧ u = .int .i64 (q : Int) ∧ Hid (Seg wr (fun g => w3.heap.size ≤ g) 3 1 v (pl + q) (intsV (soloZ zs i q))) ∧ Hid (Stil w3 wr)) (fun _ u _ => 3 * k + 6 - (intOf u).toNat)
          case atStart => exact ⟨0, Nat.zero_le _, rfl, HS4, HK4⟩
          case round =>
            obtain ⟨q, hq, rfl, HG, HKr⟩ := hrel
            obtain ⟨a5, c5, hv5⟩ := segForm HG.out
            subst hv5
            by_cases hql : q < 3 * k + 6
            · have hql' : (q : Int) < 3 * (k : Int) + 6 := by omega
              obtain ⟨i0, hit, hz0, hz1, hz2⟩ := info_parts cInfoInt
              go_wp2_with (at_builtin; refine wpList_append_seg _ rfl _ _ 22 rfl 3 i0 (.int .i64 0) 1 8 Try.underlying22 hit hz0 hz1 hz2 rfl (by decide) (.slice a5 (pl + q) c5) (pl + q) (intsV (soloZ zs i q)) rfl (segAlloc HG.out _) ⟨wr.heap.size, 0, none⟩ 1 1 [.int .i64 (i : Int)] rfl rfl (cCell1 wr (.int .i64 (i : Int)) 3 _ rfl) (cOne _) (by unfold maxLen; omega) (by omega) ?_)
              intro v6 w6 hs6 hg6
              have HG6 : Hid (Seg w6 (fun g => w3.heap.size ≤ g) 3 1 v6 (pl + (q + 1)) (intsV (soloZ zs i (q + 1)))) := by
                have hsz := HKr.out.size
                have h1 := hs6.mono (ok2 := fun g => w3.heap.size ≤ g) (fun g _ e => by
                  rcases e with ⟨_, e⟩ | e
                  · exact e
                  · (try simp at e); omega)
                show Seg w6 _ _ 1 v6 _ _
                rw [soloZ_succ, intsV_app]
                exact h1
              have HK6 : Hid (Stil w3 w6) := (HKr.out.alloc _).grown hg6 (fun g e hk => by
                have := (HG.out.block e).1
                omega)
              obtain ⟨a6, c6, hv6⟩ := segForm hs6
              subst hv6
              clear hs6 hg6 HG HKr
              go_wp2
              go_roundw
              case rel => exact ⟨q + 1, by omega, by go_num, HG6, HK6⟩
              case measure => simp [intOf]; omega
            · have hqe : q = 3 * k + 6 := by omega
              have hql' : ¬ (q : Int) < 3 * (k : Int) + 6 := by omega
              rw [← hqe] at HSo
              have hq18 : q ≤ 18 := by omega
              have hplq : pl + q ≤ 120 := by omega
              have HQe := hidMk hqe
              clear hqe
              have HKw := hidMk (Stil.tr HK2.out HKr.out)
              have x4 := HKr.out.cell x4
              have hzl : (soloZ zs i q).length = pl + q := by rw [soloZ_len, hlp]
              have HP3 := hidMk (play_seenB (seg_rowZ HG.out) h0 h4 hplq)
              obtain ⟨rr5, hr5⟩ := HSo.out
              have HR5 := hidMk hr5
              have hil5 : (bsAt k (soloZ zs i q) (pl + q)).ins.length = i1 + 1 + rr5.length := by rw [hr5, List.length_append, HI1.out]; simp; omega
              have hil6 : (bsAt k (soloZ zs i q) (pl + q)).ins.length ≤ 200 := by have := (binv_at k (soloZ zs i q) (pl + q)).ins; omega
              generalize bsAt k (soloZ zs i q) (pl + q) = S5 at *
              clear hr5 HSo HG HCm hzl HK2 HKr
              go_wp2_with (fail)
              go_at_call 8
              refine (HP3.out).mono ?_
              rintro e w6 ⟨⟨C6, b1, d1, b2, d2, b3, d3, va6, vc6, rfl, hS6⟩, hk6⟩
              have hIn := hS6.ins
              generalize hi5 : S5.ins.length = i5 at *
              have hii : i1 < i5 := by omega
              clear hil5
              have k7 : Stil _ (w6.alloc (.cells #[.slice (some ⟨C6, 0, none⟩) (pl + q) (pl + q), .slice b1 k d1, .slice b2 k d2, .slice b3 k d3, .slice va6 i5 vc6] 26)) := hk6.alloc _
              have HK7 := hidMk (Stil.tr HKw.out k7)
              have x4 := k7.cell x4
              have y4 : (w6.alloc (.cells #[.slice (some ⟨C6, 0, none⟩) (pl + q) (pl + q), .slice b1 k d1, .slice b2 k d2, .slice b3 k d3, .slice va6 i5 vc6] 26)).cell? ⟨w6.heap.size, 4, none⟩ = some (.slice va6 i5 vc6) := by rw [cell_of_row _ _ _ _ _ _ (al_new _ _)]; rfl
              obtain ⟨_, _, _, rr6⟩ := hIn
              rcases rr6 with rr6 | ⟨g6, o6, rfl, hg6, hc6⟩
              · omega
              have d6 := hc6 i1 (i : Int) (natsI_at (by rw [HR5.out, List.getElem?_append_right (by rw [HI1.out]; exact Nat.le_refl _), HI1.out, Nat.sub_self]; rfl))
              have d7 := (Stil.new w6 (.cells #[.slice (some ⟨C6, 0, none⟩) (pl + q) (pl + q), .slice b1 k d1, .slice b2 k d2, .slice b3 k d3, .slice (some ⟨g6, o6, none⟩) i5 vc6] 26)).cell d6
              have hii' : (i1 : Int) < (i5 : Int) := by omega
              clear hc6 hS6 hk6 k7 HP3 hi5 d6
              go_wp2
              go_ret
              exact ⟨rfl, Stil.below HK7.out⟩
  · have hin2 : inP n zi = false := by simpa using hin
    rw [hin2]
    clear hin hin2
    go_wp2
    go_ret
    exact ⟨rfl, Stil.below HK2.out⟩

theorem alone_walk {W : World} {z zi : Int} {pa : Option Addr} {pl pc : Nat} {zs : List Int} (hp : CameI W pa pl pc zs) :
    Calls Try.prog 6 #[.int .i64 z, .slice pa pl pc, .int .i64 zi] W fun e W2 => e = .returned (.bool true) ∧ Below W.heap.size W W2 := by
  by_cases hz : bakCode z pl = 0
  · obtain ⟨n, rfl, h0, h6, h120⟩ := bakCode_zero hz
    exact alone_ok hp h0 h6 h120
  · exact alone_bad hp hz
end Go.Proofs.Ytgnigjfgddhgiaa
