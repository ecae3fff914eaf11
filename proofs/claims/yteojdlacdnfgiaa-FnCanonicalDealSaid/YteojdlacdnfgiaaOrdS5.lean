/- Chapter 5: the model's SuitOrders. -/
import Derived.Test.YteojdlacdnfgiaaLists5
import Derived.Test.YteojdlacdnfgiaaGrpM5
import Derived.Test.YteojdlacdnfgiaaHl5
import Derived.Test.YteojdlacdnfgiaaS03p
namespace Go.Proofs.Yteojdlacdnfgiaa.Lib1
open Go.RowKit
set_option maxRecDepth 100000

set_option maxHeartbeats 2000000 in
/-- spec.l05Orders -/
theorem l05Orders (strain : Int) (w : World) (hs : inB strain 0 4 = true) : Calls Try.prog 70 #[.int .i64 strain] w (RetVQ w (ordS strain)) := by
  have hm := Lib.hid (OwnVQ.made w (base := w.heap.size) (Nat.le_refl _))
  have hb0 := Lib.hid ((Below.refl w.heap.size w).alloc (Nat.le_refl _) (.cells #[] 24))
  have hr := inB_lim hs
  have HR := Lib.hid hr
  clear hs hr
  go_enter Try.func70, Try.ntmps70
  go_wp2_with fail
  go_loopw [3, 4] (fun v i wr => ∃ k : Nat, k ≤ 256 ∧ i = .int .i64 k ∧ OwnVQ wr w.heap.size v (ordTo strain k) ∧ Hid (Below w.heap.size w wr)) (fun _ i _ => 256 - (intOf i).toNat)
  case atStart => exact ⟨0, by omega, rfl, hm.out, hb0.out⟩
  case round =>
    clear hm hb0
    obtain ⟨k, hk, rfl, ho, hb⟩ := hrel
    by_cases hlt : k < 256
    · have hkI : (k : Int) < 256 := by omega
      have hstep : Hid (ordTo strain (k + 1) = ordTo strain k ++ if okO strain (ordN k) then [ordN k] else []) := rfl
      have d1 : (k : Int).tdiv 64 = (k : Int) / 64 := Int.tdiv_eq_ediv_of_nonneg (by omega)
      have d2 : (k : Int).tdiv 16 = (k : Int) / 16 := Int.tdiv_eq_ediv_of_nonneg (by omega)
      have d3 : (k : Int).tdiv 4 = (k : Int) / 4 := Int.tdiv_eq_ediv_of_nonneg (by omega)
      have m2 : ((k : Int) / 16).tmod 4 = (k : Int) / 16 % 4 := Int.tmod_eq_emod_of_nonneg (by omega)
      have m3 : ((k : Int) / 4).tmod 4 = (k : Int) / 4 % 4 := Int.tmod_eq_emod_of_nonneg (by omega)
      have m4 : (k : Int).tmod 4 = (k : Int) % 4 := Int.tmod_eq_emod_of_nonneg (by omega)
      have hto4 : Hid ((ordN k).length = 4) := rfl
      have htn : Hid ((ordN k).map (Value.int .i64) = [.int .i64 ((k : Int) / 64), .int .i64 ((k : Int) / 16 % 4), .int .i64 ((k : Int) / 4 % 4), .int .i64 ((k : Int) % 4)]) := by
        show _ = _
        simp [ordN]
      have hlen : (ordTo strain k).length ≤ 1048576 := by have := ordTo_len strain k; omega
      have hq := Lib.hid (fun s (hs : s < 4) => (show Value.int .i64 ((ordN k).getD s 0) = [Value.int .i64 ((k : Int) / 64), .int .i64 ((k : Int) / 16 % 4), .int .i64 ((k : Int) / 4 % 4), .int .i64 ((k : Int) % 4)].getD s undef by
        rw [← htn.out, List.getD_eq_getElem?_getD, List.getD_eq_getElem?_getD, List.getElem?_map, List.getElem?_eq_getElem (by rw [hto4.out]; exact hs)]; rfl))
      generalize ordN k = to at hstep hto4 htn hq
      have ou := Lib.hid (OwnV.new wr to #[.int .i64 ((k : Int) / 64), .int .i64 ((k : Int) / 16 % 4), .int .i64 ((k : Int) / 4 % 4), .int .i64 ((k : Int) % 4)] htn.out.symm (by rw [hto4.out]; omega) (Nat.le_refl _))
      rw [hto4.out] at ou
      have hrd : Hid (Rd (wr.alloc (.cells #[.int .i64 ((k : Int) / 64), .int .i64 ((k : Int) / 16 % 4), .int .i64 ((k : Int) / 4 % 4), .int .i64 ((k : Int) % 4)] 2)) 0 (wr.heap.size + 1) (some ⟨wr.heap.size, 0, none⟩) 4 to) := by
        obtain ⟨A2, c2, e2, _, _, own2⟩ := ou.out.form
        rw [hto4.out] at e2 own2
        injection e2 with e21 _ e23
        subst e21; subst e23
        exact own2.rd.more (Nat.zero_le _) (by simp)
      have hz := Lib.hid (Chg.of_alloc wr (.cells #[.int .i64 ((k : Int) / 64), .int .i64 ((k : Int) / 16 % 4), .int .i64 ((k : Int) / 4 % 4), .int .i64 ((k : Int) % 4)] 2) 0 0)
      have hzw := hb.out.size
      have hord := Lib.hid (l03Order (some ⟨wr.heap.size, 0, none⟩) 4 4 to 0 (wr.heap.size + 1) _ hrd.out (by omega))
      have hoN := Lib.hid (ho.still hz.out)
      have hbN := Lib.hid (Chg.above hb.out hz.out hzw (.inr rfl))
      have hbig := Lib.hid (Chg.of_below (hb.out.trans (hz.out.to_below.mono hzw)) 0 0)
      have hok : Hid (okO strain to = (orderB to && (decide (strain = 4) || decide (to.getD strain.toNat 0 = strain)))) := rfl
      cases hob : orderB to with
      | false =>
        have HE : Hid (ordTo strain (k + 1) = ordTo strain k) := by show _ = _; rw [hstep.out, hok.out, hob]; simp
        have HO := Lib.hid hob
        clear hob
        go_wp2_with fail
        refine hord.out.mono ?_
        rintro e w' ⟨rfl, rfl⟩
        rw [HO.out]
        go_wp2_with fail
        go_roundw
        case rel => exact ⟨k + 1, by omega, by go_num, by rw [HE.out]; exact hoN.out, hbN.out⟩
        case measure => simp [intOf]; omega
      | true =>
        have HO := Lib.hid hob
        by_cases h4 : strain = 4
        · subst h4
          have HE : Hid (ordTo 4 (k + 1) = ordTo 4 k ++ [to]) := by show _ = _; rw [hstep.out, hok.out, hob]; simp
          clear hob
          go_wp2_with fail
          refine hord.out.mono ?_
          rintro e w' ⟨rfl, rfl⟩
          rw [HO.out]
          go_wp2_with (at_builtin; refine wpList_pushVQ (w := wr) rfl (.tmp 36) (.tmp 38) rfl w.heap.size _ (ordTo 4 k) (by rfl) ho (by exact fun k' _ h => hz.out.block k' h (.inr (Nat.zero_le _))) (by exact hz.out.size) _ to (by exact ou.out) (wr.heap.size + 1) (by simp) (by rfl) hlen hzw ?_; intro v4 w4 o4 b4)
          rw [← HE.out] at o4
          go_roundw
          case rel => exact ⟨k + 1, by omega, by go_num, o4, hbN.out.trans b4⟩
          case measure => simp [intOf]; omega
        · obtain ⟨s, hsn, hs4⟩ : ∃ s : Nat, strain = (s : Int) ∧ s < 4 := ⟨strain.toNat, by have := HR.out; omega, by have := HR.out; omega⟩
          subst hsn
          have hsI : (s : Int) < 4 := by omega
          have hne4 : ((s : Int) == 4) = false := by simpa using h4
          obtain ⟨rb, ro, er, _, _, hrc⟩ := hrd.out.2 (by omega)
          injection er with er
          injection er with er1 er2 _
          subst er1; subst er2
          have q1 := hrc s hs4
          rw [Nat.zero_add] at q1
          have hs2 : to.getD (s : Int).toNat 0 = to.getD s 0 := by simp
          by_cases e : to.getD s 0 = (s : Int)
          · have HE : Hid (ordTo (s : Int) (k + 1) = ordTo (s : Int) k ++ [to]) := by show _ = _; rw [hstep.out, hok.out, hob, hs2, e, decide_eq_false (show ¬ (s : Int) = 4 by omega)]; simp
            rw [e] at q1
            clear hob h4 hrc hs2 e
            go_wp2_with fail
            refine hord.out.mono ?_
            rintro e w1 ⟨rfl, hw⟩
            rw [hw] at q1 ou hz hoN hbN
            rw [HO.out]
            clear hw
            go_wp2_with (at_builtin; refine wpList_pushVQ (w := wr) rfl (.tmp 36) (.tmp 38) rfl w.heap.size _ (ordTo (s : Int) k) (by rfl) ho (by exact fun k' _ h => hz.out.block k' h (.inr (Nat.zero_le _))) (by exact hz.out.size) _ to (by exact ou.out) w1.heap.size (by rfl) (by rfl) hlen hzw ?_; intro v4 w4 o4 b4)
            rw [← HE.out] at o4
            go_roundw
            case rel => exact ⟨k + 1, by omega, by go_num, o4, hbN.out.trans b4⟩
            case measure => simp [intOf]; omega
          · have HE : Hid (ordTo (s : Int) (k + 1) = ordTo (s : Int) k) := by show _ = _; rw [hstep.out, hok.out, hob, hs2, decide_eq_false e, decide_eq_false (show ¬ (s : Int) = 4 by omega)]; simp
            have hne : (to.getD s 0 == (s : Int)) = false := by simpa using e
            clear hob h4 hrc hs2 e
            generalize to.getD s 0 = y at q1 hne
            go_wp2_with fail
            refine hord.out.mono ?_
            rintro e w1 ⟨rfl, hw⟩
            rw [hw] at q1 ou hz hoN hbN
            rw [HO.out]
            clear hw
            go_wp2_with fail
            go_roundw
            case rel => exact ⟨k + 1, by omega, by go_num, by rw [HE.out]; exact hoN.out, hbN.out⟩
            case measure => simp [intOf]; omega
    · obtain rfl : k = 256 := by omega
      obtain ⟨A3, c3, rfl, hc3, own3⟩ := ho.form
      go_wp2_with fail
      go_ret
      exact ⟨_, rfl, ho, hb.out⟩

/-- spec.SuitOrders -/
theorem spec_SuitOrders (strain : Int) (w : World) : Calls Try.prog 34 #[.int .i64 strain] w (RetQ1 w (ordV strain)) := by
  cases hs : inB strain 0 4 with
  | false =>
    have hv : Hid (ordV strain = []) := by show _ = _; simp [ordV, hs]
    have HS := Lib.hid hs
    have ca := Lib.hid (Chg.of_alloc w (.cells #[] 24) 0 0)
    clear hs
    go_enter Try.func34, Try.ntmps34
    go_wp2_with fail
    refine (l01In strain 0 4 _).mono ?_
    rintro e w' ⟨rfl, rfl⟩
    rw [HS.out]
    go_wp2_with fail
    go_ret
    exact RetQ1.of_eq hv.out ⟨_, 0, rfl, Nat.le_refl _, OwnR.none_, ca.out⟩
  | true =>
    have hv : Hid (ordV strain = ordS strain) := by show _ = _; simp [ordV, hs]
    have HS := Lib.hid hs
    clear hs
    go_enter Try.func34, Try.ntmps34
    go_wp2_with fail
    refine (l01In strain 0 4 _).mono ?_
    rintro e w' ⟨rfl, rfl⟩
    rw [HS.out]
    go_wp2_with fail
    refine (l05Orders strain _ HS.out).mono ?_
    rintro e w2 ⟨v, rfl, ho, hb⟩
    obtain ⟨A3, c3, rfl, hc3, own3⟩ := ho.own
    go_wp2_with fail
    go_ret
    exact RetQ1.of_eq hv.out ⟨A3, c3, rfl, hc3, own3, Chg.of_below hb 0 0⟩

end Go.Proofs.Yteojdlacdnfgiaa.Lib1
