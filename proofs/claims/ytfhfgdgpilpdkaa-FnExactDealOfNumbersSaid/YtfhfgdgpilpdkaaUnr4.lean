/- Chapter 4: the subset of a number: the model's l04Unrank, UnrankSubset (program and model). -/
import Derived.Test.YtfhfgdgpilpdkaaRank4
namespace Go.Proofs.Ytfhfgdgpilpdkaa.Lib1
open Go.RowKit
set_option maxRecDepth 100000

/-- What is done, and what is to do, at place j with r elements taken and the number u. -/
def UnrAt (L : List Int) (K M j r u : Nat) (ys : List Int) : Prop := ys.length = r ∧ unrankN L K M = ys ++ unrankN (L.drop j) (K - r) u
theorem UnrAt.start (L : List Int) (K M : Nat) : UnrAt L K M 0 0 M [] := ⟨rfl, by simp⟩
theorem UnrAt.take {L : List Int} {K M j r u : Nat} {ys : List Int} (h : UnrAt L K M j r u ys) (hj : j < L.length) (hr : r < K) (hu : u < ch (L.length - 1 - j) (K - 1 - r)) : UnrAt L K M (j + 1) (r + 1) u (ys ++ [L.getD j 0]) := by
  refine ⟨by simp [h.1], ?_⟩
  rw [h.2, show K - r = (K - 1 - r) + 1 by omega, unr_take hj hu, show K - (r + 1) = K - 1 - r by omega, List.append_assoc]; rfl
theorem UnrAt.pass {L : List Int} {K M j r u : Nat} {ys : List Int} (h : UnrAt L K M j r u ys) (hj : j < L.length) (hr : r < K) (hu : ¬ u < ch (L.length - 1 - j) (K - 1 - r)) : UnrAt L K M (j + 1) r (u - ch (L.length - 1 - j) (K - 1 - r)) ys := by
  refine ⟨h.1, ?_⟩
  rw [h.2, show K - r = (K - 1 - r) + 1 by omega, unr_pass hj hu]
theorem UnrAt.over {L : List Int} {K M j r u : Nat} {ys : List Int} (h : UnrAt L K M j r u ys) (hr : r = K) : UnrAt L K M (j + 1) r u ys := by
  refine ⟨h.1, ?_⟩
  rw [h.2, hr, Nat.sub_self, unrankN_zero, unrankN_zero]
theorem UnrAt.done {L : List Int} {K M j r u : Nat} {ys : List Int} (h : UnrAt L K M j r u ys) (hj : L.length ≤ j ∨ r = K) : ys = unrankN L K M := by
  rw [h.2]
  rcases hj with hj | hj
  · rw [unr_end hj, List.append_nil]
  · rw [hj, Nat.sub_self, unrankN_zero, List.append_nil]

set_option maxHeartbeats 2000000 in
theorem l04Unrank (A : Option Addr) (n c K M : Nat) (L : List Int) (lo hi : Nat) (w : World) (h : Rd w lo hi A n L) (hn : n ≤ 52) (hK : K ≤ n) (hM : M ≤ 4503599627370496) :
    Calls Try.prog 107 #[.slice A n c, .int .i64 (K : Int), .int .i64 (M : Int)] w (RetV w (unrankN L K M)) := by
  have hL := Lib.hid h.1
  have ha := h.all
  clear h
  go_enter Try.func107, Try.ntmps107
  go_wp2
  go_loopw [2, 7, 8] (fun x v i wr => ∃ (j r u : Nat) (ys : List Int), j ≤ n ∧ r ≤ K ∧ u ≤ M ∧ i = .int .i64 j ∧ x = .int .i64 u ∧ OwnV wr w.heap.size v ys ∧ Below w.heap.size w wr ∧ Hid (UnrAt L K M j r u ys)) (fun _ _ i _ => n - (intOf i).toNat)
  case atStart => exact ⟨0, 0, M, [], Nat.zero_le _, Nat.zero_le _, Nat.le_refl _, rfl, rfl, OwnV.made w (Nat.le_refl _), (Below.refl _ _).alloc (Nat.le_refl _) _, UnrAt.start L K M⟩
  case round =>
    obtain ⟨j, r, u, ys, hj, hr, hu, rfl, rfl, ho, hb, hU⟩ := hrel
    have hylen : ys.length ≤ 1048576 := by rw [hU.out.1]; omega
    have hsize := hb.size
    obtain ⟨V, cv, rfl, _, _, _⟩ := ho.form_at hU.out.1
    by_cases hlt : j < n
    · have hjl : (j : Int) < (n : Int) := by omega
      have hLj : j < L.length := by rw [hL.out]; exact hlt
      by_cases hrK : r < K
      · have hrl : (r : Int) < (K : Int) := by omega
        have hv : chV ((n : Int) - 1 - (j : Int)).toNat ((K : Int) - 1 - (r : Int)) = (ch (n - 1 - j) (K - 1 - r) : Int) := by
          rw [show ((n : Int) - 1 - (j : Int)).toNat = n - 1 - j by omega, show (K : Int) - 1 - (r : Int) = ((K - 1 - r : Nat) : Int) by omega]; exact chV_ch
        have hy := ch_le (n := n - 1 - j) (K - 1 - r) (by omega)
        obtain ⟨b, off, rfl, _, _, hc⟩ := (ha.below hb (Nat.le_refl _)).2 (by omega)
        have hck := hc j hlt
        have hT := fun q => Lib.hid (hU.out.take hLj hrK q)
        have hP := fun q => Lib.hid (hU.out.pass hLj hrK q)
        rw [hL.out] at hT hP
        generalize ch (n - 1 - j) (K - 1 - r) = y at hv hy hT hP
        generalize L.getD j 0 = z at hck hT
        clear hc hU
        by_cases huy : u < y
        · have h1 : (u : Int) < (y : Int) := by omega
          have hU' := hT huy
          clear hT hP
          go_wp2_with (first | (go_at_call 99; refine (l04Choose_at _ _ y _ (by omega) (by omega) hv).mono ?_; rintro e w' ⟨rfl, rfl⟩) | (at_builtin; refine wpList_push rfl _ _ rfl w.heap.size _ _ rfl ho z rfl hylen hsize ?_; intro v3 w3 o3 b3))
          have hb3 := hb.trans b3
          clear ho hb b3
          go_roundw
          case rel => exact ⟨j + 1, r + 1, u, _, by omega, by omega, hu, by go_num, rfl, o3, hb3, hU'⟩
          case measure => simp [intOf]; omega
        · have h1 : ¬ (u : Int) < (y : Int) := by omega
          have hU' := hP huy
          clear hT hP
          go_wp2_with (go_at_call 99; refine (l04Choose_at _ _ y _ (by omega) (by omega) hv).mono ?_; rintro e w' ⟨rfl, rfl⟩)
          go_roundw
          case rel => exact ⟨j + 1, r, u - y, _, by omega, hr, by omega, by go_num, by go_num, ho, hb, hU'⟩
          case measure => simp [intOf]; omega
      · obtain rfl : r = K := by omega
        have hd := Lib.hid (hU.out.done (.inr rfl))
        go_wp2
        go_ret
        exact ⟨_, rfl, by rw [← hd.out]; exact ho, hb⟩
    · obtain rfl : j = n := by omega
      have hd := Lib.hid (hU.out.done (.inl (by rw [hL.out]; exact Nat.le_refl _)))
      go_wp2
      go_ret
      exact ⟨_, rfl, by rw [← hd.out]; exact ho, hb⟩

theorem RetSI.of_eq {w w' : World} {e : Ending} {zs zs' : List Int} {k k' : Int} (hz : zs' = zs) (hk : k' = k) (h : RetSI w zs k e w') : RetSI w zs' k' e w' := by rw [hz, hk]; exact h

set_option maxHeartbeats 4000000 in
theorem impl_UnrankSubset (A : Option Addr) (n c : Nat) (k num : Int) (L : List Int) (lo hi : Nat) (w : World) (h : Rd w lo hi A n L) (hn : n ≤ 1048576) :
    Calls Try.prog 36 #[.slice A n c, .int .i64 k, .int .i64 num] w (RetSI w (unrV L k num) (unrC L k num)) := by
  have hL := Lib.hid h.1
  have ha := h.all
  cases hd : risingB L with
  | false =>
    have e1 := Lib.hid (unrC_no1 (k := k) (num := num) hd)
    have e2 := Lib.hid (unrV_no e1.out (by omega))
    have HD := Lib.hid hd
    clear hd
    go_enter Try.func36, Try.ntmps36
    go_wp2_with (go_at_call 94; refine (isCardList _ _ _ L lo hi _ h hn).mono ?_; rw [HD.out]; rintro e w' ⟨rfl, rfl⟩)
    go_ret2
    exact RetSI.of_eq e2.out e1.out (RetSI.nil_ (Chg.refl _ _ _))
  | true =>
    have hn52 : n ≤ 52 := by rw [← hL.out]; exact rising_len hd
    have HD := Lib.hid hd
    by_cases hk : 0 ≤ k ∧ k ≤ n
    · have hk' : 0 ≤ k ∧ k ≤ L.length := by rw [hL.out]; exact hk
      obtain ⟨K, rfl⟩ := Int.eq_ofNat_of_zero_le hk.1
      have hKn : K ≤ n := by omega
      have hK0 : ¬ (K : Int) < 0 := by omega
      have hK1 : ¬ (n : Int) < (K : Int) := by omega
      have hbin : binV (n : Int) (K : Int) = (ch n K : Int) := binV_yes hn52 hKn
      have hch := ch_le K hn52
      by_cases hm : 0 ≤ num ∧ num < (ch n K : Int)
      · have e1 := Lib.hid (unrC_yes hd hk' (by rw [hL.out]; exact hm))
        have e2 := Lib.hid (unrV_yes e1.out)
        obtain ⟨M, rfl⟩ := Int.eq_ofNat_of_zero_le hm.1
        have hM : M ≤ 4503599627370496 := by omega
        have hm0 : ¬ (M : Int) < 0 := by omega
        have hm1 : ¬ (ch n K : Int) ≤ (M : Int) := by omega
        clear hd hk' hm hk
        generalize ch n K = C at hbin hch hm1
        have hm2 : ¬ C ≤ M := by omega
        go_enter Try.func36, Try.ntmps36
        go_wp2_with (first | (go_at_call 94; refine (isCardList _ _ _ L lo hi _ h hn).mono ?_; rw [HD.out]; rintro e w' ⟨rfl, rfl⟩) | (go_at_call 33; refine (impl_Binomial _ _ _).mono ?_; rw [hbin]; rintro e w' ⟨rfl, rfl⟩))
        clear h
        go_loopw [2, 8, 35] (fun x v i wr => ∃ (j r u : Nat) (ys : List Int), j ≤ n ∧ r ≤ K ∧ u ≤ M ∧ i = .int .i64 j ∧ x = .int .i64 u ∧ OwnV wr w.heap.size v ys ∧ Below w.heap.size w wr ∧ Hid (UnrAt L K M j r u ys)) (fun _ _ i _ => n - (intOf i).toNat)
        case atStart => exact ⟨0, 0, M, [], Nat.zero_le _, Nat.zero_le _, Nat.le_refl _, rfl, rfl, OwnV.nil_ _ _, Below.refl _ _, UnrAt.start L K M⟩
        case round =>
          obtain ⟨j, r, u, ys, hj, hr, hu, rfl, rfl, ho, hb, hU⟩ := hrel
          have hylen : ys.length ≤ 1048576 := by rw [hU.out.1]; omega
          have hsize := hb.size
          obtain ⟨V, cv, rfl, _, _, _⟩ := ho.form_at hU.out.1
          by_cases hlt : j < n
          · have hjl : (j : Int) < (n : Int) := by omega
            have hLj : j < L.length := by rw [hL.out]; exact hlt
            obtain ⟨b, off, rfl, _, _, hc⟩ := (ha.below hb (Nat.le_refl _)).2 (by omega)
            have hck := hc j hlt
            by_cases hrK : r < K
            · have hv : binV ((n : Int) - (j : Int) - 1) ((K : Int) - (r : Int) - 1) = (ch (n - 1 - j) (K - 1 - r) : Int) := by
                rw [show (n : Int) - (j : Int) - 1 = ((n - 1 - j : Nat) : Int) by omega, show (K : Int) - (r : Int) - 1 = ((K - 1 - r : Nat) : Int) by omega]; exact binV_ch (by omega)
              have hy := ch_le (n := n - 1 - j) (K - 1 - r) (by omega)
              have hT := fun q => Lib.hid (hU.out.take hLj hrK q)
              have hP := fun q => Lib.hid (hU.out.pass hLj hrK q)
              rw [hL.out] at hT hP
              generalize ch (n - 1 - j) (K - 1 - r) = y at hv hy hT hP
              generalize L.getD j 0 = z at hck hT
              clear hc hU
              by_cases huy : u < y
              · have h1 : (u : Int) < (y : Int) := by omega
                have hU' := hT huy
                clear hT hP
                go_wp2_with (first | (go_at_call 97; refine (waysBehind_at _ n _ j _ y _ (by omega) hlt hv).mono ?_; rintro e w' ⟨rfl, rfl⟩) | (at_builtin; refine wpList_push rfl _ _ rfl w.heap.size _ _ rfl ho z rfl hylen hsize ?_; intro v3 w3 o3 b3))
                have hb3 := hb.trans b3
                clear ho hb b3
                go_roundw
                case rel => exact ⟨j + 1, r + 1, u, _, by omega, by omega, hu, by go_num, rfl, o3, hb3, hU'⟩
                case measure => simp [intOf]; omega
              · have h1 : ¬ (u : Int) < (y : Int) := by omega
                have hU' := hP huy
                clear hT hP
                go_wp2_with (go_at_call 97; refine (waysBehind_at _ n _ j _ y _ (by omega) hlt hv).mono ?_; rintro e w' ⟨rfl, rfl⟩)
                go_roundw
                case rel => exact ⟨j + 1, r, u - y, _, by omega, hr, by omega, by go_num, by go_num, ho, hb, hU'⟩
                case measure => simp [intOf]; omega
            · obtain rfl : r = K := by omega
              have hv : binV ((n : Int) - (j : Int) - 1) (-1) = 0 := binV_no2 (by omega) (by omega)
              have e0 : (r : Int) - (r : Int) - 1 = -1 := by omega
              have h1 : ¬ (u : Int) < 0 := by omega
              have hU' := Lib.hid (hU.out.over rfl)
              generalize L.getD j 0 = z at hck
              clear hc hU
              go_wp2_with (go_at_call 97; refine (waysBehind_at _ n _ j _ 0 _ (by omega) hlt (by first | exact hv | (rw [e0]; exact hv))).mono ?_; rintro e w' ⟨rfl, rfl⟩)
              go_roundw
              case rel => exact ⟨j + 1, r, u, _, by omega, hr, hu, by go_num, by go_num, ho, hb, hU'⟩
              case measure => simp [intOf]; omega
          · obtain rfl : j = n := by omega
            have hd := Lib.hid (hU.out.done (.inl (by rw [hL.out]; exact Nat.le_refl _)))
            go_wp2
            go_ret2
            exact RetSI.of_eq (e2.out.trans hd.out.symm) e1.out (RetSI.of_own ho hb)
      · have e1 := Lib.hid (unrC_no3 hd hk' (by rw [hL.out]; exact hm))
        have e2 := Lib.hid (unrV_no e1.out (by omega))
        by_cases hm0 : num < 0
        · clear hd hk' hm hk
          go_enter Try.func36, Try.ntmps36
          go_wp2_with (go_at_call 94; refine (isCardList _ _ _ L lo hi _ h hn).mono ?_; rw [HD.out]; rintro e w' ⟨rfl, rfl⟩)
          go_ret2
          exact RetSI.of_eq e2.out e1.out (RetSI.nil_ (Chg.refl _ _ _))
        · have hm1 : (ch n K : Int) ≤ num := by omega
          clear hd hk' hm hk
          generalize ch n K = C at hbin hch hm1
          go_enter Try.func36, Try.ntmps36
          go_wp2_with (first | (go_at_call 94; refine (isCardList _ _ _ L lo hi _ h hn).mono ?_; rw [HD.out]; rintro e w' ⟨rfl, rfl⟩) | (go_at_call 33; refine (impl_Binomial _ _ _).mono ?_; rw [hbin]; rintro e w' ⟨rfl, rfl⟩))
          go_ret2
          exact RetSI.of_eq e2.out e1.out (RetSI.nil_ (Chg.refl _ _ _))
    · have e1 := Lib.hid (unrC_no2 (num := num) hd (by rw [hL.out]; exact hk))
      have e2 := Lib.hid (unrV_no e1.out (by omega))
      by_cases hk0 : k < 0
      · clear hd hk
        go_enter Try.func36, Try.ntmps36
        go_wp2_with (go_at_call 94; refine (isCardList _ _ _ L lo hi _ h hn).mono ?_; rw [HD.out]; rintro e w' ⟨rfl, rfl⟩)
        go_ret2
        exact RetSI.of_eq e2.out e1.out (RetSI.nil_ (Chg.refl _ _ _))
      · have hk1 : (n : Int) < k := by omega
        clear hd hk
        go_enter Try.func36, Try.ntmps36
        go_wp2_with (go_at_call 94; refine (isCardList _ _ _ L lo hi _ h hn).mono ?_; rw [HD.out]; rintro e w' ⟨rfl, rfl⟩)
        go_ret2
        exact RetSI.of_eq e2.out e1.out (RetSI.nil_ (Chg.refl _ _ _))
end Go.Proofs.Ytfhfgdgpilpdkaa.Lib1
