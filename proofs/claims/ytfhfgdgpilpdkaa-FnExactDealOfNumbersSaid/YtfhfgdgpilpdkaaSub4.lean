/- Chapter 4: the model's functions over card lists and hands: RankSubset, UnrankSubset, NextSubset, HandNumber, HandOfNumber, and what helps them. -/
import Derived.Test.YtfhfgdgpilpdkaaUnr4
namespace Go.Proofs.Ytfhfgdgpilpdkaa.Lib1
open Go.RowKit
set_option maxRecDepth 100000

theorem RetSI.of_V {w w1 w' : World} {V : Value} {zs : List Int} {k : Int} (hb : Chg w w1 0 0) (o : OwnV w' w1.heap.size V zs) (b : Below w1.heap.size w1 w') : RetSI w zs k (.returned (.tuple #[V, .int .i64 k])) w' := by
  obtain ⟨A, c, rfl, h1, h2, h3⟩ := o.form
  have hs := hb.size
  exact ⟨A, c, rfl, h1, h2, h3.more hs (Nat.le_refl _), hb.trans (Chg.of_below b _ _)⟩
theorem RetSI.of_later {w w1 w' : World} {zs : List Int} {k : Int} {e : Ending} (hb : Chg w w1 0 0) (h : RetSI w1 zs k e w') : RetSI w zs k e w' := by
  obtain ⟨A, c, rfl, h1, h2, h3, h4⟩ := h
  have hs := hb.size
  exact ⟨A, c, rfl, h1, h2, h3.more hs (Nat.le_refl _), hb.trans h4⟩

set_option maxHeartbeats 2000000 in
theorem spec_UnrankSubset (A : Option Addr) (n c : Nat) (k num : Int) (L : List Int) (lo hi : Nat) (w : World) (h : Rd w lo hi A n L) (hn : n ≤ 1048576) :
    Calls Try.prog 51 #[.slice A n c, .int .i64 k, .int .i64 num] w (RetSI w (unrV L k num) (unrC L k num)) := by
  have hL := Lib.hid h.1
  cases hd : risingB L with
  | false =>
    have e1 := Lib.hid (unrC_no1 (k := k) (num := num) hd)
    have e2 := Lib.hid (unrV_no e1.out (by omega))
    have HD := Lib.hid hd
    clear hd
    go_enter Try.func51, Try.ntmps51
    go_wp2_with (go_at_call 103; refine (l01Rising _ _ _ L lo hi _ h hn).mono ?_; rw [HD.out]; rintro e w1 ⟨rfl, hc⟩)
    go_ret2
    exact RetSI.of_eq e2.out e1.out (RetSI.empty_made _ _ _ hc)
  | true =>
    have hn52 : n ≤ 52 := by rw [← hL.out]; exact rising_len hd
    have HD := Lib.hid hd
    by_cases hk : 0 ≤ k ∧ k ≤ n
    · have hk' : 0 ≤ k ∧ k ≤ L.length := by rw [hL.out]; exact hk
      have b1 := inB_true hk
      obtain ⟨K, rfl⟩ := Int.eq_ofNat_of_zero_le hk.1
      have hKn : K ≤ n := by omega
      have m1 : chV ((n : Int)).toNat (K : Int) = (ch n K : Int) := by rw [show ((n : Int)).toNat = n by omega]; exact chV_ch
      have m2 : chV ((n : Int)).toNat ((n : Int) - (K : Int)) = (ch n K : Int) := by
        rw [show ((n : Int)).toNat = n by omega, show (n : Int) - (K : Int) = ((n - K : Nat) : Int) by omega, chV_ch, ch_symm n K hKn]
      have hch := ch_le K hn52
      have hcp := ch_pos n K hKn
      by_cases hm : 0 ≤ num ∧ num < (ch n K : Int)
      · have e1 := Lib.hid (unrC_yes hd hk' (by rw [hL.out]; exact hm))
        have e2 := Lib.hid (unrV_yes e1.out)
        obtain ⟨M, rfl⟩ := Int.eq_ofNat_of_zero_le hm.1
        have hM : M ≤ 4503599627370496 := by omega
        have b2 : inB (M : Int) 0 ((ch n K : Int) - 1) = true := inB_true (by omega)
        clear hd hk' hm hk
        generalize ch n K = C at m1 m2 hch hcp b2
        go_enter Try.func51, Try.ntmps51
        go_wp2_with (first | (go_at_call 103; refine (l01Rising _ _ _ L lo hi _ h hn).mono ?_; rw [HD.out]; rintro e w1 ⟨rfl, hc⟩; have h1 := h.still hc; clear h) | (go_at_call 98; refine (l01In _ _ _ _).mono ?_; rintro e w' ⟨rfl, rfl⟩) | (go_at_call 99; refine (l04Choose_at _ _ C _ (by omega) (by omega) (by first | exact m1 | exact m2)).mono ?_; rintro e w' ⟨rfl, rfl⟩) | (go_at_call 107; refine (l04Unrank _ n _ K M L lo hi _ h1 hn52 hKn hM).mono ?_; rintro e w2 ⟨V, rfl, o2, b2⟩))
        all_goals
          go_ret2
          exact RetSI.of_eq e2.out e1.out (RetSI.of_V hc o2 b2)
      · have e1 := Lib.hid (unrC_no3 hd hk' (by rw [hL.out]; exact hm))
        have e2 := Lib.hid (unrV_no e1.out (by omega))
        have b2 : inB num 0 ((ch n K : Int) - 1) = false := inB_false (by omega)
        clear hd hk' hm hk
        generalize ch n K = C at m1 m2 hch hcp b2
        go_enter Try.func51, Try.ntmps51
        go_wp2_with (first | (go_at_call 103; refine (l01Rising _ _ _ L lo hi _ h hn).mono ?_; rw [HD.out]; rintro e w1 ⟨rfl, hc⟩) | (go_at_call 98; refine (l01In _ _ _ _).mono ?_; rintro e w' ⟨rfl, rfl⟩) | (go_at_call 99; refine (l04Choose_at _ _ C _ (by omega) (by omega) (by first | exact m1 | exact m2)).mono ?_; rintro e w' ⟨rfl, rfl⟩))
        all_goals
          go_ret2
          exact RetSI.of_eq e2.out e1.out (RetSI.empty_made _ _ _ hc)
    · have e1 := Lib.hid (unrC_no2 (num := num) hd (by rw [hL.out]; exact hk))
      have e2 := Lib.hid (unrV_no e1.out (by omega))
      have b1 := inB_false hk
      clear hd hk
      go_enter Try.func51, Try.ntmps51
      go_wp2_with (first | (go_at_call 103; refine (l01Rising _ _ _ L lo hi _ h hn).mono ?_; rw [HD.out]; rintro e w1 ⟨rfl, hc⟩) | (go_at_call 98; refine (l01In _ _ _ _).mono ?_; rintro e w' ⟨rfl, rfl⟩))
      go_ret2
      exact RetSI.of_eq e2.out e1.out (RetSI.empty_made _ _ _ hc)

/-! ### RankSubset -/
def RetII (w : World) (a b : Int) (e : Ending) (w' : World) : Prop := e = .returned (.tuple #[.int .i64 a, .int .i64 b]) ∧ Chg w w' 0 0
theorem RetII.of_eq {w w' : World} {a b a' b' : Int} {e : Ending} (ha : a' = a) (hb : b' = b) (h : RetII w a b e w') : RetII w a' b' e w' := by rw [ha, hb]; exact h
theorem all_no {L S : List Int} {k : Nat} (hk : k < S.length) (h : hasB L (S.getD k 0) = false) : S.all (hasB L) = false := by
  rw [List.all_eq_false]
  exact ⟨S.getD k 0, by rw [getD_eq hk]; exact List.getElem_mem _, by rw [h]; simp⟩
theorem all_yes {L S : List Int} (h : ∀ j, j < S.length → hasB L (S.getD j 0) = true) : S.all (hasB L) = true := by
  rw [List.all_eq_true]
  intro z hz
  obtain ⟨j, hj, rfl⟩ := List.getElem_of_mem hz
  have := h j hj
  rwa [getD_eq hj] at this

set_option maxHeartbeats 2000000 in
theorem spec_RankSubset (A B : Option Addr) (n c m d : Nat) (L S : List Int) (lo hi lo' hi' : Nat) (w : World) (h : Rd w lo hi A n L) (h' : Rd w lo' hi' B m S) (hn : n ≤ 1048576) (hm : m ≤ 1048576) :
    Calls Try.prog 48 #[.slice A n c, .slice B m d] w (RetII w (rnkV L S) (rnkC L S)) := by
  have hL := Lib.hid h.1
  have hS := Lib.hid h'.1
  cases hd : risingB L with
  | false =>
    have e1 := Lib.hid (rnkC_no1 (S := S) hd)
    have e2 := Lib.hid (rnkV_no e1.out (by omega))
    have HD := Lib.hid hd
    clear hd
    go_enter Try.func48, Try.ntmps48
    go_wp2_with (go_at_call 103; refine (l01Rising _ _ _ L lo hi _ h hn).mono ?_; rw [HD.out]; rintro e w1 ⟨rfl, hc⟩)
    go_ret2
    exact RetII.of_eq e2.out e1.out ⟨rfl, hc⟩
  | true =>
    cases hs : risingB S with
    | false =>
      have e1 := Lib.hid (rnkC_no2 (L := L) hs)
      have e2 := Lib.hid (rnkV_no e1.out (by omega))
      have HD := Lib.hid hd
      have HS := Lib.hid hs
      clear hd hs
      go_enter Try.func48, Try.ntmps48
      go_wp2_with (first | (go_at_call 103; refine (l01Rising _ _ _ S lo' hi' _ (h'.still hc) hm).mono ?_; rw [HS.out]; rintro e w2 ⟨rfl, hc2⟩) | (go_at_call 103; refine (l01Rising _ _ _ L lo hi _ h hn).mono ?_; rw [HD.out]; rintro e w1 ⟨rfl, hc⟩))
      go_ret2
      exact RetII.of_eq e2.out e1.out ⟨rfl, hc.trans hc2⟩
    | true =>
      have hn52 : n ≤ 52 := by rw [← hL.out]; exact rising_len hd
      have hm52 : m ≤ 52 := by rw [← hS.out]; exact rising_len hs
      have HD := Lib.hid hd
      have HS := Lib.hid hs
      clear hd hs
      go_enter Try.func48, Try.ntmps48
      go_wp2_with (first | (go_at_call 103; refine (l01Rising _ _ _ S lo' hi' _ (h'.still hc) hm).mono ?_; rw [HS.out]; rintro e w2 ⟨rfl, hc2⟩) | (go_at_call 103; refine (l01Rising _ _ _ L lo hi _ h hn).mono ?_; rw [HD.out]; rintro e w1 ⟨rfl, hc⟩))
      have h2 := (h.still hc).still hc2
      have h2' := (h'.still hc).still hc2
      have c2 := hc.trans hc2
      clear h h' hc hc2
      go_loop [6] (fun i => ∃ k : Nat, k ≤ m ∧ i = .int .i64 k ∧ Hid (∀ j, j < k → hasB L (S.getD j 0) = true)) (fun i => m - (intOf i).toNat)
      case atStart => exact ⟨0, Nat.zero_le _, rfl, fun j hj => by omega⟩
      case round =>
        obtain ⟨k, hk, rfl, hh⟩ := hrel
        by_cases hlt : k < m
        · have hkl : (k : Int) < (m : Int) := by omega
          have hSk : k < S.length := by rw [hS.out]; exact hlt
          obtain ⟨b, off, rfl, _, _, hcs⟩ := h2'.2 (by omega)
          have hck := hcs k hlt
          cases hb : hasB L (S.getD k 0) with
          | false =>
            have e1 := Lib.hid (rnkC_no3 HD.out HS.out (all_no hSk hb))
            have e2 := Lib.hid (rnkV_no e1.out (by omega))
            have HB := Lib.hid hb
            clear hb hh hcs
            generalize S.getD k 0 = z at hck HB
            go_wp2_with (go_at_call 105; refine (l01Has _ _ _ z L lo hi _ h2 hn).mono ?_; rw [HB.out]; rintro e w' ⟨rfl, rfl⟩)
            go_ret2
            exact RetII.of_eq e2.out e1.out ⟨rfl, c2⟩
          | true =>
            have hh' : Hid (∀ j, j < k + 1 → hasB L (S.getD j 0) = true) := fun j hj => by
              by_cases e : j = k
              · subst e; exact hb
              · exact hh.out j (by omega)
            have HB := Lib.hid hb
            clear hb hh hcs
            generalize S.getD k 0 = z at hck HB
            go_wp2_with (go_at_call 105; refine (l01Has _ _ _ z L lo hi _ h2 hn).mono ?_; rw [HB.out]; rintro e w' ⟨rfl, rfl⟩)
            go_round
            case rel => exact ⟨k + 1, by omega, by go_num, hh'⟩
            case measure => simp [intOf]; omega
        · obtain rfl : k = m := by omega
          have e1 := Lib.hid (rnkC_yes HD.out HS.out (all_yes (fun j hj => hh.out j (by rw [← hS.out]; exact hj))))
          have e2 := Lib.hid (rnkV_yes e1.out)
          clear hh
          go_wp2_with (go_at_call 106; refine (l04Rank _ _ n _ k _ L S lo hi lo' hi' _ h2 h2' hn52 hm52).mono ?_; rintro e w3 ⟨rfl, hq⟩)
          go_ret2
          exact RetII.of_eq e2.out e1.out ⟨rfl, c2.trans (Chg.of_drew hq _ _)⟩

/-! ### NextSubset -/
theorem nextC_no {L S : List Int} {k : Int} (h : rnkC L S = k) (hk : k ≠ 0) : nextC L S = k := by simp [nextC, h, hk]
theorem nextV_no {L S : List Int} {k : Int} (h : rnkC L S = k) (hk : k ≠ 0) : nextV L S = [] := by simp [nextV, h, hk]
theorem nextC_yes {L S : List Int} (h : rnkC L S = 0) : nextC L S = unrC L S.length (rnkV L S + 1) := by simp [nextC, h]
theorem nextV_yes {L S : List Int} (h : rnkC L S = 0) : nextV L S = unrV L S.length (rnkV L S + 1) := by simp [nextV, h]
theorem rnkV_small {L S : List Int} (h : rnkC L S = 0) : 0 ≤ rnkV L S ∧ rnkV L S ≤ 4503599627370496 := by
  rw [rnkV_yes h]
  have := rankN_small (l := L) (s := S) (rising_len (rnkC_zero h).1)
  omega
set_option maxHeartbeats 2000000 in
theorem spec_NextSubset (A B : Option Addr) (n c m d : Nat) (L S : List Int) (lo hi lo' hi' : Nat) (w : World) (h : Rd w lo hi A n L) (h' : Rd w lo' hi' B m S) (hn : n ≤ 1048576) (hm : m ≤ 1048576) :
    Calls Try.prog 54 #[.slice A n c, .slice B m d] w (RetSI w (nextV L S) (nextC L S)) := by
  have hS := Lib.hid h'.1
  rcases rnkC_cases L S with h0 | h0 | h0
  · have e1 := Lib.hid (nextC_yes h0)
    have e2 := Lib.hid (nextV_yes h0)
    have H0 := Lib.hid h0
    obtain ⟨v0, v1⟩ := rnkV_small h0
    rw [hS.out] at e1 e2
    clear h0
    go_enter Try.func54, Try.ntmps54
    go_wp2_with fail
    refine (spec_RankSubset _ _ n _ m _ L S lo hi lo' hi' _ h h' hn hm).mono ?_
    rintro e w1 ⟨rfl, c1⟩
    rw [H0.out]
    generalize rnkV L S = v at v0 v1 e1 e2
    go_wp2_with fail
    refine (spec_UnrankSubset _ n _ _ _ L lo hi _ (h.still c1) hn).mono ?_
    rw [← e1.out, ← e2.out]
    rintro e w2 ⟨V, cv, rfl, r⟩
    go_wp2_with fail
    go_ret2
    exact RetSI.of_later c1 ⟨V, cv, rfl, r⟩
  · have e1 := Lib.hid (nextC_no h0 (by omega))
    have e2 := Lib.hid (nextV_no h0 (by omega))
    have H0 := Lib.hid h0
    clear h0
    go_enter Try.func54, Try.ntmps54
    go_wp2_with (go_at_call 48; refine (spec_RankSubset _ _ n _ m _ L S lo hi lo' hi' _ h h' hn hm).mono ?_; rw [H0.out]; rintro e w1 ⟨rfl, c1⟩)
    go_ret2
    exact RetSI.of_eq e2.out e1.out (RetSI.empty_made _ _ _ c1)
  · have e1 := Lib.hid (nextC_no h0 (by omega))
    have e2 := Lib.hid (nextV_no h0 (by omega))
    have H0 := Lib.hid h0
    clear h0
    go_enter Try.func54, Try.ntmps54
    go_wp2_with (go_at_call 48; refine (spec_RankSubset _ _ n _ m _ L S lo hi lo' hi' _ h h' hn hm).mono ?_; rw [H0.out]; rintro e w1 ⟨rfl, c1⟩)
    go_ret2
    exact RetSI.of_eq e2.out e1.out (RetSI.empty_made _ _ _ c1)

/-! ### All cards, HandNumber, HandOfNumber -/
set_option maxHeartbeats 1000000 in
theorem l04All (w : World) : Calls Try.prog 108 #[] w (RetV w (allL 52)) := by
  go_enter Try.func108, Try.ntmps108
  go_wp2
  go_loopw [1, 2] (fun v i wr => ∃ k : Nat, k ≤ 52 ∧ i = .int .i64 k ∧ OwnV wr w.heap.size v (allL k) ∧ Below w.heap.size w wr) (fun _ i _ => 52 - (intOf i).toNat)
  case atStart => exact ⟨0, Nat.zero_le _, rfl, OwnV.made w (Nat.le_refl _), (Below.refl _ _).alloc (Nat.le_refl _) _⟩
  case round =>
    obtain ⟨k, hk, rfl, ho, hb⟩ := hrel
    by_cases hlt : k < 52
    · have hkl : (k : Int) < 52 := by omega
      have hlen : (allL k).length ≤ 1048576 := by rw [allL_length]; omega
      have hsize := hb.size
      have hs := Lib.hid (allL_succ k)
      go_wp2_with (at_builtin; refine wpList_push rfl _ _ rfl w.heap.size _ _ rfl ho _ rfl hlen hsize ?_; intro v1 w1 o1 b1)
      rw [← hs.out] at o1
      have hb1 := hb.trans b1
      clear ho hb b1 hs
      go_roundw
      case rel => exact ⟨k + 1, by omega, by go_num, o1, hb1⟩
      case measure => simp [intOf]; omega
    · obtain rfl : k = 52 := by omega
      go_wp2
      go_ret
      exact ⟨_, rfl, ho, hb⟩

theorem handNo_no {S : List Int} (h : handB S = false) : handNo S = -1 := by simp [handNo, h]
theorem handNo_yes {S : List Int} (h : handB S = true) : handNo S = (rankN (allL 52) S : Int) := by simp [handNo, h]
set_option maxHeartbeats 1000000 in
theorem spec_HandNumber (A : Option Addr) (n c : Nat) (S : List Int) (lo hi : Nat) (w : World) (h : Rd w lo hi A n S) (hn : n ≤ 1048576) :
    Calls Try.prog 55 #[.slice A n c] w fun e w' => e = .returned (.int .i64 (handNo S)) ∧ Chg w w' 0 0 := by
  have hS := Lib.hid h.1
  have ha := h.all
  cases hd : handB S with
  | false =>
    have e1 := Lib.hid (handNo_no hd)
    have HD := Lib.hid hd
    clear hd
    go_enter Try.func55, Try.ntmps55
    go_wp2_with (go_at_call 41; refine (spec_IsHand _ _ _ S lo hi _ h hn).mono ?_; rw [HD.out]; rintro e w1 ⟨rfl, c1⟩)
    go_ret
    exact ⟨ret_int e1.out.symm, c1⟩
  | true =>
    have e1 := Lib.hid (handNo_yes hd)
    have HD := Lib.hid hd
    have h13 : n ≤ 52 := by have := hand_len hd; rw [hS.out] at this; omega
    clear hd
    go_enter Try.func55, Try.ntmps55
    go_wp2_with fail
    refine (spec_IsHand _ _ _ S lo hi _ h hn).mono ?_
    rw [HD.out]
    rintro e w1 ⟨rfl, c1⟩
    go_wp2_with fail
    refine (l04All _).mono ?_
    rintro e w2 ⟨V, rfl, o2, b2⟩
    obtain ⟨B, cb, rfl, _, _, o3⟩ := o2.form_at (allL_length 52)
    have c2 := c1.trans (Chg.of_below b2 0 0)
    go_wp2_with fail
    refine (l04Rank _ _ 52 _ n _ (allL 52) S _ _ lo hi _ o3.rd (h.still c2) (Nat.le_refl _) h13).mono ?_
    rintro e w3 ⟨rfl, hq⟩
    go_wp2_with fail
    go_ret
    exact ⟨ret_int e1.out.symm, c2.trans (Chg.of_drew hq _ _)⟩

theorem handOf_no {n num : Int} (h : ¬ (0 ≤ n ∧ n ≤ 13)) : handOfC n num = 2 ∧ handOfV n num = [] := by unfold handOfC handOfV; rw [if_neg h, if_neg h]; exact ⟨rfl, rfl⟩
theorem handOf_yes {n num : Int} (h : 0 ≤ n ∧ n ≤ 13) : handOfC n num = unrC (allL 52) n num ∧ handOfV n num = unrV (allL 52) n num := by unfold handOfC handOfV; rw [if_pos h, if_pos h]; exact ⟨rfl, rfl⟩
set_option maxHeartbeats 1000000 in
theorem spec_HandOfNumber (n num : Int) (w : World) :
    Calls Try.prog 56 #[.int .i64 n, .int .i64 num] w (RetSI w (handOfV n num) (handOfC n num)) := by
  by_cases hk : 0 ≤ n ∧ n ≤ 13
  · have b1 := inB_true hk
    obtain ⟨e1, e2⟩ := handOf_yes (num := num) hk
    rw [e1, e2]
    clear e1 e2 hk
    go_enter Try.func56, Try.ntmps56
    go_wp2_with fail
    refine (l01In _ _ _ _).mono ?_
    rw [b1]
    rintro e w1 ⟨rfl, rfl⟩
    go_wp2_with fail
    refine (l04All _).mono ?_
    rintro e w2 ⟨V, rfl, o2, b2⟩
    obtain ⟨B, cb, rfl, _, _, o3⟩ := o2.form_at (allL_length 52)
    have c2 := Chg.of_below b2 0 0
    go_wp2_with fail
    refine (spec_UnrankSubset _ 52 _ _ _ (allL 52) _ _ _ o3.rd (by omega)).mono ?_
    rintro e w3 ⟨X, cx, rfl, r⟩
    go_wp2_with fail
    go_ret2
    exact RetSI.of_later c2 ⟨X, cx, rfl, r⟩
  · have b1 := inB_false hk
    obtain ⟨e1, e2⟩ := handOf_no (num := num) hk
    rw [e1, e2]
    clear e1 e2 hk
    go_enter Try.func56, Try.ntmps56
    go_wp2_with (go_at_call 98; refine (l01In _ _ _ _).mono ?_; rw [b1]; rintro e w1 ⟨rfl, rfl⟩)
    go_ret2
    exact RetSI.empty_made _ _ _ (Chg.refl _ _ _)

/-! ### l04Rest -/
set_option maxHeartbeats 1000000 in
theorem l04Rest (A B : Option Addr) (n c m d : Nat) (L R : List Int) (lo hi lo' hi' : Nat) (w : World) (h : Rd w lo hi A n L) (h' : Rd w lo' hi' B m R) (hn : n ≤ 1048576) (hm : m ≤ 1048576) :
    Calls Try.prog 110 #[.slice A n c, .slice B m d] w (RetV w (restL L R)) := by
  have hL := Lib.hid h.1
  have ha := h.all
  have ha' := h'.all
  clear h h'
  go_enter Try.func110, Try.ntmps110
  go_wp2
  go_loopw [5, 6] (fun v i wr => ∃ k : Nat, k ≤ n ∧ i = .int .i64 k ∧ OwnV wr w.heap.size v (restL (L.take k) R) ∧ Below w.heap.size w wr) (fun _ i _ => n - (intOf i).toNat)
  case atStart => exact ⟨0, Nat.zero_le _, rfl, OwnV.made w (Nat.le_refl _), (Below.refl _ _).alloc (Nat.le_refl _) _⟩
  case round =>
    obtain ⟨k, hk, rfl, ho, hb⟩ := hrel
    by_cases hlt : k < n
    · have hkl : (k : Int) < (n : Int) := by omega
      have hLk : k < L.length := by rw [hL.out]; exact hlt
      obtain ⟨b, off, rfl, _, _, hc⟩ := (ha.below hb (Nat.le_refl _)).2 (by omega)
      have hr := ha'.below hb (Nat.le_refl _)
      have hck := hc k hlt
      have hlen : (restL (L.take k) R).length ≤ 1048576 := by have := restL_le (L.take k) R; simp at this; omega
      have hsize := hb.size
      cases hh : hasB R (L.getD k 0) with
      | true =>
        have HH := Lib.hid hh
        have hs := Lib.hid (restL_yes hLk hh)
        clear hc hh
        generalize L.getD k 0 = z at hck HH
        rw [← hs.out] at ho
        go_wp2_with (go_at_call 105; refine (l01Has _ _ _ z R _ _ _ hr hm).mono ?_; rw [HH.out]; rintro e w' ⟨rfl, rfl⟩)
        go_roundw
        case rel => exact ⟨k + 1, by omega, by go_num, ho, hb⟩
        case measure => simp [intOf]; omega
      | false =>
        have HH := Lib.hid hh
        have hs := Lib.hid (restL_no hLk hh)
        clear hc hh
        generalize L.getD k 0 = z at hck HH hs
        go_wp2_with (first | (go_at_call 105; refine (l01Has _ _ _ z R _ _ _ hr hm).mono ?_; rw [HH.out]; rintro e w' ⟨rfl, rfl⟩) | (at_builtin; refine wpList_push rfl _ _ rfl w.heap.size _ _ rfl ho z rfl hlen hsize ?_; intro v1 w1 o1 b1))
        rw [← hs.out] at o1
        have hb1 := hb.trans b1
        clear ho hb b1 hs
        go_roundw
        case rel => exact ⟨k + 1, by omega, by go_num, o1, hb1⟩
        case measure => simp [intOf]; omega
    · rw [show L.take k = L from List.take_of_length_le (by rw [hL.out]; omega)] at ho
      go_wp2
      go_ret
      exact ⟨_, rfl, ho, hb⟩

end Go.Proofs.Ytfhfgdgpilpdkaa.Lib1
