/- Chapter 4: the program's RankSubset, NextSubset, HandNumber, HandOfNumber. -/
import Derived.Test.YtfhfgdgpilpdkaaNum4
namespace Go.Proofs.Ytfhfgdgpilpdkaa.Lib1
open Go.RowKit
set_option maxRecDepth 100000

theorem numbersSub (A B : Option Addr) (n c m d : Nat) (L S : List Int) (lo hi lo' hi' : Nat) (w : World) (h : Rd w lo hi A n L) (h' : Rd w lo' hi' B m S) (hn : n ≤ 52) (hm : m ≤ 52) (hp : A = none → c = 0) (hd : m ≤ d) (hp' : B = none → d = 0) :
    Calls Try.prog 96 #[.iface 91 (.agg #[.slice A n c, .slice B m d])] w (RetV w [(rankN L S : Int)]) := by
  refine (numbers_sub A B n c m d L [S] 1 w (by omega) (by rw [h.1]; exact hn) (fun j => ?_) (pool_sub A B n c m d L w h.all hp) (fun w1 b1 => choices_sub A B n c m d S w1 (h'.all.below b1 (Nat.le_refl _)).all hd hp'))
  match j with
  | 0 => show S.length ≤ 52; rw [h'.1]; exact hm
  | j + 1 => simp

theorem restL_empty {S L : List Int} (h : S.all (hasB L) = true) : (restL S L).length = 0 := by
  have := restL_all S L
  rw [h] at this
  simpa using this
theorem restL_some {S L : List Int} (h : S.all (hasB L) = false) : 0 < (restL S L).length := by
  have := restL_all S L
  rw [h] at this
  simpa using this

set_option maxHeartbeats 2000000 in
theorem impl_RankSubset (A B : Option Addr) (n c m d : Nat) (L S : List Int) (lo hi lo' hi' : Nat) (w : World) (h : Rd w lo hi A n L) (h' : Rd w lo' hi' B m S) (hn : n ≤ 1048576) (hm : m ≤ 1048576) (hp : A = none → c = 0) (hdm : m ≤ d) (hp' : B = none → d = 0) :
    Calls Try.prog 35 #[.slice A n c, .slice B m d] w (RetII w (rnkV L S) (rnkC L S)) := by
  have hL := Lib.hid h.1
  have hS := Lib.hid h'.1
  cases hd : risingB L with
  | false =>
    have e1 := Lib.hid (rnkC_no1 (S := S) hd)
    have e2 := Lib.hid (rnkV_no e1.out (by omega))
    have HD := Lib.hid hd
    clear hd
    go_enter Try.func35, Try.ntmps35
    go_wp2_with (go_at_call 94; refine (isCardList _ _ _ L lo hi _ h hn).mono ?_; rw [HD.out]; rintro e w1 ⟨rfl, rfl⟩)
    go_ret2
    exact RetII.of_eq e2.out e1.out ⟨rfl, Chg.refl _ _ _⟩
  | true =>
    have HD := Lib.hid hd
    cases hs : risingB S with
    | false =>
      have e1 := Lib.hid (rnkC_no2 (L := L) hs)
      have e2 := Lib.hid (rnkV_no e1.out (by omega))
      have HS := Lib.hid hs
      clear hd hs
      go_enter Try.func35, Try.ntmps35
      go_wp2_with fail
      refine (isCardList _ _ _ L lo hi _ h hn).mono ?_
      rw [HD.out]
      rintro e w1 ⟨rfl, rfl⟩
      go_wp2_with fail
      refine (isCardList _ _ _ S lo' hi' _ h' hm).mono ?_
      rw [HS.out]
      rintro e w1 ⟨rfl, rfl⟩
      go_wp2_with fail
      go_ret2
      exact RetII.of_eq e2.out e1.out ⟨rfl, Chg.refl _ _ _⟩
    | true =>
      have HS := Lib.hid hs
      have hn52 : n ≤ 52 := by rw [← hL.out]; exact rising_len hd
      have hm52 : m ≤ 52 := by rw [← hS.out]; exact rising_len hs
      cases hall : S.all (hasB L) with
      | false =>
        have e1 := Lib.hid (rnkC_no3 hd hs hall)
        have e2 := Lib.hid (rnkV_no e1.out (by omega))
        have hlen := restL_some hall
        have hlen' : (0 : Int) < ((restL S L).length : Int) := by omega
        clear hd hs hall
        go_enter Try.func35, Try.ntmps35
        go_wp2_with fail
        refine (isCardList _ _ _ L lo hi _ h hn).mono ?_
        rw [HD.out]
        rintro e w1 ⟨rfl, rfl⟩
        go_wp2_with fail
        refine (isCardList _ _ _ S lo' hi' _ h' hm).mono ?_
        rw [HS.out]
        rintro e w1 ⟨rfl, rfl⟩
        go_wp2_with fail
        refine (listWithout _ _ m _ n _ S L lo' hi' lo hi _ h' h hm hn hp').mono ?_
        rintro e w2 ⟨V, rfl, o2, b2⟩
        obtain ⟨X, cx, rfl, _, _, _⟩ := o2.form
        generalize (restL S L).length = r at hlen hlen'
        go_wp2_with fail
        go_ret2
        exact RetII.of_eq e2.out e1.out ⟨rfl, Chg.of_below b2 _ _⟩
      | true =>
        have e1 := Lib.hid (rnkC_yes hd hs hall)
        have e2 := Lib.hid (rnkV_yes e1.out)
        have hlen := Lib.hid (restL_empty hall)
        clear hd hs hall
        go_enter Try.func35, Try.ntmps35
        go_wp2_with fail
        refine (isCardList _ _ _ L lo hi _ h hn).mono ?_
        rw [HD.out]
        rintro e w1 ⟨rfl, rfl⟩
        go_wp2_with fail
        refine (isCardList _ _ _ S lo' hi' _ h' hm).mono ?_
        rw [HS.out]
        rintro e w1 ⟨rfl, rfl⟩
        go_wp2_with fail
        refine (listWithout _ _ m _ n _ S L lo' hi' lo hi _ h' h hm hn hp').mono ?_
        rintro e w2 ⟨V, rfl, o2, b2⟩
        obtain ⟨X, cx, rfl, _, _, _⟩ := o2.form_at hlen.out
        have c2 := Chg.of_below b2 0 0
        have h2 := h.still c2
        have h2' := h'.still c2
        clear o2 h h' b2
        go_wp2_with fail
        refine (numbersSub _ _ n _ m _ L S _ _ _ _ _ h2 h2' hn52 hm52 hp hdm hp').mono ?_
        rintro e w3 ⟨V, rfl, o3, b3⟩
        obtain ⟨Y, cy, rfl, _, _, own3⟩ := o3.form
        obtain ⟨g, cs, rfl, _, _, hh, hcs⟩ := own3.2 (by simp)
        have hcell : w3.cell? ⟨g, 0, none⟩ = some (.int .i64 (rankN L S : Int)) := by rw [cell_of_row _ _ _ _ _ _ hh]; exact hcs 0 (by simp)
        have c3 := c2.trans (Chg.of_below b3 0 0)
        clear o3 own3 b3 hh hcs
        go_wp2_with fail
        go_ret2
        exact RetII.of_eq e2.out e1.out ⟨rfl, c3⟩

set_option maxHeartbeats 2000000 in
theorem impl_NextSubset (A B : Option Addr) (n c m d : Nat) (L S : List Int) (lo hi lo' hi' : Nat) (w : World) (h : Rd w lo hi A n L) (h' : Rd w lo' hi' B m S) (hn : n ≤ 1048576) (hm : m ≤ 1048576) (hp : A = none → c = 0) (hdm : m ≤ d) (hp' : B = none → d = 0) :
    Calls Try.prog 38 #[.slice A n c, .slice B m d] w (RetSI w (nextV L S) (nextC L S)) := by
  have hS := Lib.hid h'.1
  rcases rnkC_cases L S with h0 | h0 | h0
  · have e1 := Lib.hid (nextC_yes h0)
    have e2 := Lib.hid (nextV_yes h0)
    have H0 := Lib.hid h0
    obtain ⟨v0, v1⟩ := rnkV_small h0
    rw [hS.out] at e1 e2
    clear h0
    go_enter Try.func38, Try.ntmps38
    go_wp2_with fail
    refine (impl_RankSubset _ _ n _ m _ L S lo hi lo' hi' _ h h' hn hm hp hdm hp').mono ?_
    rintro e w1 ⟨rfl, c1⟩
    rw [H0.out]
    generalize rnkV L S = v at v0 v1 e1 e2
    go_wp2_with fail
    refine (impl_UnrankSubset _ n _ _ _ L lo hi _ (h.still c1) hn).mono ?_
    rw [← e1.out, ← e2.out]
    rintro e w2 ⟨V, cv, rfl, r⟩
    go_wp2_with fail
    go_ret2
    exact RetSI.of_later c1 ⟨V, cv, rfl, r⟩
  · have e1 := Lib.hid (nextC_no h0 (by omega))
    have e2 := Lib.hid (nextV_no h0 (by omega))
    have H0 := Lib.hid h0
    clear h0
    go_enter Try.func38, Try.ntmps38
    go_wp2_with (go_at_call 35; refine (impl_RankSubset _ _ n _ m _ L S lo hi lo' hi' _ h h' hn hm hp hdm hp').mono ?_; rw [H0.out]; rintro e w1 ⟨rfl, c1⟩)
    go_ret2
    exact RetSI.of_eq e2.out e1.out (RetSI.nil_ c1)
  · have e1 := Lib.hid (nextC_no h0 (by omega))
    have e2 := Lib.hid (nextV_no h0 (by omega))
    have H0 := Lib.hid h0
    clear h0
    go_enter Try.func38, Try.ntmps38
    go_wp2_with (go_at_call 35; refine (impl_RankSubset _ _ n _ m _ L S lo hi lo' hi' _ h h' hn hm hp hdm hp').mono ?_; rw [H0.out]; rintro e w1 ⟨rfl, c1⟩)
    go_ret2
    exact RetSI.of_eq e2.out e1.out (RetSI.nil_ c1)

set_option maxHeartbeats 1000000 in
theorem impl_HandNumber (A : Option Addr) (n c : Nat) (S : List Int) (lo hi : Nat) (w : World) (h : Rd w lo hi A n S) (hc : n ≤ c) (hp : A = none → c = 0) :
    Calls Try.prog 40 #[.slice A n c] w fun e w' => e = .returned (.int .i64 (handNo S)) ∧ Chg w w' 0 0 := by
  have hS := Lib.hid h.1
  cases hd : handB S with
  | false =>
    have e1 := Lib.hid (handNo_no hd)
    have HD := Lib.hid hd
    clear hd
    go_enter Try.func40, Try.ntmps40
    go_wp2_with (go_at_call 101; refine (impl_IsHand _ _ _ S lo hi _ h).mono ?_; rw [HD.out]; rintro e w1 ⟨rfl, rfl⟩)
    go_ret
    exact ⟨ret_int e1.out.symm, Chg.refl _ _ _⟩
  | true =>
    have e1 := Lib.hid (handNo_yes hd)
    have HD := Lib.hid hd
    have h13 : n ≤ 52 := by have := hand_len hd; rw [hS.out] at this; omega
    clear hd
    go_enter Try.func40, Try.ntmps40
    go_wp2_with fail
    refine (impl_IsHand _ _ _ S lo hi _ h).mono ?_
    rw [HD.out]
    rintro e w1 ⟨rfl, rfl⟩
    go_wp2_with fail
    refine (allCards _).mono ?_
    rintro e w2 ⟨V, rfl, o2, b2⟩
    obtain ⟨X, cx, rfl, _, px, o3⟩ := o2.form_at (allL_length 52)
    have c2 := Chg.of_below b2 0 0
    have h2 := h.still c2
    clear o2 h b2
    go_wp2_with fail
    refine (numbersSub _ _ 52 _ n _ (allL 52) S _ _ _ _ _ o3.rd h2 (by omega) h13 px.nil hc hp).mono ?_
    rintro e w3 ⟨V, rfl, o3, b3⟩
    obtain ⟨Y, cy, rfl, _, _, own3⟩ := o3.form
    obtain ⟨g, cs, rfl, _, _, hh, hcs⟩ := own3.2 (by simp)
    have hcell : w3.cell? ⟨g, 0, none⟩ = some (.int .i64 (rankN (allL 52) S : Int)) := by rw [cell_of_row _ _ _ _ _ _ hh]; exact hcs 0 (by simp)
    have c3 := c2.trans (Chg.of_below b3 0 0)
    clear o3 own3 b3 hh hcs
    go_wp2_with fail
    go_ret
    exact ⟨ret_int e1.out.symm, c3⟩

set_option maxHeartbeats 1000000 in
theorem impl_HandOfNumber (n num : Int) (w : World) :
    Calls Try.prog 42 #[.int .i64 n, .int .i64 num] w (RetSI w (handOfV n num) (handOfC n num)) := by
  by_cases hk0 : n < 0
  · obtain ⟨e1, e2⟩ := handOf_no (n := n) (num := num) (by omega)
    rw [e1, e2]
    clear e1 e2
    go_enter Try.func42, Try.ntmps42
    go_wp2
    go_ret2
    exact RetSI.nil_ (Chg.refl _ _ _)
  by_cases hk1 : 13 < n
  · obtain ⟨e1, e2⟩ := handOf_no (n := n) (num := num) (by omega)
    rw [e1, e2]
    clear e1 e2
    go_enter Try.func42, Try.ntmps42
    go_wp2
    go_ret2
    exact RetSI.nil_ (Chg.refl _ _ _)
  obtain ⟨e1, e2⟩ := handOf_yes (n := n) (num := num) (by omega)
  rw [e1, e2]
  clear e1 e2
  go_enter Try.func42, Try.ntmps42
  go_wp2_with fail
  refine (allCards _).mono ?_
  rintro e w2 ⟨V, rfl, o2, b2⟩
  obtain ⟨X, cx, rfl, _, _, o3⟩ := o2.form_at (allL_length 52)
  have c2 := Chg.of_below b2 0 0
  clear o2 b2
  go_wp2_with fail
  refine (impl_UnrankSubset _ 52 _ _ _ (allL 52) _ _ _ o3.rd (by omega)).mono ?_
  rintro e w3 ⟨Y, cy, rfl, r⟩
  go_wp2_with fail
  go_ret2
  exact RetSI.of_later c2 ⟨Y, cy, rfl, r⟩
end Go.Proofs.Ytfhfgdgpilpdkaa.Lib1
