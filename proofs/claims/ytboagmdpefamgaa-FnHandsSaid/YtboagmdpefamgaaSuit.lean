/- Contracts of CardsOfSuit (program and model), and the law that compares them. -/
import Derived.Test.YtboagmdpefamgaaIsHand
import Derived.Test.YtboagmdpefamgaaOwn
namespace Go.Proofs.Ytboagmdpefamgaa.Lib1
open Go.RowKit

def suitP (s : Int) (z : Int) : Bool := decide (z / 13 = s)
def suitF (s : Int) (zs : List Int) : List Int := zs.filter (suitP s)
theorem suitF_le (s : Int) (zs : List Int) : (suitF s zs).length ≤ zs.length := List.length_filter_le _ _
theorem suitF_yes {s : Int} {zs : List Int} {k : Nat} (h : k < zs.length) (e : zs.getD k 0 / 13 = s) : suitF s (zs.take (k + 1)) = suitF s (zs.take k) ++ [zs.getD k 0] := by
  unfold suitF; rw [take_filter_succ _ _ _ h]; simp only [suitP, e, decide_true, if_true]
theorem suitF_no {s : Int} {zs : List Int} {k : Nat} (h : k < zs.length) (e : ¬ zs.getD k 0 / 13 = s) : suitF s (zs.take (k + 1)) = suitF s (zs.take k) := by
  unfold suitF; rw [take_filter_succ _ _ _ h]; simp only [suitP, e, decide_false, if_false, Bool.false_eq_true, List.append_nil]

set_option maxHeartbeats 1000000 in
/-- spec.l01Suit of cards -/
theorem l01Suit (A : Option Addr) (n c : Nat) (s : Int) (zs : List Int) (lo hi : Nat) (w : World) (h : Rd w lo hi A n zs) (hn : n ≤ 1048576) (hz : ∀ j, j < n → 0 ≤ zs.getD j 0 ∧ zs.getD j 0 ≤ 51) :
    Calls Try.prog 59 #[.slice A n c, .int .i64 s] w (RetS w (suitF s zs)) := by
  have hl := h.1
  have HL := Lib.hid hl
  have HZ := Lib.hid hz
  have ha := h.all
  clear hl hz h
  go_enter Try.func59, Try.ntmps59
  go_wp2
  go_loopw [5, 6] (fun v i wr => ∃ k : Nat, k ≤ n ∧ i = .int .i64 k ∧ OwnV wr w.heap.size v (suitF s (zs.take k)) ∧ Below w.heap.size w wr) (fun _ i _ => n - (intOf i).toNat)
  case atStart => exact ⟨0, Nat.zero_le _, rfl, OwnV.made w (Nat.le_refl _), (Below.refl _ _).alloc (Nat.le_refl _) _⟩
  case round =>
    obtain ⟨k, hk, rfl, ho, hb⟩ := hrel
    by_cases hlt : k < n
    · have hkz : k < zs.length := by rw [HL.out]; exact hlt
      obtain ⟨b, off, rfl, _, _, hc⟩ := (ha.below hb (Nat.le_refl _)).2 (by omega)
      have hck := hc k hlt
      obtain ⟨z0, z1⟩ := HZ.out k hlt
      have hkl : (k : Int) < (n : Int) := by omega
      have hlen : (suitF s (zs.take k)).length ≤ 1048576 := Nat.le_trans (suitF_le _ _) (by simp; omega)
      have hsize := hb.size
      by_cases he : zs.getD k 0 / 13 = s
      · have hs := Lib.hid (suitF_yes hkz he)
        have ht : (zs.getD k 0 / 13 == s) = true := by simpa using he
        generalize zs.getD k 0 = z at hck z0 z1 ht hs
        clear hc he
        go_wp2_with (at_builtin; refine wpList_push rfl _ _ rfl w.heap.size _ _ rfl ho z rfl hlen hsize ?_)
        intro v' w1 ho1 hb1
        rw [← hs.out] at ho1
        have hb2 := hb.trans hb1
        clear ho hb hb1 hs
        go_wp2
        go_roundw
        case rel => exact ⟨k + 1, by omega, by go_num, ho1, hb2⟩
        case measure => simp [intOf]; omega
      · have hs := Lib.hid (suitF_no hkz he)
        have ht : (zs.getD k 0 / 13 == s) = false := by simpa using he
        generalize zs.getD k 0 = z at hck z0 z1 ht
        clear hc he
        rw [← hs.out] at ho
        go_wp2
        go_roundw
        case rel => exact ⟨k + 1, by omega, by go_num, ho, hb⟩
        case measure => simp [intOf]; omega
    · rw [show zs.take k = zs from List.take_of_length_le (by rw [HL.out]; omega)] at ho
      go_wp2
      go_ret
      exact RetS.of_own ho hb

/-- What CardsOfSuit hands back. -/
def cardsV (s : Int) (zs : List Int) : List Int := if handB zs && inB s 0 3 then suitF s zs else []
theorem cardsV_yes {s : Int} {zs : List Int} (h : handB zs = true) (hs : inB s 0 3 = true) : cardsV s zs = suitF s zs := by simp [cardsV, h, hs]
theorem cardsV_no1 {s : Int} {zs : List Int} (h : handB zs = false) : cardsV s zs = [] := by simp [cardsV, h]
theorem cardsV_no2 {s : Int} {zs : List Int} (h : inB s 0 3 = false) : cardsV s zs = [] := by simp [cardsV, h]
theorem cardsV_le (s : Int) (zs : List Int) : (cardsV s zs).length ≤ zs.length := by
  unfold cardsV; split
  · exact suitF_le _ _
  · simp
theorem hand_bounds {zs : List Int} (h : handB zs = true) : zs.length ≤ 13 ∧ ∀ j, j < zs.length → 0 ≤ zs.getD j 0 ∧ zs.getD j 0 ≤ 51 := by
  simp only [handB, risingB, Bool.and_eq_true, decide_eq_true_eq] at h
  exact ⟨h.1, fun j hj => (h.2 j hj).1⟩
theorem RetS.empty_made (w w1 : World) (hb : Chg w w1 0 0) : RetS w [] (.returned (.slice (some ⟨w1.heap.size, 0, none⟩) 0 0)) (w1.alloc (.cells #[] 2)) :=
  ⟨_, 0, rfl, Nat.le_refl _, Plain.at_ _ _ _, Own.none_, hb.trans (Chg.of_alloc _ _ _ _)⟩
theorem RetS.of_later {w w1 w' : World} {zs : List Int} {e : Ending} (hb : Chg w w1 0 0) (h : RetS w1 zs e w') : RetS w zs e w' := by
  obtain ⟨A, c, he, h1, h2, h3, h4⟩ := h
  exact ⟨A, c, he, h1, h2, h3.more hb.size (Nat.le_refl _), hb.trans h4⟩

set_option maxHeartbeats 1000000 in
/-- spec.CardsOfSuit -/
theorem spec_CardsOfSuit (A : Option Addr) (n c : Nat) (s : Int) (zs : List Int) (lo hi : Nat) (w : World) (h : Rd w lo hi A n zs) (hn : n ≤ 1048576) :
    Calls Try.prog 37 #[.slice A n c, .int .i64 s] w (RetS w (cardsV s zs)) := by
  cases hh : handB zs with
  | false =>
    rw [cardsV_no1 hh]
    have H := Lib.hid hh
    go_enter Try.func37, Try.ntmps37
    go_wp2_with (go_at_call 28; refine (spec_IsHand _ _ _ zs lo hi _ h hn).mono ?_; rintro e w' ⟨rfl, hc⟩)
    go_ret
    exact RetS.empty_made _ _ hc
  | true =>
    cases hs : inB s 0 3 with
    | false =>
      rw [cardsV_no2 hs]
      go_enter Try.func37, Try.ntmps37
      go_wp2_with (first | (go_at_call 28; refine (spec_IsHand _ _ _ zs lo hi _ h hn).mono ?_; rintro e w' ⟨rfl, hc⟩) | (go_at_call 54; refine (l01In _ _ _ _).mono ?_; rintro e w' ⟨rfl, rfl⟩))
      go_ret
      exact RetS.empty_made _ _ hc
    | true =>
      rw [cardsV_yes hh hs]
      have hb : Hid (∀ j, j < n → 0 ≤ zs.getD j 0 ∧ zs.getD j 0 ≤ 51) := by have := (hand_bounds hh).2; rw [h.1] at this; exact this
      go_enter Try.func37, Try.ntmps37
      go_wp2_with (first | (go_at_call 28; refine (spec_IsHand _ _ _ zs lo hi _ h hn).mono ?_; rintro e w' ⟨rfl, hc⟩) | (go_at_call 54; refine (l01In _ _ _ _).mono ?_; rintro e w' ⟨rfl, rfl⟩) | (go_at_call 59; refine (l01Suit _ _ _ s zs lo hi _ (h.still hc) hn hb.out).mono ?_; rintro e w' ⟨A', c', rfl, hx⟩))
      go_ret
      exact RetS.of_later hc ⟨A', c', rfl, hx⟩

set_option maxHeartbeats 1000000 in
/-- impl.CardsOfSuit -/
theorem impl_CardsOfSuit (A : Option Addr) (n c : Nat) (s : Int) (zs : List Int) (lo hi : Nat) (w : World) (h : Rd w lo hi A n zs) :
    Calls Try.prog 29 #[.slice A n c, .int .i64 s] w (RetS w (cardsV s zs)) := by
  cases hh : handB zs with
  | false =>
    rw [cardsV_no1 hh]
    go_enter Try.func29, Try.ntmps29
    go_wp2_with (go_at_call 27; refine (impl_IsHand _ _ _ zs lo hi _ h).mono ?_; rintro e w' ⟨rfl, rfl⟩)
    go_ret
    exact RetS.of_own (OwnV.nil_ _ _) (Below.refl _ _)
  | true =>
    by_cases hs : 0 ≤ s ∧ s ≤ 3
    · rw [cardsV_yes hh (inB_true hs)]
      obtain ⟨s0, s1⟩ := hs
      have s2 : ¬ s < 0 := by omega
      have s3 : ¬ 4 ≤ s := by omega
      have hl := h.1
      have hb13 := (hand_bounds hh).1
      have hn : n ≤ 13 := by omega
      have HZ : Hid (∀ j, j < n → 0 ≤ zs.getD j 0 ∧ zs.getD j 0 ≤ 51) := by have := (hand_bounds hh).2; rw [h.1] at this; exact this
      have HL := Lib.hid hl
      have ha := h.all
      clear hl hb13
      go_enter Try.func29, Try.ntmps29
      go_wp2_with (go_at_call 27; refine (impl_IsHand _ _ _ zs lo hi _ h).mono ?_; rintro e w' ⟨rfl, rfl⟩)
      clear h hh
      go_loopw [5, 21] (fun v i wr => ∃ k : Nat, k ≤ n ∧ i = .int .i64 k ∧ OwnV wr w.heap.size v (suitF s (zs.take k)) ∧ Below w.heap.size w wr) (fun _ i _ => n - (intOf i).toNat)
      case atStart => exact ⟨0, Nat.zero_le _, rfl, OwnV.nil_ _ _, Below.refl _ _⟩
      case round =>
        obtain ⟨k, hk, rfl, ho, hb⟩ := hrel
        by_cases hlt : k < n
        · have hkz : k < zs.length := by rw [HL.out]; exact hlt
          obtain ⟨b, off, rfl, _, _, hc⟩ := (ha.below hb (Nat.le_refl _)).2 (by omega)
          have hck := hc k hlt
          obtain ⟨z0, z1⟩ := HZ.out k hlt
          have hkl : (k : Int) < (n : Int) := by omega
          have hlen : (suitF s (zs.take k)).length ≤ 1048576 := Nat.le_trans (suitF_le _ _) (by simp; omega)
          have hsize := hb.size
          by_cases he : zs.getD k 0 / 13 = s
          · have hs := Lib.hid (suitF_yes hkz he)
            have ht : (zs.getD k 0 / 13 == s) = true := by simpa using he
            generalize zs.getD k 0 = z at hck z0 z1 ht hs
            clear hc he
            go_wp2_with (first | (go_at_call 45; refine (suit _ _ z0 z1).mono ?_; rintro e w' ⟨rfl, rfl⟩) | (at_builtin; refine wpList_push rfl _ _ rfl w.heap.size _ _ rfl ho z rfl hlen hsize ?_))
            intro v' w1 ho1 hb1
            rw [← hs.out] at ho1
            have hb2 := hb.trans hb1
            clear ho hb hb1 hs
            go_wp2
            go_roundw
            case rel => exact ⟨k + 1, by omega, by go_num, ho1, hb2⟩
            case measure => simp [intOf]; omega
          · have hs := Lib.hid (suitF_no hkz he)
            have ht : (zs.getD k 0 / 13 == s) = false := by simpa using he
            generalize zs.getD k 0 = z at hck z0 z1 ht
            clear hc he
            rw [← hs.out] at ho
            go_wp2_with (go_at_call 45; refine (suit _ _ z0 z1).mono ?_; rintro e w' ⟨rfl, rfl⟩)
            go_roundw
            case rel => exact ⟨k + 1, by omega, by go_num, ho, hb⟩
            case measure => simp [intOf]; omega
        · rw [show zs.take k = zs from List.take_of_length_le (by rw [HL.out]; omega)] at ho
          go_wp2
          go_ret
          exact RetS.of_own ho hb
    · rw [cardsV_no2 (inB_false hs)]
      by_cases s2 : s < 0
      · clear hs
        go_enter Try.func29, Try.ntmps29
        go_wp2_with (go_at_call 27; refine (impl_IsHand _ _ _ zs lo hi _ h).mono ?_; rintro e w' ⟨rfl, rfl⟩)
        go_ret
        exact RetS.of_own (OwnV.nil_ _ _) (Below.refl _ _)
      · have s3 : 4 ≤ s := by omega
        clear hs
        go_enter Try.func29, Try.ntmps29
        go_wp2_with (go_at_call 27; refine (impl_IsHand _ _ _ zs lo hi _ h).mono ?_; rintro e w' ⟨rfl, rfl⟩)
        go_ret
        exact RetS.of_own (OwnV.nil_ _ _) (Below.refl _ _)

set_option maxHeartbeats 1600000 in
theorem law_CardsOfSuit (A : Option Addr) (n c : Nat) (s : Int) (zs : List Int) (w : World) (h : Rd w 0 w.heap.size A n zs) :
    Calls Try.prog 11 #[.slice A n c, .int .i64 s] w fun e w' => e = .returned (.bool true) ∧ Below w.heap.size w w' := by
  by_cases hn : n ≤ 1048576
  · have hb : ¬ (1048576 : Int) < (n : Int) := by omega
    have hm : (cardsV s zs).length ≤ 1048576 := by have := cardsV_le s zs; rw [h.1] at this; omega
    go_enter Try.func11, Try.ntmps11
    go_wp2_with fail
    refine (toInt64S A n c zs _ _ _ h hn).mono ?_
    rintro e w1 ⟨rfl, o1, c1⟩
    go_wp2_with fail
    refine (spec_CardsOfSuit _ n n s zs _ _ _ o1.rd hn).mono ?_
    rintro e w2 ⟨W, cw, rfl, _, _, ow, c2⟩
    have h2 := (h.still c1).still c2
    have b2 := c1.trans c2
    go_wp2_with fail
    refine (toInt64S A n c zs _ _ _ h2 hn).mono ?_
    rintro e w3 ⟨rfl, ox, c3⟩
    have h3 := h2.still c3
    have ow3 := ow.still c3
    have b3 := b2.trans c3
    go_wp2_with fail
    refine (impl_CardsOfSuit _ n n s zs _ _ _ ox.rd).mono ?_
    rintro e w4 ⟨G, cg, rfl, _, _, og, c4⟩
    have h4 := h3.still c4
    have ow4 := ow3.still c4
    have ox4 := ox.still c4
    have b4 := b3.trans c4
    go_wp2_with fail
    refine (eqInt64S _ _ _ _ _ _ (cardsV s zs) _ _ _ _ _ og.rd ow4.rd hm).mono ?_
    rintro e w5 ⟨rfl, c5⟩
    have h5 := h4.still c5
    have ow5 := ow4.still c5
    have ox5 := ox4.still c5
    have og5 := og.still c5
    have b5 := b4.trans c5
    go_wp2_with fail
    refine (toInt64S A n c zs _ _ _ h5 hn).mono ?_
    rintro e w6 ⟨rfl, oy, c6⟩
    have h6 := h5.still c6
    have ow6 := ow5.still c6
    have ox6 := ox5.still c6
    have og6 := og5.still c6
    have b6 := b5.trans c6
    go_wp2_with fail
    refine (eqInt64S _ _ n n n n zs _ _ _ _ _ ox6.rd oy.rd hn).mono ?_
    rintro e w7 ⟨rfl, c7⟩
    have h7 := h6.still c7
    have ow7 := ow6.still c7
    have ox7 := ox6.still c7
    have og7 := og6.still c7
    have b7 := (b6.trans c7).to_below
    have t2 := c2.size
    have t3 := c3.size
    have t4 := c4.size
    have t1 := c1.size
    have t7 := (c5.trans (c6.trans c7)).size
    clear h h2 h3 h4 h5 h6 ow ow3 ow4 ow5 ow6 ox ox4 ox5 ox6 og og5 og6 c1 c2 c3 c4 c5 c6 c7 b2 b3 b4 b5 b6 o1 oy
    go_wp2_with fail
    refine (mark1 _ n n zs _ _ _ ox7 hn).mono ?_
    rintro e w8 ⟨rfl, _, c8, z8⟩
    have h8 := h7.chg c8 (by omega)
    have ow8 := ow7.chg c8 (by omega)
    have og8 := og7.chg c8 (by omega)
    have b8 := Chg.above b7 c8 (by omega) (by omega)
    have t8 : w7.heap.size ≤ w8.heap.size := by omega
    clear z8 c8 h7 ow7 og7 ox7 b7
    go_wp2_with fail
    refine (eqInt64S _ _ _ _ _ _ (cardsV s zs) _ _ _ _ _ og8.rd ow8.rd hm).mono ?_
    rintro e w9 ⟨rfl, c9⟩
    have h9 := h8.still c9
    have ow9 := ow8.still c9
    have og9 := og8.still c9
    have b9 := Chg.above b8 c9 (by omega) (by omega)
    have t9 := c9.size
    clear c9 h8 ow8 og8 b8
    go_wp2_with fail
    refine (mark1 _ _ _ (cardsV s zs) _ _ _ og9 hm).mono ?_
    rintro e w10 ⟨rfl, og10, c10, z10⟩
    have h10 := h9.chg c10 (by omega)
    have ow10 := ow9.chg c10 (by omega)
    have b10 := Chg.above b9 c10 (by omega) (by omega)
    have t10 : w9.heap.size ≤ w10.heap.size := by omega
    clear z10 c10 h9 ow9 og9 b9
    go_wp2_with fail
    refine (held1 _ _ _ _ _ _ og10.rd hm).mono ?_
    rintro e w' ⟨rfl, rfl⟩
    go_wp2_with fail
    refine (toInt64S A n c zs _ _ _ h10 hn).mono ?_
    rintro e w11 ⟨rfl, oz, c11⟩
    have ow11 := ow10.still c11
    have og11 := og10.still c11
    have b11 := Chg.above b10 c11 (by omega) (by omega)
    have t11 := c11.size
    clear c11 h10 ow10 og10 b10
    go_wp2_with fail
    refine (impl_CardsOfSuit _ n n s zs _ _ _ oz.rd).mono ?_
    rintro e w12 ⟨K, ck, rfl, _, _, ok, c12⟩
    have ow12 := ow11.still c12
    have og12 := og11.still c12
    have b12 := Chg.above b11 c12 (by omega) (by omega)
    have t12 := c12.size
    clear c12 ow11 og11 b11 oz
    go_wp2_with fail
    refine (eqInt64S _ _ _ _ _ _ (cardsV s zs) _ _ _ _ _ ok.rd ow12.rd hm).mono ?_
    rintro e w13 ⟨rfl, c13⟩
    have og13 := og12.still c13
    have b13 := Chg.above b12 c13 (by omega) (by omega)
    clear c13 ow12 og12 b12 ok
    go_wp2_with fail
    refine (held1 _ _ _ _ _ _ og13.rd hm).mono ?_
    rintro e w' ⟨rfl, rfl⟩
    go_wp2_with fail
    go_ret
    exact ⟨rfl, b13⟩
  · have hb : (1048576 : Int) < (n : Int) := by omega
    go_enter Try.func11, Try.ntmps11
    go_wp2
    go_ret
    exact ⟨rfl, Below.refl _ _⟩

end Go.Proofs.Ytboagmdpefamgaa.Lib1
