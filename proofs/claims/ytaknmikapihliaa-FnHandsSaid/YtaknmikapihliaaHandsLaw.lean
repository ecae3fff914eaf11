/- The law FnHands: adding a card to a hand and removing it restores the hand, and the cards of the four suits make it up. -/
import Derived.Test.YtaknmikapihliaaDraws
import Derived.Test.YtaknmikapihliaaBase2
namespace Go.Proofs.Ytaknmikapihliaa.Lib1
open Go.RowKit
set_option maxRecDepth 100000

/-- The cards of the first k suits. -/
def suitsTo (zs : List Int) : Nat → List Int
  | 0 => []
  | k + 1 => suitsTo zs k ++ suitF (k : Int) zs
theorem suitsTo_len (zs : List Int) : ∀ k, (suitsTo zs k).length ≤ k * zs.length
  | 0 => by simp [suitsTo]
  | k + 1 => by
    have := suitsTo_len zs k
    have := suitF_le (k : Int) zs
    simp only [suitsTo, List.length_append, Nat.succ_mul]
    omega
theorem suitsTo_all {zs : List Int} (h : handB zs = true) : suitsTo zs 4 = zs := by
  obtain ⟨_, h2, h3⟩ := (hand_iff zs).1 h
  have := suits_all zs h2 h3
  simpa [suitsTo] using this

set_option maxHeartbeats 3200000 in
theorem law_Hands (A : Option Addr) (n c : Nat) (w : World) (h : Bytes w A n) :
    Calls Try.prog 3 #[.slice A n c] w fun e w' => e = .returned (.bool true) ∧ Below w.heap.size w w' := by
  by_cases hn : 4096 < n
  · have hb := Lib.hid (decide_eq_true hn)
    go_enter Try.func3, Try.ntmps3
    go_wp2_with fail
    refine (big _ _ _ _).mono ?_
    rintro e w' ⟨rfl, rfl⟩
    rw [hb.out]
    go_wp2_with fail
    go_ret
    exact ⟨rfl, Below.refl _ _⟩
  · have hb := Lib.hid (decide_eq_false hn)
    go_enter Try.func3, Try.ntmps3
    go_wp2_with fail
    refine (big _ _ _ _).mono ?_
    rintro e w' ⟨rfl, rfl⟩
    rw [hb.out]
    go_wp2_with fail
    refine (DrawHandWith A n c _ h (by omega)).mono ?_
    rintro e w1 ⟨D, dc, zs, x, rfl, hl, hdc, hp, od, b1⟩
    go_wp2_with fail
    refine (impl_HandWith D zs.length dc x zs _ _ _ od.rd hdc hp).mono ?_
    rintro e w2 ⟨M, mc, rfl, hmc, hpm, om, c2⟩
    have od2 := od.still c2
    have b2 := Chg.above b1 c2 b1.size (.inr rfl)
    clear od b1 c2
    cases hh : handB zs with
    | false =>
      have hC : withC zs x = 1 := by simp [withC, hh]
      rw [hC]
      have HH := Lib.hid hh
      clear hC hh
      go_wp2_with fail
      refine (spec_IsHand D zs.length dc zs _ _ _ od2.rd (by omega)).mono ?_
      rintro e w3 ⟨rfl, c3⟩
      rw [HH.out]
      have b3 := Chg.above b2 c3 b2.size (.inr rfl)
      have od3 := od2.still c3
      clear b2 c3 od2
      go_wp2_with fail
      refine (impl_IsHand D zs.length dc zs _ _ _ od3.rd).mono ?_
      rintro e w' ⟨rfl, rfl⟩
      rw [HH.out]
      go_wp2_with fail
      go_ret
      exact ⟨rfl, b3⟩
    | true =>
      have hz := (hand_bounds hh).1
      have HA := Lib.hid (suitsTo_all hh)
      have HH := Lib.hid hh
      clear hh
      by_cases hC : withC zs x = 0
      · obtain ⟨e1, e2, e3, e4⟩ := with_ok hC
        rw [hC, e1]
        rw [e1] at om hmc
        have HE2 := Lib.hid e2
        have HE3 := Lib.hid e3
        have HE4 := Lib.hid e4
        have HLn := Lib.hid (ins_length x zs)
        clear hC e1 e2 e3 e4
        have hil : (ins x zs).length ≤ 14 := by rw [HLn.out]; omega
        go_wp2_with fail
        refine (impl_HandWithout M _ mc x (ins x zs) _ _ _ om.rd hmc).mono ?_
        rintro e w3 ⟨L, lc, rfl, _, _, ol, c3⟩
        rw [HE3.out, HE4.out]
        rw [HE4.out] at ol
        have od3 := od2.still c3
        have om3 := om.still c3
        have b3 := Chg.above b2 c3 b2.size (.inr rfl)
        clear od2 om c3 b2
        go_wp2_with fail
        refine (likeInts L D _ _ lc dc zs _ _ _ _ _ ol.rd od3.rd (by omega)).mono ?_
        rintro e w4 ⟨rfl, c4⟩
        have od4 := od3.still c4
        have om4 := om3.still c4
        have b4 := Chg.above b3 c4 b3.size (.inr rfl)
        clear od3 om3 c4 b3 ol
        have hne : (((ins x zs).length : Int) != (zs.length : Int) + 1) = false := by
          have e5 := HLn.out
          rw [e5]
          simp
        go_wp2_with fail
        refine (impl_IsHand M _ mc (ins x zs) _ _ _ om4.rd).mono ?_
        rintro e w' ⟨rfl, rfl⟩
        rw [HE2.out]
        clear om4 hmc hpm hne hil
        go_wp2_with fail
        refine (spec_IsHand D zs.length dc zs _ _ _ od4.rd (by omega)).mono ?_
        rintro e w5 ⟨rfl, c5⟩
        rw [HH.out]
        have b5 := Chg.above b4 c5 b4.size (.inr rfl)
        have od5 := od4.still c5
        clear b4 c5 od4
        have hrd := od5.rd.all
        go_wp2_with fail
        go_loopw [9, 10] (fun v i wr => ∃ k : Nat, k ≤ 4 ∧ i = .int .i64 k ∧ OwnV wr w5.heap.size v (suitsTo zs k) ∧ Below w5.heap.size w5 wr) (fun _ i _ => 4 - (intOf i).toNat)
        case atStart => exact ⟨0, by omega, rfl, OwnV.made w5 (Nat.le_refl _), (Below.refl _ _).alloc (Nat.le_refl _) _⟩
        case round =>
          obtain ⟨k, hk, rfl, ho, hbw⟩ := hrel
          have hsl := suitsTo_len zs k
          by_cases hlt : k < 4
          · have hltI : (k : Int) < 4 := by omega
            have hrk := hrd.below hbw (Nat.le_refl _)
            go_wp2_with fail
            refine (impl_CardsOfSuit D zs.length dc (k : Int) zs _ _ _ hrk).mono ?_
            rintro e w6 ⟨G, gc, rfl, _, hpg, og, c6⟩
            rw [cardsV_yes HH.out (inB_true (show (0 : Int) ≤ (k : Int) ∧ (k : Int) ≤ 3 by omega))]
            rw [cardsV_yes HH.out (inB_true (show (0 : Int) ≤ (k : Int) ∧ (k : Int) ≤ 3 by omega))] at og
            have o6 := ho.chg c6 (Nat.zero_le _)
            have hb6 := Chg.above hbw c6 hbw.size (.inr rfl)
            have z6 := hb6.size
            have hsf := suitF_le (k : Int) zs
            have hlen : (suitsTo zs k).length + (suitF (k : Int) zs).length ≤ 1048576 := by
              have : k * zs.length ≤ 4 * 13 := Nat.mul_le_mul (by omega) hz
              omega
            clear ho hbw c6 hrk
            go_wp2_with (at_builtin; refine wpList_cat rfl (.tmp 68) (.tmp 71) rfl w5.heap.size _ _ rfl o6 _ _ G _ gc _ rfl hpg.nil og.rd hlen z6 ?_; intro v7 w7 o7 b7)
            have hb7 := hb6.trans b7
            clear o6 hb6 b7 og
            go_roundw
            case rel => exact ⟨k + 1, by omega, by go_num, o7, hb7⟩
            case measure => simp [intOf]; omega
          · obtain rfl : k = 4 := by omega
            rw [HA.out] at ho
            obtain ⟨E, ec, rfl, _, _, oe⟩ := ho.form_at rfl
            have hrk := hrd.below hbw (Nat.le_refl _)
            clear ho
            go_wp2_with fail
            refine (likeInts E D _ _ ec dc zs _ _ _ _ _ oe.rd hrk (by omega)).mono ?_
            rintro e w8 ⟨rfl, c8⟩
            have b8 := Chg.above (b5.trans (hbw.mono b5.size)) c8 (Nat.le_trans b5.size hbw.size) (.inr rfl)
            go_wp2_with fail
            go_ret
            exact ⟨rfl, b8⟩
      · have hne : (withC zs x == 0) = false := by simpa using hC
        clear hC
        generalize withC zs x = k at hne
        go_wp2_with fail
        refine (spec_IsHand D zs.length dc zs _ _ _ od2.rd (by omega)).mono ?_
        rintro e w5 ⟨rfl, c5⟩
        rw [HH.out]
        have b5 := Chg.above b2 c5 b2.size (.inr rfl)
        have od5 := od2.still c5
        clear b2 c5 od2 om hmc hpm
        have hrd := od5.rd.all
        go_wp2_with fail
        go_loopw [9, 10] (fun v i wr => ∃ k : Nat, k ≤ 4 ∧ i = .int .i64 k ∧ OwnV wr w5.heap.size v (suitsTo zs k) ∧ Below w5.heap.size w5 wr) (fun _ i _ => 4 - (intOf i).toNat)
        case atStart => exact ⟨0, by omega, rfl, OwnV.made w5 (Nat.le_refl _), (Below.refl _ _).alloc (Nat.le_refl _) _⟩
        case round =>
          obtain ⟨k, hk, rfl, ho, hbw⟩ := hrel
          have hsl := suitsTo_len zs k
          by_cases hlt : k < 4
          · have hltI : (k : Int) < 4 := by omega
            have hrk := hrd.below hbw (Nat.le_refl _)
            go_wp2_with fail
            refine (impl_CardsOfSuit D zs.length dc (k : Int) zs _ _ _ hrk).mono ?_
            rintro e w6 ⟨G, gc, rfl, _, hpg, og, c6⟩
            rw [cardsV_yes HH.out (inB_true (show (0 : Int) ≤ (k : Int) ∧ (k : Int) ≤ 3 by omega))]
            rw [cardsV_yes HH.out (inB_true (show (0 : Int) ≤ (k : Int) ∧ (k : Int) ≤ 3 by omega))] at og
            have o6 := ho.chg c6 (Nat.zero_le _)
            have hb6 := Chg.above hbw c6 hbw.size (.inr rfl)
            have z6 := hb6.size
            have hsf := suitF_le (k : Int) zs
            have hlen : (suitsTo zs k).length + (suitF (k : Int) zs).length ≤ 1048576 := by
              have : k * zs.length ≤ 4 * 13 := Nat.mul_le_mul (by omega) hz
              omega
            clear ho hbw c6 hrk
            go_wp2_with (at_builtin; refine wpList_cat rfl (.tmp 68) (.tmp 71) rfl w5.heap.size _ _ rfl o6 _ _ G _ gc _ rfl hpg.nil og.rd hlen z6 ?_; intro v7 w7 o7 b7)
            have hb7 := hb6.trans b7
            clear o6 hb6 b7 og
            go_roundw
            case rel => exact ⟨k + 1, by omega, by go_num, o7, hb7⟩
            case measure => simp [intOf]; omega
          · obtain rfl : k = 4 := by omega
            rw [HA.out] at ho
            obtain ⟨E, ec, rfl, _, _, oe⟩ := ho.form_at rfl
            have hrk := hrd.below hbw (Nat.le_refl _)
            clear ho
            go_wp2_with fail
            refine (likeInts E D _ _ ec dc zs _ _ _ _ _ oe.rd hrk (by omega)).mono ?_
            rintro e w8 ⟨rfl, c8⟩
            have b8 := Chg.above (b5.trans (hbw.mono b5.size)) c8 (Nat.le_trans b5.size hbw.size) (.inr rfl)
            go_wp2_with fail
            go_ret
            exact ⟨rfl, b8⟩

end Go.Proofs.Ytaknmikapihliaa.Lib1
