/- The law FnHandParts: points, controls, losers, quick tricks and honors of a hand are the sums of those of its suits; from contracts of the program's functions. -/
import Derived.Test.YteojdlacdnfgiaaLaw2
import Derived.Test.YteojdlacdnfgiaaDraws
namespace Go.Proofs.Yteojdlacdnfgiaa.Lib1
open Go.RowKit
set_option maxRecDepth 100000

/-- The sum of a function over the first k suits. -/
def upTo (f : Int → Int) : Nat → Int
  | 0 => 0
  | k + 1 => upTo f k + f (k : Int)
theorem upTo_range {f : Int → Int} (h : ∀ j : Nat, j < 4 → 0 ≤ f j ∧ f j ≤ 200) : ∀ k : Nat, k ≤ 4 → 0 ≤ upTo f k ∧ upTo f k ≤ 200 * (k : Int)
  | 0, _ => by simp [upTo]
  | k + 1, hk => by
    have := upTo_range h k (by omega)
    have := h k (by omega)
    simp only [upTo]
    omega
theorem upTo_step (f : Int → Int) (k : Nat) : upTo f (k + 1) = upTo f k + f (k : Int) := rfl
theorem upTo_four (f : Int → Int) : upTo f 4 = f 0 + f 1 + f 2 + f 3 := by simp [upTo]
theorem sumF_range {f : Int → Int} (h : ∀ z, 0 ≤ f z ∧ f z ≤ 4) : ∀ l : List Int, 0 ≤ sumF f l ∧ sumF f l ≤ 4 * (l.length : Int)
  | [] => by simp [sumF]
  | z :: l => by
    have := sumF_range h l
    have := h z
    simp only [sumF, List.length_cons]
    omega
theorem hcpV_range {zs : List Int} (h : handB zs = true) : 0 ≤ hcpV zs ∧ hcpV zs ≤ 100 := by
  have := sumF_range (f := pointF) (fun z => by unfold pointF; omega) zs
  have := (hand_bounds h).1
  unfold hcpV; rw [h]; simp only [if_true]; omega
theorem ctrlV_range {zs : List Int} (h : handB zs = true) : 0 ≤ ctrlV zs ∧ ctrlV zs ≤ 52 := by
  have := sumF_range (f := contrF) (fun z => by unfold contrF; omega) zs
  have := (hand_bounds h).1
  unfold ctrlV; rw [h]; simp only [if_true]; omega
theorem honV_range {zs : List Int} (h : handB zs = true) (t : Int) (h0 : 0 ≤ t) (h1 : t ≤ 4) : 0 ≤ honV zs t ∧ honV zs t ≤ 100 := by
  have := sumF_range (f := honF t) (fun z => by unfold honF; split <;> omega) zs
  have := (hand_bounds h).1
  unfold honV; rw [h, inB_true ⟨h0, h1⟩]; simp only [Bool.and_self, if_true]; omega
theorem losersV_range {zs : List Int} (h : handB zs = true) : 0 ≤ losersV zs ∧ losersV zs ≤ 100 := by
  have := shapes_bounds h
  omega
theorem quickV_range {zs : List Int} (h : handB zs = true) : 0 ≤ quickV zs ∧ quickV zs ≤ 104 := by
  have := shapes_bounds h
  have := ctrlV_range h
  have a := quickS_le zs 0
  have b := quickS_le zs 1
  have c := quickS_le zs 2
  have d := quickS_le zs 3
  refine ⟨?_, by omega⟩
  unfold quickV; rw [h]; simp only [if_true]; omega

/-- The six functions of a suit whose sums the law takes. -/
def pK (zs : List Int) (j : Int) : Int := hcpV (suitF j zs)
def cK (zs : List Int) (j : Int) : Int := ctrlV (suitF j zs)
def lK (zs : List Int) (j : Int) : Int := losersV (suitF j zs)
def qK (zs : List Int) (j : Int) : Int := quickV (suitF j zs)
def hK (zs : List Int) (j : Int) : Int := honV (suitF j zs) j
def aK (zs : List Int) (j : Int) : Int := honV (suitF j zs) 4
theorem k_range {zs : List Int} (h : handB zs = true) (j : Nat) (hj : j < 4) :
    (0 ≤ pK zs j ∧ pK zs j ≤ 200) ∧ (0 ≤ cK zs j ∧ cK zs j ≤ 200) ∧ (0 ≤ lK zs j ∧ lK zs j ≤ 200) ∧ (0 ≤ qK zs j ∧ qK zs j ≤ 200) ∧ (0 ≤ hK zs j ∧ hK zs j ≤ 200) ∧ (0 ≤ aK zs j ∧ aK zs j ≤ 200) := by
  have hh := suitF_hand (j : Int) h
  have a := hcpV_range hh
  have b := ctrlV_range hh
  have c := losersV_range hh
  have d := quickV_range hh
  have e := honV_range hh (j : Int) (by omega) (by omega)
  have f := honV_range hh 4 (by omega) (by omega)
  unfold pK cK lK qK hK aK
  omega
theorem k_sums {zs : List Int} (h : handB zs = true) :
    upTo (pK zs) 4 = hcpV zs ∧ upTo (cK zs) 4 = ctrlV zs ∧ upTo (lK zs) 4 = losersV zs ∧ upTo (qK zs) 4 = quickV zs ∧ upTo (hK zs) 4 = honV zs 0 + honV zs 1 + honV zs 2 + honV zs 3 ∧ upTo (aK zs) 4 = honV zs 4 := by
  simp only [upTo_four]
  refine ⟨hcp_parts h, ctrl_parts h, losers_parts h, quick_parts h, ?_, aces_parts h⟩
  unfold hK
  rw [honors_part h (by omega) (by omega), honors_part h (by omega) (by omega), honors_part h (by omega) (by omega), honors_part h (by omega) (by omega)]
theorem quickV_no {zs : List Int} (h : handB zs = false) : quickV zs = -1 := by simp [quickV, h]
theorem hcpV_no {zs : List Int} (h : handB zs = false) : hcpV zs = -1 := by simp [hcpV, h]

set_option maxHeartbeats 3200000 in
theorem law_HandParts (IP : ImplI 15 hcpV) (IC : ImplI 16 ctrlV) (IL : ImplI 17 losersV) (IQ : ImplI 18 quickV) (IH : ImplI1 21 honV)
    (A : Option Addr) (n c : Nat) (w : World) (h : Bytes w A n) :
    Calls Try.prog 4 #[.slice A n c] w fun e w' => e = .returned (.bool true) ∧ Below w.heap.size w w' := by
  by_cases hn : 4096 < n
  · have hb := Lib.hid (decide_eq_true hn)
    go_enter Try.func4, Try.ntmps4
    go_wp2_with fail
    refine (big _ _ _ _).mono ?_
    rintro e w' ⟨rfl, rfl⟩
    rw [hb.out]
    go_wp2_with fail
    go_ret
    exact ⟨rfl, Below.refl _ _⟩
  · have hb := Lib.hid (decide_eq_false hn)
    go_enter Try.func4, Try.ntmps4
    go_wp2_with fail
    refine (big _ _ _ _).mono ?_
    rintro e w' ⟨rfl, rfl⟩
    rw [hb.out]
    go_wp2_with fail
    refine (DrawQuickTricks A n c _ h (by omega)).mono ?_
    rintro e w1 ⟨D, dc, zs, rfl, hl, hdc, hp, od, b1⟩
    go_wp2_with fail
    refine (spec_IsHand D zs.length dc zs _ _ _ od.rd (by omega)).mono ?_
    rintro e w3 ⟨rfl, c3⟩
    have b3 := Chg.above b1 c3 b1.size (.inr rfl)
    have od3 := od.still c3
    clear b1 c3 od
    cases hh : handB zs with
    | false =>
      have HQ := Lib.hid (quickV_no hh)
      clear hh
      go_wp2_with fail
      refine (IQ D zs.length dc zs _ _ _ od3.rd (by omega) hdc hp).mono ?_
      rintro e w4 ⟨rfl, c4⟩
      have b4 := Chg.above b3 c4 b3.size (.inr rfl)
      rw [HQ.out]
      go_wp2_with fail
      go_ret
      exact ⟨rfl, b4⟩
    | true =>
      have hz := (hand_bounds hh).1
      have HH := Lib.hid hh
      have HS := Lib.hid (k_sums hh)
      have hrd := od3.rd.all
      clear hh od3
      go_wp2_with fail
      go_loopw [4, 5, 6, 7, 8, 9, 10] (fun p c l q hn a i wr => ∃ k : Nat, k ≤ 4 ∧ i = .int .i64 k ∧ p = .int .i64 (upTo (pK zs) k) ∧ c = .int .i64 (upTo (cK zs) k) ∧ l = .int .i64 (upTo (lK zs) k) ∧ q = .int .i64 (upTo (qK zs) k) ∧ hn = .int .i64 (upTo (hK zs) k) ∧ a = .int .i64 (upTo (aK zs) k) ∧ Below w3.heap.size w3 wr) (fun _ _ _ _ _ _ i _ => 4 - (intOf i).toNat)
      case atStart => exact ⟨0, by omega, rfl, rfl, rfl, rfl, rfl, rfl, rfl, Below.refl _ _⟩
      case round =>
        obtain ⟨k, hk, rfl, rfl, rfl, rfl, rfl, rfl, rfl, hbw⟩ := hrel
        by_cases hlt : k < 4
        · have hltI : (k : Int) < 4 := by omega
          have hrk := hrd.below hbw (Nat.le_refl _)
          go_wp2_with fail
          refine (spec_CardsOfSuit D zs.length dc (k : Int) zs _ _ _ hrk (by omega)).mono ?_
          rintro e w6 ⟨G, gc, rfl, hgc, hpg, og, c6⟩
          rw [cardsV_yes HH.out (inB_true (show (0 : Int) ≤ (k : Int) ∧ (k : Int) ≤ 3 by omega))]
          rw [cardsV_yes HH.out (inB_true (show (0 : Int) ≤ (k : Int) ∧ (k : Int) ≤ 3 by omega))] at og hgc
          have hb6 := Chg.above hbw c6 hbw.size (.inr rfl)
          have hsf := suitF_le (k : Int) zs
          obtain ⟨r1, r2, r3, r4, r5, r6⟩ := k_range HH.out k hlt
          have s1 := upTo_range (fun j hj => (k_range HH.out j hj).1) k hk
          have s2 := upTo_range (fun j hj => (k_range HH.out j hj).2.1) k hk
          have s3 := upTo_range (fun j hj => (k_range HH.out j hj).2.2.1) k hk
          have s4 := upTo_range (fun j hj => (k_range HH.out j hj).2.2.2.1) k hk
          have s5 := upTo_range (fun j hj => (k_range HH.out j hj).2.2.2.2.1) k hk
          have s6 := upTo_range (fun j hj => (k_range HH.out j hj).2.2.2.2.2) k hk
          have hrg := og.rd.all
          clear hbw c6 hrk og
          have b6 := Below.refl w6.heap.size w6
          go_wp2_with fail
          refine (IP G _ gc (suitF (k : Int) zs) _ _ _ (hrg.below b6 (Nat.le_refl _)) (by omega) hgc hpg).mono ?_
          rintro e w7 ⟨rfl, c7⟩
          rw [show hcpV (suitF (k : Int) zs) = pK zs k from rfl]
          have b7 := Chg.above b6 c7 b6.size (.inr rfl)
          clear c7 b6
          go_wp2_with fail
          refine (IC G _ gc (suitF (k : Int) zs) _ _ _ (hrg.below b7 (Nat.le_refl _)) (by omega) hgc hpg).mono ?_
          rintro e w8 ⟨rfl, c8⟩
          rw [show ctrlV (suitF (k : Int) zs) = cK zs k from rfl]
          have b8 := Chg.above b7 c8 b7.size (.inr rfl)
          clear c8 b7
          go_wp2_with fail
          refine (IL G _ gc (suitF (k : Int) zs) _ _ _ (hrg.below b8 (Nat.le_refl _)) (by omega) hgc hpg).mono ?_
          rintro e w9 ⟨rfl, c9⟩
          rw [show losersV (suitF (k : Int) zs) = lK zs k from rfl]
          have b9 := Chg.above b8 c9 b8.size (.inr rfl)
          clear c9 b8
          go_wp2_with fail
          refine (IQ G _ gc (suitF (k : Int) zs) _ _ _ (hrg.below b9 (Nat.le_refl _)) (by omega) hgc hpg).mono ?_
          rintro e w10 ⟨rfl, c10⟩
          rw [show quickV (suitF (k : Int) zs) = qK zs k from rfl]
          have b10 := Chg.above b9 c10 b9.size (.inr rfl)
          clear c10 b9
          go_wp2_with fail
          refine (IH G _ gc (k : Int) (suitF (k : Int) zs) _ _ _ (hrg.below b10 (Nat.le_refl _)) (by omega) hgc hpg).mono ?_
          rintro e w11 ⟨rfl, c11⟩
          rw [show honV (suitF (k : Int) zs) (k : Int) = hK zs k from rfl]
          have b11 := Chg.above b10 c11 b10.size (.inr rfl)
          clear c11 b10
          go_wp2_with fail
          refine (IH G _ gc 4 (suitF (k : Int) zs) _ _ _ (hrg.below b11 (Nat.le_refl _)) (by omega) hgc hpg).mono ?_
          rintro e w12 ⟨rfl, c12⟩
          rw [show honV (suitF (k : Int) zs) 4 = aK zs k from rfl]
          have b12 := Chg.above b11 c12 b11.size (.inr rfl)
          clear c12 b11
          have hb12 := hb6.trans (b12.mono hb6.size)
          go_wp2_with fail
          go_roundw
          case rel => exact ⟨k + 1, by omega, by go_num, by rw [upTo_step], by rw [upTo_step], by rw [upTo_step], by rw [upTo_step], by rw [upTo_step], by rw [upTo_step], hb12⟩
          case measure => simp [intOf]; omega
        · obtain rfl : k = 4 := by omega
          obtain ⟨e1, e2, e3, e4, e5, e6⟩ := HS.out
          rw [e1, e2, e3, e4, e5, e6]
          have d0 := hbw
          clear hbw
          have t0 := honV_range HH.out 0 (by omega) (by omega)
          have t1 := honV_range HH.out 1 (by omega) (by omega)
          have t2 := honV_range HH.out 2 (by omega) (by omega)
          have t3 := honV_range HH.out 3 (by omega) (by omega)
          clear e1 e2 e3 e4 e5 e6
          go_wp2_with fail
          refine (spec_HighCardPoints D zs.length dc zs _ _ _ (hrd.below d0 (Nat.le_refl _)) (by omega)).mono ?_
          rintro e w20 ⟨rfl, c20⟩
          have d1 := Chg.above d0 c20 d0.size (.inr rfl)
          clear c20 d0
          go_wp2_with fail
          refine (IP D zs.length dc zs _ _ _ (hrd.below d1 (Nat.le_refl _)) (by omega) hdc hp).mono ?_
          rintro e w21 ⟨rfl, c21⟩
          have d2 := Chg.above d1 c21 d1.size (.inr rfl)
          clear c21 d1
          go_wp2_with fail
          refine (IC D zs.length dc zs _ _ _ (hrd.below d2 (Nat.le_refl _)) (by omega) hdc hp).mono ?_
          rintro e w22 ⟨rfl, c22⟩
          have d3 := Chg.above d2 c22 d2.size (.inr rfl)
          clear c22 d2
          go_wp2_with fail
          refine (IL D zs.length dc zs _ _ _ (hrd.below d3 (Nat.le_refl _)) (by omega) hdc hp).mono ?_
          rintro e w23 ⟨rfl, c23⟩
          have d4 := Chg.above d3 c23 d3.size (.inr rfl)
          clear c23 d3
          go_wp2_with fail
          refine (IQ D zs.length dc zs _ _ _ (hrd.below d4 (Nat.le_refl _)) (by omega) hdc hp).mono ?_
          rintro e w24 ⟨rfl, c24⟩
          have d5 := Chg.above d4 c24 d4.size (.inr rfl)
          clear c24 d4
          go_wp2_with fail
          refine (IH D zs.length dc 4 zs _ _ _ (hrd.below d5 (Nat.le_refl _)) (by omega) hdc hp).mono ?_
          rintro e w25 ⟨rfl, c25⟩
          have d6 := Chg.above d5 c25 d5.size (.inr rfl)
          clear c25 d5
          go_wp2_with fail
          refine (IH D zs.length dc 0 zs _ _ _ (hrd.below d6 (Nat.le_refl _)) (by omega) hdc hp).mono ?_
          rintro e w26 ⟨rfl, c26⟩
          have d7 := Chg.above d6 c26 d6.size (.inr rfl)
          clear c26 d6
          go_wp2_with fail
          refine (IH D zs.length dc 1 zs _ _ _ (hrd.below d7 (Nat.le_refl _)) (by omega) hdc hp).mono ?_
          rintro e w27 ⟨rfl, c27⟩
          have d8 := Chg.above d7 c27 d7.size (.inr rfl)
          clear c27 d7
          go_wp2_with fail
          refine (IH D zs.length dc 2 zs _ _ _ (hrd.below d8 (Nat.le_refl _)) (by omega) hdc hp).mono ?_
          rintro e w28 ⟨rfl, c28⟩
          have d9 := Chg.above d8 c28 d8.size (.inr rfl)
          clear c28 d8
          go_wp2_with fail
          refine (IH D zs.length dc 3 zs _ _ _ (hrd.below d9 (Nat.le_refl _)) (by omega) hdc hp).mono ?_
          rintro e w29 ⟨rfl, c29⟩
          have d10 := Chg.above d9 c29 d9.size (.inr rfl)
          clear c29 d9
          go_wp2_with fail
          go_ret
          exact ⟨rfl, b3.trans (d10.mono b3.size)⟩

end Go.Proofs.Yteojdlacdnfgiaa.Lib1
