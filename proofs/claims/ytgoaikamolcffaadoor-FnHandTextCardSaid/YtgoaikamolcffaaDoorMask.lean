/- Chapter 2: the cards of a suit as the bits of a number. Lists and numbers alone: no function of the program. -/
import Derived.Test.YtgoaikamolcffaaDoorL02t
import Derived.Laws.BitsAllLaws
import Derived.Lib.BitFns
namespace Go.Proofs.YtgoaikamolcffaaDoor.Lib1
open Go.RowKit

/-- The bit of each of the first k ranks that passes. -/
def maskR (p : Nat → Bool) : Nat → Nat
  | 0 => 0
  | k + 1 => maskR p k ||| if p k then 2 ^ k else 0
theorem maskR_bit (p : Nat → Bool) (r : Nat) : ∀ k, (maskR p k).testBit r = (decide (r < k) && p r)
  | 0 => by simp [maskR]
  | k + 1 => by
    rw [maskR, Nat.testBit_or, maskR_bit p r k]
    by_cases h : r = k
    · subst h
      cases p r <;> simp
    · have e : decide (r < k + 1) = decide (r < k) := by rw [decide_eq_decide]; omega
      rw [e]
      cases p k
      · simp
      · have : k ≠ r := fun e => h e.symm
        simp [this]
/-- A suit's number: the bit of each rank that the hand has. -/
def maskN (zs : List Int) (s : Int) : Nat := maskR (fun r => topB zs s (r : Int)) 13
theorem maskN_bit (zs : List Int) (s : Int) (r : Nat) : (maskN zs s).testBit r = (decide (r < 13) && topB zs s r) := maskR_bit _ r 13
theorem maskN_lt (zs : List Int) (s : Int) : maskN zs s < 8192 := by
  have : maskN zs s < 2 ^ 13 := by
    apply Nat.lt_pow_two_of_testBit
    intro i hi
    rw [maskN_bit]
    have : ¬ i < 13 := by omega
    simp [this]
  simpa using this
theorem maskN_nil (s : Int) : maskN [] s = 0 := by
  apply Nat.eq_of_testBit_eq
  intro i
  rw [maskN_bit]
  simp [topB, hasB]
/-- One card more. -/
theorem maskN_snoc (l : List Int) (z s : Int) : maskN (l ++ [z]) s = maskN l s ||| if z / 13 = s then 2 ^ (z % 13).toNat else 0 := by
  apply Nat.eq_of_testBit_eq
  intro i
  rw [Nat.testBit_or, maskN_bit, maskN_bit]
  by_cases hs : z / 13 = s
  · rw [if_pos hs, Nat.testBit_two_pow]
    by_cases hi : i < 13
    · by_cases he : (z % 13).toNat = i
      · have : 13 * s + (i : Int) = z := by omega
        simp [hi, he, topB, hasB, this]
      · have : 13 * s + (i : Int) ≠ z := by omega
        simp [hi, he, topB, hasB, this]
    · have : (z % 13).toNat ≠ i := by omega
      simp [hi, this]
  · rw [if_neg hs]
    by_cases hi : i < 13
    · have : 13 * s + (i : Int) ≠ z := by omega
      simp [hi, topB, hasB, this]
    · simp [hi]
theorem maskN_same {l : List Int} {z s : Int} (h : z / 13 ≠ s) : maskN (l ++ [z]) s = maskN l s := by rw [maskN_snoc, if_neg h]; simp
/-- One bit of a number. -/
def bt (m r : Nat) : Nat := m / 2 ^ r % 2
theorem bt_mask (zs : List Int) (s : Int) (r : Nat) (h : r < 13) : bt (maskN zs s) r = if topB zs s r then 1 else 0 := by
  have e := maskN_bit zs s r
  rw [Nat.testBit_eq_decide_div_mod_eq] at e
  simp only [h, decide_true, Bool.true_and] at e
  unfold bt
  cases ht : topB zs s r
  · rw [ht] at e
    have := of_decide_eq_false e
    simp; omega
  · rw [ht] at e
    have := of_decide_eq_true e
    simp [this]
/-- How many of the 13 bits stand. -/
def ones (m : Nat) : Nat := bt m 0 + bt m 1 + bt m 2 + bt m 3 + bt m 4 + bt m 5 + bt m 6 + bt m 7 + bt m 8 + bt m 9 + bt m 10 + bt m 11 + bt m 12
theorem low_ones : ∀ n : Fin 256, Lib.onesCount n.val = bt n.val 0 + bt n.val 1 + bt n.val 2 + bt n.val 3 + bt n.val 4 + bt n.val 5 + bt n.val 6 + bt n.val 7 := by decide +kernel
theorem pop_low (n : Nat) (h : n < 256) : Lib.pop8 (n : Int) = (bt n 0 + bt n 1 + bt n 2 + bt n 3 + bt n 4 + bt n 5 + bt n 6 + bt n 7 : Nat) := by
  rw [← low_ones ⟨n, h⟩]; exact Lib.pop8_eq ⟨n, h⟩
theorem ones_pop (m : Nat) (h : m < 8192) : Lib.pop8 ((m / 256 : Nat) : Int) + Lib.pop8 ((m % 256 : Nat) : Int) = (ones m : Int) := by
  have a0 : bt (m / 256) 0 = bt m 8 := by simp only [bt, Nat.reducePow]; omega
  have a1 : bt (m / 256) 1 = bt m 9 := by simp only [bt, Nat.reducePow]; omega
  have a2 : bt (m / 256) 2 = bt m 10 := by simp only [bt, Nat.reducePow]; omega
  have a3 : bt (m / 256) 3 = bt m 11 := by simp only [bt, Nat.reducePow]; omega
  have a4 : bt (m / 256) 4 = bt m 12 := by simp only [bt, Nat.reducePow]; omega
  have a5 : bt (m / 256) 5 = 0 := by simp only [bt, Nat.reducePow]; omega
  have a6 : bt (m / 256) 6 = 0 := by simp only [bt, Nat.reducePow]; omega
  have a7 : bt (m / 256) 7 = 0 := by simp only [bt, Nat.reducePow]; omega
  have b0 : bt (m % 256) 0 = bt m 0 := by simp only [bt, Nat.reducePow]; omega
  have b1 : bt (m % 256) 1 = bt m 1 := by simp only [bt, Nat.reducePow]; omega
  have b2 : bt (m % 256) 2 = bt m 2 := by simp only [bt, Nat.reducePow]; omega
  have b3 : bt (m % 256) 3 = bt m 3 := by simp only [bt, Nat.reducePow]; omega
  have b4 : bt (m % 256) 4 = bt m 4 := by simp only [bt, Nat.reducePow]; omega
  have b5 : bt (m % 256) 5 = bt m 5 := by simp only [bt, Nat.reducePow]; omega
  have b6 : bt (m % 256) 6 = bt m 6 := by simp only [bt, Nat.reducePow]; omega
  have b7 : bt (m % 256) 7 = bt m 7 := by simp only [bt, Nat.reducePow]; omega
  rw [pop_low (m / 256) (by omega), pop_low (m % 256) (by omega), a0, a1, a2, a3, a4, a5, a6, a7, b0, b1, b2, b3, b4, b5, b6, b7, ones]
  omega
theorem ones_le (m : Nat) : ones m ≤ 13 := by simp only [ones, bt]; omega
/-- The honors of a suit: its five highest bits. -/
theorem ones_high (m : Nat) (h : m < 8192) : ones (m / 256) = bt m 8 + bt m 9 + bt m 10 + bt m 11 + bt m 12 := by
  simp only [ones, bt, Nat.reducePow]
  omega

/-! ### A sum over the cards of a suit, as a sum over the ranks -/
def rankS (f : Int → Int) (l : List Int) (s : Int) : Nat → Int
  | 0 => 0
  | k + 1 => rankS f l s k + if topB l s k then f (13 * s + k) else 0
theorem rankS_cons (f : Int → Int) (l : List Int) (s z : Int) (hz : z ∉ l) (h0 : z / 13 = s) : ∀ k, rankS f (z :: l) s k = rankS f l s k + if z % 13 < k then f z else 0
  | 0 => by simp only [rankS]; rw [if_neg (by omega)]; rfl
  | k + 1 => by
    simp only [rankS, rankS_cons f l s z hz h0 k]
    by_cases he : 13 * s + (k : Int) = z
    · have a : topB (z :: l) s k = true := by simp [topB, hasB, he]
      have b : topB l s k = false := by simp [topB, hasB, he, hz]
      have c : ¬ z % 13 < (k : Int) := by omega
      have d : z % 13 < ((k + 1 : Nat) : Int) := by omega
      rw [a, b, if_neg c, if_pos d, he]
      simp
    · have a : topB (z :: l) s k = topB l s k := by simp [topB, hasB, he]
      rw [a]
      by_cases hk : z % 13 < k
      · have d : z % 13 < ((k + 1 : Nat) : Int) := by omega
        rw [if_pos hk, if_pos d]; omega
      · have d : ¬ z % 13 < ((k + 1 : Nat) : Int) := by omega
        rw [if_neg hk, if_neg d]; omega
theorem sum_ranks (f : Int → Int) (s : Int) : ∀ l : List Int, l.Pairwise (· < ·) → (∀ z ∈ l, z / 13 = s) → sumF f l = rankS f l s 13
  | [], _, _ => by simp [sumF, rankS, topB, hasB]
  | z :: l, hp, hq => by
    rw [List.pairwise_cons] at hp
    rw [sumF, sum_ranks f s l hp.2 (fun y hy => hq y (by simp [hy])), rankS_cons f l s z (fun hz => by have := hp.1 z hz; omega) (hq z (by simp)) 13, if_pos (by omega)]
    omega
theorem rankS_suit (f : Int → Int) (zs : List Int) (s : Int) : ∀ k, k ≤ 13 → rankS f (suitF s zs) s k = rankS f zs s k
  | 0, _ => rfl
  | k + 1, h => by
    simp only [rankS]
    rw [rankS_suit f zs s k (by omega), topB_suit zs s k (by omega) (by omega), topB]
theorem suit_ranks {zs : List Int} (h : handB zs = true) (f : Int → Int) (s : Int) : sumF f (suitF s zs) = rankS f zs s 13 := by
  have p := suit_pair h s
  rw [sum_ranks f s _ p.1 p.2, rankS_suit f zs s 13 (Nat.le_refl _)]
theorem sumF_one : ∀ l : List Int, sumF (fun _ => 1) l = l.length
  | [] => rfl
  | z :: l => by simp only [sumF, sumF_one l, List.length_cons]; omega
theorem bti (zs : List Int) (s : Int) (r : Nat) (h : r < 13) (x : Int) : (if topB zs s (r : Int) then x else 0) = (bt (maskN zs s) r : Int) * x := by
  rw [bt_mask zs s r h]
  cases topB zs s (r : Int) <;> simp
/-- A suit's length. -/
theorem ones_mask {zs : List Int} (h : handB zs = true) (s : Int) : (ones (maskN zs s) : Int) = (suitF s zs).length := by
  rw [← sumF_one, suit_ranks h]
  simp only [rankS]
  rw [bti zs s 0 (by omega), bti zs s 1 (by omega), bti zs s 2 (by omega), bti zs s 3 (by omega), bti zs s 4 (by omega), bti zs s 5 (by omega), bti zs s 6 (by omega), bti zs s 7 (by omega), bti zs s 8 (by omega), bti zs s 9 (by omega), bti zs s 10 (by omega), bti zs s 11 (by omega), bti zs s 12 (by omega)]
  simp only [ones]
  omega
theorem points_mask {zs : List Int} (h : handB zs = true) (s : Int) : (4 * bt (maskN zs s) 12 + 3 * bt (maskN zs s) 11 + 2 * bt (maskN zs s) 10 + bt (maskN zs s) 9 : Int) = sumF pointF (suitF s zs) := by
  have e : ∀ r : Nat, r < 9 → pointF (13 * s + (r : Int)) = 0 := fun r hr => by unfold pointF; omega
  have e9 : pointF (13 * s + ((9 : Nat) : Int)) = 1 := by unfold pointF; omega
  have e10 : pointF (13 * s + ((10 : Nat) : Int)) = 2 := by unfold pointF; omega
  have e11 : pointF (13 * s + ((11 : Nat) : Int)) = 3 := by unfold pointF; omega
  have e12 : pointF (13 * s + ((12 : Nat) : Int)) = 4 := by unfold pointF; omega
  rw [suit_ranks h]
  simp only [rankS]
  rw [e 0 (by omega), e 1 (by omega), e 2 (by omega), e 3 (by omega), e 4 (by omega), e 5 (by omega), e 6 (by omega), e 7 (by omega), e 8 (by omega), e9, e10, e11, e12]
  rw [bti zs s 0 (by omega), bti zs s 1 (by omega), bti zs s 2 (by omega), bti zs s 3 (by omega), bti zs s 4 (by omega), bti zs s 5 (by omega), bti zs s 6 (by omega), bti zs s 7 (by omega), bti zs s 8 (by omega), bti zs s 9 (by omega), bti zs s 10 (by omega), bti zs s 11 (by omega), bti zs s 12 (by omega)]
  omega
theorem contr_mask {zs : List Int} (h : handB zs = true) (s : Int) : (2 * bt (maskN zs s) 12 + bt (maskN zs s) 11 : Int) = sumF contrF (suitF s zs) := by
  have e : ∀ r : Nat, r < 11 → contrF (13 * s + (r : Int)) = 0 := fun r hr => by unfold contrF; omega
  have e11 : contrF (13 * s + ((11 : Nat) : Int)) = 1 := by unfold contrF; omega
  have e12 : contrF (13 * s + ((12 : Nat) : Int)) = 2 := by unfold contrF; omega
  rw [suit_ranks h]
  simp only [rankS]
  rw [e 0 (by omega), e 1 (by omega), e 2 (by omega), e 3 (by omega), e 4 (by omega), e 5 (by omega), e 6 (by omega), e 7 (by omega), e 8 (by omega), e 9 (by omega), e 10 (by omega), e11, e12]
  rw [bti zs s 0 (by omega), bti zs s 1 (by omega), bti zs s 2 (by omega), bti zs s 3 (by omega), bti zs s 4 (by omega), bti zs s 5 (by omega), bti zs s 6 (by omega), bti zs s 7 (by omega), bti zs s 8 (by omega), bti zs s 9 (by omega), bti zs s 10 (by omega), bti zs s 11 (by omega), bti zs s 12 (by omega)]
  omega
theorem aces_mask {zs : List Int} (h : handB zs = true) (s : Int) (h3 : s ≤ 3) : (bt (maskN zs s) 12 : Int) = sumF (honF 4) (suitF s zs) := by
  have e : ∀ r : Nat, r < 12 → honF 4 (13 * s + (r : Int)) = 0 := fun r hr => by unfold honF; rw [if_neg (by omega)]
  have e12 : honF 4 (13 * s + ((12 : Nat) : Int)) = 1 := by unfold honF; rw [if_pos (by omega)]
  rw [suit_ranks h]
  simp only [rankS]
  rw [e 0 (by omega), e 1 (by omega), e 2 (by omega), e 3 (by omega), e 4 (by omega), e 5 (by omega), e 6 (by omega), e 7 (by omega), e 8 (by omega), e 9 (by omega), e 10 (by omega), e 11 (by omega), e12]
  rw [bti zs s 0 (by omega), bti zs s 1 (by omega), bti zs s 2 (by omega), bti zs s 3 (by omega), bti zs s 4 (by omega), bti zs s 5 (by omega), bti zs s 6 (by omega), bti zs s 7 (by omega), bti zs s 8 (by omega), bti zs s 9 (by omega), bti zs s 10 (by omega), bti zs s 11 (by omega), bti zs s 12 (by omega)]
  omega
theorem honors_mask {zs : List Int} (h : handB zs = true) (s : Int) (h3 : s ≤ 3) : (ones (maskN zs s / 256) : Int) = sumF (honF s) (suitF s zs) := by
  have e : ∀ r : Nat, r < 8 → honF s (13 * s + (r : Int)) = 0 := fun r hr => by unfold honF; rw [if_neg (by omega)]
  have e8 : honF s (13 * s + ((8 : Nat) : Int)) = 1 := by unfold honF; rw [if_pos (by omega)]
  have e9 : honF s (13 * s + ((9 : Nat) : Int)) = 1 := by unfold honF; rw [if_pos (by omega)]
  have e10 : honF s (13 * s + ((10 : Nat) : Int)) = 1 := by unfold honF; rw [if_pos (by omega)]
  have e11 : honF s (13 * s + ((11 : Nat) : Int)) = 1 := by unfold honF; rw [if_pos (by omega)]
  have e12 : honF s (13 * s + ((12 : Nat) : Int)) = 1 := by unfold honF; rw [if_pos (by omega)]
  rw [ones_high _ (maskN_lt zs s), suit_ranks h]
  simp only [rankS]
  rw [e 0 (by omega), e 1 (by omega), e 2 (by omega), e 3 (by omega), e 4 (by omega), e 5 (by omega), e 6 (by omega), e 7 (by omega), e8, e9, e10, e11, e12]
  rw [bti zs s 0 (by omega), bti zs s 1 (by omega), bti zs s 2 (by omega), bti zs s 3 (by omega), bti zs s 4 (by omega), bti zs s 5 (by omega), bti zs s 6 (by omega), bti zs s 7 (by omega), bti zs s 8 (by omega), bti zs s 9 (by omega), bti zs s 10 (by omega), bti zs s 11 (by omega), bti zs s 12 (by omega)]
  omega
/-- The losers of the k highest ranks. -/
def loseN (m : Nat) : Nat → Int
  | 0 => 0
  | k + 1 => loseN m k + (1 - (bt m (12 - k) : Int))
theorem loseN_mask (zs : List Int) (s : Int) : ∀ k, k ≤ 3 → loseN (maskN zs s) k = loseTo zs s k
  | 0, _ => rfl
  | k + 1, h => by
    have e : ((12 - k : Nat) : Int) = 12 - (k : Int) := by omega
    simp only [loseN, loseTo]
    rw [loseN_mask zs s k (by omega), bt_mask zs s (12 - k) (by omega), e]
    cases topB zs s (12 - (k : Int)) <;> simp
theorem lose_mask {zs : List Int} (h : handB zs = true) (s : Int) : loseN (maskN zs s) (min (ones (maskN zs s)) 3) = loseS zs s := by
  have e := ones_mask h s
  rw [loseN_mask zs s _ (by omega), loseS]
  congr 1
  omega
/-- Twice the quick tricks of a suit, off its number. -/
def quickN (m : Nat) : Int :=
  if bt m 12 = 1 ∧ bt m 11 = 1 then 4 else if bt m 12 = 1 ∧ bt m 10 = 1 then 3 else if bt m 12 = 1 ∨ (bt m 11 = 1 ∧ bt m 10 = 1) then 2 else if bt m 11 = 1 ∧ 2 ≤ ones m then 1 else 0
theorem quick_mask {zs : List Int} (h : handB zs = true) (s : Int) : quickN (maskN zs s) = quickS zs s := by
  have e := ones_mask h s
  have a := bt_mask zs s 12 (by omega)
  have b := bt_mask zs s 11 (by omega)
  have c := bt_mask zs s 10 (by omega)
  have e2 : (2 ≤ ones (maskN zs s)) = (1 < (suitF s zs).length) := by rw [eq_iff_iff]; omega
  unfold quickN quickS
  simp only [a, b, c, e2]
  simp only [show ((12 : Nat) : Int) = 12 from rfl, show ((11 : Nat) : Int) = 11 from rfl, show ((10 : Nat) : Int) = 10 from rfl]
  cases topB zs s 12 <;> cases topB zs s 11 <;> cases topB zs s 10 <;> simp

end Go.Proofs.YtgoaikamolcffaaDoor.Lib1
