/- Chapter 2: the cards of a suit as the bits of a number. Lists and numbers alone: no function of the program. Chapter 2: the program's small functions over a suit's number. Chapter 2: the program's losersIn, suitsOf, suitCounts, sumOverSuits. Chapter 2: the letters of a suit off its number. Lists and numbers alone. -/
import Derived.Test.YteojdlacdnfgiaaDoorTwo
import Derived.Laws.BitsAllLaws
import Derived.Lib.BitFns
import Derived.Test.YteojdlacdnfgiaaDoorLaw2
import Derived.Laws.Tables
import Derived.Laws.Rows
namespace Go.Proofs.YteojdlacdnfgiaaDoor.Lib1

section
open Go.RowKit
set_option maxRecDepth 100000

/-- The bit of each of the first k ranks that passes. -/
def maskR (p : Nat → Bool) : Nat → Nat
  | 0 => 0
  | k + 1 => maskR p k ||| if p k then 2 ^ k else 0
theorem maskR_bit (p : Nat → Bool) (r : Nat) : ∀ k, (maskR p k).testBit r = (decide (r < k) && p r)
  | 0 => by simp [maskR]
  | k + 1 => by
    rw [maskR, Nat.testBit_or, maskR_bit p r k]
    by_cases h : r = k
    · subst h
      cases p r <;> simp
    · have e : decide (r < k + 1) = decide (r < k) := by rw [decide_eq_decide]; omega
      rw [e]
      cases p k
      · simp
      · have : k ≠ r := fun e => h e.symm
        simp [this]
/-- A suit's number: the bit of each rank that the hand has. -/
def maskN (zs : List Int) (s : Int) : Nat := maskR (fun r => topB zs s (r : Int)) 13
theorem maskN_bit (zs : List Int) (s : Int) (r : Nat) : (maskN zs s).testBit r = (decide (r < 13) && topB zs s r) := maskR_bit _ r 13
theorem maskN_lt (zs : List Int) (s : Int) : maskN zs s < 8192 := by
  have : maskN zs s < 2 ^ 13 := by
    apply Nat.lt_pow_two_of_testBit
    intro i hi
    rw [maskN_bit]
    have : ¬ i < 13 := by omega
    simp [this]
  simpa using this
theorem maskN_nil (s : Int) : maskN [] s = 0 := by
  apply Nat.eq_of_testBit_eq
  intro i
  rw [maskN_bit]
  simp [topB, hasB]
/-- One card more. -/
theorem maskN_snoc (l : List Int) (z s : Int) : maskN (l ++ [z]) s = maskN l s ||| if z / 13 = s then 2 ^ (z % 13).toNat else 0 := by
  apply Nat.eq_of_testBit_eq
  intro i
  rw [Nat.testBit_or, maskN_bit, maskN_bit]
  by_cases hs : z / 13 = s
  · rw [if_pos hs, Nat.testBit_two_pow]
    by_cases hi : i < 13
    · by_cases he : (z % 13).toNat = i
      · have : 13 * s + (i : Int) = z := by omega
        simp [hi, he, topB, hasB, this]
      · have : 13 * s + (i : Int) ≠ z := by omega
        simp [hi, he, topB, hasB, this]
    · have : (z % 13).toNat ≠ i := by omega
      simp [hi, this]
  · rw [if_neg hs]
    by_cases hi : i < 13
    · have : 13 * s + (i : Int) ≠ z := by omega
      simp [hi, topB, hasB, this]
    · simp [hi]
theorem maskN_same {l : List Int} {z s : Int} (h : z / 13 ≠ s) : maskN (l ++ [z]) s = maskN l s := by rw [maskN_snoc, if_neg h]; simp
/-- One bit of a number. -/
def bt (m r : Nat) : Nat := m / 2 ^ r % 2
theorem bt_mask (zs : List Int) (s : Int) (r : Nat) (h : r < 13) : bt (maskN zs s) r = if topB zs s r then 1 else 0 := by
  have e := maskN_bit zs s r
  rw [Nat.testBit_eq_decide_div_mod_eq] at e
  simp only [h, decide_true, Bool.true_and] at e
  unfold bt
  cases ht : topB zs s r
  · rw [ht] at e
    have := of_decide_eq_false e
    simp; omega
  · rw [ht] at e
    have := of_decide_eq_true e
    simp [this]
/-- How many of the 13 bits stand. -/
def ones (m : Nat) : Nat := bt m 0 + bt m 1 + bt m 2 + bt m 3 + bt m 4 + bt m 5 + bt m 6 + bt m 7 + bt m 8 + bt m 9 + bt m 10 + bt m 11 + bt m 12
theorem low_ones : ∀ n : Fin 256, Lib.onesCount n.val = bt n.val 0 + bt n.val 1 + bt n.val 2 + bt n.val 3 + bt n.val 4 + bt n.val 5 + bt n.val 6 + bt n.val 7 := by decide +kernel
theorem pop_low (n : Nat) (h : n < 256) : Lib.pop8 (n : Int) = (bt n 0 + bt n 1 + bt n 2 + bt n 3 + bt n 4 + bt n 5 + bt n 6 + bt n 7 : Nat) := by
  rw [← low_ones ⟨n, h⟩]; exact Lib.pop8_eq ⟨n, h⟩
theorem ones_pop (m : Nat) (h : m < 8192) : Lib.pop8 ((m / 256 : Nat) : Int) + Lib.pop8 ((m % 256 : Nat) : Int) = (ones m : Int) := by
  have a0 : bt (m / 256) 0 = bt m 8 := by simp only [bt, Nat.reducePow]; omega
  have a1 : bt (m / 256) 1 = bt m 9 := by simp only [bt, Nat.reducePow]; omega
  have a2 : bt (m / 256) 2 = bt m 10 := by simp only [bt, Nat.reducePow]; omega
  have a3 : bt (m / 256) 3 = bt m 11 := by simp only [bt, Nat.reducePow]; omega
  have a4 : bt (m / 256) 4 = bt m 12 := by simp only [bt, Nat.reducePow]; omega
  have a5 : bt (m / 256) 5 = 0 := by simp only [bt, Nat.reducePow]; omega
  have a6 : bt (m / 256) 6 = 0 := by simp only [bt, Nat.reducePow]; omega
  have a7 : bt (m / 256) 7 = 0 := by simp only [bt, Nat.reducePow]; omega
  have b0 : bt (m % 256) 0 = bt m 0 := by simp only [bt, Nat.reducePow]; omega
  have b1 : bt (m % 256) 1 = bt m 1 := by simp only [bt, Nat.reducePow]; omega
  have b2 : bt (m % 256) 2 = bt m 2 := by simp only [bt, Nat.reducePow]; omega
  have b3 : bt (m % 256) 3 = bt m 3 := by simp only [bt, Nat.reducePow]; omega
  have b4 : bt (m % 256) 4 = bt m 4 := by simp only [bt, Nat.reducePow]; omega
  have b5 : bt (m % 256) 5 = bt m 5 := by simp only [bt, Nat.reducePow]; omega
  have b6 : bt (m % 256) 6 = bt m 6 := by simp only [bt, Nat.reducePow]; omega
  have b7 : bt (m % 256) 7 = bt m 7 := by simp only [bt, Nat.reducePow]; omega
  rw [pop_low (m / 256) (by omega), pop_low (m % 256) (by omega), a0, a1, a2, a3, a4, a5, a6, a7, b0, b1, b2, b3, b4, b5, b6, b7, ones]
  omega
theorem ones_le (m : Nat) : ones m ≤ 13 := by simp only [ones, bt]; omega
/-- The honors of a suit: its five highest bits. -/
theorem ones_high (m : Nat) (h : m < 8192) : ones (m / 256) = bt m 8 + bt m 9 + bt m 10 + bt m 11 + bt m 12 := by
  simp only [ones, bt, Nat.reducePow]
  omega

/-! ### A sum over the cards of a suit, as a sum over the ranks -/
def rankS (f : Int → Int) (l : List Int) (s : Int) : Nat → Int
  | 0 => 0
  | k + 1 => rankS f l s k + if topB l s k then f (13 * s + k) else 0
theorem rankS_cons (f : Int → Int) (l : List Int) (s z : Int) (hz : z ∉ l) (h0 : z / 13 = s) : ∀ k, rankS f (z :: l) s k = rankS f l s k + if z % 13 < k then f z else 0
  | 0 => by simp only [rankS]; rw [if_neg (by omega)]; rfl
  | k + 1 => by
    simp only [rankS, rankS_cons f l s z hz h0 k]
    by_cases he : 13 * s + (k : Int) = z
    · have a : topB (z :: l) s k = true := by simp [topB, hasB, he]
      have b : topB l s k = false := by simp [topB, hasB, he, hz]
      have c : ¬ z % 13 < (k : Int) := by omega
      have d : z % 13 < ((k + 1 : Nat) : Int) := by omega
      rw [a, b, if_neg c, if_pos d, he]
      simp
    · have a : topB (z :: l) s k = topB l s k := by simp [topB, hasB, he]
      rw [a]
      by_cases hk : z % 13 < k
      · have d : z % 13 < ((k + 1 : Nat) : Int) := by omega
        rw [if_pos hk, if_pos d]; omega
      · have d : ¬ z % 13 < ((k + 1 : Nat) : Int) := by omega
        rw [if_neg hk, if_neg d]; omega
theorem sum_ranks (f : Int → Int) (s : Int) : ∀ l : List Int, l.Pairwise (· < ·) → (∀ z ∈ l, z / 13 = s) → sumF f l = rankS f l s 13
  | [], _, _ => by simp [sumF, rankS, topB, hasB]
  | z :: l, hp, hq => by
    rw [List.pairwise_cons] at hp
    rw [sumF, sum_ranks f s l hp.2 (fun y hy => hq y (by simp [hy])), rankS_cons f l s z (fun hz => by have := hp.1 z hz; omega) (hq z (by simp)) 13, if_pos (by omega)]
    omega
theorem rankS_suit (f : Int → Int) (zs : List Int) (s : Int) : ∀ k, k ≤ 13 → rankS f (suitF s zs) s k = rankS f zs s k
  | 0, _ => rfl
  | k + 1, h => by
    simp only [rankS]
    rw [rankS_suit f zs s k (by omega), topB_suit zs s k (by omega) (by omega), topB]
theorem suit_ranks {zs : List Int} (h : handB zs = true) (f : Int → Int) (s : Int) : sumF f (suitF s zs) = rankS f zs s 13 := by
  have p := suit_pair h s
  rw [sum_ranks f s _ p.1 p.2, rankS_suit f zs s 13 (Nat.le_refl _)]
theorem sumF_one : ∀ l : List Int, sumF (fun _ => 1) l = l.length
  | [] => rfl
  | z :: l => by simp only [sumF, sumF_one l, List.length_cons]; omega
theorem bti (zs : List Int) (s : Int) (r : Nat) (h : r < 13) (x : Int) : (if topB zs s (r : Int) then x else 0) = (bt (maskN zs s) r : Int) * x := by
  rw [bt_mask zs s r h]
  cases topB zs s (r : Int) <;> simp
/-- A suit's length. -/
theorem ones_mask {zs : List Int} (h : handB zs = true) (s : Int) : (ones (maskN zs s) : Int) = (suitF s zs).length := by
  rw [← sumF_one, suit_ranks h]
  simp only [rankS]
  rw [bti zs s 0 (by omega), bti zs s 1 (by omega), bti zs s 2 (by omega), bti zs s 3 (by omega), bti zs s 4 (by omega), bti zs s 5 (by omega), bti zs s 6 (by omega), bti zs s 7 (by omega), bti zs s 8 (by omega), bti zs s 9 (by omega), bti zs s 10 (by omega), bti zs s 11 (by omega), bti zs s 12 (by omega)]
  simp only [ones]
  omega
theorem points_mask {zs : List Int} (h : handB zs = true) (s : Int) : (4 * bt (maskN zs s) 12 + 3 * bt (maskN zs s) 11 + 2 * bt (maskN zs s) 10 + bt (maskN zs s) 9 : Int) = sumF pointF (suitF s zs) := by
  have e : ∀ r : Nat, r < 9 → pointF (13 * s + (r : Int)) = 0 := fun r hr => by unfold pointF; omega
  have e9 : pointF (13 * s + ((9 : Nat) : Int)) = 1 := by unfold pointF; omega
  have e10 : pointF (13 * s + ((10 : Nat) : Int)) = 2 := by unfold pointF; omega
  have e11 : pointF (13 * s + ((11 : Nat) : Int)) = 3 := by unfold pointF; omega
  have e12 : pointF (13 * s + ((12 : Nat) : Int)) = 4 := by unfold pointF; omega
  rw [suit_ranks h]
  simp only [rankS]
  rw [e 0 (by omega), e 1 (by omega), e 2 (by omega), e 3 (by omega), e 4 (by omega), e 5 (by omega), e 6 (by omega), e 7 (by omega), e 8 (by omega), e9, e10, e11, e12]
  rw [bti zs s 0 (by omega), bti zs s 1 (by omega), bti zs s 2 (by omega), bti zs s 3 (by omega), bti zs s 4 (by omega), bti zs s 5 (by omega), bti zs s 6 (by omega), bti zs s 7 (by omega), bti zs s 8 (by omega), bti zs s 9 (by omega), bti zs s 10 (by omega), bti zs s 11 (by omega), bti zs s 12 (by omega)]
  omega
theorem contr_mask {zs : List Int} (h : handB zs = true) (s : Int) : (2 * bt (maskN zs s) 12 + bt (maskN zs s) 11 : Int) = sumF contrF (suitF s zs) := by
  have e : ∀ r : Nat, r < 11 → contrF (13 * s + (r : Int)) = 0 := fun r hr => by unfold contrF; omega
  have e11 : contrF (13 * s + ((11 : Nat) : Int)) = 1 := by unfold contrF; omega
  have e12 : contrF (13 * s + ((12 : Nat) : Int)) = 2 := by unfold contrF; omega
  rw [suit_ranks h]
  simp only [rankS]
  rw [e 0 (by omega), e 1 (by omega), e 2 (by omega), e 3 (by omega), e 4 (by omega), e 5 (by omega), e 6 (by omega), e 7 (by omega), e 8 (by omega), e 9 (by omega), e 10 (by omega), e11, e12]
  rw [bti zs s 0 (by omega), bti zs s 1 (by omega), bti zs s 2 (by omega), bti zs s 3 (by omega), bti zs s 4 (by omega), bti zs s 5 (by omega), bti zs s 6 (by omega), bti zs s 7 (by omega), bti zs s 8 (by omega), bti zs s 9 (by omega), bti zs s 10 (by omega), bti zs s 11 (by omega), bti zs s 12 (by omega)]
  omega
theorem aces_mask {zs : List Int} (h : handB zs = true) (s : Int) (h3 : s ≤ 3) : (bt (maskN zs s) 12 : Int) = sumF (honF 4) (suitF s zs) := by
  have e : ∀ r : Nat, r < 12 → honF 4 (13 * s + (r : Int)) = 0 := fun r hr => by unfold honF; rw [if_neg (by omega)]
  have e12 : honF 4 (13 * s + ((12 : Nat) : Int)) = 1 := by unfold honF; rw [if_pos (by omega)]
  rw [suit_ranks h]
  simp only [rankS]
  rw [e 0 (by omega), e 1 (by omega), e 2 (by omega), e 3 (by omega), e 4 (by omega), e 5 (by omega), e 6 (by omega), e 7 (by omega), e 8 (by omega), e 9 (by omega), e 10 (by omega), e 11 (by omega), e12]
  rw [bti zs s 0 (by omega), bti zs s 1 (by omega), bti zs s 2 (by omega), bti zs s 3 (by omega), bti zs s 4 (by omega), bti zs s 5 (by omega), bti zs s 6 (by omega), bti zs s 7 (by omega), bti zs s 8 (by omega), bti zs s 9 (by omega), bti zs s 10 (by omega), bti zs s 11 (by omega), bti zs s 12 (by omega)]
  omega
theorem honors_mask {zs : List Int} (h : handB zs = true) (s : Int) (h3 : s ≤ 3) : (ones (maskN zs s / 256) : Int) = sumF (honF s) (suitF s zs) := by
  have e : ∀ r : Nat, r < 8 → honF s (13 * s + (r : Int)) = 0 := fun r hr => by unfold honF; rw [if_neg (by omega)]
  have e8 : honF s (13 * s + ((8 : Nat) : Int)) = 1 := by unfold honF; rw [if_pos (by omega)]
  have e9 : honF s (13 * s + ((9 : Nat) : Int)) = 1 := by unfold honF; rw [if_pos (by omega)]
  have e10 : honF s (13 * s + ((10 : Nat) : Int)) = 1 := by unfold honF; rw [if_pos (by omega)]
  have e11 : honF s (13 * s + ((11 : Nat) : Int)) = 1 := by unfold honF; rw [if_pos (by omega)]
  have e12 : honF s (13 * s + ((12 : Nat) : Int)) = 1 := by unfold honF; rw [if_pos (by omega)]
  rw [ones_high _ (maskN_lt zs s), suit_ranks h]
  simp only [rankS]
  rw [e 0 (by omega), e 1 (by omega), e 2 (by omega), e 3 (by omega), e 4 (by omega), e 5 (by omega), e 6 (by omega), e 7 (by omega), e8, e9, e10, e11, e12]
  rw [bti zs s 0 (by omega), bti zs s 1 (by omega), bti zs s 2 (by omega), bti zs s 3 (by omega), bti zs s 4 (by omega), bti zs s 5 (by omega), bti zs s 6 (by omega), bti zs s 7 (by omega), bti zs s 8 (by omega), bti zs s 9 (by omega), bti zs s 10 (by omega), bti zs s 11 (by omega), bti zs s 12 (by omega)]
  omega
/-- The losers of the k highest ranks. -/
def loseN (m : Nat) : Nat → Int
  | 0 => 0
  | k + 1 => loseN m k + (1 - (bt m (12 - k) : Int))
theorem loseN_mask (zs : List Int) (s : Int) : ∀ k, k ≤ 3 → loseN (maskN zs s) k = loseTo zs s k
  | 0, _ => rfl
  | k + 1, h => by
    have e : ((12 - k : Nat) : Int) = 12 - (k : Int) := by omega
    simp only [loseN, loseTo]
    rw [loseN_mask zs s k (by omega), bt_mask zs s (12 - k) (by omega), e]
    cases topB zs s (12 - (k : Int)) <;> simp
theorem lose_mask {zs : List Int} (h : handB zs = true) (s : Int) : loseN (maskN zs s) (min (ones (maskN zs s)) 3) = loseS zs s := by
  have e := ones_mask h s
  rw [loseN_mask zs s _ (by omega), loseS]
  congr 1
  omega
/-- Twice the quick tricks of a suit, off its number. -/
def quickN (m : Nat) : Int :=
  if bt m 12 = 1 ∧ bt m 11 = 1 then 4 else if bt m 12 = 1 ∧ bt m 10 = 1 then 3 else if bt m 12 = 1 ∨ (bt m 11 = 1 ∧ bt m 10 = 1) then 2 else if bt m 11 = 1 ∧ 2 ≤ ones m then 1 else 0
theorem quick_mask {zs : List Int} (h : handB zs = true) (s : Int) : quickN (maskN zs s) = quickS zs s := by
  have e := ones_mask h s
  have a := bt_mask zs s 12 (by omega)
  have b := bt_mask zs s 11 (by omega)
  have c := bt_mask zs s 10 (by omega)
  have e2 : (2 ≤ ones (maskN zs s)) = (1 < (suitF s zs).length) := by rw [eq_iff_iff]; omega
  unfold quickN quickS
  simp only [a, b, c, e2]
  simp only [show ((12 : Nat) : Int) = 12 from rfl, show ((11 : Nat) : Int) = 11 from rfl, show ((10 : Nat) : Int) = 10 from rfl]
  cases topB zs s 12 <;> cases topB zs s 11 <;> cases topB zs s 10 <;> simp
end

section
open Go.RowKit
set_option maxRecDepth 100000

theorem and1 (m r : Nat) (hm : m < 8192) : bits .and .u16 ((m : Int) / 2 ^ r) 1 = (bt m r : Int) := by
  have e : ((m : Int) / 2 ^ r) = ((m / 2 ^ r : Nat) : Int) := by simp
  have l : m / 2 ^ r ≤ m := Nat.div_le_self _ _
  have h := u16_and_nat (m / 2 ^ r) 1 (by omega) (by omega)
  rw [e]
  rw [nat_mask1] at h
  exact h

theorem has (m r : Nat) (w : World) (hm : m < 8192) (hr : r < 13) :
    Calls Tryd.prog 63 #[.int .u16 m, .int .i64 r] w fun e w' => e = .returned (.bool (decide (bt m r = 1))) ∧ w = w' := by
  have e := and1 m r hm
  go_enter Tryd.func63, Tryd.ntmps63
  go_wp2
  go_ret
  exact ⟨ret_bool (by rw [Bool.eq_iff_iff]; simp; omega), rfl⟩

theorem has_of (m : Nat) (x : Int) (r : Nat) (w : World) (hx : x = r) (hm : m < 8192) (hr : r < 13) :
    Calls Tryd.prog 63 #[.int .u16 m, .int .i64 x] w fun e w' => e = .returned (.bool (decide (bt m r = 1))) ∧ w = w' := by subst hx; exact has m r w hm hr



/-- What is asked of a function over one suit's number. -/
def OfSuit (f : Nat) (v : Nat → Int) : Prop := ∀ (m : Nat) (w : World), m < 8192 → Calls Tryd.prog f #[.int .u16 m] w fun e w' => e = .returned (.int .i64 (v m)) ∧ Chg w w' 0 0

theorem bt_le (m r : Nat) : bt m r ≤ 1 := by unfold bt; omega
def pointN (m : Nat) : Int := 4 * bt m 12 + 3 * bt m 11 + 2 * bt m 10 + bt m 9
def contrN (m : Nat) : Int := 2 * bt m 12 + bt m 11
def acesN (m : Nat) : Int := bt m 12
def honN (m : Nat) : Int := ones (m / 256)





end

section
open Go.RowKit
set_option maxRecDepth 100000

theorem loseN_range (m : Nat) : ∀ k, 0 ≤ loseN m k ∧ loseN m k ≤ k
  | 0 => by simp [loseN]
  | k + 1 => by have := loseN_range m k; have := bt_le m (12 - k); simp only [loseN]; omega
def losersN (m : Nat) : Int := loseN m (min (ones m) 3)

theorem Chg.row {w w1 : World} (h : Chg w w1 0 0) {g : Nat} (hg : w.heap.size ≤ g) (cs : Array Value) : Chg w (w1.setRow g cs) 0 0 :=
  ⟨h.os, h.tape, h.output, by rw [setRow_size]; exact h.size, fun k hk hq => (setRow_other w1 g k cs (by omega)).trans (h.block k hk hq)⟩
/-- The numbers of the four suits, as the program's array holds them. -/
def rowOf (l : List Int) : Array Value := #[.int .u16 (maskN l 0), .int .u16 (maskN l 1), .int .u16 (maskN l 2), .int .u16 (maskN l 3)]
theorem row_at (l : List Int) (s : Int) (h0 : 0 ≤ s) (h1 : s < 4) : (rowOf l)[s.toNat]? = some (.int .u16 (maskN l s)) := by
  have hq : s = 0 ∨ s = 1 ∨ s = 2 ∨ s = 3 := by omega
  rcases hq with rfl | rfl | rfl | rfl <;> rfl
theorem row_set (l : List Int) (z : Int) (h0 : 0 ≤ z / 13) (h1 : z / 13 < 4) : (rowOf l).setIfInBounds (z / 13).toNat (.int .u16 ((maskN l (z / 13) ||| 2 ^ (z % 13).toNat : Nat) : Int)) = rowOf (l ++ [z]) := by
  have e : maskN (l ++ [z]) (z / 13) = maskN l (z / 13) ||| 2 ^ (z % 13).toNat := by rw [maskN_snoc, if_pos rfl]
  rw [← e]
  have hq : z / 13 = 0 ∨ z / 13 = 1 ∨ z / 13 = 2 ∨ z / 13 = 3 := by omega
  unfold rowOf
  rcases hq with h | h | h | h
  · rw [h, maskN_same (s := 1) (by omega), maskN_same (s := 2) (by omega), maskN_same (s := 3) (by omega)]; rfl
  · rw [h, maskN_same (s := 0) (by omega), maskN_same (s := 2) (by omega), maskN_same (s := 3) (by omega)]; rfl
  · rw [h, maskN_same (s := 0) (by omega), maskN_same (s := 1) (by omega), maskN_same (s := 3) (by omega)]; rfl
  · rw [h, maskN_same (s := 0) (by omega), maskN_same (s := 1) (by omega), maskN_same (s := 2) (by omega)]; rfl
theorem row_info (l : List Int) : (Tryd.prog.info? 51).map (·.size) = some (rowOf l).size := by kernel_rfl
theorem row_cells (l : List Int) : (rowOf l).all (·.oneCell') = true := by kernel_rfl
theorem or_bit (m r : Nat) (hm : m < 8192) (hr : r < 13) : bits .or .u16 (m : Int) (IntKind.u16.wrap (2 ^ r)) = ((m ||| 2 ^ r : Nat) : Int) := by
  have l : 2 ^ r < 65536 := Nat.lt_of_lt_of_le (Nat.pow_lt_pow_right (by omega) (show r < 16 by omega)) (by decide)
  have h := u16_or_nat m (2 ^ r) (by omega) l
  have e : IntKind.u16.wrap (2 ^ r) = ((2 ^ r : Nat) : Int) := by
    rw [IntKind.wrap_u16, show ((2 : Int) ^ r) = ((2 ^ r : Nat) : Int) by simp]
    exact Int.emod_eq_of_lt (Int.natCast_nonneg _) (by have := Int.ofNat_lt.2 l; exact this)
  rw [← h, e]
theorem put_row {wr : World} {g i : Nat} {cur cs : Array Value} {t : TypeId} {v : Value} (hg : wr.heap[g]? = some (.cells cur t (0, 0))) (hs : cur.setIfInBounds i v = cs) : ((wr.setCell ⟨g, i, none⟩ v).drew).heap[g]? = some (.cells cs t (0, 0)) := by
  show (wr.setCell ⟨g, i, none⟩ v).heap[g]? = _
  rw [setCell_eq_setRow wr g i cur t (0, 0) v hg, setRow_heap _ _ _ _ _ _ hg, hs]
theorem put_else {wr : World} {g i k : Nat} {v : Value} {o : Option Obj} (hk : k ≠ g) (h : wr.heap[k]? = o) : ((wr.setCell ⟨g, i, none⟩ v).drew).heap[k]? = o :=
  (Below.heap_setCell _ _ _ _ hk).trans h
theorem Chg.put {w wr : World} {g i : Nat} {v : Value} (h : Chg w wr 0 0) (hg : w.heap.size ≤ g) : Chg w (wr.setCell ⟨g, i, none⟩ v).drew 0 0 :=
  ⟨h.os, h.tape, h.output, by have := h.size; simpa [World.setCell, World.drew] using this, fun _ hk hq => put_else (by omega) (h.block _ hk hq)⟩
set_option maxHeartbeats 1000000 in
theorem suitsOf (A : Option Addr) (n c : Nat) (zs : List Int) (lo hi : Nat) (w : World) (h : Rd w lo hi A n zs) (hz : handB zs = true) :
    Calls Tryd.prog 32 #[.slice A n c] w fun e w' => e = .returned (.agg (rowOf zs)) ∧ Chg w w' 0 0 := by
  have hl := h.1
  have h51 := ((hand_iff zs).1 hz).2.2
  have hlen := hand_len hz
  have g1 := heap_alloc_new (w.alloc (.cells #[.int .u16 0, .int .u16 0, .int .u16 0, .int .u16 0] 51)) (.cells #[.int .u16 0, .int .u16 0, .int .u16 0, .int .u16 0] 51)
  have g0 : ((w.alloc (.cells #[.int .u16 0, .int .u16 0, .int .u16 0, .int .u16 0] 51)).alloc (.cells #[.int .u16 0, .int .u16 0, .int .u16 0, .int .u16 0] 51)).heap[w.heap.size]? = some (.cells #[.int .u16 0, .int .u16 0, .int .u16 0, .int .u16 0] 51 (0, 0)) :=
    (Below.heap_alloc _ _ _ (by simp)).trans (heap_alloc_new w _)
  have c0 : Chg w ((w.alloc (.cells #[.int .u16 0, .int .u16 0, .int .u16 0, .int .u16 0] 51)).alloc (.cells #[.int .u16 0, .int .u16 0, .int .u16 0, .int .u16 0] 51)) 0 0 := (Chg.of_alloc _ _ _ _).trans (Chg.of_alloc _ _ _ _)
  have G0 := Lib.hid g0
  have G1 := Lib.hid g1
  have C0 := Lib.hid c0
  clear g0 g1 c0
  go_enter Tryd.func32, Tryd.ntmps32
  go_wp2
  go_loopw [9] (fun i wr => ∃ k : Nat, k ≤ n ∧ i = .int .i64 k ∧ Hid (wr.heap[w.heap.size + 1]? = some (.cells (rowOf (zs.take k)) 51 (0, 0))) ∧ Hid (wr.heap[w.heap.size]? = some (.cells #[.int .u16 0, .int .u16 0, .int .u16 0, .int .u16 0] 51 (0, 0))) ∧ Hid (Chg w wr 0 0)) (fun i _ => n - (intOf i).toNat)
  case atStart =>
    refine ⟨0, Nat.zero_le _, rfl, ?_, G0.out, C0.out⟩
    have := G1.out
    simp only [World.size_alloc] at this
    simpa [Hid, rowOf, maskN_nil] using this
  case round =>
    obtain ⟨k, hk, rfl, k1, k0, hc⟩ := hrel
    by_cases hlt : k < n
    · obtain ⟨b, off, rfl, _, _, hcs⟩ := h.2 (by omega)
      have hck : wr.cell? ⟨b, off + k, none⟩ = some (.int .i64 (zs.getD k 0)) := by
        have r := (h.still hc.out).2 (by omega)
        obtain ⟨b', off', e', _, _, hcs'⟩ := r
        injection e' with e'
        injection e' with e1 e2 _
        subst e1; subst e2
        exact hcs' k hlt
      have hkl : (k : Int) < (n : Int) := by omega
      have hgd : zs.getD k 0 = zs[k]'(by omega) := by simp [List.getD, List.getElem?_eq_getElem (show k < zs.length by omega)]
      have hmem : zs.getD k 0 ∈ zs := by rw [hgd]; exact List.getElem_mem _
      have hb51 := h51 _ hmem
      have htk : Hid (zs.take (k + 1) = zs.take k ++ [zs.getD k 0]) := by show _ = _; rw [List.take_succ_eq_append_getElem (by omega), hgd]
      clear hgd hcs
      generalize zs.getD k 0 = z at hck hmem hb51 htk
      have q0 : 0 ≤ z / 13 := by omega
      have q1 : z / 13 < 4 := by omega
      have r0 : 0 ≤ z % 13 := by omega
      have r1 : z % 13 < 13 := by omega
      have hcell : wr.cell? ⟨w.heap.size + 1, (z / 13).toNat, none⟩ = some (.int .u16 (maskN (zs.take k) (z / 13))) := by rw [cell_of_row wr _ _ _ _ _ k1.out]; exact row_at _ _ q0 q1
      have hfr : wr.frozen? ⟨w.heap.size + 1, (z / 13).toNat, none⟩ = false := by simp [World.frozen?, k1.out]
      have hor := or_bit (maskN (zs.take k) (z / 13)) (z % 13).toNat (maskN_lt _ _) (by omega)
      have hset := Lib.hid (row_set (zs.take k) z q0 q1)
      generalize hm : maskN (zs.take k) (z / 13) = m at hcell hor hset
      go_wp2
      go_region_with (first | (go_at_call 61; refine (suit _ _ (by omega) (by omega)).mono ?_; rintro e w' ⟨rfl, rfl⟩) | (go_at_call 62; refine (rank _ _ (by omega) (by omega)).mono ?_; rintro e w' ⟨rfl, rfl⟩))
      all_goals go_wp2
      all_goals go_roundw
      all_goals first
        | (refine ⟨k + 1, by omega, by go_num, put_row k1.out (by first | (rw [htk.out, hor]; exact hset.out) | (rw [htk.out]; exact hset.out)), put_else (by omega) k0.out, hc.out.put (by omega)⟩)
        | (simp [intOf]; omega)
    · obtain rfl : k = n := by omega
      have ht : zs.take k = zs := List.take_of_length_le (by omega)
      rw [ht] at k1
      have hg2 := Lib.hid (setRow_heap _ _ _ (rowOf zs) _ _ k0.out)
      have hcf := Lib.hid (hc.out.row (Nat.le_refl _) (rowOf zs))
      go_wp2_with (first | (refine wpList_load_row rfl 51 _ rfl (w.heap.size + 1) rfl 51 (rowOf zs) (0, 0) _ k1.out Tryd.underlying51 rfl (row_info zs) ?_) | (refine wpList_store_row rfl 51 _ _ rfl w.heap.size (rowOf zs) rfl rfl 51 _ k0.out (row_info zs) rfl (row_cells zs) ?_))
      refine bodyPost_ret (v := .agg (rowOf zs)) (results_cell_row Tryd.results32 _ _ w.heap.size 51 (rowOf zs) (0, 0) _ rfl hg2.out Tryd.underlying51 rfl (row_info zs)) rfl ?_
      exact ⟨rfl, hcf.out⟩
theorem row_index (l : List Int) (k : Nat) (hk : k < 4) (w : World) : (Instr.index 51 (.agg (rowOf l)) (.int .i64 (k : Int))).run Tryd.prog w = .ok (.int .u16 (maskN l (k : Int))) w := by
  have hq : k = 0 ∨ k = 1 ∨ k = 2 ∨ k = 3 := by omega
  rcases hq with rfl | rfl | rfl | rfl
  · show _ = _; kernel_rfl
  · show _ = _; kernel_rfl
  · show _ = _; kernel_rfl
  · show _ = _; kernel_rfl
end

section
open Go.RowKit
set_option maxRecDepth 100000

/-- Of the j highest ranks of suit s, those cards that the list has, from the ace down. -/
def downS (l : List Int) (s : Int) : Nat → List Int
  | 0 => []
  | j + 1 => downS l s j ++ if topB l s (12 - (j : Int)) then [13 * s + (12 - (j : Int))] else []
theorem down_snoc (l : List Int) (s z : Int) (hz : ∀ y ∈ l, y < z) (h0 : z / 13 = s) : ∀ j : Nat, j ≤ 13 → downS (l ++ [z]) s j = (if 12 - z % 13 < j then [z] else []) ++ downS l s j
  | 0, _ => by rw [if_neg (by omega)]; rfl
  | j + 1, hj => by
    have ih := down_snoc l s z hz h0 j (by omega)
    simp only [downS, ih]
    by_cases he : 13 * s + (12 - (j : Int)) = z
    · have a : topB (l ++ [z]) s (12 - (j : Int)) = true := by simp [topB, hasB, he]
      have b : topB l s (12 - (j : Int)) = false := by
        simp only [topB, hasB, he, decide_eq_false_iff_not]
        intro hm; have := hz z hm; omega
      have c : ¬ 12 - z % 13 < (j : Int) := by omega
      have d : 12 - z % 13 < ((j + 1 : Nat) : Int) := by omega
      have e : downS l s j = [] := by
        have : ∀ i : Nat, i ≤ j → downS l s i = [] := by
          intro i
          induction i with
          | zero => intro _; rfl
          | succ i ih =>
            intro hi
            rw [downS, ih (by omega)]
            have f : topB l s (12 - (i : Int)) = false := by
              simp only [topB, hasB, decide_eq_false_iff_not]
              intro hm; have := hz _ hm; omega
            rw [f]; rfl
        exact this j (Nat.le_refl _)
      rw [a, b, if_neg c, if_pos d, e, he]
      simp
    · have a : topB (l ++ [z]) s (12 - (j : Int)) = topB l s (12 - (j : Int)) := by simp [topB, hasB, he]
      rw [a]
      by_cases hk : 12 - z % 13 < (j : Int)
      · have d : 12 - z % 13 < ((j + 1 : Nat) : Int) := by omega
        rw [if_pos hk, if_pos d, List.append_assoc]
      · have d : ¬ 12 - z % 13 < ((j + 1 : Nat) : Int) := by omega
        rw [if_neg hk, if_neg d, List.append_assoc]
theorem down_all (s : Int) : ∀ r : List Int, r.reverse.Pairwise (· < ·) → (∀ z ∈ r, z / 13 = s) → downS r.reverse s 13 = r
  | [], _, _ => by simp [downS, topB, hasB]
  | z :: r, hp, hq => by
    rw [List.reverse_cons, List.pairwise_append] at hp
    have ih := down_all s r hp.1 (fun y hy => hq y (by simp [hy]))
    rw [List.reverse_cons, down_snoc r.reverse s z (fun y hy => hp.2.2 y hy z (by simp)) (hq z (by simp)) 13 (Nat.le_refl _), ih, if_pos (by have := Int.emod_nonneg z (show (13 : Int) ≠ 0 by decide); omega)]
    rfl
theorem downS_suit (zs : List Int) (s : Int) : ∀ j, j ≤ 13 → downS (suitF s zs) s j = downS zs s j
  | 0, _ => rfl
  | j + 1, h => by simp only [downS]; rw [downS_suit zs s j (by omega), topB_suit zs s _ (by omega) (by omega), topB]
/-- The cards of a suit, from the highest. -/
theorem down_suit {zs : List Int} (h : handB zs = true) (s : Int) : (suitF s zs).reverse = downS zs s 13 := by
  have p := suit_pair h s
  have e := down_all s (suitF s zs).reverse (by rw [List.reverse_reverse]; exact p.1) (fun z hz => p.2 z (by simpa using hz))
  rw [List.reverse_reverse] at e
  rw [← downS_suit zs s 13 (Nat.le_refl _), e]
/-- The letters of the j highest ranks, as numbers. -/
def letN (m : Nat) : Nat → List Int
  | 0 => []
  | j + 1 => letN m j ++ if bt m (12 - j) = 1 then [rafV (12 - j)] else []
theorem letN_mask (zs : List Int) (s : Int) : ∀ j, j ≤ 13 → letN (maskN zs s) j = (downS zs s j).map (fun z => ((rk z).toNat : Int))
  | 0, _ => rfl
  | j + 1, h => by
    have e : ((12 - j : Nat) : Int) = 12 - (j : Int) := by omega
    have f : ((13 * s + (12 - (j : Int))) % 13).toNat = 12 - j := by omega
    simp only [letN, downS, List.map_append]
    rw [letN_mask zs s j (by omega), bt_mask zs s (12 - j) (by omega), e]
    cases topB zs s (12 - (j : Int))
    · rfl
    · simp only [reduceIte, List.map_cons, List.map_nil, rafV, rk, f]
theorem letN_len (m : Nat) : ∀ j, (letN m j).length ≤ j
  | 0 => Nat.le_refl _
  | j + 1 => by have := letN_len m j; simp only [letN, List.length_append]; split <;> simp <;> omega
theorem letN_seg {zs : List Int} (h : handB zs = true) (s : Int) : letN (maskN zs s) 13 = (segT s zs).map (fun b => (b.toNat : Int)) := by
  rw [letN_mask zs s 13 (Nat.le_refl _), ← down_suit h s, segT, List.map_map]
  rfl
end

end Go.Proofs.YteojdlacdnfgiaaDoor.Lib1
