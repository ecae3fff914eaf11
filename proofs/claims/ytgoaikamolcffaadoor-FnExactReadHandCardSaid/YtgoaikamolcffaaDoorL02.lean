/- Chapter 2, lists alone: shapes, sums over the suits, losers and quick tricks, the text of a hand and its reading. No function of the program. -/
import Derived.Test.YtgoaikamolcffaaDoorHandL
import Derived.Test.YtgoaikamolcffaaDoorRead
namespace Go.Proofs.YtgoaikamolcffaaDoor.Lib1
open Go.RowKit

/-! ### Parts of a hand -/
theorem suitF_sub (s : Int) (zs : List Int) : ∀ z ∈ suitF s zs, z ∈ zs := fun _ hz => (List.mem_filter.1 hz).1
theorem mem_suitF {s z : Int} {zs : List Int} : z ∈ suitF s zs ↔ z ∈ zs ∧ z / 13 = s := by simp [suitF, suitP, List.mem_filter]
theorem suitF_hand {zs : List Int} (s : Int) (h : handB zs = true) : handB (suitF s zs) = true := by
  obtain ⟨h1, h2, h3⟩ := (hand_iff zs).1 h
  exact (hand_iff _).2 ⟨Nat.le_trans (suitF_le s zs) h1, h2.filter _, fun z hz => h3 z (suitF_sub s zs z hz)⟩
theorem suitF_same (s : Int) (zs : List Int) : suitF s (suitF s zs) = suitF s zs := by
  unfold suitF; rw [List.filter_filter]; simp
theorem suitF_other {s t : Int} (zs : List Int) (h : s ≠ t) : suitF s (suitF t zs) = [] :=
  suitF_nil fun _ hy e => h (e.symm.trans (mem_suitF.1 hy).2)
theorem hand_nil : handB [] = true := rfl

/-! ### Sums -/
def sumF (f : Int → Int) : List Int → Int
  | [] => 0
  | z :: l => f z + sumF f l
theorem sumF_append (f : Int → Int) : ∀ a b : List Int, sumF f (a ++ b) = sumF f a + sumF f b
  | [], b => by simp [sumF]
  | z :: a, b => by simp only [List.cons_append, sumF, sumF_append f a b]; omega
theorem sumF_snoc (f : Int → Int) (l : List Int) (z : Int) : sumF f (l ++ [z]) = sumF f l + f z := by rw [sumF_append]; simp [sumF]
theorem sumF_suits (f : Int → Int) {zs : List Int} (h : handB zs = true) : sumF f zs = sumF f (suitF 0 zs) + sumF f (suitF 1 zs) + sumF f (suitF 2 zs) + sumF f (suitF 3 zs) := by
  obtain ⟨_, h2, h3⟩ := (hand_iff zs).1 h
  conv => lhs; rw [← suits_all zs h2 h3]
  simp only [sumF_append]; omega
theorem sumF_nonneg {f : Int → Int} (hf : ∀ z, 0 ≤ f z) : ∀ l : List Int, 0 ≤ sumF f l
  | [] => by simp [sumF]
  | z :: l => by have := sumF_nonneg hf l; have := hf z; simp only [sumF]; omega
theorem sumF_le {f g : Int → Int} : ∀ l : List Int, (∀ z ∈ l, f z ≤ g z) → sumF f l ≤ sumF g l
  | [], _ => by simp [sumF]
  | z :: l, h => by
    have := sumF_le l (fun y hy => h y (by simp [hy]))
    have := h z (by simp)
    simp only [sumF]; omega
theorem sumF_mem {f : Int → Int} (hf : ∀ z, 0 ≤ f z) : ∀ (l : List Int) (a : Int), a ∈ l → f a ≤ sumF f l
  | z :: l, a, h => by
    have h0 := sumF_nonneg hf l
    have h1 := hf z
    rcases List.mem_cons.1 h with rfl | h
    · simp only [sumF]; omega
    · have := sumF_mem hf l a h; simp only [sumF]; omega
theorem sumF_mem2 {f : Int → Int} (hf : ∀ z, 0 ≤ f z) : ∀ (l : List Int) (a b : Int), a ∈ l → b ∈ l → a ≠ b → f a + f b ≤ sumF f l
  | z :: l, a, b, ha, hb, hne => by
    have h1 := hf z
    rcases List.mem_cons.1 ha with e | ha'
    · rcases List.mem_cons.1 hb with e' | hb'
      · exact absurd (e.trans e'.symm) hne
      · have := sumF_mem hf l b hb'; rw [e]; simp only [sumF]; omega
    · rcases List.mem_cons.1 hb with e' | hb'
      · have := sumF_mem hf l a ha'; rw [e']; simp only [sumF]; omega
      · have := sumF_mem2 hf l a b ha' hb' hne; simp only [sumF]; omega
def pointF (z : Int) : Int := max 0 (z % 13 - 8)
def contrF (z : Int) : Int := max 0 (z % 13 - 10)
def hcpV (zs : List Int) : Int := if handB zs then sumF pointF zs else -1
def ctrlV (zs : List Int) : Int := if handB zs then sumF contrF zs else -1
theorem contr_le_point (z : Int) : contrF z ≤ pointF z := by unfold contrF pointF; omega
theorem contr_nonneg (z : Int) : 0 ≤ contrF z := by unfold contrF; omega

/-! ### Losers and quick tricks -/
def topB (zs : List Int) (s r : Int) : Bool := hasB zs (13 * s + r)
theorem topB_suit (zs : List Int) (s r : Int) (h0 : 0 ≤ r) (h1 : r ≤ 12) : topB zs s r = hasB (suitF s zs) (13 * s + r) := by
  unfold topB hasB
  have : (13 * s + r) / 13 = s := by omega
  simp [mem_suitF, this]
/-- The losers of one suit: of the k highest cards. -/
def loseTo (zs : List Int) (s : Int) : Nat → Int
  | 0 => 0
  | k + 1 => loseTo zs s k + if topB zs s (12 - (k : Int)) then 0 else 1
def loseS (zs : List Int) (s : Int) : Int := loseTo zs s (min 3 (suitF s zs).length)
def losersV (zs : List Int) : Int := if handB zs then loseS zs 0 + loseS zs 1 + loseS zs 2 + loseS zs 3 else -1
theorem loseTo_range (zs : List Int) (s : Int) : ∀ k, 0 ≤ loseTo zs s k ∧ loseTo zs s k ≤ k
  | 0 => by simp [loseTo]
  | k + 1 => by have := loseTo_range zs s k; simp only [loseTo]; split <;> omega
theorem loseTo_suit (zs : List Int) (s : Int) : ∀ k, k ≤ 3 → loseTo (suitF s zs) s k = loseTo zs s k
  | 0, _ => rfl
  | k + 1, h => by
    simp only [loseTo, loseTo_suit zs s k (by omega)]
    rw [topB_suit zs s _ (by omega) (by omega), topB_suit (suitF s zs) s _ (by omega) (by omega), suitF_same]
theorem loseS_suit (zs : List Int) (s : Int) : loseS (suitF s zs) s = loseS zs s := by
  unfold loseS; rw [suitF_same, loseTo_suit zs s _ (by omega)]
theorem loseS_other (zs : List Int) {s t : Int} (h : s ≠ t) : loseS (suitF t zs) s = 0 := by
  unfold loseS; rw [suitF_other zs h]; rfl
theorem loseS_range (zs : List Int) (s : Int) : 0 ≤ loseS zs s ∧ loseS zs s ≤ 3 ∧ loseS zs s ≤ (suitF s zs).length := by
  have := loseTo_range zs s (min 3 (suitF s zs).length)
  unfold loseS; omega
/-- Twice the quick tricks of one suit. -/
def quickS (zs : List Int) (s : Int) : Int :=
  if topB zs s 12 && topB zs s 11 then 4 else if topB zs s 12 && topB zs s 10 then 3 else if topB zs s 12 || (topB zs s 11 && topB zs s 10) then 2
  else if topB zs s 11 && decide (1 < (suitF s zs).length) then 1 else 0
def quickV (zs : List Int) : Int := if handB zs then quickS zs 0 + quickS zs 1 + quickS zs 2 + quickS zs 3 else -1
theorem quickS_suit (zs : List Int) (s : Int) : quickS (suitF s zs) s = quickS zs s := by
  have h : ∀ r, 0 ≤ r → r ≤ 12 → topB (suitF s zs) s r = topB zs s r := fun r h0 h1 => by
    rw [topB_suit zs s r h0 h1, topB_suit (suitF s zs) s r h0 h1, suitF_same]
  unfold quickS; rw [h 12 (by omega) (by omega), h 11 (by omega) (by omega), h 10 (by omega) (by omega), suitF_same]
theorem topB_none (zs : List Int) {s t : Int} (h : s ≠ t) (r : Int) (h0 : 0 ≤ r) (h1 : r ≤ 12) : topB (suitF t zs) s r = false := by
  rw [topB_suit _ s r h0 h1, suitF_other zs h]; rfl
theorem quickS_other (zs : List Int) {s t : Int} (h : s ≠ t) : quickS (suitF t zs) s = 0 := by
  unfold quickS; rw [topB_none zs h 12 (by omega) (by omega), topB_none zs h 11 (by omega) (by omega)]; rfl
theorem quickS_le (zs : List Int) (s : Int) : 0 ≤ quickS zs s ∧ quickS zs s ≤ 2 * sumF contrF (suitF s zs) := by
  have hn := sumF_nonneg contr_nonneg (suitF s zs)
  have ha : topB zs s 12 = true → 2 ≤ sumF contrF (suitF s zs) := fun h => by
    rw [topB_suit zs s 12 (by omega) (by omega)] at h
    have hm : 13 * s + 12 ∈ suitF s zs := by simpa [hasB] using h
    have := sumF_mem contr_nonneg _ _ hm
    have e : contrF (13 * s + 12) = 2 := by unfold contrF; omega
    omega
  have hk : topB zs s 11 = true → 1 ≤ sumF contrF (suitF s zs) := fun h => by
    rw [topB_suit zs s 11 (by omega) (by omega)] at h
    have hm : 13 * s + 11 ∈ suitF s zs := by simpa [hasB] using h
    have := sumF_mem contr_nonneg _ _ hm
    have e : contrF (13 * s + 11) = 1 := by unfold contrF; omega
    omega
  unfold quickS
  cases h12 : topB zs s 12 <;> cases h11 : topB zs s 11 <;> cases h10 : topB zs s 10 <;> simp only [Bool.and_true, Bool.and_false, Bool.true_and, Bool.false_and, Bool.or_true, Bool.or_false, if_true, if_false, Bool.false_eq_true]
  all_goals first | (have := ha h12; omega) | (have := hk h11; split <;> omega) | (have := hk h11; omega) | omega

end Go.Proofs.YtgoaikamolcffaaDoor.Lib1
