/- Chapter 2: the letters of a suit off its number. Lists and numbers alone. -/
import Derived.Test.YtgoaikamolcffaaDoorMask
namespace Go.Proofs.YtgoaikamolcffaaDoor.Lib1
open Go.RowKit

/-- Of the j highest ranks of suit s, those cards that the list has, from the ace down. -/
def downS (l : List Int) (s : Int) : Nat → List Int
  | 0 => []
  | j + 1 => downS l s j ++ if topB l s (12 - (j : Int)) then [13 * s + (12 - (j : Int))] else []
theorem down_snoc (l : List Int) (s z : Int) (hz : ∀ y ∈ l, y < z) (h0 : z / 13 = s) : ∀ j : Nat, j ≤ 13 → downS (l ++ [z]) s j = (if 12 - z % 13 < j then [z] else []) ++ downS l s j
  | 0, _ => by rw [if_neg (by omega)]; rfl
  | j + 1, hj => by
    have ih := down_snoc l s z hz h0 j (by omega)
    simp only [downS, ih]
    by_cases he : 13 * s + (12 - (j : Int)) = z
    · have a : topB (l ++ [z]) s (12 - (j : Int)) = true := by simp [topB, hasB, he]
      have b : topB l s (12 - (j : Int)) = false := by
        simp only [topB, hasB, he, decide_eq_false_iff_not]
        intro hm; have := hz z hm; omega
      have c : ¬ 12 - z % 13 < (j : Int) := by omega
      have d : 12 - z % 13 < ((j + 1 : Nat) : Int) := by omega
      have e : downS l s j = [] := by
        have : ∀ i : Nat, i ≤ j → downS l s i = [] := by
          intro i
          induction i with
          | zero => intro _; rfl
          | succ i ih =>
            intro hi
            rw [downS, ih (by omega)]
            have f : topB l s (12 - (i : Int)) = false := by
              simp only [topB, hasB, decide_eq_false_iff_not]
              intro hm; have := hz _ hm; omega
            rw [f]; rfl
        exact this j (Nat.le_refl _)
      rw [a, b, if_neg c, if_pos d, e, he]
      simp
    · have a : topB (l ++ [z]) s (12 - (j : Int)) = topB l s (12 - (j : Int)) := by simp [topB, hasB, he]
      rw [a]
      by_cases hk : 12 - z % 13 < (j : Int)
      · have d : 12 - z % 13 < ((j + 1 : Nat) : Int) := by omega
        rw [if_pos hk, if_pos d, List.append_assoc]
      · have d : ¬ 12 - z % 13 < ((j + 1 : Nat) : Int) := by omega
        rw [if_neg hk, if_neg d, List.append_assoc]
theorem down_all (s : Int) : ∀ r : List Int, r.reverse.Pairwise (· < ·) → (∀ z ∈ r, z / 13 = s) → downS r.reverse s 13 = r
  | [], _, _ => by simp [downS, topB, hasB]
  | z :: r, hp, hq => by
    rw [List.reverse_cons, List.pairwise_append] at hp
    have ih := down_all s r hp.1 (fun y hy => hq y (by simp [hy]))
    rw [List.reverse_cons, down_snoc r.reverse s z (fun y hy => hp.2.2 y hy z (by simp)) (hq z (by simp)) 13 (Nat.le_refl _), ih, if_pos (by have := Int.emod_nonneg z (show (13 : Int) ≠ 0 by decide); omega)]
    rfl
theorem downS_suit (zs : List Int) (s : Int) : ∀ j, j ≤ 13 → downS (suitF s zs) s j = downS zs s j
  | 0, _ => rfl
  | j + 1, h => by simp only [downS]; rw [downS_suit zs s j (by omega), topB_suit zs s _ (by omega) (by omega), topB]
/-- The cards of a suit, from the highest. -/
theorem down_suit {zs : List Int} (h : handB zs = true) (s : Int) : (suitF s zs).reverse = downS zs s 13 := by
  have p := suit_pair h s
  have e := down_all s (suitF s zs).reverse (by rw [List.reverse_reverse]; exact p.1) (fun z hz => p.2 z (by simpa using hz))
  rw [List.reverse_reverse] at e
  rw [← downS_suit zs s 13 (Nat.le_refl _), e]
/-- The letters of the j highest ranks, as numbers. -/
def letN (m : Nat) : Nat → List Int
  | 0 => []
  | j + 1 => letN m j ++ if bt m (12 - j) = 1 then [rafV (12 - j)] else []
theorem letN_mask (zs : List Int) (s : Int) : ∀ j, j ≤ 13 → letN (maskN zs s) j = (downS zs s j).map (fun z => ((rk z).toNat : Int))
  | 0, _ => rfl
  | j + 1, h => by
    have e : ((12 - j : Nat) : Int) = 12 - (j : Int) := by omega
    have f : ((13 * s + (12 - (j : Int))) % 13).toNat = 12 - j := by omega
    simp only [letN, downS, List.map_append]
    rw [letN_mask zs s j (by omega), bt_mask zs s (12 - j) (by omega), e]
    cases topB zs s (12 - (j : Int))
    · rfl
    · simp only [reduceIte, List.map_cons, List.map_nil, rafV, rk, f]
theorem letN_len (m : Nat) : ∀ j, (letN m j).length ≤ j
  | 0 => Nat.le_refl _
  | j + 1 => by have := letN_len m j; simp only [letN, List.length_append]; split <;> simp <;> omega
theorem letN_seg {zs : List Int} (h : handB zs = true) (s : Int) : letN (maskN zs s) 13 = (segT s zs).map (fun b => (b.toNat : Int)) := by
  rw [letN_mask zs s 13 (Nat.le_refl _), ← down_suit h s, segT, List.map_map]
  rfl

end Go.Proofs.YtgoaikamolcffaaDoor.Lib1
