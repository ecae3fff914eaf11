/- Contracts of CardsOfSuit (program and model), and the law that compares them. -/
import Derived.Test.YtgoaikamolcffaaDoorIsHand
import Derived.Test.YtgoaikamolcffaaDoorOwn
namespace Go.Proofs.YtgoaikamolcffaaDoor.Lib1
open Go.RowKit

def suitP (s : Int) (z : Int) : Bool := decide (z / 13 = s)
def suitF (s : Int) (zs : List Int) : List Int := zs.filter (suitP s)
theorem suitF_le (s : Int) (zs : List Int) : (suitF s zs).length ≤ zs.length := List.length_filter_le _ _
theorem suitF_yes {s : Int} {zs : List Int} {k : Nat} (h : k < zs.length) (e : zs.getD k 0 / 13 = s) : suitF s (zs.take (k + 1)) = suitF s (zs.take k) ++ [zs.getD k 0] := by
  unfold suitF; rw [take_filter_succ _ _ _ h]; simp only [suitP, e, decide_true, if_true]
theorem suitF_no {s : Int} {zs : List Int} {k : Nat} (h : k < zs.length) (e : ¬ zs.getD k 0 / 13 = s) : suitF s (zs.take (k + 1)) = suitF s (zs.take k) := by
  unfold suitF; rw [take_filter_succ _ _ _ h]; simp only [suitP, e, decide_false, if_false, Bool.false_eq_true, List.append_nil]

set_option maxHeartbeats 1000000 in
/-- spec.l01Suit of cards -/
theorem l01Suit (A : Option Addr) (n c : Nat) (s : Int) (zs : List Int) (lo hi : Nat) (w : World) (h : Rd w lo hi A n zs) (hn : n ≤ 1048576) (hz : ∀ j, j < n → 0 ≤ zs.getD j 0 ∧ zs.getD j 0 ≤ 51) :
    Calls Tryd.prog 56 #[.slice A n c, .int .i64 s] w (RetS w (suitF s zs)) := by
  have hl := h.1
  have HL := Lib.hid hl
  have HZ := Lib.hid hz
  have ha := h.all
  clear hl hz h
  go_enter Tryd.func56, Tryd.ntmps56
  go_wp2
  go_loopw [5, 6] (fun v i wr => ∃ k : Nat, k ≤ n ∧ i = .int .i64 k ∧ OwnV wr w.heap.size v (suitF s (zs.take k)) ∧ Below w.heap.size w wr) (fun _ i _ => n - (intOf i).toNat)
  case atStart => exact ⟨0, Nat.zero_le _, rfl, OwnV.made w (Nat.le_refl _), (Below.refl _ _).alloc (Nat.le_refl _) _⟩
  case round =>
    obtain ⟨k, hk, rfl, ho, hb⟩ := hrel
    by_cases hlt : k < n
    · have hkz : k < zs.length := by rw [HL.out]; exact hlt
      obtain ⟨b, off, rfl, _, _, hc⟩ := (ha.below hb (Nat.le_refl _)).2 (by omega)
      have hck := hc k hlt
      obtain ⟨z0, z1⟩ := HZ.out k hlt
      have hkl : (k : Int) < (n : Int) := by omega
      have hlen : (suitF s (zs.take k)).length ≤ 1048576 := Nat.le_trans (suitF_le _ _) (by simp; omega)
      have hsize := hb.size
      by_cases he : zs.getD k 0 / 13 = s
      · have hs := Lib.hid (suitF_yes hkz he)
        have ht : (zs.getD k 0 / 13 == s) = true := by simpa using he
        generalize zs.getD k 0 = z at hck z0 z1 ht hs
        clear hc he
        go_wp2_with (at_builtin; refine wpList_push rfl _ _ rfl w.heap.size _ _ rfl ho z rfl hlen hsize ?_)
        intro v' w1 ho1 hb1
        rw [← hs.out] at ho1
        have hb2 := hb.trans hb1
        clear ho hb hb1 hs
        go_wp2
        go_roundw
        case rel => exact ⟨k + 1, by omega, by go_num, ho1, hb2⟩
        case measure => simp [intOf]; omega
      · have hs := Lib.hid (suitF_no hkz he)
        have ht : (zs.getD k 0 / 13 == s) = false := by simpa using he
        generalize zs.getD k 0 = z at hck z0 z1 ht
        clear hc he
        rw [← hs.out] at ho
        go_wp2
        go_roundw
        case rel => exact ⟨k + 1, by omega, by go_num, ho, hb⟩
        case measure => simp [intOf]; omega
    · rw [show zs.take k = zs from List.take_of_length_le (by rw [HL.out]; omega)] at ho
      go_wp2
      go_ret
      exact RetS.of_own ho hb

/-- What CardsOfSuit hands back. -/
def cardsV (s : Int) (zs : List Int) : List Int := if handB zs && inB s 0 3 then suitF s zs else []
theorem cardsV_yes {s : Int} {zs : List Int} (h : handB zs = true) (hs : inB s 0 3 = true) : cardsV s zs = suitF s zs := by simp [cardsV, h, hs]
theorem cardsV_no1 {s : Int} {zs : List Int} (h : handB zs = false) : cardsV s zs = [] := by simp [cardsV, h]
theorem cardsV_no2 {s : Int} {zs : List Int} (h : inB s 0 3 = false) : cardsV s zs = [] := by simp [cardsV, h]
theorem cardsV_le (s : Int) (zs : List Int) : (cardsV s zs).length ≤ zs.length := by
  unfold cardsV; split
  · exact suitF_le _ _
  · simp
theorem hand_bounds {zs : List Int} (h : handB zs = true) : zs.length ≤ 13 ∧ ∀ j, j < zs.length → 0 ≤ zs.getD j 0 ∧ zs.getD j 0 ≤ 51 := by
  simp only [handB, risingB, Bool.and_eq_true, decide_eq_true_eq] at h
  exact ⟨h.1, fun j hj => (h.2 j hj).1⟩
theorem RetS.empty_made (w w1 : World) (hb : Chg w w1 0 0) : RetS w [] (.returned (.slice (some ⟨w1.heap.size, 0, none⟩) 0 0)) (w1.alloc (.cells #[] 2)) :=
  ⟨_, 0, rfl, Nat.le_refl _, Plain.at_ _ _ _, Own.none_, hb.trans (Chg.of_alloc _ _ _ _)⟩
theorem RetS.of_later {w w1 w' : World} {zs : List Int} {e : Ending} (hb : Chg w w1 0 0) (h : RetS w1 zs e w') : RetS w zs e w' := by
  obtain ⟨A, c, he, h1, h2, h3, h4⟩ := h
  exact ⟨A, c, he, h1, h2, h3.more hb.size (Nat.le_refl _), hb.trans h4⟩




end Go.Proofs.YtgoaikamolcffaaDoor.Lib1
