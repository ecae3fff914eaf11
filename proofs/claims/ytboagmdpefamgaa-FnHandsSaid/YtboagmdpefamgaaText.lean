/- Contracts of the functions of chapter 1 that make a card's text (program and model), and the law that compares them. -/
import Derived.Test.YtboagmdpefamgaaSmall
import Derived.Test.YtboagmdpefamgaaMem
import Derived.RegionTactic
import Derived.ChangeAlike
import Derived.Deep.RegionWith
import Derived.Deep.QuietTactic
import Derived.BigQuiet
import Derived.Outline
import Derived.Laws.BytesArg
import Derived.IntWalk
namespace Go.Proofs.Ytboagmdpefamgaa.Lib1
open Go.RowKit

/-- The letters of suits and ranks, as numbers. -/
def suitL : List UInt8 := [67, 68, 72, 83]
def rankL : List UInt8 := [50, 51, 52, 53, 54, 55, 56, 57, 84, 74, 81, 75, 65]
def sufV (k : Nat) : Int := ((suitL.getD k 0).toNat : Int)
def rafV (k : Nat) : Int := ((rankL.getD k 0).toNat : Int)
theorem suf_eq : ∀ (k : Nat) (h : k < (ByteArray.mk #[67, 68, 72, 83]).size), (((ByteArray.mk #[67, 68, 72, 83])[k]'h).toNat : Int) = sufV k
  | 0, _ => rfl | 1, _ => rfl | 2, _ => rfl | 3, _ => rfl
  | n + 4, h => by simp [ByteArray.size] at h; omega
theorem raf_eq : ∀ (k : Nat) (h : k < (ByteArray.mk #[50, 51, 52, 53, 54, 55, 56, 57, 84, 74, 81, 75, 65]).size), (((ByteArray.mk #[50, 51, 52, 53, 54, 55, 56, 57, 84, 74, 81, 75, 65])[k]'h).toNat : Int) = rafV k
  | 0, _ => rfl | 1, _ => rfl | 2, _ => rfl | 3, _ => rfl | 4, _ => rfl | 5, _ => rfl | 6, _ => rfl | 7, _ => rfl | 8, _ => rfl | 9, _ => rfl | 10, _ => rfl | 11, _ => rfl | 12, _ => rfl
  | n + 13, h => by simp [ByteArray.size] at h; omega
/-- The text of a card. -/
def textV (n : Int) : ByteArray := strOfNums [sufV (n / 13).toNat, rafV (n % 13).toNat]
def cardTextV (n : Int) : ByteArray := if inB n 0 51 then textV n else ⟨#[]⟩
theorem cardTextV_yes {c : Int} (h : 0 ≤ c ∧ c ≤ 51) : cardTextV c = textV c := by simp [cardTextV, inB_true h]
theorem cardTextV_no {c : Int} (h : ¬ (0 ≤ c ∧ c ≤ 51)) : cardTextV c = ⟨#[]⟩ := by simp [cardTextV, inB_false h]

/-- The two bytes of a new block, as a string. -/
theorem conv2 (w : World) (x y : Int) :
    (convert 22 9 (.slice (some ⟨w.heap.size, 0, none⟩) 2 2)).run Try.prog (w.alloc (.cells #[.int .u8 x, .int .u8 y] 5)).drew = .ok (.string (strOfNums [x, y])) (w.alloc (.cells #[.int .u8 x, .int .u8 y] 5)).drew := by
  refine run_convert_bytes_arg _ 22 5 Try.underlying22 Try.underlying5 _ 0 2 2 [x, y] rfl ?_ 9 Try.underlying9
  intro i hi
  match i, hi with
  | 0, _ => simp
  | 1, _ => simp

theorem text (n : Int) (w : World) (h0 : 0 ≤ n) (h1 : n ≤ 51) :
    Calls Try.prog 47 #[.int .i64 n] w fun e w' => e = .returned (.string (textV n)) ∧ Grown w w' ∧ Chg w w' 0 0 := by
  have a0 : 0 ≤ n / 13 := by omega
  have a1 : n / 13 < 4 := by omega
  have b0 : 0 ≤ n % 13 := by omega
  have b1 : n % 13 < 13 := by omega
  have kc := conv2 w
  go_enter Try.func47, Try.ntmps47
  go_wp2
  go_region_with (first | (go_at_call 45; refine (suit _ _ (by omega) (by omega)).mono ?_; rintro e w' ⟨rfl, rfl⟩) | (go_at_call 46; refine (rank _ _ (by omega) (by omega)).mono ?_; rintro e w' ⟨rfl, rfl⟩))
  all_goals
    go_wp2
    go_ret
    refine ⟨ret_str (by unfold textV; rw [suf_eq, raf_eq]), by repeat (first | exact Grown.refl _ | apply Grown.drew | apply Grown.alloc), Chg.alloc_drew _ _ _ _⟩

theorem l01Suits (w : World) : Calls Try.prog 56 #[] w fun e w' => e = .returned (.string ⟨#[67, 68, 72, 83]⟩) ∧ w = w' := by
  go_enter Try.func56, Try.ntmps56
  go_wp2
  go_ret
  exact ⟨rfl, rfl⟩
theorem l01Ranks (w : World) : Calls Try.prog 57 #[] w fun e w' => e = .returned (.string ⟨#[50, 51, 52, 53, 54, 55, 56, 57, 84, 74, 81, 75, 65]⟩) ∧ w = w' := by
  go_enter Try.func57, Try.ntmps57
  go_wp2
  go_ret
  exact ⟨rfl, rfl⟩

theorem impl_CardText (n : Int) (w : World) :
    Calls Try.prog 18 #[.int .i64 n] w fun e w' => e = .returned (.string (cardTextV n)) ∧ Grown w w' ∧ Chg w w' 0 0 := by
  by_cases h : 0 ≤ n ∧ n ≤ 51
  · have b := inB_true h
    rw [cardTextV_yes h]
    obtain ⟨h0, h1⟩ := h
    go_enter Try.func18, Try.ntmps18
    go_wp2_with (first | (go_at_call 44; refine (isCard _ _).mono ?_; rintro e w' ⟨rfl, rfl⟩) | (go_at_call 47; refine (text _ _ (by omega) (by omega)).mono ?_; rintro e w' ⟨rfl, hg⟩))
    go_ret
    exact ⟨rfl, hg⟩
  · have b := inB_false h
    rw [cardTextV_no h]
    clear h
    go_enter Try.func18, Try.ntmps18
    go_wp2_with (go_at_call 44; refine (isCard _ _).mono ?_; rintro e w' ⟨rfl, rfl⟩)
    go_ret
    exact ⟨rfl, Grown.refl _, Chg.refl _ _ _⟩

theorem spec_CardText (n : Int) (w : World) :
    Calls Try.prog 33 #[.int .i64 n] w fun e w' => e = .returned (.string (cardTextV n)) ∧ Grown w w' ∧ Chg w w' 0 0 := by
  by_cases h : 0 ≤ n ∧ n ≤ 51
  · have b := inB_true h
    rw [cardTextV_yes h]
    obtain ⟨h0, h1⟩ := h
    have a0 : 0 ≤ n / 13 := by omega
    have a1 : n / 13 < 4 := by omega
    have b0 : 0 ≤ n % 13 := by omega
    have b1 : n % 13 < 13 := by omega
    have kc := conv2 w
    have q1 : IntKind.i64.wrap (n.tdiv 13) = n / 13 := by rw [Int.tdiv_eq_ediv_of_nonneg h0]; exact IntWalk.i64_in _ (by omega)
    have q2 : n.tmod 13 = n % 13 := Int.tmod_eq_emod_of_nonneg h0
    go_enter Try.func33, Try.ntmps33
    go_wp2_with (go_at_call 55; refine (l01Card _ _).mono ?_; rintro e w' ⟨rfl, rfl⟩)
    go_region_with (first | (go_at_call 56; refine (l01Suits _).mono ?_; rintro e w' ⟨rfl, rfl⟩) | (go_at_call 57; refine (l01Ranks _).mono ?_; rintro e w' ⟨rfl, rfl⟩))
    all_goals
      go_wp2
      go_ret
      refine ⟨ret_str (by unfold textV; rw [suf_eq, raf_eq]), by repeat (first | exact Grown.refl _ | apply Grown.drew | apply Grown.alloc), Chg.alloc_drew _ _ _ _⟩
  · have b := inB_false h
    rw [cardTextV_no h]
    clear h
    go_enter Try.func33, Try.ntmps33
    go_wp2_with (go_at_call 55; refine (l01Card _ _).mono ?_; rintro e w' ⟨rfl, rfl⟩)
    go_ret
    exact ⟨rfl, Grown.refl _, Chg.refl _ _ _⟩

theorem law_CardText (c : Int) (w : World) :
    Calls Try.prog 8 #[.int .i64 c] w fun e w' => e = .returned (.bool true) ∧ Grown w w' := by
  go_enter Try.func8, Try.ntmps8
  go_wp2_with (first | (go_at_call 33; refine (spec_CardText _ _).mono ?_; rintro e w' ⟨rfl, h1, _⟩) | (go_at_call 18; refine (impl_CardText _ _).mono ?_; rintro e w' ⟨rfl, h2, _⟩))
  go_ret
  exact ⟨rfl, grown_trans h1 h2⟩
end Go.Proofs.Ytboagmdpefamgaa.Lib1
