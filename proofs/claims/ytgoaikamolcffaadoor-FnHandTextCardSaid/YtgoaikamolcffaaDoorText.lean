/- Contracts of the functions of chapter 1 that make a card's text (program and model), and the law that compares them. -/
import Derived.Test.YtgoaikamolcffaaDoorSmall
import Derived.Test.YtgoaikamolcffaaDoorMem
import Derived.RegionTactic
import Derived.ChangeAlike
import Derived.Deep.RegionWith
import Derived.Deep.QuietTactic
import Derived.BigQuiet
import Derived.Outline
import Derived.Laws.BytesArg
import Derived.IntWalk
namespace Go.Proofs.YtgoaikamolcffaaDoor.Lib1
open Go.RowKit

/-- The letters of suits and ranks, as numbers. -/
def suitL : List UInt8 := [67, 68, 72, 83]
def rankL : List UInt8 := [50, 51, 52, 53, 54, 55, 56, 57, 84, 74, 81, 75, 65]
def sufV (k : Nat) : Int := ((suitL.getD k 0).toNat : Int)
def rafV (k : Nat) : Int := ((rankL.getD k 0).toNat : Int)
theorem suf_eq : ∀ (k : Nat) (h : k < (ByteArray.mk #[67, 68, 72, 83]).size), (((ByteArray.mk #[67, 68, 72, 83])[k]'h).toNat : Int) = sufV k
  | 0, _ => rfl | 1, _ => rfl | 2, _ => rfl | 3, _ => rfl
  | n + 4, h => by simp [ByteArray.size] at h; omega
theorem raf_eq : ∀ (k : Nat) (h : k < (ByteArray.mk #[50, 51, 52, 53, 54, 55, 56, 57, 84, 74, 81, 75, 65]).size), (((ByteArray.mk #[50, 51, 52, 53, 54, 55, 56, 57, 84, 74, 81, 75, 65])[k]'h).toNat : Int) = rafV k
  | 0, _ => rfl | 1, _ => rfl | 2, _ => rfl | 3, _ => rfl | 4, _ => rfl | 5, _ => rfl | 6, _ => rfl | 7, _ => rfl | 8, _ => rfl | 9, _ => rfl | 10, _ => rfl | 11, _ => rfl | 12, _ => rfl
  | n + 13, h => by simp [ByteArray.size] at h; omega
/-- The text of a card. -/
def textV (n : Int) : ByteArray := strOfNums [sufV (n / 13).toNat, rafV (n % 13).toNat]
def cardTextV (n : Int) : ByteArray := if inB n 0 51 then textV n else ⟨#[]⟩
theorem cardTextV_yes {c : Int} (h : 0 ≤ c ∧ c ≤ 51) : cardTextV c = textV c := by simp [cardTextV, inB_true h]
theorem cardTextV_no {c : Int} (h : ¬ (0 ≤ c ∧ c ≤ 51)) : cardTextV c = ⟨#[]⟩ := by simp [cardTextV, inB_false h]

/-- The two bytes of a new block, as a string. -/
theorem conv2 (w : World) (x y : Int) :
    (convert 22 9 (.slice (some ⟨w.heap.size, 0, none⟩) 2 2)).run Tryd.prog (w.alloc (.cells #[.int .u8 x, .int .u8 y] 5)).drew = .ok (.string (strOfNums [x, y])) (w.alloc (.cells #[.int .u8 x, .int .u8 y] 5)).drew := by
  refine run_convert_bytes_arg _ 22 5 Tryd.underlying22 Tryd.underlying5 _ 0 2 2 [x, y] rfl ?_ 9 Tryd.underlying9
  intro i hi
  match i, hi with
  | 0, _ => simp
  | 1, _ => simp



theorem l01Ranks (w : World) : Calls Tryd.prog 31 #[] w fun e w' => e = .returned (.string ⟨#[50, 51, 52, 53, 54, 55, 56, 57, 84, 74, 81, 75, 65]⟩) ∧ w = w' := by
  go_enter Tryd.func31, Tryd.ntmps31
  go_wp2
  go_ret
  exact ⟨rfl, rfl⟩




end Go.Proofs.YtgoaikamolcffaaDoor.Lib1
