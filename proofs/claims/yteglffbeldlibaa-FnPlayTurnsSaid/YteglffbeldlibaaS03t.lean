/- Chapter 3: the model's DealText. -/
import Derived.Test.YteglffbeldlibaaS03
import Derived.Test.YteglffbeldlibaaTwo
namespace Go.Proofs.Yteglffbeldlibaa.Lib1
open Go.RowKit
set_option maxRecDepth 100000

/-- The text of the first k hands. -/
def dtTo (zss : List (List Int)) : Nat → List UInt8
  | 0 => [78, 58]
  | k + 1 => dtTo zss k ++ (if 0 < k then [32] else []) ++ textH (zss.getD k [])
def dealText (zss : List (List Int)) : List UInt8 := if dealB zss then dtTo zss 4 else []
theorem dtTo_len {zss : List (List Int)} (h : rowsTo zss 4) : ∀ k, k ≤ 4 → (dtTo zss k).length ≤ 2 + 17 * k
  | 0, _ => by simp [dtTo]
  | k + 1, hk => by
    have ih := dtTo_len h k (by omega)
    have ht := textH_length (h k (by omega)).1
    have h13 := hand_len (h k (by omega)).1
    simp only [dtTo, List.length_append]
    generalize (textH (zss.getD k [])).length = L at ht ⊢
    generalize (zss.getD k []).length = M at ht h13
    split <;> simp only [List.length_cons, List.length_nil] <;> omega
theorem str_cat (a b : List UInt8) : (⟨a.toArray⟩ : ByteArray) ++ ⟨b.toArray⟩ = ⟨(a ++ b).toArray⟩ := bytes_ext (by simp)
theorem str_size (a : List UInt8) : (⟨a.toArray⟩ : ByteArray).size = a.length := by simp [ByteArray.size]


end Go.Proofs.Yteglffbeldlibaa.Lib1
