/- Chapter 7: contracts of the program's texts as propositions. -/
import Derived.Test.YtnkbcmkngghnoaaDoorAucX7
import Derived.Test.YtnkbcmkngghnoaaDoorAucW7
namespace Go.Proofs.YtnkbcmkngghnoaaDoor.Lib1
open Go.RowKit
set_option maxRecDepth 100000

def AucTextF (f : Nat) : Prop := ∀ (d : Int) (A : Option Addr) (n c : Nat) (zs : List Int) (w : World), Rp w A n zs → n ≤ 1048576 → n ≤ c → Calls Tryd.prog f #[.agg #[.int .i64 d, .slice A n c]] w fun e w' => e = .returned (.string (aucN d zs n)) ∧ Chg w w' 0 0
def ConTextF (f : Nat) : Prop := ∀ (l s x d : Int) (w : World), Calls Tryd.prog f #[.agg #[.int .i64 l, .int .i64 s, .int .i64 x, .int .i64 d]] w fun e w' => e = .returned (.string (conT l s x d)) ∧ Chg w w' 0 0
/-- A function that reads an auction's text, in the worlds that E tells of. -/
def ReadAucF (E : World → Prop) (f : Nat) : Prop := ∀ (s : ByteArray) (w : World), s.size ≤ 1048576 → E w → Calls Tryd.prog f #[.string s] w (RetAB w (rdA s).1 (rdA s).2.1 (rdA s).2.2)
end Go.Proofs.YtnkbcmkngghnoaaDoor.Lib1
