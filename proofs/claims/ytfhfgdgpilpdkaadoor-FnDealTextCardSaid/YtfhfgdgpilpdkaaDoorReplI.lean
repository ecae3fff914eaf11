/- Chapter 3: replaceCards and its two closures, over a replacement of cards taken by contract. -/
import Derived.Test.YtfhfgdgpilpdkaaDoorSymA
import Derived.Test.YtfhfgdgpilpdkaaDoorSortI
import Derived.Test.YtfhfgdgpilpdkaaDoorL03x
namespace Go.Proofs.YtfhfgdgpilpdkaaDoor.Lib1
open Go.RowKit
set_option maxRecDepth 100000

/-- A replacement of cards, taken by contract, at every world that keeps the blocks of w. -/
def CardFn (f : Nat) (caps : Array Value) (g : Int → Int) (w : World) : Prop :=
  ∀ x : Int, 0 ≤ x → x ≤ 51 → ∀ W, Below w.heap.size w W → Calls Tryd.prog f (#[.int .i64 x] ++ caps) W fun e w' => e = .returned (.int .i64 (g x)) ∧ Below W.heap.size W w'
theorem CardFn.later {f : Nat} {caps : Array Value} {g : Int → Int} {w w1 : World} (h : CardFn f caps g w) (b : Below w.heap.size w w1) : CardFn f caps g w1 :=
  fun x h0 h1 W hb => h x h0 h1 W (b.trans (hb.mono b.size))



theorem func_store (W : World) (g : Nat) (f : Nat) (caps : Array Value) (m : Mode) : (store ⟨g, 0, none⟩ (.func (.func f) #[] caps) m).run Tryd.prog W = stored Tryd.prog W ⟨g, 0, none⟩ (.func (.func f) #[] caps) m := run_store Tryd.prog W _ _ m rfl


end Go.Proofs.YtfhfgdgpilpdkaaDoor.Lib1
