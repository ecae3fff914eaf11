/- Chapter 7: the model's AddCall and ContractOf. -/
import Derived.Test.YtnkbcmkngghnoaaDoorAucB7
namespace Go.Proofs.YtnkbcmkngghnoaaDoor.Lib1
open Go.RowKit
set_option maxRecDepth 100000

theorem results_row_tmp {P : Program} {fn : Func} {p u : Tmp} {ty : TypeId} (h : fn.results = #[.cell p ty, .tmp u]) (tmps : Array Value) (w : World) (g : Nat) (t : TypeId) (cs : Array Value) (fr : Nat × Nat) (d : TypeDesc) (v : Value)
    (hp : tmps.getD p undef = .pointer (some ⟨g, 0, none⟩)) (hv : tmps.getD u undef = v) (hg : w.heap[g]? = some (.cells cs t fr))
    (hu : P.underlying ty = some d) (hd : (match d with | .struct _ | .array _ _ => true | _ => false) = true) (hi : (P.info? ty).map (·.size) = some cs.size) :
    (results fn tmps).run P w = .ok (.tuple #[.agg cs, v]) w := by
  have hp' : tmps[p]?.getD undef = .pointer (some ⟨g, 0, none⟩) := by simpa using hp
  have hv' : tmps[u]?.getD undef = v := by simpa using hv
  simp [results, h, hp', hv', asAddr, run_loadVar_row w g t ty cs fr d hg hu hd hi]
/-! ### AddCall -/
def addB (d : Int) (zs : List Int) (n : Nat) (x : Int) : Int := if !(inB d 0 3 && validTo zs n) then 1 else if overTo zs n then 5 else if !legTo zs n x then 2 else 0
def addD (d : Int) (zs : List Int) (n : Nat) (x : Int) : Int := if addB d zs n x = 0 then d else 0
def addL (d : Int) (zs : List Int) (n : Nat) (x : Int) : List Int := if addB d zs n x = 0 then zs ++ [x] else []
/-- An auction and a code are handed back, the auction in memory of the call's own. -/
def RetAI (w : World) (d : Int) (zs : List Int) (k : Int) (e : Ending) (w' : World) : Prop := ∃ v, e = .returned (.tuple #[.agg #[.int .i64 d, v], .int .i64 k]) ∧ OwnV w' w.heap.size v zs ∧ Below w.heap.size w w'

end Go.Proofs.YtnkbcmkngghnoaaDoor.Lib1
