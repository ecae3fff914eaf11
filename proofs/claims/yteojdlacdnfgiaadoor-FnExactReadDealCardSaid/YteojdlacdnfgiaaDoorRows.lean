/-
  NARROWER THAN 'FOR EVERY INPUT', by the rows' own cells (each row's printed sentence says how): FnHandText: laid · FnDealText: laid · FnExactReadHand: laid · FnExactReadDeal: laid.
  DERIVED. THE GIVEN ROWS OF THIS SEAT. 4 by the template 'for every input the law returns true; each argument reads behind the call as it read before'; 0 by the template 'total and deterministic' (their statements: YteojdlacdnfgiaaDoorTotals.lean).
  GIVEN WITH THE SEED: the statements are not yours to turn. If you find one false, say at which input.
  Laid BY PROGRAM, IN A SANDBOX (cutbox-rows.mjs): the forced cells as the released guide's own fill.sh prints them over the translation 63c99bdf8c0c99e7… (all of the seat's roots in one cut). By AI agents, Wed Nov 11 2026. No macro, syntax, notation, axiom, sorry.
-/
import Derived.Test.YteojdlacdnfgiaaDoorChecked
import GoSem.PinnedTables
import GoSem.Claim
import GoSem.ClaimJoined
import GoSem.ClaimMapViews
import Derived.JoinedTies
import Derived.KernelRfl
namespace Go.Proofs.YteojdlacdnfgiaaDoor
/- THE CELL 'sum', in the pinned program and in every row, IS THE sha256 OF THE DUMP (.gsa) THAT YteojdlacdnfgiaaDoorProg.lean LOADS. Nothing in Lean hashes anything: it is a label: what it is worth is what the hold of that sum in a sandbox is worth. -/
noncomputable def Tryd.pinned : Pinned := { name := "yteojdlacdnfgiaadoor", sum := "63c99bdf8c0c99e7ab9b7539885d0d639df07431e2efa6604dc7492af630feac", checked := Tryd.checked }
namespace Rows
def none {H : Type} : Left H := { results := [], args := [] }

/- WHAT THE LISTED PACKAGE-LEVEL VARIABLES READ AS WHEN THE CALL BEGINS. Each datum BY PROGRAM (the guide's laid-datum.mjs) off the statement by which the dump's own 'gosem.cut.vars' lays the variable. In a bare row this is a premise. The card (YteojdlacdnfgiaaDoorCards.lean) ties it to the program's text. -/
def laid_unicode_utf8_acceptRanges {H : Type} : DataW H := .agg [.agg [.lit (.int .u8 128), .lit (.int .u8 191)], .agg [.lit (.int .u8 160), .lit (.int .u8 191)], .agg [.lit (.int .u8 128), .lit (.int .u8 159)], .agg [.lit (.int .u8 144), .lit (.int .u8 191)], .agg [.lit (.int .u8 128), .lit (.int .u8 143)], .agg [.lit (.int .u8 0), .lit (.int .u8 0)], .agg [.lit (.int .u8 0), .lit (.int .u8 0)], .agg [.lit (.int .u8 0), .lit (.int .u8 0)], .agg [.lit (.int .u8 0), .lit (.int .u8 0)], .agg [.lit (.int .u8 0), .lit (.int .u8 0)], .agg [.lit (.int .u8 0), .lit (.int .u8 0)], .agg [.lit (.int .u8 0), .lit (.int .u8 0)], .agg [.lit (.int .u8 0), .lit (.int .u8 0)], .agg [.lit (.int .u8 0), .lit (.int .u8 0)], .agg [.lit (.int .u8 0), .lit (.int .u8 0)], .agg [.lit (.int .u8 0), .lit (.int .u8 0)]]
/-- One of Go's own tables, pinned by name: the form's constant. -/
def laid_unicode_utf8_first : DataW Unit := Go.Pinned.utf8First

/-- 'laws.FnHandText': WHATEVER THE INPUT: true; the input reads as it did. -/
def fnHandTextSpec : ChangeSpec := { name := "fnHandText", fn := fun _ => fun
  | [d] => { results := [.lit (.bool true)], args := [d] }
  | _ => none }
def fnHandTextRow : OpenClaim := { program := "yteojdlacdnfgiaadoor", sum := "63c99bdf8c0c99e7ab9b7539885d0d639df07431e2efa6604dc7492af630feac", func := "loop.example/g00854/laws.FnHandText", spec := "fnHandText", inPlace := ["internal/abi.NoEscape", "internal/bytealg.MakeNoZero", "internal/bytealg.CountString", "internal/bytealg.IndexByteString", "internal/bytealg.IndexString"], named := ["unicode/utf8.first", "unicode/utf8.acceptRanges", "internal/bytealg.MaxLen"], apart := false, laid := [("unicode/utf8.acceptRanges", laid_unicode_utf8_acceptRanges), ("unicode/utf8.first", laid_unicode_utf8_first)] }
def FnHandTextSaid : Prop := fnHandTextRow.holds Tryd.pinned (OpenSpec.ofChange fnHandTextSpec)

/-- ITS FALSE NEIGHBOUR: 'it returns false'. Refute it at one input. -/
def fnHandTextWrong : ChangeSpec := { name := "fnHandText", fn := fun _ => fun
  | [d] => { results := [.lit (.bool false)], args := [d] }
  | _ => none }
def FnHandTextWrongFalsely : Prop := fnHandTextRow.holds Tryd.pinned (OpenSpec.ofChange fnHandTextWrong)

/-- 'laws.FnDealText': WHATEVER THE INPUT: true; the input reads as it did. -/
def fnDealTextSpec : ChangeSpec := { name := "fnDealText", fn := fun _ => fun
  | [d] => { results := [.lit (.bool true)], args := [d] }
  | _ => none }
def fnDealTextRow : OpenClaim := { program := "yteojdlacdnfgiaadoor", sum := "63c99bdf8c0c99e7ab9b7539885d0d639df07431e2efa6604dc7492af630feac", func := "loop.example/g00854/laws.FnDealText", spec := "fnDealText", inPlace := ["internal/abi.NoEscape", "internal/bytealg.MakeNoZero", "internal/bytealg.CountString", "internal/bytealg.IndexByteString", "internal/bytealg.IndexString"], unfollowed := true, recurses := true, named := ["unicode/utf8.first", "unicode/utf8.acceptRanges", "internal/bytealg.MaxLen"], apart := false, laid := [("unicode/utf8.acceptRanges", laid_unicode_utf8_acceptRanges), ("unicode/utf8.first", laid_unicode_utf8_first)] }
def FnDealTextSaid : Prop := fnDealTextRow.holds Tryd.pinned (OpenSpec.ofChange fnDealTextSpec)

/-- ITS FALSE NEIGHBOUR: 'it returns false'. Refute it at one input. -/
def fnDealTextWrong : ChangeSpec := { name := "fnDealText", fn := fun _ => fun
  | [d] => { results := [.lit (.bool false)], args := [d] }
  | _ => none }
def FnDealTextWrongFalsely : Prop := fnDealTextRow.holds Tryd.pinned (OpenSpec.ofChange fnDealTextWrong)

/-- 'laws.FnExactReadHand': WHATEVER THE INPUT: true; the input reads as it did. -/
def fnExactReadHandSpec : ChangeSpec := { name := "fnExactReadHand", fn := fun _ => fun
  | [d] => { results := [.lit (.bool true)], args := [d] }
  | _ => none }
def fnExactReadHandRow : OpenClaim := { program := "yteojdlacdnfgiaadoor", sum := "63c99bdf8c0c99e7ab9b7539885d0d639df07431e2efa6604dc7492af630feac", func := "loop.example/g00854/laws.FnExactReadHand", spec := "fnExactReadHand", inPlace := ["internal/bytealg.CountString", "internal/bytealg.IndexByteString", "internal/bytealg.IndexString"], named := ["unicode/utf8.first", "unicode/utf8.acceptRanges", "internal/bytealg.MaxLen"], apart := false, laid := [("unicode/utf8.acceptRanges", laid_unicode_utf8_acceptRanges), ("unicode/utf8.first", laid_unicode_utf8_first)] }
def FnExactReadHandSaid : Prop := fnExactReadHandRow.holds Tryd.pinned (OpenSpec.ofChange fnExactReadHandSpec)

/-- ITS FALSE NEIGHBOUR: 'it returns false'. Refute it at one input. -/
def fnExactReadHandWrong : ChangeSpec := { name := "fnExactReadHand", fn := fun _ => fun
  | [d] => { results := [.lit (.bool false)], args := [d] }
  | _ => none }
def FnExactReadHandWrongFalsely : Prop := fnExactReadHandRow.holds Tryd.pinned (OpenSpec.ofChange fnExactReadHandWrong)

/-- 'laws.FnExactReadDeal': WHATEVER THE INPUT: true; the input reads as it did. -/
def fnExactReadDealSpec : ChangeSpec := { name := "fnExactReadDeal", fn := fun _ => fun
  | [d] => { results := [.lit (.bool true)], args := [d] }
  | _ => none }
def fnExactReadDealRow : OpenClaim := { program := "yteojdlacdnfgiaadoor", sum := "63c99bdf8c0c99e7ab9b7539885d0d639df07431e2efa6604dc7492af630feac", func := "loop.example/g00854/laws.FnExactReadDeal", spec := "fnExactReadDeal", inPlace := ["internal/bytealg.CountString", "internal/bytealg.IndexByteString", "internal/bytealg.IndexString"], named := ["unicode/utf8.first", "unicode/utf8.acceptRanges", "internal/bytealg.MaxLen"], apart := false, laid := [("unicode/utf8.acceptRanges", laid_unicode_utf8_acceptRanges), ("unicode/utf8.first", laid_unicode_utf8_first)] }
def FnExactReadDealSaid : Prop := fnExactReadDealRow.holds Tryd.pinned (OpenSpec.ofChange fnExactReadDealSpec)

/-- ITS FALSE NEIGHBOUR: 'it returns false'. Refute it at one input. -/
def fnExactReadDealWrong : ChangeSpec := { name := "fnExactReadDeal", fn := fun _ => fun
  | [d] => { results := [.lit (.bool false)], args := [d] }
  | _ => none }
def FnExactReadDealWrongFalsely : Prop := fnExactReadDealRow.holds Tryd.pinned (OpenSpec.ofChange fnExactReadDealWrong)

/- THE SECOND FORM. 'bulk': how many values and letters a reading holds, each counted each time it is reached (what is shared counts as often as it is met; a slice's spare places count too). A statement '..UptoSaid' is the law's where the arguments, and the package variables that the reading takes, are together of bulk at most 1048576: NARROWER than '..Said'. Prove '..Said' where nothing that the law and all that it calls make is longer than what came in: it says more and counts as full. Else prove '..UptoSaid'. A law counts once. -/
mutual
def uptoBulk {H : Type} : DataW H → Nat
  | .lit (.string bytes) => bytes.length + 1
  | .lit _ => 1
  | .nil => 1
  | .ptr d => uptoBulk d + 1
  | .slice elems spare => uptoBulkAll elems + uptoBulkAll spare + 1
  | .agg parts => uptoBulkAll parts + 1
  | .iface _ d => uptoBulk d + 1
  | .map entries => uptoBulkEntries entries + 1
  | .held _ => 1
def uptoBulkAll {H : Type} : List (DataW H) → Nat
  | [] => 0
  | d :: r => uptoBulk d + uptoBulkAll r
def uptoBulkEntries {H : Type} : List (Lit × DataW H) → Nat
  | [] => 0
  | x :: r => uptoBulkEntry x + uptoBulkEntries r
def uptoBulkEntry {H : Type} : Lit × DataW H → Nat
  | (.string bytes, d) => bytes.length + uptoBulk d + 1
  | (_, d) => uptoBulk d + 1
 end
def uptoSmall : (H : Type) → List (DataW H) → Bool := fun _ ds => decide (uptoBulkAll ds ≤ 1048576)
def OpenSpec.upto (s : _root_.Go.ChangeSpec) : _root_.Go.OpenSpec := { _root_.Go.OpenSpec.ofChange s with cond := some uptoSmall }

/-- 'laws.FnHandText', WHERE WHAT IT READS IS OF BULK AT MOST 1048576: true; the input reads as it did. -/
def fnHandTextUptoRow : OpenClaim := { program := "yteojdlacdnfgiaadoor", sum := "63c99bdf8c0c99e7ab9b7539885d0d639df07431e2efa6604dc7492af630feac", func := "loop.example/g00854/laws.FnHandText", spec := "fnHandText", inPlace := ["internal/abi.NoEscape", "internal/bytealg.MakeNoZero", "internal/bytealg.CountString", "internal/bytealg.IndexByteString", "internal/bytealg.IndexString"], named := ["unicode/utf8.first", "unicode/utf8.acceptRanges", "internal/bytealg.MaxLen"], apart := false, laid := [("unicode/utf8.acceptRanges", laid_unicode_utf8_acceptRanges), ("unicode/utf8.first", laid_unicode_utf8_first)], narrowed := true }
def FnHandTextUptoSaid : Prop := fnHandTextUptoRow.holds Tryd.pinned (OpenSpec.upto fnHandTextSpec)

/-- 'laws.FnDealText', WHERE WHAT IT READS IS OF BULK AT MOST 1048576: true; the input reads as it did. -/
def fnDealTextUptoRow : OpenClaim := { program := "yteojdlacdnfgiaadoor", sum := "63c99bdf8c0c99e7ab9b7539885d0d639df07431e2efa6604dc7492af630feac", func := "loop.example/g00854/laws.FnDealText", spec := "fnDealText", inPlace := ["internal/abi.NoEscape", "internal/bytealg.MakeNoZero", "internal/bytealg.CountString", "internal/bytealg.IndexByteString", "internal/bytealg.IndexString"], unfollowed := true, recurses := true, named := ["unicode/utf8.first", "unicode/utf8.acceptRanges", "internal/bytealg.MaxLen"], apart := false, laid := [("unicode/utf8.acceptRanges", laid_unicode_utf8_acceptRanges), ("unicode/utf8.first", laid_unicode_utf8_first)], narrowed := true }
def FnDealTextUptoSaid : Prop := fnDealTextUptoRow.holds Tryd.pinned (OpenSpec.upto fnDealTextSpec)

/-- 'laws.FnExactReadHand', WHERE WHAT IT READS IS OF BULK AT MOST 1048576: true; the input reads as it did. -/
def fnExactReadHandUptoRow : OpenClaim := { program := "yteojdlacdnfgiaadoor", sum := "63c99bdf8c0c99e7ab9b7539885d0d639df07431e2efa6604dc7492af630feac", func := "loop.example/g00854/laws.FnExactReadHand", spec := "fnExactReadHand", inPlace := ["internal/bytealg.CountString", "internal/bytealg.IndexByteString", "internal/bytealg.IndexString"], named := ["unicode/utf8.first", "unicode/utf8.acceptRanges", "internal/bytealg.MaxLen"], apart := false, laid := [("unicode/utf8.acceptRanges", laid_unicode_utf8_acceptRanges), ("unicode/utf8.first", laid_unicode_utf8_first)], narrowed := true }
def FnExactReadHandUptoSaid : Prop := fnExactReadHandUptoRow.holds Tryd.pinned (OpenSpec.upto fnExactReadHandSpec)

/-- 'laws.FnExactReadDeal', WHERE WHAT IT READS IS OF BULK AT MOST 1048576: true; the input reads as it did. -/
def fnExactReadDealUptoRow : OpenClaim := { program := "yteojdlacdnfgiaadoor", sum := "63c99bdf8c0c99e7ab9b7539885d0d639df07431e2efa6604dc7492af630feac", func := "loop.example/g00854/laws.FnExactReadDeal", spec := "fnExactReadDeal", inPlace := ["internal/bytealg.CountString", "internal/bytealg.IndexByteString", "internal/bytealg.IndexString"], named := ["unicode/utf8.first", "unicode/utf8.acceptRanges", "internal/bytealg.MaxLen"], apart := false, laid := [("unicode/utf8.acceptRanges", laid_unicode_utf8_acceptRanges), ("unicode/utf8.first", laid_unicode_utf8_first)], narrowed := true }
def FnExactReadDealUptoSaid : Prop := fnExactReadDealUptoRow.holds Tryd.pinned (OpenSpec.upto fnExactReadDealSpec)

end Rows
end Go.Proofs.YteojdlacdnfgiaaDoor
