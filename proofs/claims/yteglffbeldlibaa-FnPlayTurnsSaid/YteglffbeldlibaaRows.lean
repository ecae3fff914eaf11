/-
  No cell of these rows narrows 'for every input' (looked for: loops, veiled, ifaces, maps, wideKeys, modest, calm, conditions, laid).
  DERIVED. THE GIVEN ROWS OF THIS SEAT. 14 by the template 'for every input the law returns true; each argument reads behind the call as it read before'; 0 by the template 'total and deterministic' (their statements: YteglffbeldlibaaTotals.lean).
  GIVEN WITH THE SEED: the statements are not yours to turn. If you find one false, say at which input.
  Laid BY PROGRAM, IN A SANDBOX (cutbox-rows.mjs): the forced cells as the released guide's own fill.sh prints them over the translation 9c3068d945698c4c… (all of the seat's roots in one cut). By AI agents, Wed Nov 11 2026. No macro, syntax, notation, axiom, sorry.
-/
import Derived.Test.YteglffbeldlibaaChecked
import GoSem.Claim
import GoSem.ClaimJoined
import GoSem.ClaimMapViews
import Derived.JoinedTies
import Derived.KernelRfl
namespace Go.Proofs.Yteglffbeldlibaa
/- THE CELL 'sum', in the pinned program and in every row, IS THE sha256 OF THE DUMP (.gsa) THAT YteglffbeldlibaaProg.lean LOADS. Nothing in Lean hashes anything: it is a label: what it is worth is what the hold of that sum in a sandbox is worth. -/
noncomputable def Try.pinned : Pinned := { name := "yteglffbeldlibaa", sum := "9c3068d945698c4cb64340d189186d44694a568911f6c40f2e2616706b96c818", checked := Try.checked }
namespace Rows
def none {H : Type} : Left H := { results := [], args := [] }

/-- 'laws.FnPlayGrows': WHATEVER THE INPUT: true; the input reads as it did. -/
def fnPlayGrowsSpec : ChangeSpec := { name := "fnPlayGrows", fn := fun _ => fun
  | [d] => { results := [.lit (.bool true)], args := [d] }
  | _ => none }
def fnPlayGrowsRow : OpenClaim := { program := "yteglffbeldlibaa", sum := "9c3068d945698c4cb64340d189186d44694a568911f6c40f2e2616706b96c818", func := "loop.example/g00854/laws.FnPlayGrows", spec := "fnPlayGrows", unfollowed := true, recurses := true, apart := false }
def FnPlayGrowsSaid : Prop := fnPlayGrowsRow.holds Try.pinned (OpenSpec.ofChange fnPlayGrowsSpec)

/-- ITS FALSE NEIGHBOUR: 'it returns false'. Refute it at one input. -/
def fnPlayGrowsWrong : ChangeSpec := { name := "fnPlayGrows", fn := fun _ => fun
  | [d] => { results := [.lit (.bool false)], args := [d] }
  | _ => none }
def FnPlayGrowsWrongFalsely : Prop := fnPlayGrowsRow.holds Try.pinned (OpenSpec.ofChange fnPlayGrowsWrong)

/-- 'laws.FnPlayText': WHATEVER THE INPUT: true; the input reads as it did. -/
def fnPlayTextSpec : ChangeSpec := { name := "fnPlayText", fn := fun _ => fun
  | [d] => { results := [.lit (.bool true)], args := [d] }
  | _ => none }
def fnPlayTextRow : OpenClaim := { program := "yteglffbeldlibaa", sum := "9c3068d945698c4cb64340d189186d44694a568911f6c40f2e2616706b96c818", func := "loop.example/g00854/laws.FnPlayText", spec := "fnPlayText", inPlace := ["internal/abi.NoEscape", "internal/bytealg.MakeNoZero", "internal/bytealg.IndexByteString", "internal/bytealg.IndexString"], unfollowed := true, recurses := true, named := ["internal/bytealg.MaxLen"], apart := false }
def FnPlayTextSaid : Prop := fnPlayTextRow.holds Try.pinned (OpenSpec.ofChange fnPlayTextSpec)

/-- ITS FALSE NEIGHBOUR: 'it returns false'. Refute it at one input. -/
def fnPlayTextWrong : ChangeSpec := { name := "fnPlayText", fn := fun _ => fun
  | [d] => { results := [.lit (.bool false)], args := [d] }
  | _ => none }
def FnPlayTextWrongFalsely : Prop := fnPlayTextRow.holds Try.pinned (OpenSpec.ofChange fnPlayTextWrong)

/-- 'laws.FnTrickCount': WHATEVER THE INPUT: true; the input reads as it did. -/
def fnTrickCountSpec : ChangeSpec := { name := "fnTrickCount", fn := fun _ => fun
  | [d] => { results := [.lit (.bool true)], args := [d] }
  | _ => none }
def fnTrickCountRow : OpenClaim := { program := "yteglffbeldlibaa", sum := "9c3068d945698c4cb64340d189186d44694a568911f6c40f2e2616706b96c818", func := "loop.example/g00854/laws.FnTrickCount", spec := "fnTrickCount", unfollowed := true, recurses := true, apart := false }
def FnTrickCountSaid : Prop := fnTrickCountRow.holds Try.pinned (OpenSpec.ofChange fnTrickCountSpec)

/-- ITS FALSE NEIGHBOUR: 'it returns false'. Refute it at one input. -/
def fnTrickCountWrong : ChangeSpec := { name := "fnTrickCount", fn := fun _ => fun
  | [d] => { results := [.lit (.bool false)], args := [d] }
  | _ => none }
def FnTrickCountWrongFalsely : Prop := fnTrickCountRow.holds Try.pinned (OpenSpec.ofChange fnTrickCountWrong)

/-- 'laws.FnPlayTurns': WHATEVER THE INPUT: true; the input reads as it did. -/
def fnPlayTurnsSpec : ChangeSpec := { name := "fnPlayTurns", fn := fun _ => fun
  | [d] => { results := [.lit (.bool true)], args := [d] }
  | _ => none }
def fnPlayTurnsRow : OpenClaim := { program := "yteglffbeldlibaa", sum := "9c3068d945698c4cb64340d189186d44694a568911f6c40f2e2616706b96c818", func := "loop.example/g00854/laws.FnPlayTurns", spec := "fnPlayTurns", unfollowed := true, recurses := true, apart := false }
def FnPlayTurnsSaid : Prop := fnPlayTurnsRow.holds Try.pinned (OpenSpec.ofChange fnPlayTurnsSpec)

/-- ITS FALSE NEIGHBOUR: 'it returns false'. Refute it at one input. -/
def fnPlayTurnsWrong : ChangeSpec := { name := "fnPlayTurns", fn := fun _ => fun
  | [d] => { results := [.lit (.bool false)], args := [d] }
  | _ => none }
def FnPlayTurnsWrongFalsely : Prop := fnPlayTurnsRow.holds Try.pinned (OpenSpec.ofChange fnPlayTurnsWrong)

/-- 'laws.FnExactIsPlainPlay': WHATEVER THE INPUT: true; the input reads as it did. -/
def fnExactIsPlainPlaySpec : ChangeSpec := { name := "fnExactIsPlainPlay", fn := fun _ => fun
  | [d] => { results := [.lit (.bool true)], args := [d] }
  | _ => none }
def fnExactIsPlainPlayRow : OpenClaim := { program := "yteglffbeldlibaa", sum := "9c3068d945698c4cb64340d189186d44694a568911f6c40f2e2616706b96c818", func := "loop.example/g00854/laws.FnExactIsPlainPlay", spec := "fnExactIsPlainPlay", apart := false }
def FnExactIsPlainPlaySaid : Prop := fnExactIsPlainPlayRow.holds Try.pinned (OpenSpec.ofChange fnExactIsPlainPlaySpec)

/-- ITS FALSE NEIGHBOUR: 'it returns false'. Refute it at one input. -/
def fnExactIsPlainPlayWrong : ChangeSpec := { name := "fnExactIsPlainPlay", fn := fun _ => fun
  | [d] => { results := [.lit (.bool false)], args := [d] }
  | _ => none }
def FnExactIsPlainPlayWrongFalsely : Prop := fnExactIsPlainPlayRow.holds Try.pinned (OpenSpec.ofChange fnExactIsPlainPlayWrong)

/-- 'laws.FnExactIsPlay': WHATEVER THE INPUT: true; the input reads as it did. -/
def fnExactIsPlaySpec : ChangeSpec := { name := "fnExactIsPlay", fn := fun _ => fun
  | [d1, d2] => { results := [.lit (.bool true)], args := [d1, d2] }
  | _ => none }
def fnExactIsPlayRow : OpenClaim := { program := "yteglffbeldlibaa", sum := "9c3068d945698c4cb64340d189186d44694a568911f6c40f2e2616706b96c818", func := "loop.example/g00854/laws.FnExactIsPlay", spec := "fnExactIsPlay", unfollowed := true, recurses := true, apart := false }
def FnExactIsPlaySaid : Prop := fnExactIsPlayRow.holds Try.pinned (OpenSpec.ofChange fnExactIsPlaySpec)

/-- ITS FALSE NEIGHBOUR: 'it returns false'. Refute it at one input. -/
def fnExactIsPlayWrong : ChangeSpec := { name := "fnExactIsPlay", fn := fun _ => fun
  | [d1, d2] => { results := [.lit (.bool false)], args := [d1, d2] }
  | _ => none }
def FnExactIsPlayWrongFalsely : Prop := fnExactIsPlayRow.holds Try.pinned (OpenSpec.ofChange fnExactIsPlayWrong)

/-- 'laws.FnExactTrickLeaders': WHATEVER THE INPUT: true; the input reads as it did. -/
def fnExactTrickLeadersSpec : ChangeSpec := { name := "fnExactTrickLeaders", fn := fun _ => fun
  | [d] => { results := [.lit (.bool true)], args := [d] }
  | _ => none }
def fnExactTrickLeadersRow : OpenClaim := { program := "yteglffbeldlibaa", sum := "9c3068d945698c4cb64340d189186d44694a568911f6c40f2e2616706b96c818", func := "loop.example/g00854/laws.FnExactTrickLeaders", spec := "fnExactTrickLeaders", unfollowed := true, recurses := true, apart := false }
def FnExactTrickLeadersSaid : Prop := fnExactTrickLeadersRow.holds Try.pinned (OpenSpec.ofChange fnExactTrickLeadersSpec)

/-- ITS FALSE NEIGHBOUR: 'it returns false'. Refute it at one input. -/
def fnExactTrickLeadersWrong : ChangeSpec := { name := "fnExactTrickLeaders", fn := fun _ => fun
  | [d] => { results := [.lit (.bool false)], args := [d] }
  | _ => none }
def FnExactTrickLeadersWrongFalsely : Prop := fnExactTrickLeadersRow.holds Try.pinned (OpenSpec.ofChange fnExactTrickLeadersWrong)

/-- 'laws.FnExactTurnOf': WHATEVER THE INPUT: true; the input reads as it did. -/
def fnExactTurnOfSpec : ChangeSpec := { name := "fnExactTurnOf", fn := fun _ => fun
  | [d1, d2] => { results := [.lit (.bool true)], args := [d1, d2] }
  | _ => none }
def fnExactTurnOfRow : OpenClaim := { program := "yteglffbeldlibaa", sum := "9c3068d945698c4cb64340d189186d44694a568911f6c40f2e2616706b96c818", func := "loop.example/g00854/laws.FnExactTurnOf", spec := "fnExactTurnOf", unfollowed := true, recurses := true, apart := false }
def FnExactTurnOfSaid : Prop := fnExactTurnOfRow.holds Try.pinned (OpenSpec.ofChange fnExactTurnOfSpec)

/-- ITS FALSE NEIGHBOUR: 'it returns false'. Refute it at one input. -/
def fnExactTurnOfWrong : ChangeSpec := { name := "fnExactTurnOf", fn := fun _ => fun
  | [d1, d2] => { results := [.lit (.bool false)], args := [d1, d2] }
  | _ => none }
def FnExactTurnOfWrongFalsely : Prop := fnExactTurnOfRow.holds Try.pinned (OpenSpec.ofChange fnExactTurnOfWrong)

/-- 'laws.FnExactLegalCards': WHATEVER THE INPUT: true; the input reads as it did. -/
def fnExactLegalCardsSpec : ChangeSpec := { name := "fnExactLegalCards", fn := fun _ => fun
  | [d1, d2] => { results := [.lit (.bool true)], args := [d1, d2] }
  | _ => none }
def fnExactLegalCardsRow : OpenClaim := { program := "yteglffbeldlibaa", sum := "9c3068d945698c4cb64340d189186d44694a568911f6c40f2e2616706b96c818", func := "loop.example/g00854/laws.FnExactLegalCards", spec := "fnExactLegalCards", unfollowed := true, recurses := true, apart := false }
def FnExactLegalCardsSaid : Prop := fnExactLegalCardsRow.holds Try.pinned (OpenSpec.ofChange fnExactLegalCardsSpec)

/-- ITS FALSE NEIGHBOUR: 'it returns false'. Refute it at one input. -/
def fnExactLegalCardsWrong : ChangeSpec := { name := "fnExactLegalCards", fn := fun _ => fun
  | [d1, d2] => { results := [.lit (.bool false)], args := [d1, d2] }
  | _ => none }
def FnExactLegalCardsWrongFalsely : Prop := fnExactLegalCardsRow.holds Try.pinned (OpenSpec.ofChange fnExactLegalCardsWrong)

/-- 'laws.FnExactAddCard': WHATEVER THE INPUT: true; the input reads as it did. -/
def fnExactAddCardSpec : ChangeSpec := { name := "fnExactAddCard", fn := fun _ => fun
  | [d1, d2, d3] => { results := [.lit (.bool true)], args := [d1, d2, d3] }
  | _ => none }
def fnExactAddCardRow : OpenClaim := { program := "yteglffbeldlibaa", sum := "9c3068d945698c4cb64340d189186d44694a568911f6c40f2e2616706b96c818", func := "loop.example/g00854/laws.FnExactAddCard", spec := "fnExactAddCard", unfollowed := true, recurses := true, apart := false }
def FnExactAddCardSaid : Prop := fnExactAddCardRow.holds Try.pinned (OpenSpec.ofChange fnExactAddCardSpec)

/-- ITS FALSE NEIGHBOUR: 'it returns false'. Refute it at one input. -/
def fnExactAddCardWrong : ChangeSpec := { name := "fnExactAddCard", fn := fun _ => fun
  | [d1, d2, d3] => { results := [.lit (.bool false)], args := [d1, d2, d3] }
  | _ => none }
def FnExactAddCardWrongFalsely : Prop := fnExactAddCardRow.holds Try.pinned (OpenSpec.ofChange fnExactAddCardWrong)

/-- 'laws.FnExactTricksOfSides': WHATEVER THE INPUT: true; the input reads as it did. -/
def fnExactTricksOfSidesSpec : ChangeSpec := { name := "fnExactTricksOfSides", fn := fun _ => fun
  | [d] => { results := [.lit (.bool true)], args := [d] }
  | _ => none }
def fnExactTricksOfSidesRow : OpenClaim := { program := "yteglffbeldlibaa", sum := "9c3068d945698c4cb64340d189186d44694a568911f6c40f2e2616706b96c818", func := "loop.example/g00854/laws.FnExactTricksOfSides", spec := "fnExactTricksOfSides", unfollowed := true, recurses := true, apart := false }
def FnExactTricksOfSidesSaid : Prop := fnExactTricksOfSidesRow.holds Try.pinned (OpenSpec.ofChange fnExactTricksOfSidesSpec)

/-- ITS FALSE NEIGHBOUR: 'it returns false'. Refute it at one input. -/
def fnExactTricksOfSidesWrong : ChangeSpec := { name := "fnExactTricksOfSides", fn := fun _ => fun
  | [d] => { results := [.lit (.bool false)], args := [d] }
  | _ => none }
def FnExactTricksOfSidesWrongFalsely : Prop := fnExactTricksOfSidesRow.holds Try.pinned (OpenSpec.ofChange fnExactTricksOfSidesWrong)

/-- 'laws.FnExactCardsLeft': WHATEVER THE INPUT: true; the input reads as it did. -/
def fnExactCardsLeftSpec : ChangeSpec := { name := "fnExactCardsLeft", fn := fun _ => fun
  | [d1, d2] => { results := [.lit (.bool true)], args := [d1, d2] }
  | _ => none }
def fnExactCardsLeftRow : OpenClaim := { program := "yteglffbeldlibaa", sum := "9c3068d945698c4cb64340d189186d44694a568911f6c40f2e2616706b96c818", func := "loop.example/g00854/laws.FnExactCardsLeft", spec := "fnExactCardsLeft", unfollowed := true, recurses := true, apart := false }
def FnExactCardsLeftSaid : Prop := fnExactCardsLeftRow.holds Try.pinned (OpenSpec.ofChange fnExactCardsLeftSpec)

/-- ITS FALSE NEIGHBOUR: 'it returns false'. Refute it at one input. -/
def fnExactCardsLeftWrong : ChangeSpec := { name := "fnExactCardsLeft", fn := fun _ => fun
  | [d1, d2] => { results := [.lit (.bool false)], args := [d1, d2] }
  | _ => none }
def FnExactCardsLeftWrongFalsely : Prop := fnExactCardsLeftRow.holds Try.pinned (OpenSpec.ofChange fnExactCardsLeftWrong)

/-- 'laws.FnExactPlayText': WHATEVER THE INPUT: true; the input reads as it did. -/
def fnExactPlayTextSpec : ChangeSpec := { name := "fnExactPlayText", fn := fun _ => fun
  | [d] => { results := [.lit (.bool true)], args := [d] }
  | _ => none }
def fnExactPlayTextRow : OpenClaim := { program := "yteglffbeldlibaa", sum := "9c3068d945698c4cb64340d189186d44694a568911f6c40f2e2616706b96c818", func := "loop.example/g00854/laws.FnExactPlayText", spec := "fnExactPlayText", inPlace := ["internal/abi.NoEscape", "internal/bytealg.MakeNoZero"], unfollowed := true, recurses := true, apart := false }
def FnExactPlayTextSaid : Prop := fnExactPlayTextRow.holds Try.pinned (OpenSpec.ofChange fnExactPlayTextSpec)

/-- ITS FALSE NEIGHBOUR: 'it returns false'. Refute it at one input. -/
def fnExactPlayTextWrong : ChangeSpec := { name := "fnExactPlayText", fn := fun _ => fun
  | [d] => { results := [.lit (.bool false)], args := [d] }
  | _ => none }
def FnExactPlayTextWrongFalsely : Prop := fnExactPlayTextRow.holds Try.pinned (OpenSpec.ofChange fnExactPlayTextWrong)

/-- 'laws.FnExactReadPlay': WHATEVER THE INPUT: true; the input reads as it did. -/
def fnExactReadPlaySpec : ChangeSpec := { name := "fnExactReadPlay", fn := fun _ => fun
  | [d] => { results := [.lit (.bool true)], args := [d] }
  | _ => none }
def fnExactReadPlayRow : OpenClaim := { program := "yteglffbeldlibaa", sum := "9c3068d945698c4cb64340d189186d44694a568911f6c40f2e2616706b96c818", func := "loop.example/g00854/laws.FnExactReadPlay", spec := "fnExactReadPlay", inPlace := ["internal/bytealg.IndexByteString", "internal/bytealg.IndexString", "internal/abi.NoEscape", "internal/bytealg.MakeNoZero"], unfollowed := true, recurses := true, named := ["internal/bytealg.MaxLen"], apart := false }
def FnExactReadPlaySaid : Prop := fnExactReadPlayRow.holds Try.pinned (OpenSpec.ofChange fnExactReadPlaySpec)

/-- ITS FALSE NEIGHBOUR: 'it returns false'. Refute it at one input. -/
def fnExactReadPlayWrong : ChangeSpec := { name := "fnExactReadPlay", fn := fun _ => fun
  | [d] => { results := [.lit (.bool false)], args := [d] }
  | _ => none }
def FnExactReadPlayWrongFalsely : Prop := fnExactReadPlayRow.holds Try.pinned (OpenSpec.ofChange fnExactReadPlayWrong)

/- THE SECOND FORM. 'bulk': how many values and letters a reading holds, each counted each time it is reached (what is shared counts as often as it is met; a slice's spare places count too). A statement '..UptoSaid' is the law's where the arguments, and the package variables that the reading takes, are together of bulk at most 1048576: NARROWER than '..Said'. Prove '..Said' where nothing that the law and all that it calls make is longer than what came in: it says more and counts as full. Else prove '..UptoSaid'. A law counts once. -/
mutual
def uptoBulk {H : Type} : DataW H → Nat
  | .lit (.string bytes) => bytes.length + 1
  | .lit _ => 1
  | .nil => 1
  | .ptr d => uptoBulk d + 1
  | .slice elems spare => uptoBulkAll elems + uptoBulkAll spare + 1
  | .agg parts => uptoBulkAll parts + 1
  | .iface _ d => uptoBulk d + 1
  | .map entries => uptoBulkEntries entries + 1
  | .held _ => 1
def uptoBulkAll {H : Type} : List (DataW H) → Nat
  | [] => 0
  | d :: r => uptoBulk d + uptoBulkAll r
def uptoBulkEntries {H : Type} : List (Lit × DataW H) → Nat
  | [] => 0
  | x :: r => uptoBulkEntry x + uptoBulkEntries r
def uptoBulkEntry {H : Type} : Lit × DataW H → Nat
  | (.string bytes, d) => bytes.length + uptoBulk d + 1
  | (_, d) => uptoBulk d + 1
 end
def uptoSmall : (H : Type) → List (DataW H) → Bool := fun _ ds => decide (uptoBulkAll ds ≤ 1048576)
def OpenSpec.upto (s : _root_.Go.ChangeSpec) : _root_.Go.OpenSpec := { _root_.Go.OpenSpec.ofChange s with cond := some uptoSmall }

/-- 'laws.FnPlayGrows', WHERE WHAT IT READS IS OF BULK AT MOST 1048576: true; the input reads as it did. -/
def fnPlayGrowsUptoRow : OpenClaim := { program := "yteglffbeldlibaa", sum := "9c3068d945698c4cb64340d189186d44694a568911f6c40f2e2616706b96c818", func := "loop.example/g00854/laws.FnPlayGrows", spec := "fnPlayGrows", unfollowed := true, recurses := true, apart := false, narrowed := true }
def FnPlayGrowsUptoSaid : Prop := fnPlayGrowsUptoRow.holds Try.pinned (OpenSpec.upto fnPlayGrowsSpec)

/-- 'laws.FnPlayText', WHERE WHAT IT READS IS OF BULK AT MOST 1048576: true; the input reads as it did. -/
def fnPlayTextUptoRow : OpenClaim := { program := "yteglffbeldlibaa", sum := "9c3068d945698c4cb64340d189186d44694a568911f6c40f2e2616706b96c818", func := "loop.example/g00854/laws.FnPlayText", spec := "fnPlayText", inPlace := ["internal/abi.NoEscape", "internal/bytealg.MakeNoZero", "internal/bytealg.IndexByteString", "internal/bytealg.IndexString"], unfollowed := true, recurses := true, named := ["internal/bytealg.MaxLen"], apart := false, narrowed := true }
def FnPlayTextUptoSaid : Prop := fnPlayTextUptoRow.holds Try.pinned (OpenSpec.upto fnPlayTextSpec)

/-- 'laws.FnTrickCount', WHERE WHAT IT READS IS OF BULK AT MOST 1048576: true; the input reads as it did. -/
def fnTrickCountUptoRow : OpenClaim := { program := "yteglffbeldlibaa", sum := "9c3068d945698c4cb64340d189186d44694a568911f6c40f2e2616706b96c818", func := "loop.example/g00854/laws.FnTrickCount", spec := "fnTrickCount", unfollowed := true, recurses := true, apart := false, narrowed := true }
def FnTrickCountUptoSaid : Prop := fnTrickCountUptoRow.holds Try.pinned (OpenSpec.upto fnTrickCountSpec)

/-- 'laws.FnPlayTurns', WHERE WHAT IT READS IS OF BULK AT MOST 1048576: true; the input reads as it did. -/
def fnPlayTurnsUptoRow : OpenClaim := { program := "yteglffbeldlibaa", sum := "9c3068d945698c4cb64340d189186d44694a568911f6c40f2e2616706b96c818", func := "loop.example/g00854/laws.FnPlayTurns", spec := "fnPlayTurns", unfollowed := true, recurses := true, apart := false, narrowed := true }
def FnPlayTurnsUptoSaid : Prop := fnPlayTurnsUptoRow.holds Try.pinned (OpenSpec.upto fnPlayTurnsSpec)

/-- 'laws.FnExactIsPlainPlay', WHERE WHAT IT READS IS OF BULK AT MOST 1048576: true; the input reads as it did. -/
def fnExactIsPlainPlayUptoRow : OpenClaim := { program := "yteglffbeldlibaa", sum := "9c3068d945698c4cb64340d189186d44694a568911f6c40f2e2616706b96c818", func := "loop.example/g00854/laws.FnExactIsPlainPlay", spec := "fnExactIsPlainPlay", apart := false, narrowed := true }
def FnExactIsPlainPlayUptoSaid : Prop := fnExactIsPlainPlayUptoRow.holds Try.pinned (OpenSpec.upto fnExactIsPlainPlaySpec)

/-- 'laws.FnExactIsPlay', WHERE WHAT IT READS IS OF BULK AT MOST 1048576: true; the input reads as it did. -/
def fnExactIsPlayUptoRow : OpenClaim := { program := "yteglffbeldlibaa", sum := "9c3068d945698c4cb64340d189186d44694a568911f6c40f2e2616706b96c818", func := "loop.example/g00854/laws.FnExactIsPlay", spec := "fnExactIsPlay", unfollowed := true, recurses := true, apart := false, narrowed := true }
def FnExactIsPlayUptoSaid : Prop := fnExactIsPlayUptoRow.holds Try.pinned (OpenSpec.upto fnExactIsPlaySpec)

/-- 'laws.FnExactTrickLeaders', WHERE WHAT IT READS IS OF BULK AT MOST 1048576: true; the input reads as it did. -/
def fnExactTrickLeadersUptoRow : OpenClaim := { program := "yteglffbeldlibaa", sum := "9c3068d945698c4cb64340d189186d44694a568911f6c40f2e2616706b96c818", func := "loop.example/g00854/laws.FnExactTrickLeaders", spec := "fnExactTrickLeaders", unfollowed := true, recurses := true, apart := false, narrowed := true }
def FnExactTrickLeadersUptoSaid : Prop := fnExactTrickLeadersUptoRow.holds Try.pinned (OpenSpec.upto fnExactTrickLeadersSpec)

/-- 'laws.FnExactTurnOf', WHERE WHAT IT READS IS OF BULK AT MOST 1048576: true; the input reads as it did. -/
def fnExactTurnOfUptoRow : OpenClaim := { program := "yteglffbeldlibaa", sum := "9c3068d945698c4cb64340d189186d44694a568911f6c40f2e2616706b96c818", func := "loop.example/g00854/laws.FnExactTurnOf", spec := "fnExactTurnOf", unfollowed := true, recurses := true, apart := false, narrowed := true }
def FnExactTurnOfUptoSaid : Prop := fnExactTurnOfUptoRow.holds Try.pinned (OpenSpec.upto fnExactTurnOfSpec)

/-- 'laws.FnExactLegalCards', WHERE WHAT IT READS IS OF BULK AT MOST 1048576: true; the input reads as it did. -/
def fnExactLegalCardsUptoRow : OpenClaim := { program := "yteglffbeldlibaa", sum := "9c3068d945698c4cb64340d189186d44694a568911f6c40f2e2616706b96c818", func := "loop.example/g00854/laws.FnExactLegalCards", spec := "fnExactLegalCards", unfollowed := true, recurses := true, apart := false, narrowed := true }
def FnExactLegalCardsUptoSaid : Prop := fnExactLegalCardsUptoRow.holds Try.pinned (OpenSpec.upto fnExactLegalCardsSpec)

/-- 'laws.FnExactAddCard', WHERE WHAT IT READS IS OF BULK AT MOST 1048576: true; the input reads as it did. -/
def fnExactAddCardUptoRow : OpenClaim := { program := "yteglffbeldlibaa", sum := "9c3068d945698c4cb64340d189186d44694a568911f6c40f2e2616706b96c818", func := "loop.example/g00854/laws.FnExactAddCard", spec := "fnExactAddCard", unfollowed := true, recurses := true, apart := false, narrowed := true }
def FnExactAddCardUptoSaid : Prop := fnExactAddCardUptoRow.holds Try.pinned (OpenSpec.upto fnExactAddCardSpec)

/-- 'laws.FnExactTricksOfSides', WHERE WHAT IT READS IS OF BULK AT MOST 1048576: true; the input reads as it did. -/
def fnExactTricksOfSidesUptoRow : OpenClaim := { program := "yteglffbeldlibaa", sum := "9c3068d945698c4cb64340d189186d44694a568911f6c40f2e2616706b96c818", func := "loop.example/g00854/laws.FnExactTricksOfSides", spec := "fnExactTricksOfSides", unfollowed := true, recurses := true, apart := false, narrowed := true }
def FnExactTricksOfSidesUptoSaid : Prop := fnExactTricksOfSidesUptoRow.holds Try.pinned (OpenSpec.upto fnExactTricksOfSidesSpec)

/-- 'laws.FnExactCardsLeft', WHERE WHAT IT READS IS OF BULK AT MOST 1048576: true; the input reads as it did. -/
def fnExactCardsLeftUptoRow : OpenClaim := { program := "yteglffbeldlibaa", sum := "9c3068d945698c4cb64340d189186d44694a568911f6c40f2e2616706b96c818", func := "loop.example/g00854/laws.FnExactCardsLeft", spec := "fnExactCardsLeft", unfollowed := true, recurses := true, apart := false, narrowed := true }
def FnExactCardsLeftUptoSaid : Prop := fnExactCardsLeftUptoRow.holds Try.pinned (OpenSpec.upto fnExactCardsLeftSpec)

/-- 'laws.FnExactPlayText', WHERE WHAT IT READS IS OF BULK AT MOST 1048576: true; the input reads as it did. -/
def fnExactPlayTextUptoRow : OpenClaim := { program := "yteglffbeldlibaa", sum := "9c3068d945698c4cb64340d189186d44694a568911f6c40f2e2616706b96c818", func := "loop.example/g00854/laws.FnExactPlayText", spec := "fnExactPlayText", inPlace := ["internal/abi.NoEscape", "internal/bytealg.MakeNoZero"], unfollowed := true, recurses := true, apart := false, narrowed := true }
def FnExactPlayTextUptoSaid : Prop := fnExactPlayTextUptoRow.holds Try.pinned (OpenSpec.upto fnExactPlayTextSpec)

/-- 'laws.FnExactReadPlay', WHERE WHAT IT READS IS OF BULK AT MOST 1048576: true; the input reads as it did. -/
def fnExactReadPlayUptoRow : OpenClaim := { program := "yteglffbeldlibaa", sum := "9c3068d945698c4cb64340d189186d44694a568911f6c40f2e2616706b96c818", func := "loop.example/g00854/laws.FnExactReadPlay", spec := "fnExactReadPlay", inPlace := ["internal/bytealg.IndexByteString", "internal/bytealg.IndexString", "internal/abi.NoEscape", "internal/bytealg.MakeNoZero"], unfollowed := true, recurses := true, named := ["internal/bytealg.MaxLen"], apart := false, narrowed := true }
def FnExactReadPlayUptoSaid : Prop := fnExactReadPlayUptoRow.holds Try.pinned (OpenSpec.upto fnExactReadPlaySpec)

end Rows
end Go.Proofs.Yteglffbeldlibaa
