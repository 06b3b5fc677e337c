/-
  NARROWER THAN 'FOR EVERY INPUT', by the rows' own cells (each row's printed sentence says how): FnExactIsBoard: laid · FnExactSizeOfBoard: laid · FnExactBoardMoves: laid · FnExactMakeOnBoard: laid · FnExactExchangeBoard: laid · FnExactRowOfBoard: laid · FnExactColumnOfBoard: laid · FnExactCrossBoard: laid · FnExactOtherBoard: laid · FnExactIsBoardBlocked: laid · FnExactWayOnBoard: laid.
  DERIVED. THE GIVEN ROWS OF THIS SEAT. 11 by the template 'for every input the law returns true; each argument reads behind the call as it read before'; 0 by the template 'total and deterministic' (their statements: YtmlffocbcfediaaDoorTotals.lean).
  GIVEN WITH THE SEED: the statements are not yours to turn. If you find one false, say at which input.
  Laid BY PROGRAM, IN A SANDBOX (cutbox-rows.mjs): the forced cells as the released guide's own fill.sh prints them over the translation 57c31f0844548231… (all of the seat's roots in one cut). By AI agents, Wed Nov 11 2026. No macro, syntax, notation, axiom, sorry.
-/
import Derived.Test.YtmlffocbcfediaaDoorChecked
import GoSem.PinnedTables
import GoSem.Claim
import GoSem.ClaimJoined
import GoSem.ClaimMapViews
import Derived.JoinedTies
import Derived.KernelRfl
namespace Go.Proofs.YtmlffocbcfediaaDoor
/- THE CELL 'sum', in the pinned program and in every row, IS THE sha256 OF THE DUMP (.gsa) THAT YtmlffocbcfediaaDoorProg.lean LOADS. Nothing in Lean hashes anything: it is a label: what it is worth is what the hold of that sum in a sandbox is worth. -/
noncomputable def Tryd.pinned : Pinned := { name := "ytmlffocbcfediaadoor", sum := "57c31f0844548231eba8aa7fe728b2192519e86eebf1214c470d8fe6d0735012", checked := Tryd.checked }
namespace Rows
def none {H : Type} : Left H := { results := [], args := [] }

/- WHAT THE LISTED PACKAGE-LEVEL VARIABLES READ AS WHEN THE CALL BEGINS. Each datum BY PROGRAM (the guide's laid-datum.mjs) off the statement by which the dump's own 'gosem.cut.vars' lays the variable. In a bare row this is a premise. The card (YtmlffocbcfediaaDoorCards.lean) ties it to the program's text. -/
def laid_unicode_utf8_acceptRanges {H : Type} : DataW H := .agg [.agg [.lit (.int .u8 128), .lit (.int .u8 191)], .agg [.lit (.int .u8 160), .lit (.int .u8 191)], .agg [.lit (.int .u8 128), .lit (.int .u8 159)], .agg [.lit (.int .u8 144), .lit (.int .u8 191)], .agg [.lit (.int .u8 128), .lit (.int .u8 143)], .agg [.lit (.int .u8 0), .lit (.int .u8 0)], .agg [.lit (.int .u8 0), .lit (.int .u8 0)], .agg [.lit (.int .u8 0), .lit (.int .u8 0)], .agg [.lit (.int .u8 0), .lit (.int .u8 0)], .agg [.lit (.int .u8 0), .lit (.int .u8 0)], .agg [.lit (.int .u8 0), .lit (.int .u8 0)], .agg [.lit (.int .u8 0), .lit (.int .u8 0)], .agg [.lit (.int .u8 0), .lit (.int .u8 0)], .agg [.lit (.int .u8 0), .lit (.int .u8 0)], .agg [.lit (.int .u8 0), .lit (.int .u8 0)], .agg [.lit (.int .u8 0), .lit (.int .u8 0)]]
/-- One of Go's own tables, pinned by name: the form's constant. -/
def laid_unicode_utf8_first : DataW Unit := Go.Pinned.utf8First

/-- 'laws.FnExactIsBoard': WHATEVER THE INPUT: true; the input reads as it did. -/
def fnExactIsBoardSpec : ChangeSpec := { name := "fnExactIsBoard", fn := fun _ => fun
  | [d] => { results := [.lit (.bool true)], args := [d] }
  | _ => none }
def fnExactIsBoardRow : OpenClaim := { program := "ytmlffocbcfediaadoor", sum := "57c31f0844548231eba8aa7fe728b2192519e86eebf1214c470d8fe6d0735012", func := "loop.example/g01271/laws.FnExactIsBoard", spec := "fnExactIsBoard", inPlace := ["internal/bytealg.CountString", "internal/bytealg.IndexByteString", "internal/bytealg.IndexString", "internal/abi.NoEscape", "internal/bytealg.MakeNoZero"], named := ["unicode/utf8.first", "unicode/utf8.acceptRanges", "internal/bytealg.MaxLen"], plainKeys := false, apart := false, laid := [("unicode/utf8.acceptRanges", laid_unicode_utf8_acceptRanges), ("unicode/utf8.first", laid_unicode_utf8_first)] }
def FnExactIsBoardSaid : Prop := fnExactIsBoardRow.holds Tryd.pinned (OpenSpec.ofChange fnExactIsBoardSpec)

/-- ITS FALSE NEIGHBOUR: 'it returns false'. Refute it at one input. -/
def fnExactIsBoardWrong : ChangeSpec := { name := "fnExactIsBoard", fn := fun _ => fun
  | [d] => { results := [.lit (.bool false)], args := [d] }
  | _ => none }
def FnExactIsBoardWrongFalsely : Prop := fnExactIsBoardRow.holds Tryd.pinned (OpenSpec.ofChange fnExactIsBoardWrong)

/-- 'laws.FnExactSizeOfBoard': WHATEVER THE INPUT: true; the input reads as it did. -/
def fnExactSizeOfBoardSpec : ChangeSpec := { name := "fnExactSizeOfBoard", fn := fun _ => fun
  | [d] => { results := [.lit (.bool true)], args := [d] }
  | _ => none }
def fnExactSizeOfBoardRow : OpenClaim := { program := "ytmlffocbcfediaadoor", sum := "57c31f0844548231eba8aa7fe728b2192519e86eebf1214c470d8fe6d0735012", func := "loop.example/g01271/laws.FnExactSizeOfBoard", spec := "fnExactSizeOfBoard", inPlace := ["internal/bytealg.CountString", "internal/bytealg.IndexByteString", "internal/bytealg.IndexString", "internal/abi.NoEscape", "internal/bytealg.MakeNoZero"], named := ["unicode/utf8.first", "unicode/utf8.acceptRanges", "internal/bytealg.MaxLen"], plainKeys := false, apart := false, laid := [("unicode/utf8.acceptRanges", laid_unicode_utf8_acceptRanges), ("unicode/utf8.first", laid_unicode_utf8_first)] }
def FnExactSizeOfBoardSaid : Prop := fnExactSizeOfBoardRow.holds Tryd.pinned (OpenSpec.ofChange fnExactSizeOfBoardSpec)

/-- ITS FALSE NEIGHBOUR: 'it returns false'. Refute it at one input. -/
def fnExactSizeOfBoardWrong : ChangeSpec := { name := "fnExactSizeOfBoard", fn := fun _ => fun
  | [d] => { results := [.lit (.bool false)], args := [d] }
  | _ => none }
def FnExactSizeOfBoardWrongFalsely : Prop := fnExactSizeOfBoardRow.holds Tryd.pinned (OpenSpec.ofChange fnExactSizeOfBoardWrong)

/-- 'laws.FnExactBoardMoves': WHATEVER THE INPUT: true; the input reads as it did. -/
def fnExactBoardMovesSpec : ChangeSpec := { name := "fnExactBoardMoves", fn := fun _ => fun
  | [d] => { results := [.lit (.bool true)], args := [d] }
  | _ => none }
def fnExactBoardMovesRow : OpenClaim := { program := "ytmlffocbcfediaadoor", sum := "57c31f0844548231eba8aa7fe728b2192519e86eebf1214c470d8fe6d0735012", func := "loop.example/g01271/laws.FnExactBoardMoves", spec := "fnExactBoardMoves", inPlace := ["internal/bytealg.CountString", "internal/bytealg.IndexByteString", "internal/bytealg.IndexString", "internal/abi.NoEscape", "internal/bytealg.MakeNoZero"], unfollowed := true, recurses := true, named := ["unicode/utf8.first", "unicode/utf8.acceptRanges", "internal/bytealg.MaxLen"], plainKeys := false, apart := false, laid := [("unicode/utf8.acceptRanges", laid_unicode_utf8_acceptRanges), ("unicode/utf8.first", laid_unicode_utf8_first)] }
def FnExactBoardMovesSaid : Prop := fnExactBoardMovesRow.holds Tryd.pinned (OpenSpec.ofChange fnExactBoardMovesSpec)

/-- ITS FALSE NEIGHBOUR: 'it returns false'. Refute it at one input. -/
def fnExactBoardMovesWrong : ChangeSpec := { name := "fnExactBoardMoves", fn := fun _ => fun
  | [d] => { results := [.lit (.bool false)], args := [d] }
  | _ => none }
def FnExactBoardMovesWrongFalsely : Prop := fnExactBoardMovesRow.holds Tryd.pinned (OpenSpec.ofChange fnExactBoardMovesWrong)

/-- 'laws.FnExactMakeOnBoard': WHATEVER THE INPUT: true; the input reads as it did. -/
def fnExactMakeOnBoardSpec : ChangeSpec := { name := "fnExactMakeOnBoard", fn := fun _ => fun
  | [d1, d2] => { results := [.lit (.bool true)], args := [d1, d2] }
  | _ => none }
def fnExactMakeOnBoardRow : OpenClaim := { program := "ytmlffocbcfediaadoor", sum := "57c31f0844548231eba8aa7fe728b2192519e86eebf1214c470d8fe6d0735012", func := "loop.example/g01271/laws.FnExactMakeOnBoard", spec := "fnExactMakeOnBoard", inPlace := ["internal/bytealg.CountString", "internal/bytealg.IndexByteString", "internal/bytealg.IndexString", "internal/abi.NoEscape", "internal/bytealg.MakeNoZero"], unfollowed := true, recurses := true, named := ["unicode/utf8.first", "unicode/utf8.acceptRanges", "internal/bytealg.MaxLen"], plainKeys := false, apart := false, laid := [("unicode/utf8.acceptRanges", laid_unicode_utf8_acceptRanges), ("unicode/utf8.first", laid_unicode_utf8_first)] }
def FnExactMakeOnBoardSaid : Prop := fnExactMakeOnBoardRow.holds Tryd.pinned (OpenSpec.ofChange fnExactMakeOnBoardSpec)

/-- ITS FALSE NEIGHBOUR: 'it returns false'. Refute it at one input. -/
def fnExactMakeOnBoardWrong : ChangeSpec := { name := "fnExactMakeOnBoard", fn := fun _ => fun
  | [d1, d2] => { results := [.lit (.bool false)], args := [d1, d2] }
  | _ => none }
def FnExactMakeOnBoardWrongFalsely : Prop := fnExactMakeOnBoardRow.holds Tryd.pinned (OpenSpec.ofChange fnExactMakeOnBoardWrong)

/-- 'laws.FnExactExchangeBoard': WHATEVER THE INPUT: true; the input reads as it did. -/
def fnExactExchangeBoardSpec : ChangeSpec := { name := "fnExactExchangeBoard", fn := fun _ => fun
  | [d1, d2] => { results := [.lit (.bool true)], args := [d1, d2] }
  | _ => none }
def fnExactExchangeBoardRow : OpenClaim := { program := "ytmlffocbcfediaadoor", sum := "57c31f0844548231eba8aa7fe728b2192519e86eebf1214c470d8fe6d0735012", func := "loop.example/g01271/laws.FnExactExchangeBoard", spec := "fnExactExchangeBoard", inPlace := ["internal/abi.NoEscape", "internal/bytealg.MakeNoZero", "internal/bytealg.IndexByteString", "internal/bytealg.CountString", "internal/bytealg.IndexString"], unfollowed := true, recurses := true, named := ["internal/bytealg.MaxLen", "unicode/utf8.first", "unicode/utf8.acceptRanges"], plainKeys := false, apart := false, laid := [("unicode/utf8.acceptRanges", laid_unicode_utf8_acceptRanges), ("unicode/utf8.first", laid_unicode_utf8_first)] }
def FnExactExchangeBoardSaid : Prop := fnExactExchangeBoardRow.holds Tryd.pinned (OpenSpec.ofChange fnExactExchangeBoardSpec)

/-- ITS FALSE NEIGHBOUR: 'it returns false'. Refute it at one input. -/
def fnExactExchangeBoardWrong : ChangeSpec := { name := "fnExactExchangeBoard", fn := fun _ => fun
  | [d1, d2] => { results := [.lit (.bool false)], args := [d1, d2] }
  | _ => none }
def FnExactExchangeBoardWrongFalsely : Prop := fnExactExchangeBoardRow.holds Tryd.pinned (OpenSpec.ofChange fnExactExchangeBoardWrong)

/-- 'laws.FnExactRowOfBoard': WHATEVER THE INPUT: true; the input reads as it did. -/
def fnExactRowOfBoardSpec : ChangeSpec := { name := "fnExactRowOfBoard", fn := fun _ => fun
  | [d1, d2] => { results := [.lit (.bool true)], args := [d1, d2] }
  | _ => none }
def fnExactRowOfBoardRow : OpenClaim := { program := "ytmlffocbcfediaadoor", sum := "57c31f0844548231eba8aa7fe728b2192519e86eebf1214c470d8fe6d0735012", func := "loop.example/g01271/laws.FnExactRowOfBoard", spec := "fnExactRowOfBoard", inPlace := ["internal/bytealg.CountString", "internal/bytealg.IndexByteString", "internal/bytealg.IndexString", "internal/abi.NoEscape", "internal/bytealg.MakeNoZero"], unfollowed := true, recurses := true, named := ["unicode/utf8.first", "unicode/utf8.acceptRanges", "internal/bytealg.MaxLen"], plainKeys := false, apart := false, laid := [("unicode/utf8.acceptRanges", laid_unicode_utf8_acceptRanges), ("unicode/utf8.first", laid_unicode_utf8_first)] }
def FnExactRowOfBoardSaid : Prop := fnExactRowOfBoardRow.holds Tryd.pinned (OpenSpec.ofChange fnExactRowOfBoardSpec)

/-- ITS FALSE NEIGHBOUR: 'it returns false'. Refute it at one input. -/
def fnExactRowOfBoardWrong : ChangeSpec := { name := "fnExactRowOfBoard", fn := fun _ => fun
  | [d1, d2] => { results := [.lit (.bool false)], args := [d1, d2] }
  | _ => none }
def FnExactRowOfBoardWrongFalsely : Prop := fnExactRowOfBoardRow.holds Tryd.pinned (OpenSpec.ofChange fnExactRowOfBoardWrong)

/-- 'laws.FnExactColumnOfBoard': WHATEVER THE INPUT: true; the input reads as it did. -/
def fnExactColumnOfBoardSpec : ChangeSpec := { name := "fnExactColumnOfBoard", fn := fun _ => fun
  | [d1, d2] => { results := [.lit (.bool true)], args := [d1, d2] }
  | _ => none }
def fnExactColumnOfBoardRow : OpenClaim := { program := "ytmlffocbcfediaadoor", sum := "57c31f0844548231eba8aa7fe728b2192519e86eebf1214c470d8fe6d0735012", func := "loop.example/g01271/laws.FnExactColumnOfBoard", spec := "fnExactColumnOfBoard", inPlace := ["internal/bytealg.CountString", "internal/bytealg.IndexByteString", "internal/bytealg.IndexString", "internal/abi.NoEscape", "internal/bytealg.MakeNoZero"], unfollowed := true, recurses := true, named := ["unicode/utf8.first", "unicode/utf8.acceptRanges", "internal/bytealg.MaxLen"], plainKeys := false, apart := false, laid := [("unicode/utf8.acceptRanges", laid_unicode_utf8_acceptRanges), ("unicode/utf8.first", laid_unicode_utf8_first)] }
def FnExactColumnOfBoardSaid : Prop := fnExactColumnOfBoardRow.holds Tryd.pinned (OpenSpec.ofChange fnExactColumnOfBoardSpec)

/-- ITS FALSE NEIGHBOUR: 'it returns false'. Refute it at one input. -/
def fnExactColumnOfBoardWrong : ChangeSpec := { name := "fnExactColumnOfBoard", fn := fun _ => fun
  | [d1, d2] => { results := [.lit (.bool false)], args := [d1, d2] }
  | _ => none }
def FnExactColumnOfBoardWrongFalsely : Prop := fnExactColumnOfBoardRow.holds Tryd.pinned (OpenSpec.ofChange fnExactColumnOfBoardWrong)

/-- 'laws.FnExactCrossBoard': WHATEVER THE INPUT: true; the input reads as it did. -/
def fnExactCrossBoardSpec : ChangeSpec := { name := "fnExactCrossBoard", fn := fun _ => fun
  | [d] => { results := [.lit (.bool true)], args := [d] }
  | _ => none }
def fnExactCrossBoardRow : OpenClaim := { program := "ytmlffocbcfediaadoor", sum := "57c31f0844548231eba8aa7fe728b2192519e86eebf1214c470d8fe6d0735012", func := "loop.example/g01271/laws.FnExactCrossBoard", spec := "fnExactCrossBoard", inPlace := ["internal/bytealg.CountString", "internal/bytealg.IndexByteString", "internal/bytealg.IndexString", "internal/abi.NoEscape", "internal/bytealg.MakeNoZero"], unfollowed := true, recurses := true, named := ["unicode/utf8.first", "unicode/utf8.acceptRanges", "internal/bytealg.MaxLen"], plainKeys := false, apart := false, laid := [("unicode/utf8.acceptRanges", laid_unicode_utf8_acceptRanges), ("unicode/utf8.first", laid_unicode_utf8_first)] }
def FnExactCrossBoardSaid : Prop := fnExactCrossBoardRow.holds Tryd.pinned (OpenSpec.ofChange fnExactCrossBoardSpec)

/-- ITS FALSE NEIGHBOUR: 'it returns false'. Refute it at one input. -/
def fnExactCrossBoardWrong : ChangeSpec := { name := "fnExactCrossBoard", fn := fun _ => fun
  | [d] => { results := [.lit (.bool false)], args := [d] }
  | _ => none }
def FnExactCrossBoardWrongFalsely : Prop := fnExactCrossBoardRow.holds Tryd.pinned (OpenSpec.ofChange fnExactCrossBoardWrong)

/-- 'laws.FnExactOtherBoard': WHATEVER THE INPUT: true; the input reads as it did. -/
def fnExactOtherBoardSpec : ChangeSpec := { name := "fnExactOtherBoard", fn := fun _ => fun
  | [d] => { results := [.lit (.bool true)], args := [d] }
  | _ => none }
def fnExactOtherBoardRow : OpenClaim := { program := "ytmlffocbcfediaadoor", sum := "57c31f0844548231eba8aa7fe728b2192519e86eebf1214c470d8fe6d0735012", func := "loop.example/g01271/laws.FnExactOtherBoard", spec := "fnExactOtherBoard", inPlace := ["internal/bytealg.CountString", "internal/bytealg.IndexByteString", "internal/bytealg.IndexString", "internal/abi.NoEscape", "internal/bytealg.MakeNoZero"], named := ["unicode/utf8.first", "unicode/utf8.acceptRanges", "internal/bytealg.MaxLen"], plainKeys := false, apart := false, laid := [("unicode/utf8.acceptRanges", laid_unicode_utf8_acceptRanges), ("unicode/utf8.first", laid_unicode_utf8_first)] }
def FnExactOtherBoardSaid : Prop := fnExactOtherBoardRow.holds Tryd.pinned (OpenSpec.ofChange fnExactOtherBoardSpec)

/-- ITS FALSE NEIGHBOUR: 'it returns false'. Refute it at one input. -/
def fnExactOtherBoardWrong : ChangeSpec := { name := "fnExactOtherBoard", fn := fun _ => fun
  | [d] => { results := [.lit (.bool false)], args := [d] }
  | _ => none }
def FnExactOtherBoardWrongFalsely : Prop := fnExactOtherBoardRow.holds Tryd.pinned (OpenSpec.ofChange fnExactOtherBoardWrong)

/-- 'laws.FnExactIsBoardBlocked': WHATEVER THE INPUT: true; the input reads as it did. -/
def fnExactIsBoardBlockedSpec : ChangeSpec := { name := "fnExactIsBoardBlocked", fn := fun _ => fun
  | [d] => { results := [.lit (.bool true)], args := [d] }
  | _ => none }
def fnExactIsBoardBlockedRow : OpenClaim := { program := "ytmlffocbcfediaadoor", sum := "57c31f0844548231eba8aa7fe728b2192519e86eebf1214c470d8fe6d0735012", func := "loop.example/g01271/laws.FnExactIsBoardBlocked", spec := "fnExactIsBoardBlocked", inPlace := ["internal/bytealg.CountString", "internal/bytealg.IndexByteString", "internal/bytealg.IndexString", "internal/abi.NoEscape", "internal/bytealg.MakeNoZero"], unfollowed := true, recurses := true, named := ["unicode/utf8.first", "unicode/utf8.acceptRanges", "internal/bytealg.MaxLen"], plainKeys := false, apart := false, laid := [("unicode/utf8.acceptRanges", laid_unicode_utf8_acceptRanges), ("unicode/utf8.first", laid_unicode_utf8_first)] }
def FnExactIsBoardBlockedSaid : Prop := fnExactIsBoardBlockedRow.holds Tryd.pinned (OpenSpec.ofChange fnExactIsBoardBlockedSpec)

/-- ITS FALSE NEIGHBOUR: 'it returns false'. Refute it at one input. -/
def fnExactIsBoardBlockedWrong : ChangeSpec := { name := "fnExactIsBoardBlocked", fn := fun _ => fun
  | [d] => { results := [.lit (.bool false)], args := [d] }
  | _ => none }
def FnExactIsBoardBlockedWrongFalsely : Prop := fnExactIsBoardBlockedRow.holds Tryd.pinned (OpenSpec.ofChange fnExactIsBoardBlockedWrong)

/-- 'laws.FnExactWayOnBoard': WHATEVER THE INPUT: true; the input reads as it did. -/
def fnExactWayOnBoardSpec : ChangeSpec := { name := "fnExactWayOnBoard", fn := fun _ => fun
  | [d] => { results := [.lit (.bool true)], args := [d] }
  | _ => none }
def fnExactWayOnBoardRow : OpenClaim := { program := "ytmlffocbcfediaadoor", sum := "57c31f0844548231eba8aa7fe728b2192519e86eebf1214c470d8fe6d0735012", func := "loop.example/g01271/laws.FnExactWayOnBoard", spec := "fnExactWayOnBoard", inPlace := ["internal/bytealg.CountString", "internal/bytealg.IndexByteString", "internal/bytealg.IndexString", "internal/abi.NoEscape", "internal/bytealg.MakeNoZero"], named := ["unicode/utf8.first", "unicode/utf8.acceptRanges", "internal/bytealg.MaxLen"], plainKeys := false, apart := false, laid := [("unicode/utf8.acceptRanges", laid_unicode_utf8_acceptRanges), ("unicode/utf8.first", laid_unicode_utf8_first)] }
def FnExactWayOnBoardSaid : Prop := fnExactWayOnBoardRow.holds Tryd.pinned (OpenSpec.ofChange fnExactWayOnBoardSpec)

/-- ITS FALSE NEIGHBOUR: 'it returns false'. Refute it at one input. -/
def fnExactWayOnBoardWrong : ChangeSpec := { name := "fnExactWayOnBoard", fn := fun _ => fun
  | [d] => { results := [.lit (.bool false)], args := [d] }
  | _ => none }
def FnExactWayOnBoardWrongFalsely : Prop := fnExactWayOnBoardRow.holds Tryd.pinned (OpenSpec.ofChange fnExactWayOnBoardWrong)

/- THE SECOND FORM. 'bulk': how many values and letters a reading holds, each counted each time it is reached (what is shared counts as often as it is met; a slice's spare places count too). A statement '..UptoSaid' is the law's where the arguments, and the package variables that the reading takes, are together of bulk at most 1048576: NARROWER than '..Said'. Prove '..Said' where nothing that the law and all that it calls make is longer than what came in: it says more and counts as full. Else prove '..UptoSaid'. A law counts once. -/
mutual
def uptoBulk {H : Type} : DataW H → Nat
  | .lit (.string bytes) => bytes.length + 1
  | .lit _ => 1
  | .nil => 1
  | .ptr d => uptoBulk d + 1
  | .slice elems spare => uptoBulkAll elems + uptoBulkAll spare + 1
  | .agg parts => uptoBulkAll parts + 1
  | .iface _ d => uptoBulk d + 1
  | .map entries => uptoBulkEntries entries + 1
  | .held _ => 1
def uptoBulkAll {H : Type} : List (DataW H) → Nat
  | [] => 0
  | d :: r => uptoBulk d + uptoBulkAll r
def uptoBulkEntries {H : Type} : List (Lit × DataW H) → Nat
  | [] => 0
  | x :: r => uptoBulkEntry x + uptoBulkEntries r
def uptoBulkEntry {H : Type} : Lit × DataW H → Nat
  | (.string bytes, d) => bytes.length + uptoBulk d + 1
  | (_, d) => uptoBulk d + 1
 end
def uptoSmall : (H : Type) → List (DataW H) → Bool := fun _ ds => decide (uptoBulkAll ds ≤ 1048576)
def OpenSpec.upto (s : _root_.Go.ChangeSpec) : _root_.Go.OpenSpec := { _root_.Go.OpenSpec.ofChange s with cond := some uptoSmall }

/-- 'laws.FnExactIsBoard', WHERE WHAT IT READS IS OF BULK AT MOST 1048576: true; the input reads as it did. -/
def fnExactIsBoardUptoRow : OpenClaim := { program := "ytmlffocbcfediaadoor", sum := "57c31f0844548231eba8aa7fe728b2192519e86eebf1214c470d8fe6d0735012", func := "loop.example/g01271/laws.FnExactIsBoard", spec := "fnExactIsBoard", inPlace := ["internal/bytealg.CountString", "internal/bytealg.IndexByteString", "internal/bytealg.IndexString", "internal/abi.NoEscape", "internal/bytealg.MakeNoZero"], named := ["unicode/utf8.first", "unicode/utf8.acceptRanges", "internal/bytealg.MaxLen"], plainKeys := false, apart := false, laid := [("unicode/utf8.acceptRanges", laid_unicode_utf8_acceptRanges), ("unicode/utf8.first", laid_unicode_utf8_first)], narrowed := true }
def FnExactIsBoardUptoSaid : Prop := fnExactIsBoardUptoRow.holds Tryd.pinned (OpenSpec.upto fnExactIsBoardSpec)

/-- 'laws.FnExactSizeOfBoard', WHERE WHAT IT READS IS OF BULK AT MOST 1048576: true; the input reads as it did. -/
def fnExactSizeOfBoardUptoRow : OpenClaim := { program := "ytmlffocbcfediaadoor", sum := "57c31f0844548231eba8aa7fe728b2192519e86eebf1214c470d8fe6d0735012", func := "loop.example/g01271/laws.FnExactSizeOfBoard", spec := "fnExactSizeOfBoard", inPlace := ["internal/bytealg.CountString", "internal/bytealg.IndexByteString", "internal/bytealg.IndexString", "internal/abi.NoEscape", "internal/bytealg.MakeNoZero"], named := ["unicode/utf8.first", "unicode/utf8.acceptRanges", "internal/bytealg.MaxLen"], plainKeys := false, apart := false, laid := [("unicode/utf8.acceptRanges", laid_unicode_utf8_acceptRanges), ("unicode/utf8.first", laid_unicode_utf8_first)], narrowed := true }
def FnExactSizeOfBoardUptoSaid : Prop := fnExactSizeOfBoardUptoRow.holds Tryd.pinned (OpenSpec.upto fnExactSizeOfBoardSpec)

/-- 'laws.FnExactBoardMoves', WHERE WHAT IT READS IS OF BULK AT MOST 1048576: true; the input reads as it did. -/
def fnExactBoardMovesUptoRow : OpenClaim := { program := "ytmlffocbcfediaadoor", sum := "57c31f0844548231eba8aa7fe728b2192519e86eebf1214c470d8fe6d0735012", func := "loop.example/g01271/laws.FnExactBoardMoves", spec := "fnExactBoardMoves", inPlace := ["internal/bytealg.CountString", "internal/bytealg.IndexByteString", "internal/bytealg.IndexString", "internal/abi.NoEscape", "internal/bytealg.MakeNoZero"], unfollowed := true, recurses := true, named := ["unicode/utf8.first", "unicode/utf8.acceptRanges", "internal/bytealg.MaxLen"], plainKeys := false, apart := false, laid := [("unicode/utf8.acceptRanges", laid_unicode_utf8_acceptRanges), ("unicode/utf8.first", laid_unicode_utf8_first)], narrowed := true }
def FnExactBoardMovesUptoSaid : Prop := fnExactBoardMovesUptoRow.holds Tryd.pinned (OpenSpec.upto fnExactBoardMovesSpec)

/-- 'laws.FnExactMakeOnBoard', WHERE WHAT IT READS IS OF BULK AT MOST 1048576: true; the input reads as it did. -/
def fnExactMakeOnBoardUptoRow : OpenClaim := { program := "ytmlffocbcfediaadoor", sum := "57c31f0844548231eba8aa7fe728b2192519e86eebf1214c470d8fe6d0735012", func := "loop.example/g01271/laws.FnExactMakeOnBoard", spec := "fnExactMakeOnBoard", inPlace := ["internal/bytealg.CountString", "internal/bytealg.IndexByteString", "internal/bytealg.IndexString", "internal/abi.NoEscape", "internal/bytealg.MakeNoZero"], unfollowed := true, recurses := true, named := ["unicode/utf8.first", "unicode/utf8.acceptRanges", "internal/bytealg.MaxLen"], plainKeys := false, apart := false, laid := [("unicode/utf8.acceptRanges", laid_unicode_utf8_acceptRanges), ("unicode/utf8.first", laid_unicode_utf8_first)], narrowed := true }
def FnExactMakeOnBoardUptoSaid : Prop := fnExactMakeOnBoardUptoRow.holds Tryd.pinned (OpenSpec.upto fnExactMakeOnBoardSpec)

/-- 'laws.FnExactExchangeBoard', WHERE WHAT IT READS IS OF BULK AT MOST 1048576: true; the input reads as it did. -/
def fnExactExchangeBoardUptoRow : OpenClaim := { program := "ytmlffocbcfediaadoor", sum := "57c31f0844548231eba8aa7fe728b2192519e86eebf1214c470d8fe6d0735012", func := "loop.example/g01271/laws.FnExactExchangeBoard", spec := "fnExactExchangeBoard", inPlace := ["internal/abi.NoEscape", "internal/bytealg.MakeNoZero", "internal/bytealg.IndexByteString", "internal/bytealg.CountString", "internal/bytealg.IndexString"], unfollowed := true, recurses := true, named := ["internal/bytealg.MaxLen", "unicode/utf8.first", "unicode/utf8.acceptRanges"], plainKeys := false, apart := false, laid := [("unicode/utf8.acceptRanges", laid_unicode_utf8_acceptRanges), ("unicode/utf8.first", laid_unicode_utf8_first)], narrowed := true }
def FnExactExchangeBoardUptoSaid : Prop := fnExactExchangeBoardUptoRow.holds Tryd.pinned (OpenSpec.upto fnExactExchangeBoardSpec)

/-- 'laws.FnExactRowOfBoard', WHERE WHAT IT READS IS OF BULK AT MOST 1048576: true; the input reads as it did. -/
def fnExactRowOfBoardUptoRow : OpenClaim := { program := "ytmlffocbcfediaadoor", sum := "57c31f0844548231eba8aa7fe728b2192519e86eebf1214c470d8fe6d0735012", func := "loop.example/g01271/laws.FnExactRowOfBoard", spec := "fnExactRowOfBoard", inPlace := ["internal/bytealg.CountString", "internal/bytealg.IndexByteString", "internal/bytealg.IndexString", "internal/abi.NoEscape", "internal/bytealg.MakeNoZero"], unfollowed := true, recurses := true, named := ["unicode/utf8.first", "unicode/utf8.acceptRanges", "internal/bytealg.MaxLen"], plainKeys := false, apart := false, laid := [("unicode/utf8.acceptRanges", laid_unicode_utf8_acceptRanges), ("unicode/utf8.first", laid_unicode_utf8_first)], narrowed := true }
def FnExactRowOfBoardUptoSaid : Prop := fnExactRowOfBoardUptoRow.holds Tryd.pinned (OpenSpec.upto fnExactRowOfBoardSpec)

/-- 'laws.FnExactColumnOfBoard', WHERE WHAT IT READS IS OF BULK AT MOST 1048576: true; the input reads as it did. -/
def fnExactColumnOfBoardUptoRow : OpenClaim := { program := "ytmlffocbcfediaadoor", sum := "57c31f0844548231eba8aa7fe728b2192519e86eebf1214c470d8fe6d0735012", func := "loop.example/g01271/laws.FnExactColumnOfBoard", spec := "fnExactColumnOfBoard", inPlace := ["internal/bytealg.CountString", "internal/bytealg.IndexByteString", "internal/bytealg.IndexString", "internal/abi.NoEscape", "internal/bytealg.MakeNoZero"], unfollowed := true, recurses := true, named := ["unicode/utf8.first", "unicode/utf8.acceptRanges", "internal/bytealg.MaxLen"], plainKeys := false, apart := false, laid := [("unicode/utf8.acceptRanges", laid_unicode_utf8_acceptRanges), ("unicode/utf8.first", laid_unicode_utf8_first)], narrowed := true }
def FnExactColumnOfBoardUptoSaid : Prop := fnExactColumnOfBoardUptoRow.holds Tryd.pinned (OpenSpec.upto fnExactColumnOfBoardSpec)

/-- 'laws.FnExactCrossBoard', WHERE WHAT IT READS IS OF BULK AT MOST 1048576: true; the input reads as it did. -/
def fnExactCrossBoardUptoRow : OpenClaim := { program := "ytmlffocbcfediaadoor", sum := "57c31f0844548231eba8aa7fe728b2192519e86eebf1214c470d8fe6d0735012", func := "loop.example/g01271/laws.FnExactCrossBoard", spec := "fnExactCrossBoard", inPlace := ["internal/bytealg.CountString", "internal/bytealg.IndexByteString", "internal/bytealg.IndexString", "internal/abi.NoEscape", "internal/bytealg.MakeNoZero"], unfollowed := true, recurses := true, named := ["unicode/utf8.first", "unicode/utf8.acceptRanges", "internal/bytealg.MaxLen"], plainKeys := false, apart := false, laid := [("unicode/utf8.acceptRanges", laid_unicode_utf8_acceptRanges), ("unicode/utf8.first", laid_unicode_utf8_first)], narrowed := true }
def FnExactCrossBoardUptoSaid : Prop := fnExactCrossBoardUptoRow.holds Tryd.pinned (OpenSpec.upto fnExactCrossBoardSpec)

/-- 'laws.FnExactOtherBoard', WHERE WHAT IT READS IS OF BULK AT MOST 1048576: true; the input reads as it did. -/
def fnExactOtherBoardUptoRow : OpenClaim := { program := "ytmlffocbcfediaadoor", sum := "57c31f0844548231eba8aa7fe728b2192519e86eebf1214c470d8fe6d0735012", func := "loop.example/g01271/laws.FnExactOtherBoard", spec := "fnExactOtherBoard", inPlace := ["internal/bytealg.CountString", "internal/bytealg.IndexByteString", "internal/bytealg.IndexString", "internal/abi.NoEscape", "internal/bytealg.MakeNoZero"], named := ["unicode/utf8.first", "unicode/utf8.acceptRanges", "internal/bytealg.MaxLen"], plainKeys := false, apart := false, laid := [("unicode/utf8.acceptRanges", laid_unicode_utf8_acceptRanges), ("unicode/utf8.first", laid_unicode_utf8_first)], narrowed := true }
def FnExactOtherBoardUptoSaid : Prop := fnExactOtherBoardUptoRow.holds Tryd.pinned (OpenSpec.upto fnExactOtherBoardSpec)

/-- 'laws.FnExactIsBoardBlocked', WHERE WHAT IT READS IS OF BULK AT MOST 1048576: true; the input reads as it did. -/
def fnExactIsBoardBlockedUptoRow : OpenClaim := { program := "ytmlffocbcfediaadoor", sum := "57c31f0844548231eba8aa7fe728b2192519e86eebf1214c470d8fe6d0735012", func := "loop.example/g01271/laws.FnExactIsBoardBlocked", spec := "fnExactIsBoardBlocked", inPlace := ["internal/bytealg.CountString", "internal/bytealg.IndexByteString", "internal/bytealg.IndexString", "internal/abi.NoEscape", "internal/bytealg.MakeNoZero"], unfollowed := true, recurses := true, named := ["unicode/utf8.first", "unicode/utf8.acceptRanges", "internal/bytealg.MaxLen"], plainKeys := false, apart := false, laid := [("unicode/utf8.acceptRanges", laid_unicode_utf8_acceptRanges), ("unicode/utf8.first", laid_unicode_utf8_first)], narrowed := true }
def FnExactIsBoardBlockedUptoSaid : Prop := fnExactIsBoardBlockedUptoRow.holds Tryd.pinned (OpenSpec.upto fnExactIsBoardBlockedSpec)

/-- 'laws.FnExactWayOnBoard', WHERE WHAT IT READS IS OF BULK AT MOST 1048576: true; the input reads as it did. -/
def fnExactWayOnBoardUptoRow : OpenClaim := { program := "ytmlffocbcfediaadoor", sum := "57c31f0844548231eba8aa7fe728b2192519e86eebf1214c470d8fe6d0735012", func := "loop.example/g01271/laws.FnExactWayOnBoard", spec := "fnExactWayOnBoard", inPlace := ["internal/bytealg.CountString", "internal/bytealg.IndexByteString", "internal/bytealg.IndexString", "internal/abi.NoEscape", "internal/bytealg.MakeNoZero"], named := ["unicode/utf8.first", "unicode/utf8.acceptRanges", "internal/bytealg.MaxLen"], plainKeys := false, apart := false, laid := [("unicode/utf8.acceptRanges", laid_unicode_utf8_acceptRanges), ("unicode/utf8.first", laid_unicode_utf8_first)], narrowed := true }
def FnExactWayOnBoardUptoSaid : Prop := fnExactWayOnBoardUptoRow.holds Tryd.pinned (OpenSpec.upto fnExactWayOnBoardSpec)

end Rows
end Go.Proofs.YtmlffocbcfediaaDoor
