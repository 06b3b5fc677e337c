/-
  NARROWER THAN 'FOR EVERY INPUT', by the rows' own cells (each row's printed sentence says how): FnExactFirstExchange: laid · FnExactLastExchange: laid · FnExactCountExchanges: laid · FnExactAllExchanges: laid · FnExactLineInExchange: laid · FnExactIsLive: laid · FnExactCountLive: laid · FnExactLiveMoves: laid · FnExactForcedIn: laid · FnExactExchangeBoard: laid · FnExactPlayOnRing: laid.
  DERIVED. THE GIVEN ROWS OF THIS SEAT. 11 by the template 'for every input the law returns true; each argument reads behind the call as it read before'; 0 by the template 'total and deterministic' (their statements: YtjadnfnpbacfdaaDoorTotals.lean).
  GIVEN WITH THE SEED: the statements are not yours to turn. If you find one false, say at which input.
  Laid BY PROGRAM, IN A SANDBOX (cutbox-rows.mjs): the forced cells as the released guide's own fill.sh prints them over the translation 689ebc8b40a17ad6… (all of the seat's roots in one cut). By AI agents, Wed Nov 11 2026. No macro, syntax, notation, axiom, sorry.
-/
import Derived.Test.YtjadnfnpbacfdaaDoorChecked
import GoSem.PinnedTables
import GoSem.Claim
import GoSem.ClaimJoined
import GoSem.ClaimMapViews
import Derived.JoinedTies
import Derived.KernelRfl
namespace Go.Proofs.YtjadnfnpbacfdaaDoor
/- THE CELL 'sum', in the pinned program and in every row, IS THE sha256 OF THE DUMP (.gsa) THAT YtjadnfnpbacfdaaDoorProg.lean LOADS. Nothing in Lean hashes anything: it is a label: what it is worth is what the hold of that sum in a sandbox is worth. -/
noncomputable def Tryd.pinned : Pinned := { name := "ytjadnfnpbacfdaadoor", sum := "689ebc8b40a17ad66d5a318323cfd0d170e5a532c9a7746ba974689db350ebf0", checked := Tryd.checked }
namespace Rows
def none {H : Type} : Left H := { results := [], args := [] }

/- WHAT THE LISTED PACKAGE-LEVEL VARIABLES READ AS WHEN THE CALL BEGINS. Each datum BY PROGRAM (the guide's laid-datum.mjs) off the statement by which the dump's own 'gosem.cut.vars' lays the variable. In a bare row this is a premise. The card (YtjadnfnpbacfdaaDoorCards.lean) ties it to the program's text. -/
def laid_unicode_utf8_acceptRanges {H : Type} : DataW H := .agg [.agg [.lit (.int .u8 128), .lit (.int .u8 191)], .agg [.lit (.int .u8 160), .lit (.int .u8 191)], .agg [.lit (.int .u8 128), .lit (.int .u8 159)], .agg [.lit (.int .u8 144), .lit (.int .u8 191)], .agg [.lit (.int .u8 128), .lit (.int .u8 143)], .agg [.lit (.int .u8 0), .lit (.int .u8 0)], .agg [.lit (.int .u8 0), .lit (.int .u8 0)], .agg [.lit (.int .u8 0), .lit (.int .u8 0)], .agg [.lit (.int .u8 0), .lit (.int .u8 0)], .agg [.lit (.int .u8 0), .lit (.int .u8 0)], .agg [.lit (.int .u8 0), .lit (.int .u8 0)], .agg [.lit (.int .u8 0), .lit (.int .u8 0)], .agg [.lit (.int .u8 0), .lit (.int .u8 0)], .agg [.lit (.int .u8 0), .lit (.int .u8 0)], .agg [.lit (.int .u8 0), .lit (.int .u8 0)], .agg [.lit (.int .u8 0), .lit (.int .u8 0)]]
/-- One of Go's own tables, pinned by name: the form's constant. -/
def laid_unicode_utf8_first : DataW Unit := Go.Pinned.utf8First

/-- 'laws.FnExactFirstExchange': WHATEVER THE INPUT: true; the input reads as it did. -/
def fnExactFirstExchangeSpec : ChangeSpec := { name := "fnExactFirstExchange", fn := fun _ => fun
  | [d1, d2, d3] => { results := [.lit (.bool true)], args := [d1, d2, d3] }
  | _ => none }
def fnExactFirstExchangeRow : OpenClaim := { program := "ytjadnfnpbacfdaadoor", sum := "689ebc8b40a17ad66d5a318323cfd0d170e5a532c9a7746ba974689db350ebf0", func := "loop.example/g01271/laws.FnExactFirstExchange", spec := "fnExactFirstExchange", inPlace := ["internal/abi.NoEscape", "internal/bytealg.MakeNoZero", "internal/bytealg.IndexByteString", "internal/bytealg.CountString", "internal/bytealg.IndexString"], unfollowed := true, recurses := true, named := ["internal/bytealg.MaxLen", "unicode/utf8.first", "unicode/utf8.acceptRanges"], plainKeys := false, apart := false, laid := [("unicode/utf8.acceptRanges", laid_unicode_utf8_acceptRanges), ("unicode/utf8.first", laid_unicode_utf8_first)] }
def FnExactFirstExchangeSaid : Prop := fnExactFirstExchangeRow.holds Tryd.pinned (OpenSpec.ofChange fnExactFirstExchangeSpec)

/-- ITS FALSE NEIGHBOUR: 'it returns false'. Refute it at one input. -/
def fnExactFirstExchangeWrong : ChangeSpec := { name := "fnExactFirstExchange", fn := fun _ => fun
  | [d1, d2, d3] => { results := [.lit (.bool false)], args := [d1, d2, d3] }
  | _ => none }
def FnExactFirstExchangeWrongFalsely : Prop := fnExactFirstExchangeRow.holds Tryd.pinned (OpenSpec.ofChange fnExactFirstExchangeWrong)

/-- 'laws.FnExactLastExchange': WHATEVER THE INPUT: true; the input reads as it did. -/
def fnExactLastExchangeSpec : ChangeSpec := { name := "fnExactLastExchange", fn := fun _ => fun
  | [d1, d2, d3] => { results := [.lit (.bool true)], args := [d1, d2, d3] }
  | _ => none }
def fnExactLastExchangeRow : OpenClaim := { program := "ytjadnfnpbacfdaadoor", sum := "689ebc8b40a17ad66d5a318323cfd0d170e5a532c9a7746ba974689db350ebf0", func := "loop.example/g01271/laws.FnExactLastExchange", spec := "fnExactLastExchange", inPlace := ["internal/abi.NoEscape", "internal/bytealg.MakeNoZero", "internal/bytealg.IndexByteString", "internal/bytealg.CountString", "internal/bytealg.IndexString"], unfollowed := true, recurses := true, named := ["internal/bytealg.MaxLen", "unicode/utf8.first", "unicode/utf8.acceptRanges"], plainKeys := false, apart := false, laid := [("unicode/utf8.acceptRanges", laid_unicode_utf8_acceptRanges), ("unicode/utf8.first", laid_unicode_utf8_first)] }
def FnExactLastExchangeSaid : Prop := fnExactLastExchangeRow.holds Tryd.pinned (OpenSpec.ofChange fnExactLastExchangeSpec)

/-- ITS FALSE NEIGHBOUR: 'it returns false'. Refute it at one input. -/
def fnExactLastExchangeWrong : ChangeSpec := { name := "fnExactLastExchange", fn := fun _ => fun
  | [d1, d2, d3] => { results := [.lit (.bool false)], args := [d1, d2, d3] }
  | _ => none }
def FnExactLastExchangeWrongFalsely : Prop := fnExactLastExchangeRow.holds Tryd.pinned (OpenSpec.ofChange fnExactLastExchangeWrong)

/-- 'laws.FnExactCountExchanges': WHATEVER THE INPUT: true; the input reads as it did. -/
def fnExactCountExchangesSpec : ChangeSpec := { name := "fnExactCountExchanges", fn := fun _ => fun
  | [d1, d2, d3] => { results := [.lit (.bool true)], args := [d1, d2, d3] }
  | _ => none }
def fnExactCountExchangesRow : OpenClaim := { program := "ytjadnfnpbacfdaadoor", sum := "689ebc8b40a17ad66d5a318323cfd0d170e5a532c9a7746ba974689db350ebf0", func := "loop.example/g01271/laws.FnExactCountExchanges", spec := "fnExactCountExchanges", inPlace := ["internal/abi.NoEscape", "internal/bytealg.MakeNoZero", "internal/bytealg.IndexByteString", "internal/bytealg.CountString", "internal/bytealg.IndexString"], unfollowed := true, recurses := true, named := ["internal/bytealg.MaxLen", "unicode/utf8.first", "unicode/utf8.acceptRanges"], plainKeys := false, apart := false, laid := [("unicode/utf8.acceptRanges", laid_unicode_utf8_acceptRanges), ("unicode/utf8.first", laid_unicode_utf8_first)] }
def FnExactCountExchangesSaid : Prop := fnExactCountExchangesRow.holds Tryd.pinned (OpenSpec.ofChange fnExactCountExchangesSpec)

/-- ITS FALSE NEIGHBOUR: 'it returns false'. Refute it at one input. -/
def fnExactCountExchangesWrong : ChangeSpec := { name := "fnExactCountExchanges", fn := fun _ => fun
  | [d1, d2, d3] => { results := [.lit (.bool false)], args := [d1, d2, d3] }
  | _ => none }
def FnExactCountExchangesWrongFalsely : Prop := fnExactCountExchangesRow.holds Tryd.pinned (OpenSpec.ofChange fnExactCountExchangesWrong)

/-- 'laws.FnExactAllExchanges': WHATEVER THE INPUT: true; the input reads as it did. -/
def fnExactAllExchangesSpec : ChangeSpec := { name := "fnExactAllExchanges", fn := fun _ => fun
  | [d1, d2, d3] => { results := [.lit (.bool true)], args := [d1, d2, d3] }
  | _ => none }
def fnExactAllExchangesRow : OpenClaim := { program := "ytjadnfnpbacfdaadoor", sum := "689ebc8b40a17ad66d5a318323cfd0d170e5a532c9a7746ba974689db350ebf0", func := "loop.example/g01271/laws.FnExactAllExchanges", spec := "fnExactAllExchanges", inPlace := ["internal/abi.NoEscape", "internal/bytealg.MakeNoZero", "internal/bytealg.IndexByteString", "internal/bytealg.CountString", "internal/bytealg.IndexString"], unfollowed := true, recurses := true, named := ["internal/bytealg.MaxLen", "unicode/utf8.first", "unicode/utf8.acceptRanges"], plainKeys := false, apart := false, laid := [("unicode/utf8.acceptRanges", laid_unicode_utf8_acceptRanges), ("unicode/utf8.first", laid_unicode_utf8_first)] }
def FnExactAllExchangesSaid : Prop := fnExactAllExchangesRow.holds Tryd.pinned (OpenSpec.ofChange fnExactAllExchangesSpec)

/-- ITS FALSE NEIGHBOUR: 'it returns false'. Refute it at one input. -/
def fnExactAllExchangesWrong : ChangeSpec := { name := "fnExactAllExchanges", fn := fun _ => fun
  | [d1, d2, d3] => { results := [.lit (.bool false)], args := [d1, d2, d3] }
  | _ => none }
def FnExactAllExchangesWrongFalsely : Prop := fnExactAllExchangesRow.holds Tryd.pinned (OpenSpec.ofChange fnExactAllExchangesWrong)

/-- 'laws.FnExactLineInExchange': WHATEVER THE INPUT: true; the input reads as it did. -/
def fnExactLineInExchangeSpec : ChangeSpec := { name := "fnExactLineInExchange", fn := fun _ => fun
  | [d1, d2, d3, d4] => { results := [.lit (.bool true)], args := [d1, d2, d3, d4] }
  | _ => none }
def fnExactLineInExchangeRow : OpenClaim := { program := "ytjadnfnpbacfdaadoor", sum := "689ebc8b40a17ad66d5a318323cfd0d170e5a532c9a7746ba974689db350ebf0", func := "loop.example/g01271/laws.FnExactLineInExchange", spec := "fnExactLineInExchange", inPlace := ["internal/abi.NoEscape", "internal/bytealg.MakeNoZero", "internal/bytealg.IndexByteString", "internal/bytealg.CountString", "internal/bytealg.IndexString"], unfollowed := true, recurses := true, named := ["internal/bytealg.MaxLen", "unicode/utf8.first", "unicode/utf8.acceptRanges"], plainKeys := false, apart := false, laid := [("unicode/utf8.acceptRanges", laid_unicode_utf8_acceptRanges), ("unicode/utf8.first", laid_unicode_utf8_first)] }
def FnExactLineInExchangeSaid : Prop := fnExactLineInExchangeRow.holds Tryd.pinned (OpenSpec.ofChange fnExactLineInExchangeSpec)

/-- ITS FALSE NEIGHBOUR: 'it returns false'. Refute it at one input. -/
def fnExactLineInExchangeWrong : ChangeSpec := { name := "fnExactLineInExchange", fn := fun _ => fun
  | [d1, d2, d3, d4] => { results := [.lit (.bool false)], args := [d1, d2, d3, d4] }
  | _ => none }
def FnExactLineInExchangeWrongFalsely : Prop := fnExactLineInExchangeRow.holds Tryd.pinned (OpenSpec.ofChange fnExactLineInExchangeWrong)

/-- 'laws.FnExactIsLive': WHATEVER THE INPUT: true; the input reads as it did. -/
def fnExactIsLiveSpec : ChangeSpec := { name := "fnExactIsLive", fn := fun _ => fun
  | [d] => { results := [.lit (.bool true)], args := [d] }
  | _ => none }
def fnExactIsLiveRow : OpenClaim := { program := "ytjadnfnpbacfdaadoor", sum := "689ebc8b40a17ad66d5a318323cfd0d170e5a532c9a7746ba974689db350ebf0", func := "loop.example/g01271/laws.FnExactIsLive", spec := "fnExactIsLive", inPlace := ["internal/bytealg.IndexByteString", "internal/bytealg.CountString", "internal/bytealg.IndexString", "internal/abi.NoEscape", "internal/bytealg.MakeNoZero"], unfollowed := true, recurses := true, named := ["internal/bytealg.MaxLen", "unicode/utf8.first", "unicode/utf8.acceptRanges"], plainKeys := false, apart := false, laid := [("unicode/utf8.acceptRanges", laid_unicode_utf8_acceptRanges), ("unicode/utf8.first", laid_unicode_utf8_first)] }
def FnExactIsLiveSaid : Prop := fnExactIsLiveRow.holds Tryd.pinned (OpenSpec.ofChange fnExactIsLiveSpec)

/-- ITS FALSE NEIGHBOUR: 'it returns false'. Refute it at one input. -/
def fnExactIsLiveWrong : ChangeSpec := { name := "fnExactIsLive", fn := fun _ => fun
  | [d] => { results := [.lit (.bool false)], args := [d] }
  | _ => none }
def FnExactIsLiveWrongFalsely : Prop := fnExactIsLiveRow.holds Tryd.pinned (OpenSpec.ofChange fnExactIsLiveWrong)

/-- 'laws.FnExactCountLive': WHATEVER THE INPUT: true; the input reads as it did. -/
def fnExactCountLiveSpec : ChangeSpec := { name := "fnExactCountLive", fn := fun _ => fun
  | [d1, d2, d3] => { results := [.lit (.bool true)], args := [d1, d2, d3] }
  | _ => none }
def fnExactCountLiveRow : OpenClaim := { program := "ytjadnfnpbacfdaadoor", sum := "689ebc8b40a17ad66d5a318323cfd0d170e5a532c9a7746ba974689db350ebf0", func := "loop.example/g01271/laws.FnExactCountLive", spec := "fnExactCountLive", inPlace := ["internal/abi.NoEscape", "internal/bytealg.MakeNoZero", "internal/bytealg.IndexByteString", "internal/bytealg.CountString", "internal/bytealg.IndexString"], unfollowed := true, recurses := true, named := ["internal/bytealg.MaxLen", "unicode/utf8.first", "unicode/utf8.acceptRanges"], plainKeys := false, apart := false, laid := [("unicode/utf8.acceptRanges", laid_unicode_utf8_acceptRanges), ("unicode/utf8.first", laid_unicode_utf8_first)] }
def FnExactCountLiveSaid : Prop := fnExactCountLiveRow.holds Tryd.pinned (OpenSpec.ofChange fnExactCountLiveSpec)

/-- ITS FALSE NEIGHBOUR: 'it returns false'. Refute it at one input. -/
def fnExactCountLiveWrong : ChangeSpec := { name := "fnExactCountLive", fn := fun _ => fun
  | [d1, d2, d3] => { results := [.lit (.bool false)], args := [d1, d2, d3] }
  | _ => none }
def FnExactCountLiveWrongFalsely : Prop := fnExactCountLiveRow.holds Tryd.pinned (OpenSpec.ofChange fnExactCountLiveWrong)

/-- 'laws.FnExactLiveMoves': WHATEVER THE INPUT: true; the input reads as it did. -/
def fnExactLiveMovesSpec : ChangeSpec := { name := "fnExactLiveMoves", fn := fun _ => fun
  | [d] => { results := [.lit (.bool true)], args := [d] }
  | _ => none }
def fnExactLiveMovesRow : OpenClaim := { program := "ytjadnfnpbacfdaadoor", sum := "689ebc8b40a17ad66d5a318323cfd0d170e5a532c9a7746ba974689db350ebf0", func := "loop.example/g01271/laws.FnExactLiveMoves", spec := "fnExactLiveMoves", inPlace := ["internal/bytealg.IndexByteString", "internal/bytealg.CountString", "internal/bytealg.IndexString", "internal/abi.NoEscape", "internal/bytealg.MakeNoZero"], unfollowed := true, recurses := true, named := ["internal/bytealg.MaxLen", "unicode/utf8.first", "unicode/utf8.acceptRanges"], plainKeys := false, apart := false, laid := [("unicode/utf8.acceptRanges", laid_unicode_utf8_acceptRanges), ("unicode/utf8.first", laid_unicode_utf8_first)] }
def FnExactLiveMovesSaid : Prop := fnExactLiveMovesRow.holds Tryd.pinned (OpenSpec.ofChange fnExactLiveMovesSpec)

/-- ITS FALSE NEIGHBOUR: 'it returns false'. Refute it at one input. -/
def fnExactLiveMovesWrong : ChangeSpec := { name := "fnExactLiveMoves", fn := fun _ => fun
  | [d] => { results := [.lit (.bool false)], args := [d] }
  | _ => none }
def FnExactLiveMovesWrongFalsely : Prop := fnExactLiveMovesRow.holds Tryd.pinned (OpenSpec.ofChange fnExactLiveMovesWrong)

/-- 'laws.FnExactForcedIn': WHATEVER THE INPUT: true; the input reads as it did. -/
def fnExactForcedInSpec : ChangeSpec := { name := "fnExactForcedIn", fn := fun _ => fun
  | [d1, d2, d3, d4] => { results := [.lit (.bool true)], args := [d1, d2, d3, d4] }
  | _ => none }
def fnExactForcedInRow : OpenClaim := { program := "ytjadnfnpbacfdaadoor", sum := "689ebc8b40a17ad66d5a318323cfd0d170e5a532c9a7746ba974689db350ebf0", func := "loop.example/g01271/laws.FnExactForcedIn", spec := "fnExactForcedIn", inPlace := ["internal/abi.NoEscape", "internal/bytealg.MakeNoZero", "internal/bytealg.IndexByteString", "internal/bytealg.CountString", "internal/bytealg.IndexString"], unfollowed := true, recurses := true, named := ["internal/bytealg.MaxLen", "unicode/utf8.first", "unicode/utf8.acceptRanges"], plainKeys := false, apart := false, laid := [("unicode/utf8.acceptRanges", laid_unicode_utf8_acceptRanges), ("unicode/utf8.first", laid_unicode_utf8_first)] }
def FnExactForcedInSaid : Prop := fnExactForcedInRow.holds Tryd.pinned (OpenSpec.ofChange fnExactForcedInSpec)

/-- ITS FALSE NEIGHBOUR: 'it returns false'. Refute it at one input. -/
def fnExactForcedInWrong : ChangeSpec := { name := "fnExactForcedIn", fn := fun _ => fun
  | [d1, d2, d3, d4] => { results := [.lit (.bool false)], args := [d1, d2, d3, d4] }
  | _ => none }
def FnExactForcedInWrongFalsely : Prop := fnExactForcedInRow.holds Tryd.pinned (OpenSpec.ofChange fnExactForcedInWrong)

/-- 'laws.FnExactExchangeBoard': WHATEVER THE INPUT: true; the input reads as it did. -/
def fnExactExchangeBoardSpec : ChangeSpec := { name := "fnExactExchangeBoard", fn := fun _ => fun
  | [d1, d2] => { results := [.lit (.bool true)], args := [d1, d2] }
  | _ => none }
def fnExactExchangeBoardRow : OpenClaim := { program := "ytjadnfnpbacfdaadoor", sum := "689ebc8b40a17ad66d5a318323cfd0d170e5a532c9a7746ba974689db350ebf0", func := "loop.example/g01271/laws.FnExactExchangeBoard", spec := "fnExactExchangeBoard", inPlace := ["internal/abi.NoEscape", "internal/bytealg.MakeNoZero", "internal/bytealg.IndexByteString", "internal/bytealg.CountString", "internal/bytealg.IndexString"], unfollowed := true, recurses := true, named := ["internal/bytealg.MaxLen", "unicode/utf8.first", "unicode/utf8.acceptRanges"], plainKeys := false, apart := false, laid := [("unicode/utf8.acceptRanges", laid_unicode_utf8_acceptRanges), ("unicode/utf8.first", laid_unicode_utf8_first)] }
def FnExactExchangeBoardSaid : Prop := fnExactExchangeBoardRow.holds Tryd.pinned (OpenSpec.ofChange fnExactExchangeBoardSpec)

/-- ITS FALSE NEIGHBOUR: 'it returns false'. Refute it at one input. -/
def fnExactExchangeBoardWrong : ChangeSpec := { name := "fnExactExchangeBoard", fn := fun _ => fun
  | [d1, d2] => { results := [.lit (.bool false)], args := [d1, d2] }
  | _ => none }
def FnExactExchangeBoardWrongFalsely : Prop := fnExactExchangeBoardRow.holds Tryd.pinned (OpenSpec.ofChange fnExactExchangeBoardWrong)

/-- 'laws.FnExactPlayOnRing': WHATEVER THE INPUT: true; the input reads as it did. -/
def fnExactPlayOnRingSpec : ChangeSpec := { name := "fnExactPlayOnRing", fn := fun _ => fun
  | [d1, d2] => { results := [.lit (.bool true)], args := [d1, d2] }
  | _ => none }
def fnExactPlayOnRingRow : OpenClaim := { program := "ytjadnfnpbacfdaadoor", sum := "689ebc8b40a17ad66d5a318323cfd0d170e5a532c9a7746ba974689db350ebf0", func := "loop.example/g01271/laws.FnExactPlayOnRing", spec := "fnExactPlayOnRing", inPlace := ["internal/bytealg.IndexByteString", "internal/bytealg.IndexString", "internal/abi.NoEscape", "internal/bytealg.MakeNoZero"], unfollowed := true, recurses := true, named := ["unicode/utf8.first", "unicode/utf8.acceptRanges", "internal/bytealg.MaxLen"], plainKeys := false, apart := false, laid := [("unicode/utf8.acceptRanges", laid_unicode_utf8_acceptRanges), ("unicode/utf8.first", laid_unicode_utf8_first)] }
def FnExactPlayOnRingSaid : Prop := fnExactPlayOnRingRow.holds Tryd.pinned (OpenSpec.ofChange fnExactPlayOnRingSpec)

/-- ITS FALSE NEIGHBOUR: 'it returns false'. Refute it at one input. -/
def fnExactPlayOnRingWrong : ChangeSpec := { name := "fnExactPlayOnRing", fn := fun _ => fun
  | [d1, d2] => { results := [.lit (.bool false)], args := [d1, d2] }
  | _ => none }
def FnExactPlayOnRingWrongFalsely : Prop := fnExactPlayOnRingRow.holds Tryd.pinned (OpenSpec.ofChange fnExactPlayOnRingWrong)

/- THE SECOND FORM. 'bulk': how many values and letters a reading holds, each counted each time it is reached (what is shared counts as often as it is met; a slice's spare places count too). A statement '..UptoSaid' is the law's where the arguments, and the package variables that the reading takes, are together of bulk at most 1048576: NARROWER than '..Said'. Prove '..Said' where nothing that the law and all that it calls make is longer than what came in: it says more and counts as full. Else prove '..UptoSaid'. A law counts once. -/
mutual
def uptoBulk {H : Type} : DataW H → Nat
  | .lit (.string bytes) => bytes.length + 1
  | .lit _ => 1
  | .nil => 1
  | .ptr d => uptoBulk d + 1
  | .slice elems spare => uptoBulkAll elems + uptoBulkAll spare + 1
  | .agg parts => uptoBulkAll parts + 1
  | .iface _ d => uptoBulk d + 1
  | .map entries => uptoBulkEntries entries + 1
  | .held _ => 1
def uptoBulkAll {H : Type} : List (DataW H) → Nat
  | [] => 0
  | d :: r => uptoBulk d + uptoBulkAll r
def uptoBulkEntries {H : Type} : List (Lit × DataW H) → Nat
  | [] => 0
  | x :: r => uptoBulkEntry x + uptoBulkEntries r
def uptoBulkEntry {H : Type} : Lit × DataW H → Nat
  | (.string bytes, d) => bytes.length + uptoBulk d + 1
  | (_, d) => uptoBulk d + 1
 end
def uptoSmall : (H : Type) → List (DataW H) → Bool := fun _ ds => decide (uptoBulkAll ds ≤ 1048576)
def OpenSpec.upto (s : _root_.Go.ChangeSpec) : _root_.Go.OpenSpec := { _root_.Go.OpenSpec.ofChange s with cond := some uptoSmall }

/-- 'laws.FnExactFirstExchange', WHERE WHAT IT READS IS OF BULK AT MOST 1048576: true; the input reads as it did. -/
def fnExactFirstExchangeUptoRow : OpenClaim := { program := "ytjadnfnpbacfdaadoor", sum := "689ebc8b40a17ad66d5a318323cfd0d170e5a532c9a7746ba974689db350ebf0", func := "loop.example/g01271/laws.FnExactFirstExchange", spec := "fnExactFirstExchange", inPlace := ["internal/abi.NoEscape", "internal/bytealg.MakeNoZero", "internal/bytealg.IndexByteString", "internal/bytealg.CountString", "internal/bytealg.IndexString"], unfollowed := true, recurses := true, named := ["internal/bytealg.MaxLen", "unicode/utf8.first", "unicode/utf8.acceptRanges"], plainKeys := false, apart := false, laid := [("unicode/utf8.acceptRanges", laid_unicode_utf8_acceptRanges), ("unicode/utf8.first", laid_unicode_utf8_first)], narrowed := true }
def FnExactFirstExchangeUptoSaid : Prop := fnExactFirstExchangeUptoRow.holds Tryd.pinned (OpenSpec.upto fnExactFirstExchangeSpec)

/-- 'laws.FnExactLastExchange', WHERE WHAT IT READS IS OF BULK AT MOST 1048576: true; the input reads as it did. -/
def fnExactLastExchangeUptoRow : OpenClaim := { program := "ytjadnfnpbacfdaadoor", sum := "689ebc8b40a17ad66d5a318323cfd0d170e5a532c9a7746ba974689db350ebf0", func := "loop.example/g01271/laws.FnExactLastExchange", spec := "fnExactLastExchange", inPlace := ["internal/abi.NoEscape", "internal/bytealg.MakeNoZero", "internal/bytealg.IndexByteString", "internal/bytealg.CountString", "internal/bytealg.IndexString"], unfollowed := true, recurses := true, named := ["internal/bytealg.MaxLen", "unicode/utf8.first", "unicode/utf8.acceptRanges"], plainKeys := false, apart := false, laid := [("unicode/utf8.acceptRanges", laid_unicode_utf8_acceptRanges), ("unicode/utf8.first", laid_unicode_utf8_first)], narrowed := true }
def FnExactLastExchangeUptoSaid : Prop := fnExactLastExchangeUptoRow.holds Tryd.pinned (OpenSpec.upto fnExactLastExchangeSpec)

/-- 'laws.FnExactCountExchanges', WHERE WHAT IT READS IS OF BULK AT MOST 1048576: true; the input reads as it did. -/
def fnExactCountExchangesUptoRow : OpenClaim := { program := "ytjadnfnpbacfdaadoor", sum := "689ebc8b40a17ad66d5a318323cfd0d170e5a532c9a7746ba974689db350ebf0", func := "loop.example/g01271/laws.FnExactCountExchanges", spec := "fnExactCountExchanges", inPlace := ["internal/abi.NoEscape", "internal/bytealg.MakeNoZero", "internal/bytealg.IndexByteString", "internal/bytealg.CountString", "internal/bytealg.IndexString"], unfollowed := true, recurses := true, named := ["internal/bytealg.MaxLen", "unicode/utf8.first", "unicode/utf8.acceptRanges"], plainKeys := false, apart := false, laid := [("unicode/utf8.acceptRanges", laid_unicode_utf8_acceptRanges), ("unicode/utf8.first", laid_unicode_utf8_first)], narrowed := true }
def FnExactCountExchangesUptoSaid : Prop := fnExactCountExchangesUptoRow.holds Tryd.pinned (OpenSpec.upto fnExactCountExchangesSpec)

/-- 'laws.FnExactAllExchanges', WHERE WHAT IT READS IS OF BULK AT MOST 1048576: true; the input reads as it did. -/
def fnExactAllExchangesUptoRow : OpenClaim := { program := "ytjadnfnpbacfdaadoor", sum := "689ebc8b40a17ad66d5a318323cfd0d170e5a532c9a7746ba974689db350ebf0", func := "loop.example/g01271/laws.FnExactAllExchanges", spec := "fnExactAllExchanges", inPlace := ["internal/abi.NoEscape", "internal/bytealg.MakeNoZero", "internal/bytealg.IndexByteString", "internal/bytealg.CountString", "internal/bytealg.IndexString"], unfollowed := true, recurses := true, named := ["internal/bytealg.MaxLen", "unicode/utf8.first", "unicode/utf8.acceptRanges"], plainKeys := false, apart := false, laid := [("unicode/utf8.acceptRanges", laid_unicode_utf8_acceptRanges), ("unicode/utf8.first", laid_unicode_utf8_first)], narrowed := true }
def FnExactAllExchangesUptoSaid : Prop := fnExactAllExchangesUptoRow.holds Tryd.pinned (OpenSpec.upto fnExactAllExchangesSpec)

/-- 'laws.FnExactLineInExchange', WHERE WHAT IT READS IS OF BULK AT MOST 1048576: true; the input reads as it did. -/
def fnExactLineInExchangeUptoRow : OpenClaim := { program := "ytjadnfnpbacfdaadoor", sum := "689ebc8b40a17ad66d5a318323cfd0d170e5a532c9a7746ba974689db350ebf0", func := "loop.example/g01271/laws.FnExactLineInExchange", spec := "fnExactLineInExchange", inPlace := ["internal/abi.NoEscape", "internal/bytealg.MakeNoZero", "internal/bytealg.IndexByteString", "internal/bytealg.CountString", "internal/bytealg.IndexString"], unfollowed := true, recurses := true, named := ["internal/bytealg.MaxLen", "unicode/utf8.first", "unicode/utf8.acceptRanges"], plainKeys := false, apart := false, laid := [("unicode/utf8.acceptRanges", laid_unicode_utf8_acceptRanges), ("unicode/utf8.first", laid_unicode_utf8_first)], narrowed := true }
def FnExactLineInExchangeUptoSaid : Prop := fnExactLineInExchangeUptoRow.holds Tryd.pinned (OpenSpec.upto fnExactLineInExchangeSpec)

/-- 'laws.FnExactIsLive', WHERE WHAT IT READS IS OF BULK AT MOST 1048576: true; the input reads as it did. -/
def fnExactIsLiveUptoRow : OpenClaim := { program := "ytjadnfnpbacfdaadoor", sum := "689ebc8b40a17ad66d5a318323cfd0d170e5a532c9a7746ba974689db350ebf0", func := "loop.example/g01271/laws.FnExactIsLive", spec := "fnExactIsLive", inPlace := ["internal/bytealg.IndexByteString", "internal/bytealg.CountString", "internal/bytealg.IndexString", "internal/abi.NoEscape", "internal/bytealg.MakeNoZero"], unfollowed := true, recurses := true, named := ["internal/bytealg.MaxLen", "unicode/utf8.first", "unicode/utf8.acceptRanges"], plainKeys := false, apart := false, laid := [("unicode/utf8.acceptRanges", laid_unicode_utf8_acceptRanges), ("unicode/utf8.first", laid_unicode_utf8_first)], narrowed := true }
def FnExactIsLiveUptoSaid : Prop := fnExactIsLiveUptoRow.holds Tryd.pinned (OpenSpec.upto fnExactIsLiveSpec)

/-- 'laws.FnExactCountLive', WHERE WHAT IT READS IS OF BULK AT MOST 1048576: true; the input reads as it did. -/
def fnExactCountLiveUptoRow : OpenClaim := { program := "ytjadnfnpbacfdaadoor", sum := "689ebc8b40a17ad66d5a318323cfd0d170e5a532c9a7746ba974689db350ebf0", func := "loop.example/g01271/laws.FnExactCountLive", spec := "fnExactCountLive", inPlace := ["internal/abi.NoEscape", "internal/bytealg.MakeNoZero", "internal/bytealg.IndexByteString", "internal/bytealg.CountString", "internal/bytealg.IndexString"], unfollowed := true, recurses := true, named := ["internal/bytealg.MaxLen", "unicode/utf8.first", "unicode/utf8.acceptRanges"], plainKeys := false, apart := false, laid := [("unicode/utf8.acceptRanges", laid_unicode_utf8_acceptRanges), ("unicode/utf8.first", laid_unicode_utf8_first)], narrowed := true }
def FnExactCountLiveUptoSaid : Prop := fnExactCountLiveUptoRow.holds Tryd.pinned (OpenSpec.upto fnExactCountLiveSpec)

/-- 'laws.FnExactLiveMoves', WHERE WHAT IT READS IS OF BULK AT MOST 1048576: true; the input reads as it did. -/
def fnExactLiveMovesUptoRow : OpenClaim := { program := "ytjadnfnpbacfdaadoor", sum := "689ebc8b40a17ad66d5a318323cfd0d170e5a532c9a7746ba974689db350ebf0", func := "loop.example/g01271/laws.FnExactLiveMoves", spec := "fnExactLiveMoves", inPlace := ["internal/bytealg.IndexByteString", "internal/bytealg.CountString", "internal/bytealg.IndexString", "internal/abi.NoEscape", "internal/bytealg.MakeNoZero"], unfollowed := true, recurses := true, named := ["internal/bytealg.MaxLen", "unicode/utf8.first", "unicode/utf8.acceptRanges"], plainKeys := false, apart := false, laid := [("unicode/utf8.acceptRanges", laid_unicode_utf8_acceptRanges), ("unicode/utf8.first", laid_unicode_utf8_first)], narrowed := true }
def FnExactLiveMovesUptoSaid : Prop := fnExactLiveMovesUptoRow.holds Tryd.pinned (OpenSpec.upto fnExactLiveMovesSpec)

/-- 'laws.FnExactForcedIn', WHERE WHAT IT READS IS OF BULK AT MOST 1048576: true; the input reads as it did. -/
def fnExactForcedInUptoRow : OpenClaim := { program := "ytjadnfnpbacfdaadoor", sum := "689ebc8b40a17ad66d5a318323cfd0d170e5a532c9a7746ba974689db350ebf0", func := "loop.example/g01271/laws.FnExactForcedIn", spec := "fnExactForcedIn", inPlace := ["internal/abi.NoEscape", "internal/bytealg.MakeNoZero", "internal/bytealg.IndexByteString", "internal/bytealg.CountString", "internal/bytealg.IndexString"], unfollowed := true, recurses := true, named := ["internal/bytealg.MaxLen", "unicode/utf8.first", "unicode/utf8.acceptRanges"], plainKeys := false, apart := false, laid := [("unicode/utf8.acceptRanges", laid_unicode_utf8_acceptRanges), ("unicode/utf8.first", laid_unicode_utf8_first)], narrowed := true }
def FnExactForcedInUptoSaid : Prop := fnExactForcedInUptoRow.holds Tryd.pinned (OpenSpec.upto fnExactForcedInSpec)

/-- 'laws.FnExactExchangeBoard', WHERE WHAT IT READS IS OF BULK AT MOST 1048576: true; the input reads as it did. -/
def fnExactExchangeBoardUptoRow : OpenClaim := { program := "ytjadnfnpbacfdaadoor", sum := "689ebc8b40a17ad66d5a318323cfd0d170e5a532c9a7746ba974689db350ebf0", func := "loop.example/g01271/laws.FnExactExchangeBoard", spec := "fnExactExchangeBoard", inPlace := ["internal/abi.NoEscape", "internal/bytealg.MakeNoZero", "internal/bytealg.IndexByteString", "internal/bytealg.CountString", "internal/bytealg.IndexString"], unfollowed := true, recurses := true, named := ["internal/bytealg.MaxLen", "unicode/utf8.first", "unicode/utf8.acceptRanges"], plainKeys := false, apart := false, laid := [("unicode/utf8.acceptRanges", laid_unicode_utf8_acceptRanges), ("unicode/utf8.first", laid_unicode_utf8_first)], narrowed := true }
def FnExactExchangeBoardUptoSaid : Prop := fnExactExchangeBoardUptoRow.holds Tryd.pinned (OpenSpec.upto fnExactExchangeBoardSpec)

/-- 'laws.FnExactPlayOnRing', WHERE WHAT IT READS IS OF BULK AT MOST 1048576: true; the input reads as it did. -/
def fnExactPlayOnRingUptoRow : OpenClaim := { program := "ytjadnfnpbacfdaadoor", sum := "689ebc8b40a17ad66d5a318323cfd0d170e5a532c9a7746ba974689db350ebf0", func := "loop.example/g01271/laws.FnExactPlayOnRing", spec := "fnExactPlayOnRing", inPlace := ["internal/bytealg.IndexByteString", "internal/bytealg.IndexString", "internal/abi.NoEscape", "internal/bytealg.MakeNoZero"], unfollowed := true, recurses := true, named := ["unicode/utf8.first", "unicode/utf8.acceptRanges", "internal/bytealg.MaxLen"], plainKeys := false, apart := false, laid := [("unicode/utf8.acceptRanges", laid_unicode_utf8_acceptRanges), ("unicode/utf8.first", laid_unicode_utf8_first)], narrowed := true }
def FnExactPlayOnRingUptoSaid : Prop := fnExactPlayOnRingUptoRow.holds Tryd.pinned (OpenSpec.upto fnExactPlayOnRingSpec)

end Rows
end Go.Proofs.YtjadnfnpbacfdaaDoor
