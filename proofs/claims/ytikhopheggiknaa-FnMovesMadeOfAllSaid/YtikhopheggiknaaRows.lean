/-
  No cell of these rows narrows 'for every input' (looked for: loops, veiled, ifaces, maps, wideKeys, modest, calm, conditions, laid).
  DERIVED. THE GIVEN ROWS OF THIS SEAT. 10 by the template 'for every input the law returns true; each argument reads behind the call as it read before'; 0 by the template 'total and deterministic' (their statements: YtikhopheggiknaaTotals.lean).
  GIVEN WITH THE SEED: the statements are not yours to turn. If you find one false, say at which input.
  Laid BY PROGRAM, IN A SANDBOX (cutbox-rows.mjs): the forced cells as the released guide's own fill.sh prints them over the translation a2089f8a897c529d… (all of the seat's roots in one cut). By AI agents, Wed Nov 11 2026. No macro, syntax, notation, axiom, sorry.
-/
import Derived.Test.YtikhopheggiknaaChecked
import GoSem.Claim
import GoSem.ClaimJoined
import GoSem.ClaimMapViews
import Derived.JoinedTies
import Derived.KernelRfl
namespace Go.Proofs.Ytikhopheggiknaa
/- THE CELL 'sum', in the pinned program and in every row, IS THE sha256 OF THE DUMP (.gsa) THAT YtikhopheggiknaaProg.lean LOADS. Nothing in Lean hashes anything: it is a label: what it is worth is what the hold of that sum in a sandbox is worth. -/
noncomputable def Try.pinned : Pinned := { name := "ytikhopheggiknaa", sum := "a2089f8a897c529d98146f2a610e2249d6115744037c2d478482ecd403889642", checked := Try.checked }
namespace Rows
def none {H : Type} : Left H := { results := [], args := [] }

/-- 'laws.FnExactExchangeLength': WHATEVER THE INPUT: true; the input reads as it did. -/
def fnExactExchangeLengthSpec : ChangeSpec := { name := "fnExactExchangeLength", fn := fun _ => fun
  | [d1, d2, d3] => { results := [.lit (.bool true)], args := [d1, d2, d3] }
  | _ => none }
def fnExactExchangeLengthRow : OpenClaim := { program := "ytikhopheggiknaa", sum := "a2089f8a897c529d98146f2a610e2249d6115744037c2d478482ecd403889642", func := "loop.example/g01271/laws.FnExactExchangeLength", spec := "fnExactExchangeLength", apart := false }
def FnExactExchangeLengthSaid : Prop := fnExactExchangeLengthRow.holds Try.pinned (OpenSpec.ofChange fnExactExchangeLengthSpec)

/-- ITS FALSE NEIGHBOUR: 'it returns false'. Refute it at one input. -/
def fnExactExchangeLengthWrong : ChangeSpec := { name := "fnExactExchangeLength", fn := fun _ => fun
  | [d1, d2, d3] => { results := [.lit (.bool false)], args := [d1, d2, d3] }
  | _ => none }
def FnExactExchangeLengthWrongFalsely : Prop := fnExactExchangeLengthRow.holds Try.pinned (OpenSpec.ofChange fnExactExchangeLengthWrong)

/-- 'laws.FnExactSlidesOfExchange': WHATEVER THE INPUT: true; the input reads as it did. -/
def fnExactSlidesOfExchangeSpec : ChangeSpec := { name := "fnExactSlidesOfExchange", fn := fun _ => fun
  | [d1, d2, d3] => { results := [.lit (.bool true)], args := [d1, d2, d3] }
  | _ => none }
def fnExactSlidesOfExchangeRow : OpenClaim := { program := "ytikhopheggiknaa", sum := "a2089f8a897c529d98146f2a610e2249d6115744037c2d478482ecd403889642", func := "loop.example/g01271/laws.FnExactSlidesOfExchange", spec := "fnExactSlidesOfExchange", apart := false }
def FnExactSlidesOfExchangeSaid : Prop := fnExactSlidesOfExchangeRow.holds Try.pinned (OpenSpec.ofChange fnExactSlidesOfExchangeSpec)

/-- ITS FALSE NEIGHBOUR: 'it returns false'. Refute it at one input. -/
def fnExactSlidesOfExchangeWrong : ChangeSpec := { name := "fnExactSlidesOfExchange", fn := fun _ => fun
  | [d1, d2, d3] => { results := [.lit (.bool false)], args := [d1, d2, d3] }
  | _ => none }
def FnExactSlidesOfExchangeWrongFalsely : Prop := fnExactSlidesOfExchangeRow.holds Try.pinned (OpenSpec.ofChange fnExactSlidesOfExchangeWrong)

/-- 'laws.FnExactJumpsOfExchange': WHATEVER THE INPUT: true; the input reads as it did. -/
def fnExactJumpsOfExchangeSpec : ChangeSpec := { name := "fnExactJumpsOfExchange", fn := fun _ => fun
  | [d1, d2] => { results := [.lit (.bool true)], args := [d1, d2] }
  | _ => none }
def fnExactJumpsOfExchangeRow : OpenClaim := { program := "ytikhopheggiknaa", sum := "a2089f8a897c529d98146f2a610e2249d6115744037c2d478482ecd403889642", func := "loop.example/g01271/laws.FnExactJumpsOfExchange", spec := "fnExactJumpsOfExchange", apart := false }
def FnExactJumpsOfExchangeSaid : Prop := fnExactJumpsOfExchangeRow.holds Try.pinned (OpenSpec.ofChange fnExactJumpsOfExchangeSpec)

/-- ITS FALSE NEIGHBOUR: 'it returns false'. Refute it at one input. -/
def fnExactJumpsOfExchangeWrong : ChangeSpec := { name := "fnExactJumpsOfExchange", fn := fun _ => fun
  | [d1, d2] => { results := [.lit (.bool false)], args := [d1, d2] }
  | _ => none }
def FnExactJumpsOfExchangeWrongFalsely : Prop := fnExactJumpsOfExchangeRow.holds Try.pinned (OpenSpec.ofChange fnExactJumpsOfExchangeWrong)

/-- 'laws.FnExactIsExchange': WHATEVER THE INPUT: true; the input reads as it did. -/
def fnExactIsExchangeSpec : ChangeSpec := { name := "fnExactIsExchange", fn := fun _ => fun
  | [d1, d2, d3, d4] => { results := [.lit (.bool true)], args := [d1, d2, d3, d4] }
  | _ => none }
def fnExactIsExchangeRow : OpenClaim := { program := "ytikhopheggiknaa", sum := "a2089f8a897c529d98146f2a610e2249d6115744037c2d478482ecd403889642", func := "loop.example/g01271/laws.FnExactIsExchange", spec := "fnExactIsExchange", inPlace := ["internal/abi.NoEscape", "internal/bytealg.MakeNoZero", "internal/bytealg.IndexByteString", "internal/bytealg.CountString", "internal/bytealg.IndexString"], named := ["internal/bytealg.MaxLen"], apart := false }
def FnExactIsExchangeSaid : Prop := fnExactIsExchangeRow.holds Try.pinned (OpenSpec.ofChange fnExactIsExchangeSpec)

/-- ITS FALSE NEIGHBOUR: 'it returns false'. Refute it at one input. -/
def fnExactIsExchangeWrong : ChangeSpec := { name := "fnExactIsExchange", fn := fun _ => fun
  | [d1, d2, d3, d4] => { results := [.lit (.bool false)], args := [d1, d2, d3, d4] }
  | _ => none }
def FnExactIsExchangeWrongFalsely : Prop := fnExactIsExchangeRow.holds Try.pinned (OpenSpec.ofChange fnExactIsExchangeWrong)

/-- 'laws.FnExactBackExchange': WHATEVER THE INPUT: true; the input reads as it did. -/
def fnExactBackExchangeSpec : ChangeSpec := { name := "fnExactBackExchange", fn := fun _ => fun
  | [d1, d2, d3, d4] => { results := [.lit (.bool true)], args := [d1, d2, d3, d4] }
  | _ => none }
def fnExactBackExchangeRow : OpenClaim := { program := "ytikhopheggiknaa", sum := "a2089f8a897c529d98146f2a610e2249d6115744037c2d478482ecd403889642", func := "loop.example/g01271/laws.FnExactBackExchange", spec := "fnExactBackExchange", inPlace := ["internal/abi.NoEscape", "internal/bytealg.MakeNoZero", "internal/bytealg.IndexByteString", "internal/bytealg.CountString", "internal/bytealg.IndexString"], unfollowed := true, recurses := true, named := ["internal/bytealg.MaxLen"], apart := false }
def FnExactBackExchangeSaid : Prop := fnExactBackExchangeRow.holds Try.pinned (OpenSpec.ofChange fnExactBackExchangeSpec)

/-- ITS FALSE NEIGHBOUR: 'it returns false'. Refute it at one input. -/
def fnExactBackExchangeWrong : ChangeSpec := { name := "fnExactBackExchange", fn := fun _ => fun
  | [d1, d2, d3, d4] => { results := [.lit (.bool false)], args := [d1, d2, d3, d4] }
  | _ => none }
def FnExactBackExchangeWrongFalsely : Prop := fnExactBackExchangeRow.holds Try.pinned (OpenSpec.ofChange fnExactBackExchangeWrong)

/-- 'laws.FnExactIsOwnBack': WHATEVER THE INPUT: true; the input reads as it did. -/
def fnExactIsOwnBackSpec : ChangeSpec := { name := "fnExactIsOwnBack", fn := fun _ => fun
  | [d1, d2, d3, d4] => { results := [.lit (.bool true)], args := [d1, d2, d3, d4] }
  | _ => none }
def fnExactIsOwnBackRow : OpenClaim := { program := "ytikhopheggiknaa", sum := "a2089f8a897c529d98146f2a610e2249d6115744037c2d478482ecd403889642", func := "loop.example/g01271/laws.FnExactIsOwnBack", spec := "fnExactIsOwnBack", inPlace := ["internal/abi.NoEscape", "internal/bytealg.MakeNoZero", "internal/bytealg.IndexByteString", "internal/bytealg.CountString", "internal/bytealg.IndexString"], unfollowed := true, recurses := true, named := ["internal/bytealg.MaxLen"], apart := false }
def FnExactIsOwnBackSaid : Prop := fnExactIsOwnBackRow.holds Try.pinned (OpenSpec.ofChange fnExactIsOwnBackSpec)

/-- ITS FALSE NEIGHBOUR: 'it returns false'. Refute it at one input. -/
def fnExactIsOwnBackWrong : ChangeSpec := { name := "fnExactIsOwnBack", fn := fun _ => fun
  | [d1, d2, d3, d4] => { results := [.lit (.bool false)], args := [d1, d2, d3, d4] }
  | _ => none }
def FnExactIsOwnBackWrongFalsely : Prop := fnExactIsOwnBackRow.holds Try.pinned (OpenSpec.ofChange fnExactIsOwnBackWrong)

/-- 'laws.FnMovesMade': WHATEVER THE INPUT: true; the input reads as it did. -/
def fnMovesMadeSpec : ChangeSpec := { name := "fnMovesMade", fn := fun _ => fun
  | [d1, d2] => { results := [.lit (.bool true)], args := [d1, d2] }
  | _ => none }
def fnMovesMadeRow : OpenClaim := { program := "ytikhopheggiknaa", sum := "a2089f8a897c529d98146f2a610e2249d6115744037c2d478482ecd403889642", func := "loop.example/g01271/laws.FnMovesMade", spec := "fnMovesMade", inPlace := ["internal/bytealg.IndexByteString", "internal/bytealg.CountString", "internal/bytealg.IndexString"], unfollowed := true, recurses := true, named := ["internal/bytealg.MaxLen"], apart := false }
def FnMovesMadeSaid : Prop := fnMovesMadeRow.holds Try.pinned (OpenSpec.ofChange fnMovesMadeSpec)

/-- ITS FALSE NEIGHBOUR: 'it returns false'. Refute it at one input. -/
def fnMovesMadeWrong : ChangeSpec := { name := "fnMovesMade", fn := fun _ => fun
  | [d1, d2] => { results := [.lit (.bool false)], args := [d1, d2] }
  | _ => none }
def FnMovesMadeWrongFalsely : Prop := fnMovesMadeRow.holds Try.pinned (OpenSpec.ofChange fnMovesMadeWrong)

/-- 'laws.FnMovesMadeOfAll': WHATEVER THE INPUT: true; the input reads as it did. -/
def fnMovesMadeOfAllSpec : ChangeSpec := { name := "fnMovesMadeOfAll", fn := fun _ => fun
  | [d1, d2, d3] => { results := [.lit (.bool true)], args := [d1, d2, d3] }
  | _ => none }
def fnMovesMadeOfAllRow : OpenClaim := { program := "ytikhopheggiknaa", sum := "a2089f8a897c529d98146f2a610e2249d6115744037c2d478482ecd403889642", func := "loop.example/g01271/laws.FnMovesMadeOfAll", spec := "fnMovesMadeOfAll", inPlace := ["internal/bytealg.IndexByteString", "internal/bytealg.CountString", "internal/bytealg.IndexString"], unfollowed := true, recurses := true, named := ["internal/bytealg.MaxLen"], apart := false }
def FnMovesMadeOfAllSaid : Prop := fnMovesMadeOfAllRow.holds Try.pinned (OpenSpec.ofChange fnMovesMadeOfAllSpec)

/-- ITS FALSE NEIGHBOUR: 'it returns false'. Refute it at one input. -/
def fnMovesMadeOfAllWrong : ChangeSpec := { name := "fnMovesMadeOfAll", fn := fun _ => fun
  | [d1, d2, d3] => { results := [.lit (.bool false)], args := [d1, d2, d3] }
  | _ => none }
def FnMovesMadeOfAllWrongFalsely : Prop := fnMovesMadeOfAllRow.holds Try.pinned (OpenSpec.ofChange fnMovesMadeOfAllWrong)

/-- 'laws.FnLinesRanked': WHATEVER THE INPUT: true; the input reads as it did. -/
def fnLinesRankedSpec : ChangeSpec := { name := "fnLinesRanked", fn := fun _ => fun
  | [d1, d2] => { results := [.lit (.bool true)], args := [d1, d2] }
  | _ => none }
def fnLinesRankedRow : OpenClaim := { program := "ytikhopheggiknaa", sum := "a2089f8a897c529d98146f2a610e2249d6115744037c2d478482ecd403889642", func := "loop.example/g01271/laws.FnLinesRanked", spec := "fnLinesRanked", inPlace := ["internal/bytealg.IndexByteString", "internal/bytealg.CountString", "internal/bytealg.IndexString", "internal/abi.NoEscape", "internal/bytealg.MakeNoZero"], named := ["internal/bytealg.MaxLen"], apart := false }
def FnLinesRankedSaid : Prop := fnLinesRankedRow.holds Try.pinned (OpenSpec.ofChange fnLinesRankedSpec)

/-- ITS FALSE NEIGHBOUR: 'it returns false'. Refute it at one input. -/
def fnLinesRankedWrong : ChangeSpec := { name := "fnLinesRanked", fn := fun _ => fun
  | [d1, d2] => { results := [.lit (.bool false)], args := [d1, d2] }
  | _ => none }
def FnLinesRankedWrongFalsely : Prop := fnLinesRankedRow.holds Try.pinned (OpenSpec.ofChange fnLinesRankedWrong)

/-- 'laws.FnLinesRankedOfAll': WHATEVER THE INPUT: true; the input reads as it did. -/
def fnLinesRankedOfAllSpec : ChangeSpec := { name := "fnLinesRankedOfAll", fn := fun _ => fun
  | [d1, d2, d3, d4, d5, d6, d7] => { results := [.lit (.bool true)], args := [d1, d2, d3, d4, d5, d6, d7] }
  | _ => none }
def fnLinesRankedOfAllRow : OpenClaim := { program := "ytikhopheggiknaa", sum := "a2089f8a897c529d98146f2a610e2249d6115744037c2d478482ecd403889642", func := "loop.example/g01271/laws.FnLinesRankedOfAll", spec := "fnLinesRankedOfAll", inPlace := ["internal/bytealg.IndexByteString", "internal/bytealg.CountString", "internal/bytealg.IndexString", "internal/abi.NoEscape", "internal/bytealg.MakeNoZero"], named := ["internal/bytealg.MaxLen"], apart := false }
def FnLinesRankedOfAllSaid : Prop := fnLinesRankedOfAllRow.holds Try.pinned (OpenSpec.ofChange fnLinesRankedOfAllSpec)

/-- ITS FALSE NEIGHBOUR: 'it returns false'. Refute it at one input. -/
def fnLinesRankedOfAllWrong : ChangeSpec := { name := "fnLinesRankedOfAll", fn := fun _ => fun
  | [d1, d2, d3, d4, d5, d6, d7] => { results := [.lit (.bool false)], args := [d1, d2, d3, d4, d5, d6, d7] }
  | _ => none }
def FnLinesRankedOfAllWrongFalsely : Prop := fnLinesRankedOfAllRow.holds Try.pinned (OpenSpec.ofChange fnLinesRankedOfAllWrong)

/- THE SECOND FORM. 'bulk': how many values and letters a reading holds, each counted each time it is reached (what is shared counts as often as it is met; a slice's spare places count too). A statement '..UptoSaid' is the law's where the arguments, and the package variables that the reading takes, are together of bulk at most 1048576: NARROWER than '..Said'. Prove '..Said' where nothing that the law and all that it calls make is longer than what came in: it says more and counts as full. Else prove '..UptoSaid'. A law counts once. -/
mutual
def uptoBulk {H : Type} : DataW H → Nat
  | .lit (.string bytes) => bytes.length + 1
  | .lit _ => 1
  | .nil => 1
  | .ptr d => uptoBulk d + 1
  | .slice elems spare => uptoBulkAll elems + uptoBulkAll spare + 1
  | .agg parts => uptoBulkAll parts + 1
  | .iface _ d => uptoBulk d + 1
  | .map entries => uptoBulkEntries entries + 1
  | .held _ => 1
def uptoBulkAll {H : Type} : List (DataW H) → Nat
  | [] => 0
  | d :: r => uptoBulk d + uptoBulkAll r
def uptoBulkEntries {H : Type} : List (Lit × DataW H) → Nat
  | [] => 0
  | x :: r => uptoBulkEntry x + uptoBulkEntries r
def uptoBulkEntry {H : Type} : Lit × DataW H → Nat
  | (.string bytes, d) => bytes.length + uptoBulk d + 1
  | (_, d) => uptoBulk d + 1
 end
def uptoSmall : (H : Type) → List (DataW H) → Bool := fun _ ds => decide (uptoBulkAll ds ≤ 1048576)
def OpenSpec.upto (s : _root_.Go.ChangeSpec) : _root_.Go.OpenSpec := { _root_.Go.OpenSpec.ofChange s with cond := some uptoSmall }

/-- 'laws.FnExactExchangeLength', WHERE WHAT IT READS IS OF BULK AT MOST 1048576: true; the input reads as it did. -/
def fnExactExchangeLengthUptoRow : OpenClaim := { program := "ytikhopheggiknaa", sum := "a2089f8a897c529d98146f2a610e2249d6115744037c2d478482ecd403889642", func := "loop.example/g01271/laws.FnExactExchangeLength", spec := "fnExactExchangeLength", apart := false, narrowed := true }
def FnExactExchangeLengthUptoSaid : Prop := fnExactExchangeLengthUptoRow.holds Try.pinned (OpenSpec.upto fnExactExchangeLengthSpec)

/-- 'laws.FnExactSlidesOfExchange', WHERE WHAT IT READS IS OF BULK AT MOST 1048576: true; the input reads as it did. -/
def fnExactSlidesOfExchangeUptoRow : OpenClaim := { program := "ytikhopheggiknaa", sum := "a2089f8a897c529d98146f2a610e2249d6115744037c2d478482ecd403889642", func := "loop.example/g01271/laws.FnExactSlidesOfExchange", spec := "fnExactSlidesOfExchange", apart := false, narrowed := true }
def FnExactSlidesOfExchangeUptoSaid : Prop := fnExactSlidesOfExchangeUptoRow.holds Try.pinned (OpenSpec.upto fnExactSlidesOfExchangeSpec)

/-- 'laws.FnExactJumpsOfExchange', WHERE WHAT IT READS IS OF BULK AT MOST 1048576: true; the input reads as it did. -/
def fnExactJumpsOfExchangeUptoRow : OpenClaim := { program := "ytikhopheggiknaa", sum := "a2089f8a897c529d98146f2a610e2249d6115744037c2d478482ecd403889642", func := "loop.example/g01271/laws.FnExactJumpsOfExchange", spec := "fnExactJumpsOfExchange", apart := false, narrowed := true }
def FnExactJumpsOfExchangeUptoSaid : Prop := fnExactJumpsOfExchangeUptoRow.holds Try.pinned (OpenSpec.upto fnExactJumpsOfExchangeSpec)

/-- 'laws.FnExactIsExchange', WHERE WHAT IT READS IS OF BULK AT MOST 1048576: true; the input reads as it did. -/
def fnExactIsExchangeUptoRow : OpenClaim := { program := "ytikhopheggiknaa", sum := "a2089f8a897c529d98146f2a610e2249d6115744037c2d478482ecd403889642", func := "loop.example/g01271/laws.FnExactIsExchange", spec := "fnExactIsExchange", inPlace := ["internal/abi.NoEscape", "internal/bytealg.MakeNoZero", "internal/bytealg.IndexByteString", "internal/bytealg.CountString", "internal/bytealg.IndexString"], named := ["internal/bytealg.MaxLen"], apart := false, narrowed := true }
def FnExactIsExchangeUptoSaid : Prop := fnExactIsExchangeUptoRow.holds Try.pinned (OpenSpec.upto fnExactIsExchangeSpec)

/-- 'laws.FnExactBackExchange', WHERE WHAT IT READS IS OF BULK AT MOST 1048576: true; the input reads as it did. -/
def fnExactBackExchangeUptoRow : OpenClaim := { program := "ytikhopheggiknaa", sum := "a2089f8a897c529d98146f2a610e2249d6115744037c2d478482ecd403889642", func := "loop.example/g01271/laws.FnExactBackExchange", spec := "fnExactBackExchange", inPlace := ["internal/abi.NoEscape", "internal/bytealg.MakeNoZero", "internal/bytealg.IndexByteString", "internal/bytealg.CountString", "internal/bytealg.IndexString"], unfollowed := true, recurses := true, named := ["internal/bytealg.MaxLen"], apart := false, narrowed := true }
def FnExactBackExchangeUptoSaid : Prop := fnExactBackExchangeUptoRow.holds Try.pinned (OpenSpec.upto fnExactBackExchangeSpec)

/-- 'laws.FnExactIsOwnBack', WHERE WHAT IT READS IS OF BULK AT MOST 1048576: true; the input reads as it did. -/
def fnExactIsOwnBackUptoRow : OpenClaim := { program := "ytikhopheggiknaa", sum := "a2089f8a897c529d98146f2a610e2249d6115744037c2d478482ecd403889642", func := "loop.example/g01271/laws.FnExactIsOwnBack", spec := "fnExactIsOwnBack", inPlace := ["internal/abi.NoEscape", "internal/bytealg.MakeNoZero", "internal/bytealg.IndexByteString", "internal/bytealg.CountString", "internal/bytealg.IndexString"], unfollowed := true, recurses := true, named := ["internal/bytealg.MaxLen"], apart := false, narrowed := true }
def FnExactIsOwnBackUptoSaid : Prop := fnExactIsOwnBackUptoRow.holds Try.pinned (OpenSpec.upto fnExactIsOwnBackSpec)

/-- 'laws.FnMovesMade', WHERE WHAT IT READS IS OF BULK AT MOST 1048576: true; the input reads as it did. -/
def fnMovesMadeUptoRow : OpenClaim := { program := "ytikhopheggiknaa", sum := "a2089f8a897c529d98146f2a610e2249d6115744037c2d478482ecd403889642", func := "loop.example/g01271/laws.FnMovesMade", spec := "fnMovesMade", inPlace := ["internal/bytealg.IndexByteString", "internal/bytealg.CountString", "internal/bytealg.IndexString"], unfollowed := true, recurses := true, named := ["internal/bytealg.MaxLen"], apart := false, narrowed := true }
def FnMovesMadeUptoSaid : Prop := fnMovesMadeUptoRow.holds Try.pinned (OpenSpec.upto fnMovesMadeSpec)

/-- 'laws.FnMovesMadeOfAll', WHERE WHAT IT READS IS OF BULK AT MOST 1048576: true; the input reads as it did. -/
def fnMovesMadeOfAllUptoRow : OpenClaim := { program := "ytikhopheggiknaa", sum := "a2089f8a897c529d98146f2a610e2249d6115744037c2d478482ecd403889642", func := "loop.example/g01271/laws.FnMovesMadeOfAll", spec := "fnMovesMadeOfAll", inPlace := ["internal/bytealg.IndexByteString", "internal/bytealg.CountString", "internal/bytealg.IndexString"], unfollowed := true, recurses := true, named := ["internal/bytealg.MaxLen"], apart := false, narrowed := true }
def FnMovesMadeOfAllUptoSaid : Prop := fnMovesMadeOfAllUptoRow.holds Try.pinned (OpenSpec.upto fnMovesMadeOfAllSpec)

/-- 'laws.FnLinesRanked', WHERE WHAT IT READS IS OF BULK AT MOST 1048576: true; the input reads as it did. -/
def fnLinesRankedUptoRow : OpenClaim := { program := "ytikhopheggiknaa", sum := "a2089f8a897c529d98146f2a610e2249d6115744037c2d478482ecd403889642", func := "loop.example/g01271/laws.FnLinesRanked", spec := "fnLinesRanked", inPlace := ["internal/bytealg.IndexByteString", "internal/bytealg.CountString", "internal/bytealg.IndexString", "internal/abi.NoEscape", "internal/bytealg.MakeNoZero"], named := ["internal/bytealg.MaxLen"], apart := false, narrowed := true }
def FnLinesRankedUptoSaid : Prop := fnLinesRankedUptoRow.holds Try.pinned (OpenSpec.upto fnLinesRankedSpec)

/-- 'laws.FnLinesRankedOfAll', WHERE WHAT IT READS IS OF BULK AT MOST 1048576: true; the input reads as it did. -/
def fnLinesRankedOfAllUptoRow : OpenClaim := { program := "ytikhopheggiknaa", sum := "a2089f8a897c529d98146f2a610e2249d6115744037c2d478482ecd403889642", func := "loop.example/g01271/laws.FnLinesRankedOfAll", spec := "fnLinesRankedOfAll", inPlace := ["internal/bytealg.IndexByteString", "internal/bytealg.CountString", "internal/bytealg.IndexString", "internal/abi.NoEscape", "internal/bytealg.MakeNoZero"], named := ["internal/bytealg.MaxLen"], apart := false, narrowed := true }
def FnLinesRankedOfAllUptoSaid : Prop := fnLinesRankedOfAllUptoRow.holds Try.pinned (OpenSpec.upto fnLinesRankedOfAllSpec)

end Rows
end Go.Proofs.Ytikhopheggiknaa
