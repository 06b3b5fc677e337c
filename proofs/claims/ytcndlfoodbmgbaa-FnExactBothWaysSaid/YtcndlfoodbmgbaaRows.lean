/-
  No cell of these rows narrows 'for every input' (looked for: loops, veiled, ifaces, maps, wideKeys, modest, calm, conditions, laid).
  DERIVED. THE GIVEN ROWS OF THIS SEAT. 15 by the template 'for every input the law returns true; each argument reads behind the call as it read before'; 0 by the template 'total and deterministic' (their statements: YtcndlfoodbmgbaaTotals.lean).
  GIVEN WITH THE SEED: the statements are not yours to turn. If you find one false, say at which input.
  Laid BY PROGRAM, IN A SANDBOX (cutbox-rows.mjs): the forced cells as the released guide's own fill.sh prints them over the translation 3b91ea47e10ebd90… (all of the seat's roots in one cut). By AI agents, Wed Nov 11 2026. No macro, syntax, notation, axiom, sorry.
-/
import Derived.Test.YtcndlfoodbmgbaaChecked
import GoSem.Claim
import GoSem.ClaimJoined
import GoSem.ClaimMapViews
import Derived.JoinedTies
import Derived.KernelRfl
namespace Go.Proofs.Ytcndlfoodbmgbaa
/- THE CELL 'sum', in the pinned program and in every row, IS THE sha256 OF THE DUMP (.gsa) THAT YtcndlfoodbmgbaaProg.lean LOADS. Nothing in Lean hashes anything: it is a label: what it is worth is what the hold of that sum in a sandbox is worth. -/
noncomputable def Try.pinned : Pinned := { name := "ytcndlfoodbmgbaa", sum := "3b91ea47e10ebd902117e89a41d7d893b4aa3f411fb8c3a41569d8172b617640", checked := Try.checked }
namespace Rows
def none {H : Type} : Left H := { results := [], args := [] }

/-- 'laws.FnExactRuleMoves': WHATEVER THE INPUT: true; the input reads as it did. -/
def fnExactRuleMovesSpec : ChangeSpec := { name := "fnExactRuleMoves", fn := fun _ => fun
  | [d1, d2] => { results := [.lit (.bool true)], args := [d1, d2] }
  | _ => none }
def fnExactRuleMovesRow : OpenClaim := { program := "ytcndlfoodbmgbaa", sum := "3b91ea47e10ebd902117e89a41d7d893b4aa3f411fb8c3a41569d8172b617640", func := "loop.example/g01271/laws.FnExactRuleMoves", spec := "fnExactRuleMoves", inPlace := ["internal/bytealg.IndexByteString"], unfollowed := true, recurses := true, apart := false }
def FnExactRuleMovesSaid : Prop := fnExactRuleMovesRow.holds Try.pinned (OpenSpec.ofChange fnExactRuleMovesSpec)

/-- ITS FALSE NEIGHBOUR: 'it returns false'. Refute it at one input. -/
def fnExactRuleMovesWrong : ChangeSpec := { name := "fnExactRuleMoves", fn := fun _ => fun
  | [d1, d2] => { results := [.lit (.bool false)], args := [d1, d2] }
  | _ => none }
def FnExactRuleMovesWrongFalsely : Prop := fnExactRuleMovesRow.holds Try.pinned (OpenSpec.ofChange fnExactRuleMovesWrong)

/-- 'laws.FnExactCanByRule': WHATEVER THE INPUT: true; the input reads as it did. -/
def fnExactCanByRuleSpec : ChangeSpec := { name := "fnExactCanByRule", fn := fun _ => fun
  | [d1, d2, d3] => { results := [.lit (.bool true)], args := [d1, d2, d3] }
  | _ => none }
def fnExactCanByRuleRow : OpenClaim := { program := "ytcndlfoodbmgbaa", sum := "3b91ea47e10ebd902117e89a41d7d893b4aa3f411fb8c3a41569d8172b617640", func := "loop.example/g01271/laws.FnExactCanByRule", spec := "fnExactCanByRule", inPlace := ["internal/bytealg.IndexByteString"], unfollowed := true, recurses := true, apart := false }
def FnExactCanByRuleSaid : Prop := fnExactCanByRuleRow.holds Try.pinned (OpenSpec.ofChange fnExactCanByRuleSpec)

/-- ITS FALSE NEIGHBOUR: 'it returns false'. Refute it at one input. -/
def fnExactCanByRuleWrong : ChangeSpec := { name := "fnExactCanByRule", fn := fun _ => fun
  | [d1, d2, d3] => { results := [.lit (.bool false)], args := [d1, d2, d3] }
  | _ => none }
def FnExactCanByRuleWrongFalsely : Prop := fnExactCanByRuleRow.holds Try.pinned (OpenSpec.ofChange fnExactCanByRuleWrong)

/-- 'laws.FnExactMakeByRule': WHATEVER THE INPUT: true; the input reads as it did. -/
def fnExactMakeByRuleSpec : ChangeSpec := { name := "fnExactMakeByRule", fn := fun _ => fun
  | [d1, d2, d3] => { results := [.lit (.bool true)], args := [d1, d2, d3] }
  | _ => none }
def fnExactMakeByRuleRow : OpenClaim := { program := "ytcndlfoodbmgbaa", sum := "3b91ea47e10ebd902117e89a41d7d893b4aa3f411fb8c3a41569d8172b617640", func := "loop.example/g01271/laws.FnExactMakeByRule", spec := "fnExactMakeByRule", inPlace := ["internal/bytealg.IndexByteString"], unfollowed := true, recurses := true, apart := false }
def FnExactMakeByRuleSaid : Prop := fnExactMakeByRuleRow.holds Try.pinned (OpenSpec.ofChange fnExactMakeByRuleSpec)

/-- ITS FALSE NEIGHBOUR: 'it returns false'. Refute it at one input. -/
def fnExactMakeByRuleWrong : ChangeSpec := { name := "fnExactMakeByRule", fn := fun _ => fun
  | [d1, d2, d3] => { results := [.lit (.bool false)], args := [d1, d2, d3] }
  | _ => none }
def FnExactMakeByRuleWrongFalsely : Prop := fnExactMakeByRuleRow.holds Try.pinned (OpenSpec.ofChange fnExactMakeByRuleWrong)

/-- 'laws.FnExactShortestByRule': WHATEVER THE INPUT: true; the input reads as it did. -/
def fnExactShortestByRuleSpec : ChangeSpec := { name := "fnExactShortestByRule", fn := fun _ => fun
  | [d1, d2, d3] => { results := [.lit (.bool true)], args := [d1, d2, d3] }
  | _ => none }
def fnExactShortestByRuleRow : OpenClaim := { program := "ytcndlfoodbmgbaa", sum := "3b91ea47e10ebd902117e89a41d7d893b4aa3f411fb8c3a41569d8172b617640", func := "loop.example/g01271/laws.FnExactShortestByRule", spec := "fnExactShortestByRule", inPlace := ["internal/bytealg.IndexByteString"], unfollowed := true, recurses := true, apart := false }
def FnExactShortestByRuleSaid : Prop := fnExactShortestByRuleRow.holds Try.pinned (OpenSpec.ofChange fnExactShortestByRuleSpec)

/-- ITS FALSE NEIGHBOUR: 'it returns false'. Refute it at one input. -/
def fnExactShortestByRuleWrong : ChangeSpec := { name := "fnExactShortestByRule", fn := fun _ => fun
  | [d1, d2, d3] => { results := [.lit (.bool false)], args := [d1, d2, d3] }
  | _ => none }
def FnExactShortestByRuleWrongFalsely : Prop := fnExactShortestByRuleRow.holds Try.pinned (OpenSpec.ofChange fnExactShortestByRuleWrong)

/-- 'laws.FnExactFirstShortest': WHATEVER THE INPUT: true; the input reads as it did. -/
def fnExactFirstShortestSpec : ChangeSpec := { name := "fnExactFirstShortest", fn := fun _ => fun
  | [d1, d2, d3] => { results := [.lit (.bool true)], args := [d1, d2, d3] }
  | _ => none }
def fnExactFirstShortestRow : OpenClaim := { program := "ytcndlfoodbmgbaa", sum := "3b91ea47e10ebd902117e89a41d7d893b4aa3f411fb8c3a41569d8172b617640", func := "loop.example/g01271/laws.FnExactFirstShortest", spec := "fnExactFirstShortest", inPlace := ["internal/bytealg.IndexByteString"], unfollowed := true, recurses := true, apart := false }
def FnExactFirstShortestSaid : Prop := fnExactFirstShortestRow.holds Try.pinned (OpenSpec.ofChange fnExactFirstShortestSpec)

/-- ITS FALSE NEIGHBOUR: 'it returns false'. Refute it at one input. -/
def fnExactFirstShortestWrong : ChangeSpec := { name := "fnExactFirstShortest", fn := fun _ => fun
  | [d1, d2, d3] => { results := [.lit (.bool false)], args := [d1, d2, d3] }
  | _ => none }
def FnExactFirstShortestWrongFalsely : Prop := fnExactFirstShortestRow.holds Try.pinned (OpenSpec.ofChange fnExactFirstShortestWrong)

/-- 'laws.FnExactCountReachedByRule': WHATEVER THE INPUT: true; the input reads as it did. -/
def fnExactCountReachedByRuleSpec : ChangeSpec := { name := "fnExactCountReachedByRule", fn := fun _ => fun
  | [d1, d2] => { results := [.lit (.bool true)], args := [d1, d2] }
  | _ => none }
def fnExactCountReachedByRuleRow : OpenClaim := { program := "ytcndlfoodbmgbaa", sum := "3b91ea47e10ebd902117e89a41d7d893b4aa3f411fb8c3a41569d8172b617640", func := "loop.example/g01271/laws.FnExactCountReachedByRule", spec := "fnExactCountReachedByRule", inPlace := ["internal/bytealg.IndexByteString"], unfollowed := true, recurses := true, apart := false }
def FnExactCountReachedByRuleSaid : Prop := fnExactCountReachedByRuleRow.holds Try.pinned (OpenSpec.ofChange fnExactCountReachedByRuleSpec)

/-- ITS FALSE NEIGHBOUR: 'it returns false'. Refute it at one input. -/
def fnExactCountReachedByRuleWrong : ChangeSpec := { name := "fnExactCountReachedByRule", fn := fun _ => fun
  | [d1, d2] => { results := [.lit (.bool false)], args := [d1, d2] }
  | _ => none }
def FnExactCountReachedByRuleWrongFalsely : Prop := fnExactCountReachedByRuleRow.holds Try.pinned (OpenSpec.ofChange fnExactCountReachedByRuleWrong)

/-- 'laws.FnExactReachByRule': WHATEVER THE INPUT: true; the input reads as it did. -/
def fnExactReachByRuleSpec : ChangeSpec := { name := "fnExactReachByRule", fn := fun _ => fun
  | [d1, d2, d3] => { results := [.lit (.bool true)], args := [d1, d2, d3] }
  | _ => none }
def fnExactReachByRuleRow : OpenClaim := { program := "ytcndlfoodbmgbaa", sum := "3b91ea47e10ebd902117e89a41d7d893b4aa3f411fb8c3a41569d8172b617640", func := "loop.example/g01271/laws.FnExactReachByRule", spec := "fnExactReachByRule", inPlace := ["internal/bytealg.IndexByteString"], unfollowed := true, recurses := true, apart := false }
def FnExactReachByRuleSaid : Prop := fnExactReachByRuleRow.holds Try.pinned (OpenSpec.ofChange fnExactReachByRuleSpec)

/-- ITS FALSE NEIGHBOUR: 'it returns false'. Refute it at one input. -/
def fnExactReachByRuleWrong : ChangeSpec := { name := "fnExactReachByRule", fn := fun _ => fun
  | [d1, d2, d3] => { results := [.lit (.bool false)], args := [d1, d2, d3] }
  | _ => none }
def FnExactReachByRuleWrongFalsely : Prop := fnExactReachByRuleRow.holds Try.pinned (OpenSpec.ofChange fnExactReachByRuleWrong)

/-- 'laws.FnExactFewestToExchange': WHATEVER THE INPUT: true; the input reads as it did. -/
def fnExactFewestToExchangeSpec : ChangeSpec := { name := "fnExactFewestToExchange", fn := fun _ => fun
  | [d1, d2, d3, d4] => { results := [.lit (.bool true)], args := [d1, d2, d3, d4] }
  | _ => none }
def fnExactFewestToExchangeRow : OpenClaim := { program := "ytcndlfoodbmgbaa", sum := "3b91ea47e10ebd902117e89a41d7d893b4aa3f411fb8c3a41569d8172b617640", func := "loop.example/g01271/laws.FnExactFewestToExchange", spec := "fnExactFewestToExchange", inPlace := ["internal/abi.NoEscape", "internal/bytealg.MakeNoZero", "internal/bytealg.IndexByteString", "internal/bytealg.CountString", "internal/bytealg.IndexString"], unfollowed := true, recurses := true, named := ["internal/bytealg.MaxLen"], apart := false }
def FnExactFewestToExchangeSaid : Prop := fnExactFewestToExchangeRow.holds Try.pinned (OpenSpec.ofChange fnExactFewestToExchangeSpec)

/-- ITS FALSE NEIGHBOUR: 'it returns false'. Refute it at one input. -/
def fnExactFewestToExchangeWrong : ChangeSpec := { name := "fnExactFewestToExchange", fn := fun _ => fun
  | [d1, d2, d3, d4] => { results := [.lit (.bool false)], args := [d1, d2, d3, d4] }
  | _ => none }
def FnExactFewestToExchangeWrongFalsely : Prop := fnExactFewestToExchangeRow.holds Try.pinned (OpenSpec.ofChange fnExactFewestToExchangeWrong)

/-- 'laws.FnExactFarthestByRule': WHATEVER THE INPUT: true; the input reads as it did. -/
def fnExactFarthestByRuleSpec : ChangeSpec := { name := "fnExactFarthestByRule", fn := fun _ => fun
  | [d1, d2] => { results := [.lit (.bool true)], args := [d1, d2] }
  | _ => none }
def fnExactFarthestByRuleRow : OpenClaim := { program := "ytcndlfoodbmgbaa", sum := "3b91ea47e10ebd902117e89a41d7d893b4aa3f411fb8c3a41569d8172b617640", func := "loop.example/g01271/laws.FnExactFarthestByRule", spec := "fnExactFarthestByRule", inPlace := ["internal/bytealg.IndexByteString"], unfollowed := true, recurses := true, apart := false }
def FnExactFarthestByRuleSaid : Prop := fnExactFarthestByRuleRow.holds Try.pinned (OpenSpec.ofChange fnExactFarthestByRuleSpec)

/-- ITS FALSE NEIGHBOUR: 'it returns false'. Refute it at one input. -/
def fnExactFarthestByRuleWrong : ChangeSpec := { name := "fnExactFarthestByRule", fn := fun _ => fun
  | [d1, d2] => { results := [.lit (.bool false)], args := [d1, d2] }
  | _ => none }
def FnExactFarthestByRuleWrongFalsely : Prop := fnExactFarthestByRuleRow.holds Try.pinned (OpenSpec.ofChange fnExactFarthestByRuleWrong)

/-- 'laws.FnExactCountStuck': WHATEVER THE INPUT: true; the input reads as it did. -/
def fnExactCountStuckSpec : ChangeSpec := { name := "fnExactCountStuck", fn := fun _ => fun
  | [d1, d2, d3, d4] => { results := [.lit (.bool true)], args := [d1, d2, d3, d4] }
  | _ => none }
def fnExactCountStuckRow : OpenClaim := { program := "ytcndlfoodbmgbaa", sum := "3b91ea47e10ebd902117e89a41d7d893b4aa3f411fb8c3a41569d8172b617640", func := "loop.example/g01271/laws.FnExactCountStuck", spec := "fnExactCountStuck", inPlace := ["internal/bytealg.IndexByteString"], unfollowed := true, recurses := true, apart := false }
def FnExactCountStuckSaid : Prop := fnExactCountStuckRow.holds Try.pinned (OpenSpec.ofChange fnExactCountStuckSpec)

/-- ITS FALSE NEIGHBOUR: 'it returns false'. Refute it at one input. -/
def fnExactCountStuckWrong : ChangeSpec := { name := "fnExactCountStuck", fn := fun _ => fun
  | [d1, d2, d3, d4] => { results := [.lit (.bool false)], args := [d1, d2, d3, d4] }
  | _ => none }
def FnExactCountStuckWrongFalsely : Prop := fnExactCountStuckRow.holds Try.pinned (OpenSpec.ofChange fnExactCountStuckWrong)

/-- 'laws.FnExactBothWays': WHATEVER THE INPUT: true; the input reads as it did. -/
def fnExactBothWaysSpec : ChangeSpec := { name := "fnExactBothWays", fn := fun _ => fun
  | [d1, d2] => { results := [.lit (.bool true)], args := [d1, d2] }
  | _ => none }
def fnExactBothWaysRow : OpenClaim := { program := "ytcndlfoodbmgbaa", sum := "3b91ea47e10ebd902117e89a41d7d893b4aa3f411fb8c3a41569d8172b617640", func := "loop.example/g01271/laws.FnExactBothWays", spec := "fnExactBothWays", inPlace := ["internal/bytealg.IndexByteString"], unfollowed := true, recurses := true, apart := false }
def FnExactBothWaysSaid : Prop := fnExactBothWaysRow.holds Try.pinned (OpenSpec.ofChange fnExactBothWaysSpec)

/-- ITS FALSE NEIGHBOUR: 'it returns false'. Refute it at one input. -/
def fnExactBothWaysWrong : ChangeSpec := { name := "fnExactBothWays", fn := fun _ => fun
  | [d1, d2] => { results := [.lit (.bool false)], args := [d1, d2] }
  | _ => none }
def FnExactBothWaysWrongFalsely : Prop := fnExactBothWaysRow.holds Try.pinned (OpenSpec.ofChange fnExactBothWaysWrong)

/-- 'laws.FnExactPartsByRule': WHATEVER THE INPUT: true; the input reads as it did. -/
def fnExactPartsByRuleSpec : ChangeSpec := { name := "fnExactPartsByRule", fn := fun _ => fun
  | [d1, d2, d3, d4] => { results := [.lit (.bool true)], args := [d1, d2, d3, d4] }
  | _ => none }
def fnExactPartsByRuleRow : OpenClaim := { program := "ytcndlfoodbmgbaa", sum := "3b91ea47e10ebd902117e89a41d7d893b4aa3f411fb8c3a41569d8172b617640", func := "loop.example/g01271/laws.FnExactPartsByRule", spec := "fnExactPartsByRule", inPlace := ["internal/bytealg.IndexByteString"], unfollowed := true, recurses := true, apart := false }
def FnExactPartsByRuleSaid : Prop := fnExactPartsByRuleRow.holds Try.pinned (OpenSpec.ofChange fnExactPartsByRuleSpec)

/-- ITS FALSE NEIGHBOUR: 'it returns false'. Refute it at one input. -/
def fnExactPartsByRuleWrong : ChangeSpec := { name := "fnExactPartsByRule", fn := fun _ => fun
  | [d1, d2, d3, d4] => { results := [.lit (.bool false)], args := [d1, d2, d3, d4] }
  | _ => none }
def FnExactPartsByRuleWrongFalsely : Prop := fnExactPartsByRuleRow.holds Try.pinned (OpenSpec.ofChange fnExactPartsByRuleWrong)

/-- 'laws.FnExactPlayByRule': WHATEVER THE INPUT: true; the input reads as it did. -/
def fnExactPlayByRuleSpec : ChangeSpec := { name := "fnExactPlayByRule", fn := fun _ => fun
  | [d1, d2, d3] => { results := [.lit (.bool true)], args := [d1, d2, d3] }
  | _ => none }
def fnExactPlayByRuleRow : OpenClaim := { program := "ytcndlfoodbmgbaa", sum := "3b91ea47e10ebd902117e89a41d7d893b4aa3f411fb8c3a41569d8172b617640", func := "loop.example/g01271/laws.FnExactPlayByRule", spec := "fnExactPlayByRule", inPlace := ["internal/bytealg.IndexByteString"], unfollowed := true, recurses := true, apart := false }
def FnExactPlayByRuleSaid : Prop := fnExactPlayByRuleRow.holds Try.pinned (OpenSpec.ofChange fnExactPlayByRuleSpec)

/-- ITS FALSE NEIGHBOUR: 'it returns false'. Refute it at one input. -/
def fnExactPlayByRuleWrong : ChangeSpec := { name := "fnExactPlayByRule", fn := fun _ => fun
  | [d1, d2, d3] => { results := [.lit (.bool false)], args := [d1, d2, d3] }
  | _ => none }
def FnExactPlayByRuleWrongFalsely : Prop := fnExactPlayByRuleRow.holds Try.pinned (OpenSpec.ofChange fnExactPlayByRuleWrong)

/-- 'laws.FnExactRuleText': WHATEVER THE INPUT: true; the input reads as it did. -/
def fnExactRuleTextSpec : ChangeSpec := { name := "fnExactRuleText", fn := fun _ => fun
  | [d] => { results := [.lit (.bool true)], args := [d] }
  | _ => none }
def fnExactRuleTextRow : OpenClaim := { program := "ytcndlfoodbmgbaa", sum := "3b91ea47e10ebd902117e89a41d7d893b4aa3f411fb8c3a41569d8172b617640", func := "loop.example/g01271/laws.FnExactRuleText", spec := "fnExactRuleText", apart := false }
def FnExactRuleTextSaid : Prop := fnExactRuleTextRow.holds Try.pinned (OpenSpec.ofChange fnExactRuleTextSpec)

/-- ITS FALSE NEIGHBOUR: 'it returns false'. Refute it at one input. -/
def fnExactRuleTextWrong : ChangeSpec := { name := "fnExactRuleText", fn := fun _ => fun
  | [d] => { results := [.lit (.bool false)], args := [d] }
  | _ => none }
def FnExactRuleTextWrongFalsely : Prop := fnExactRuleTextRow.holds Try.pinned (OpenSpec.ofChange fnExactRuleTextWrong)

/-- 'laws.FnExactParseRule': WHATEVER THE INPUT: true; the input reads as it did. -/
def fnExactParseRuleSpec : ChangeSpec := { name := "fnExactParseRule", fn := fun _ => fun
  | [d] => { results := [.lit (.bool true)], args := [d] }
  | _ => none }
def fnExactParseRuleRow : OpenClaim := { program := "ytcndlfoodbmgbaa", sum := "3b91ea47e10ebd902117e89a41d7d893b4aa3f411fb8c3a41569d8172b617640", func := "loop.example/g01271/laws.FnExactParseRule", spec := "fnExactParseRule", inPlace := ["internal/bytealg.IndexByteString", "internal/bytealg.IndexString"], named := ["internal/bytealg.MaxLen"], apart := false }
def FnExactParseRuleSaid : Prop := fnExactParseRuleRow.holds Try.pinned (OpenSpec.ofChange fnExactParseRuleSpec)

/-- ITS FALSE NEIGHBOUR: 'it returns false'. Refute it at one input. -/
def fnExactParseRuleWrong : ChangeSpec := { name := "fnExactParseRule", fn := fun _ => fun
  | [d] => { results := [.lit (.bool false)], args := [d] }
  | _ => none }
def FnExactParseRuleWrongFalsely : Prop := fnExactParseRuleRow.holds Try.pinned (OpenSpec.ofChange fnExactParseRuleWrong)

/- THE SECOND FORM. 'bulk': how many values and letters a reading holds, each counted each time it is reached (what is shared counts as often as it is met; a slice's spare places count too). A statement '..UptoSaid' is the law's where the arguments, and the package variables that the reading takes, are together of bulk at most 1048576: NARROWER than '..Said'. Prove '..Said' where nothing that the law and all that it calls make is longer than what came in: it says more and counts as full. Else prove '..UptoSaid'. A law counts once. -/
mutual
def uptoBulk {H : Type} : DataW H → Nat
  | .lit (.string bytes) => bytes.length + 1
  | .lit _ => 1
  | .nil => 1
  | .ptr d => uptoBulk d + 1
  | .slice elems spare => uptoBulkAll elems + uptoBulkAll spare + 1
  | .agg parts => uptoBulkAll parts + 1
  | .iface _ d => uptoBulk d + 1
  | .map entries => uptoBulkEntries entries + 1
  | .held _ => 1
def uptoBulkAll {H : Type} : List (DataW H) → Nat
  | [] => 0
  | d :: r => uptoBulk d + uptoBulkAll r
def uptoBulkEntries {H : Type} : List (Lit × DataW H) → Nat
  | [] => 0
  | x :: r => uptoBulkEntry x + uptoBulkEntries r
def uptoBulkEntry {H : Type} : Lit × DataW H → Nat
  | (.string bytes, d) => bytes.length + uptoBulk d + 1
  | (_, d) => uptoBulk d + 1
 end
def uptoSmall : (H : Type) → List (DataW H) → Bool := fun _ ds => decide (uptoBulkAll ds ≤ 1048576)
def OpenSpec.upto (s : _root_.Go.ChangeSpec) : _root_.Go.OpenSpec := { _root_.Go.OpenSpec.ofChange s with cond := some uptoSmall }

/-- 'laws.FnExactRuleMoves', WHERE WHAT IT READS IS OF BULK AT MOST 1048576: true; the input reads as it did. -/
def fnExactRuleMovesUptoRow : OpenClaim := { program := "ytcndlfoodbmgbaa", sum := "3b91ea47e10ebd902117e89a41d7d893b4aa3f411fb8c3a41569d8172b617640", func := "loop.example/g01271/laws.FnExactRuleMoves", spec := "fnExactRuleMoves", inPlace := ["internal/bytealg.IndexByteString"], unfollowed := true, recurses := true, apart := false, narrowed := true }
def FnExactRuleMovesUptoSaid : Prop := fnExactRuleMovesUptoRow.holds Try.pinned (OpenSpec.upto fnExactRuleMovesSpec)

/-- 'laws.FnExactCanByRule', WHERE WHAT IT READS IS OF BULK AT MOST 1048576: true; the input reads as it did. -/
def fnExactCanByRuleUptoRow : OpenClaim := { program := "ytcndlfoodbmgbaa", sum := "3b91ea47e10ebd902117e89a41d7d893b4aa3f411fb8c3a41569d8172b617640", func := "loop.example/g01271/laws.FnExactCanByRule", spec := "fnExactCanByRule", inPlace := ["internal/bytealg.IndexByteString"], unfollowed := true, recurses := true, apart := false, narrowed := true }
def FnExactCanByRuleUptoSaid : Prop := fnExactCanByRuleUptoRow.holds Try.pinned (OpenSpec.upto fnExactCanByRuleSpec)

/-- 'laws.FnExactMakeByRule', WHERE WHAT IT READS IS OF BULK AT MOST 1048576: true; the input reads as it did. -/
def fnExactMakeByRuleUptoRow : OpenClaim := { program := "ytcndlfoodbmgbaa", sum := "3b91ea47e10ebd902117e89a41d7d893b4aa3f411fb8c3a41569d8172b617640", func := "loop.example/g01271/laws.FnExactMakeByRule", spec := "fnExactMakeByRule", inPlace := ["internal/bytealg.IndexByteString"], unfollowed := true, recurses := true, apart := false, narrowed := true }
def FnExactMakeByRuleUptoSaid : Prop := fnExactMakeByRuleUptoRow.holds Try.pinned (OpenSpec.upto fnExactMakeByRuleSpec)

/-- 'laws.FnExactShortestByRule', WHERE WHAT IT READS IS OF BULK AT MOST 1048576: true; the input reads as it did. -/
def fnExactShortestByRuleUptoRow : OpenClaim := { program := "ytcndlfoodbmgbaa", sum := "3b91ea47e10ebd902117e89a41d7d893b4aa3f411fb8c3a41569d8172b617640", func := "loop.example/g01271/laws.FnExactShortestByRule", spec := "fnExactShortestByRule", inPlace := ["internal/bytealg.IndexByteString"], unfollowed := true, recurses := true, apart := false, narrowed := true }
def FnExactShortestByRuleUptoSaid : Prop := fnExactShortestByRuleUptoRow.holds Try.pinned (OpenSpec.upto fnExactShortestByRuleSpec)

/-- 'laws.FnExactFirstShortest', WHERE WHAT IT READS IS OF BULK AT MOST 1048576: true; the input reads as it did. -/
def fnExactFirstShortestUptoRow : OpenClaim := { program := "ytcndlfoodbmgbaa", sum := "3b91ea47e10ebd902117e89a41d7d893b4aa3f411fb8c3a41569d8172b617640", func := "loop.example/g01271/laws.FnExactFirstShortest", spec := "fnExactFirstShortest", inPlace := ["internal/bytealg.IndexByteString"], unfollowed := true, recurses := true, apart := false, narrowed := true }
def FnExactFirstShortestUptoSaid : Prop := fnExactFirstShortestUptoRow.holds Try.pinned (OpenSpec.upto fnExactFirstShortestSpec)

/-- 'laws.FnExactCountReachedByRule', WHERE WHAT IT READS IS OF BULK AT MOST 1048576: true; the input reads as it did. -/
def fnExactCountReachedByRuleUptoRow : OpenClaim := { program := "ytcndlfoodbmgbaa", sum := "3b91ea47e10ebd902117e89a41d7d893b4aa3f411fb8c3a41569d8172b617640", func := "loop.example/g01271/laws.FnExactCountReachedByRule", spec := "fnExactCountReachedByRule", inPlace := ["internal/bytealg.IndexByteString"], unfollowed := true, recurses := true, apart := false, narrowed := true }
def FnExactCountReachedByRuleUptoSaid : Prop := fnExactCountReachedByRuleUptoRow.holds Try.pinned (OpenSpec.upto fnExactCountReachedByRuleSpec)

/-- 'laws.FnExactReachByRule', WHERE WHAT IT READS IS OF BULK AT MOST 1048576: true; the input reads as it did. -/
def fnExactReachByRuleUptoRow : OpenClaim := { program := "ytcndlfoodbmgbaa", sum := "3b91ea47e10ebd902117e89a41d7d893b4aa3f411fb8c3a41569d8172b617640", func := "loop.example/g01271/laws.FnExactReachByRule", spec := "fnExactReachByRule", inPlace := ["internal/bytealg.IndexByteString"], unfollowed := true, recurses := true, apart := false, narrowed := true }
def FnExactReachByRuleUptoSaid : Prop := fnExactReachByRuleUptoRow.holds Try.pinned (OpenSpec.upto fnExactReachByRuleSpec)

/-- 'laws.FnExactFewestToExchange', WHERE WHAT IT READS IS OF BULK AT MOST 1048576: true; the input reads as it did. -/
def fnExactFewestToExchangeUptoRow : OpenClaim := { program := "ytcndlfoodbmgbaa", sum := "3b91ea47e10ebd902117e89a41d7d893b4aa3f411fb8c3a41569d8172b617640", func := "loop.example/g01271/laws.FnExactFewestToExchange", spec := "fnExactFewestToExchange", inPlace := ["internal/abi.NoEscape", "internal/bytealg.MakeNoZero", "internal/bytealg.IndexByteString", "internal/bytealg.CountString", "internal/bytealg.IndexString"], unfollowed := true, recurses := true, named := ["internal/bytealg.MaxLen"], apart := false, narrowed := true }
def FnExactFewestToExchangeUptoSaid : Prop := fnExactFewestToExchangeUptoRow.holds Try.pinned (OpenSpec.upto fnExactFewestToExchangeSpec)

/-- 'laws.FnExactFarthestByRule', WHERE WHAT IT READS IS OF BULK AT MOST 1048576: true; the input reads as it did. -/
def fnExactFarthestByRuleUptoRow : OpenClaim := { program := "ytcndlfoodbmgbaa", sum := "3b91ea47e10ebd902117e89a41d7d893b4aa3f411fb8c3a41569d8172b617640", func := "loop.example/g01271/laws.FnExactFarthestByRule", spec := "fnExactFarthestByRule", inPlace := ["internal/bytealg.IndexByteString"], unfollowed := true, recurses := true, apart := false, narrowed := true }
def FnExactFarthestByRuleUptoSaid : Prop := fnExactFarthestByRuleUptoRow.holds Try.pinned (OpenSpec.upto fnExactFarthestByRuleSpec)

/-- 'laws.FnExactCountStuck', WHERE WHAT IT READS IS OF BULK AT MOST 1048576: true; the input reads as it did. -/
def fnExactCountStuckUptoRow : OpenClaim := { program := "ytcndlfoodbmgbaa", sum := "3b91ea47e10ebd902117e89a41d7d893b4aa3f411fb8c3a41569d8172b617640", func := "loop.example/g01271/laws.FnExactCountStuck", spec := "fnExactCountStuck", inPlace := ["internal/bytealg.IndexByteString"], unfollowed := true, recurses := true, apart := false, narrowed := true }
def FnExactCountStuckUptoSaid : Prop := fnExactCountStuckUptoRow.holds Try.pinned (OpenSpec.upto fnExactCountStuckSpec)

/-- 'laws.FnExactBothWays', WHERE WHAT IT READS IS OF BULK AT MOST 1048576: true; the input reads as it did. -/
def fnExactBothWaysUptoRow : OpenClaim := { program := "ytcndlfoodbmgbaa", sum := "3b91ea47e10ebd902117e89a41d7d893b4aa3f411fb8c3a41569d8172b617640", func := "loop.example/g01271/laws.FnExactBothWays", spec := "fnExactBothWays", inPlace := ["internal/bytealg.IndexByteString"], unfollowed := true, recurses := true, apart := false, narrowed := true }
def FnExactBothWaysUptoSaid : Prop := fnExactBothWaysUptoRow.holds Try.pinned (OpenSpec.upto fnExactBothWaysSpec)

/-- 'laws.FnExactPartsByRule', WHERE WHAT IT READS IS OF BULK AT MOST 1048576: true; the input reads as it did. -/
def fnExactPartsByRuleUptoRow : OpenClaim := { program := "ytcndlfoodbmgbaa", sum := "3b91ea47e10ebd902117e89a41d7d893b4aa3f411fb8c3a41569d8172b617640", func := "loop.example/g01271/laws.FnExactPartsByRule", spec := "fnExactPartsByRule", inPlace := ["internal/bytealg.IndexByteString"], unfollowed := true, recurses := true, apart := false, narrowed := true }
def FnExactPartsByRuleUptoSaid : Prop := fnExactPartsByRuleUptoRow.holds Try.pinned (OpenSpec.upto fnExactPartsByRuleSpec)

/-- 'laws.FnExactPlayByRule', WHERE WHAT IT READS IS OF BULK AT MOST 1048576: true; the input reads as it did. -/
def fnExactPlayByRuleUptoRow : OpenClaim := { program := "ytcndlfoodbmgbaa", sum := "3b91ea47e10ebd902117e89a41d7d893b4aa3f411fb8c3a41569d8172b617640", func := "loop.example/g01271/laws.FnExactPlayByRule", spec := "fnExactPlayByRule", inPlace := ["internal/bytealg.IndexByteString"], unfollowed := true, recurses := true, apart := false, narrowed := true }
def FnExactPlayByRuleUptoSaid : Prop := fnExactPlayByRuleUptoRow.holds Try.pinned (OpenSpec.upto fnExactPlayByRuleSpec)

/-- 'laws.FnExactRuleText', WHERE WHAT IT READS IS OF BULK AT MOST 1048576: true; the input reads as it did. -/
def fnExactRuleTextUptoRow : OpenClaim := { program := "ytcndlfoodbmgbaa", sum := "3b91ea47e10ebd902117e89a41d7d893b4aa3f411fb8c3a41569d8172b617640", func := "loop.example/g01271/laws.FnExactRuleText", spec := "fnExactRuleText", apart := false, narrowed := true }
def FnExactRuleTextUptoSaid : Prop := fnExactRuleTextUptoRow.holds Try.pinned (OpenSpec.upto fnExactRuleTextSpec)

/-- 'laws.FnExactParseRule', WHERE WHAT IT READS IS OF BULK AT MOST 1048576: true; the input reads as it did. -/
def fnExactParseRuleUptoRow : OpenClaim := { program := "ytcndlfoodbmgbaa", sum := "3b91ea47e10ebd902117e89a41d7d893b4aa3f411fb8c3a41569d8172b617640", func := "loop.example/g01271/laws.FnExactParseRule", spec := "fnExactParseRule", inPlace := ["internal/bytealg.IndexByteString", "internal/bytealg.IndexString"], named := ["internal/bytealg.MaxLen"], apart := false, narrowed := true }
def FnExactParseRuleUptoSaid : Prop := fnExactParseRuleUptoRow.holds Try.pinned (OpenSpec.upto fnExactParseRuleSpec)

end Rows
end Go.Proofs.Ytcndlfoodbmgbaa
