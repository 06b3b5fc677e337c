/-
  No cell of these rows narrows 'for every input' (looked for: loops, veiled, ifaces, maps, wideKeys, modest, calm, conditions, laid).
  DERIVED. THE GIVEN ROWS OF THIS SEAT. 15 by the template 'for every input the law returns true; each argument reads behind the call as it read before'; 0 by the template 'total and deterministic' (their statements: YtecmeppkggifeaaTotals.lean).
  GIVEN WITH THE SEED: the statements are not yours to turn. If you find one false, say at which input.
  Laid BY PROGRAM, IN A SANDBOX (cutbox-rows.mjs): the forced cells as the released guide's own fill.sh prints them over the translation 9f3e8a9abb8db7b6… (all of the seat's roots in one cut). By AI agents, Wed Nov 11 2026. No macro, syntax, notation, axiom, sorry.
-/
import Derived.Test.YtecmeppkggifeaaChecked
import GoSem.Claim
import GoSem.ClaimJoined
import GoSem.ClaimMapViews
import Derived.JoinedTies
import Derived.KernelRfl
namespace Go.Proofs.Ytecmeppkggifeaa
/- THE CELL 'sum', in the pinned program and in every row, IS THE sha256 OF THE DUMP (.gsa) THAT YtecmeppkggifeaaProg.lean LOADS. Nothing in Lean hashes anything: it is a label: what it is worth is what the hold of that sum in a sandbox is worth. -/
noncomputable def Try.pinned : Pinned := { name := "ytecmeppkggifeaa", sum := "9f3e8a9abb8db7b6da8ac106d40025001377c056424c4cfba5b15e3acf2f9e05", checked := Try.checked }
namespace Rows
def none {H : Type} : Left H := { results := [], args := [] }

/-- 'laws.FnExactWinsMoving': WHATEVER THE INPUT: true; the input reads as it did. -/
def fnExactWinsMovingSpec : ChangeSpec := { name := "fnExactWinsMoving", fn := fun _ => fun
  | [d1, d2] => { results := [.lit (.bool true)], args := [d1, d2] }
  | _ => none }
def fnExactWinsMovingRow : OpenClaim := { program := "ytecmeppkggifeaa", sum := "9f3e8a9abb8db7b6da8ac106d40025001377c056424c4cfba5b15e3acf2f9e05", func := "loop.example/g01271/laws.FnExactWinsMoving", spec := "fnExactWinsMoving", inPlace := ["internal/bytealg.IndexByteString", "internal/abi.NoEscape", "internal/bytealg.MakeNoZero"], unfollowed := true, recurses := true, plainKeys := false, apart := false }
def FnExactWinsMovingSaid : Prop := fnExactWinsMovingRow.holds Try.pinned (OpenSpec.ofChange fnExactWinsMovingSpec)

/-- ITS FALSE NEIGHBOUR: 'it returns false'. Refute it at one input. -/
def fnExactWinsMovingWrong : ChangeSpec := { name := "fnExactWinsMoving", fn := fun _ => fun
  | [d1, d2] => { results := [.lit (.bool false)], args := [d1, d2] }
  | _ => none }
def FnExactWinsMovingWrongFalsely : Prop := fnExactWinsMovingRow.holds Try.pinned (OpenSpec.ofChange fnExactWinsMovingWrong)

/-- 'laws.FnExactOutcomeOf': WHATEVER THE INPUT: true; the input reads as it did. -/
def fnExactOutcomeOfSpec : ChangeSpec := { name := "fnExactOutcomeOf", fn := fun _ => fun
  | [d] => { results := [.lit (.bool true)], args := [d] }
  | _ => none }
def fnExactOutcomeOfRow : OpenClaim := { program := "ytecmeppkggifeaa", sum := "9f3e8a9abb8db7b6da8ac106d40025001377c056424c4cfba5b15e3acf2f9e05", func := "loop.example/g01271/laws.FnExactOutcomeOf", spec := "fnExactOutcomeOf", inPlace := ["internal/bytealg.IndexByteString", "internal/abi.NoEscape", "internal/bytealg.MakeNoZero"], unfollowed := true, recurses := true, plainKeys := false, apart := false }
def FnExactOutcomeOfSaid : Prop := fnExactOutcomeOfRow.holds Try.pinned (OpenSpec.ofChange fnExactOutcomeOfSpec)

/-- ITS FALSE NEIGHBOUR: 'it returns false'. Refute it at one input. -/
def fnExactOutcomeOfWrong : ChangeSpec := { name := "fnExactOutcomeOf", fn := fun _ => fun
  | [d] => { results := [.lit (.bool false)], args := [d] }
  | _ => none }
def FnExactOutcomeOfWrongFalsely : Prop := fnExactOutcomeOfRow.holds Try.pinned (OpenSpec.ofChange fnExactOutcomeOfWrong)

/-- 'laws.FnExactBestMoves': WHATEVER THE INPUT: true; the input reads as it did. -/
def fnExactBestMovesSpec : ChangeSpec := { name := "fnExactBestMoves", fn := fun _ => fun
  | [d1, d2] => { results := [.lit (.bool true)], args := [d1, d2] }
  | _ => none }
def fnExactBestMovesRow : OpenClaim := { program := "ytecmeppkggifeaa", sum := "9f3e8a9abb8db7b6da8ac106d40025001377c056424c4cfba5b15e3acf2f9e05", func := "loop.example/g01271/laws.FnExactBestMoves", spec := "fnExactBestMoves", inPlace := ["internal/bytealg.IndexByteString", "internal/abi.NoEscape", "internal/bytealg.MakeNoZero"], unfollowed := true, recurses := true, plainKeys := false, apart := false }
def FnExactBestMovesSaid : Prop := fnExactBestMovesRow.holds Try.pinned (OpenSpec.ofChange fnExactBestMovesSpec)

/-- ITS FALSE NEIGHBOUR: 'it returns false'. Refute it at one input. -/
def fnExactBestMovesWrong : ChangeSpec := { name := "fnExactBestMoves", fn := fun _ => fun
  | [d1, d2] => { results := [.lit (.bool false)], args := [d1, d2] }
  | _ => none }
def FnExactBestMovesWrongFalsely : Prop := fnExactBestMovesRow.holds Try.pinned (OpenSpec.ofChange fnExactBestMovesWrong)

/-- 'laws.FnExactGameMove': WHATEVER THE INPUT: true; the input reads as it did. -/
def fnExactGameMoveSpec : ChangeSpec := { name := "fnExactGameMove", fn := fun _ => fun
  | [d1, d2] => { results := [.lit (.bool true)], args := [d1, d2] }
  | _ => none }
def fnExactGameMoveRow : OpenClaim := { program := "ytecmeppkggifeaa", sum := "9f3e8a9abb8db7b6da8ac106d40025001377c056424c4cfba5b15e3acf2f9e05", func := "loop.example/g01271/laws.FnExactGameMove", spec := "fnExactGameMove", inPlace := ["internal/bytealg.IndexByteString", "internal/abi.NoEscape", "internal/bytealg.MakeNoZero"], unfollowed := true, recurses := true, plainKeys := false, apart := false }
def FnExactGameMoveSaid : Prop := fnExactGameMoveRow.holds Try.pinned (OpenSpec.ofChange fnExactGameMoveSpec)

/-- ITS FALSE NEIGHBOUR: 'it returns false'. Refute it at one input. -/
def fnExactGameMoveWrong : ChangeSpec := { name := "fnExactGameMove", fn := fun _ => fun
  | [d1, d2] => { results := [.lit (.bool false)], args := [d1, d2] }
  | _ => none }
def FnExactGameMoveWrongFalsely : Prop := fnExactGameMoveRow.holds Try.pinned (OpenSpec.ofChange fnExactGameMoveWrong)

/-- 'laws.FnExactGamePlay': WHATEVER THE INPUT: true; the input reads as it did. -/
def fnExactGamePlaySpec : ChangeSpec := { name := "fnExactGamePlay", fn := fun _ => fun
  | [d1, d2] => { results := [.lit (.bool true)], args := [d1, d2] }
  | _ => none }
def fnExactGamePlayRow : OpenClaim := { program := "ytecmeppkggifeaa", sum := "9f3e8a9abb8db7b6da8ac106d40025001377c056424c4cfba5b15e3acf2f9e05", func := "loop.example/g01271/laws.FnExactGamePlay", spec := "fnExactGamePlay", inPlace := ["internal/bytealg.IndexByteString", "internal/abi.NoEscape", "internal/bytealg.MakeNoZero"], unfollowed := true, recurses := true, plainKeys := false, apart := false }
def FnExactGamePlaySaid : Prop := fnExactGamePlayRow.holds Try.pinned (OpenSpec.ofChange fnExactGamePlaySpec)

/-- ITS FALSE NEIGHBOUR: 'it returns false'. Refute it at one input. -/
def fnExactGamePlayWrong : ChangeSpec := { name := "fnExactGamePlay", fn := fun _ => fun
  | [d1, d2] => { results := [.lit (.bool false)], args := [d1, d2] }
  | _ => none }
def FnExactGamePlayWrongFalsely : Prop := fnExactGamePlayRow.holds Try.pinned (OpenSpec.ofChange fnExactGamePlayWrong)

/-- 'laws.FnExactWinsSum': WHATEVER THE INPUT: true; the input reads as it did. -/
def fnExactWinsSumSpec : ChangeSpec := { name := "fnExactWinsSum", fn := fun _ => fun
  | [d1, d2] => { results := [.lit (.bool true)], args := [d1, d2] }
  | _ => none }
def fnExactWinsSumRow : OpenClaim := { program := "ytecmeppkggifeaa", sum := "9f3e8a9abb8db7b6da8ac106d40025001377c056424c4cfba5b15e3acf2f9e05", func := "loop.example/g01271/laws.FnExactWinsSum", spec := "fnExactWinsSum", inPlace := ["internal/bytealg.IndexByteString", "internal/abi.NoEscape", "internal/bytealg.MakeNoZero"], unfollowed := true, recurses := true, plainKeys := false, apart := false }
def FnExactWinsSumSaid : Prop := fnExactWinsSumRow.holds Try.pinned (OpenSpec.ofChange fnExactWinsSumSpec)

/-- ITS FALSE NEIGHBOUR: 'it returns false'. Refute it at one input. -/
def fnExactWinsSumWrong : ChangeSpec := { name := "fnExactWinsSum", fn := fun _ => fun
  | [d1, d2] => { results := [.lit (.bool false)], args := [d1, d2] }
  | _ => none }
def FnExactWinsSumWrongFalsely : Prop := fnExactWinsSumRow.holds Try.pinned (OpenSpec.ofChange fnExactWinsSumWrong)

/-- 'laws.FnExactOutcomeOfSum': WHATEVER THE INPUT: true; the input reads as it did. -/
def fnExactOutcomeOfSumSpec : ChangeSpec := { name := "fnExactOutcomeOfSum", fn := fun _ => fun
  | [d] => { results := [.lit (.bool true)], args := [d] }
  | _ => none }
def fnExactOutcomeOfSumRow : OpenClaim := { program := "ytecmeppkggifeaa", sum := "9f3e8a9abb8db7b6da8ac106d40025001377c056424c4cfba5b15e3acf2f9e05", func := "loop.example/g01271/laws.FnExactOutcomeOfSum", spec := "fnExactOutcomeOfSum", inPlace := ["internal/bytealg.IndexByteString", "internal/abi.NoEscape", "internal/bytealg.MakeNoZero"], unfollowed := true, recurses := true, plainKeys := false, apart := false }
def FnExactOutcomeOfSumSaid : Prop := fnExactOutcomeOfSumRow.holds Try.pinned (OpenSpec.ofChange fnExactOutcomeOfSumSpec)

/-- ITS FALSE NEIGHBOUR: 'it returns false'. Refute it at one input. -/
def fnExactOutcomeOfSumWrong : ChangeSpec := { name := "fnExactOutcomeOfSum", fn := fun _ => fun
  | [d] => { results := [.lit (.bool false)], args := [d] }
  | _ => none }
def FnExactOutcomeOfSumWrongFalsely : Prop := fnExactOutcomeOfSumRow.holds Try.pinned (OpenSpec.ofChange fnExactOutcomeOfSumWrong)

/-- 'laws.FnExactIsNothing': WHATEVER THE INPUT: true; the input reads as it did. -/
def fnExactIsNothingSpec : ChangeSpec := { name := "fnExactIsNothing", fn := fun _ => fun
  | [d] => { results := [.lit (.bool true)], args := [d] }
  | _ => none }
def fnExactIsNothingRow : OpenClaim := { program := "ytecmeppkggifeaa", sum := "9f3e8a9abb8db7b6da8ac106d40025001377c056424c4cfba5b15e3acf2f9e05", func := "loop.example/g01271/laws.FnExactIsNothing", spec := "fnExactIsNothing", inPlace := ["internal/bytealg.IndexByteString", "internal/abi.NoEscape", "internal/bytealg.MakeNoZero"], unfollowed := true, recurses := true, plainKeys := false, apart := false }
def FnExactIsNothingSaid : Prop := fnExactIsNothingRow.holds Try.pinned (OpenSpec.ofChange fnExactIsNothingSpec)

/-- ITS FALSE NEIGHBOUR: 'it returns false'. Refute it at one input. -/
def fnExactIsNothingWrong : ChangeSpec := { name := "fnExactIsNothing", fn := fun _ => fun
  | [d] => { results := [.lit (.bool false)], args := [d] }
  | _ => none }
def FnExactIsNothingWrongFalsely : Prop := fnExactIsNothingRow.holds Try.pinned (OpenSpec.ofChange fnExactIsNothingWrong)

/-- 'laws.FnExactCompareGames': WHATEVER THE INPUT: true; the input reads as it did. -/
def fnExactCompareGamesSpec : ChangeSpec := { name := "fnExactCompareGames", fn := fun _ => fun
  | [d1, d2] => { results := [.lit (.bool true)], args := [d1, d2] }
  | _ => none }
def fnExactCompareGamesRow : OpenClaim := { program := "ytecmeppkggifeaa", sum := "9f3e8a9abb8db7b6da8ac106d40025001377c056424c4cfba5b15e3acf2f9e05", func := "loop.example/g01271/laws.FnExactCompareGames", spec := "fnExactCompareGames", inPlace := ["internal/bytealg.IndexByteString", "internal/abi.NoEscape", "internal/bytealg.MakeNoZero"], unfollowed := true, recurses := true, plainKeys := false, apart := false }
def FnExactCompareGamesSaid : Prop := fnExactCompareGamesRow.holds Try.pinned (OpenSpec.ofChange fnExactCompareGamesSpec)

/-- ITS FALSE NEIGHBOUR: 'it returns false'. Refute it at one input. -/
def fnExactCompareGamesWrong : ChangeSpec := { name := "fnExactCompareGames", fn := fun _ => fun
  | [d1, d2] => { results := [.lit (.bool false)], args := [d1, d2] }
  | _ => none }
def FnExactCompareGamesWrongFalsely : Prop := fnExactCompareGamesRow.holds Try.pinned (OpenSpec.ofChange fnExactCompareGamesWrong)

/-- 'laws.FnExactWholeValue': WHATEVER THE INPUT: true; the input reads as it did. -/
def fnExactWholeValueSpec : ChangeSpec := { name := "fnExactWholeValue", fn := fun _ => fun
  | [d] => { results := [.lit (.bool true)], args := [d] }
  | _ => none }
def fnExactWholeValueRow : OpenClaim := { program := "ytecmeppkggifeaa", sum := "9f3e8a9abb8db7b6da8ac106d40025001377c056424c4cfba5b15e3acf2f9e05", func := "loop.example/g01271/laws.FnExactWholeValue", spec := "fnExactWholeValue", inPlace := ["internal/bytealg.IndexByteString", "internal/abi.NoEscape", "internal/bytealg.MakeNoZero"], unfollowed := true, recurses := true, plainKeys := false, apart := false }
def FnExactWholeValueSaid : Prop := fnExactWholeValueRow.holds Try.pinned (OpenSpec.ofChange fnExactWholeValueSpec)

/-- ITS FALSE NEIGHBOUR: 'it returns false'. Refute it at one input. -/
def fnExactWholeValueWrong : ChangeSpec := { name := "fnExactWholeValue", fn := fun _ => fun
  | [d] => { results := [.lit (.bool false)], args := [d] }
  | _ => none }
def FnExactWholeValueWrongFalsely : Prop := fnExactWholeValueRow.holds Try.pinned (OpenSpec.ofChange fnExactWholeValueWrong)

/-- 'laws.FnExactFreeMoves': WHATEVER THE INPUT: true; the input reads as it did. -/
def fnExactFreeMovesSpec : ChangeSpec := { name := "fnExactFreeMoves", fn := fun _ => fun
  | [d] => { results := [.lit (.bool true)], args := [d] }
  | _ => none }
def fnExactFreeMovesRow : OpenClaim := { program := "ytecmeppkggifeaa", sum := "9f3e8a9abb8db7b6da8ac106d40025001377c056424c4cfba5b15e3acf2f9e05", func := "loop.example/g01271/laws.FnExactFreeMoves", spec := "fnExactFreeMoves", inPlace := ["internal/bytealg.IndexByteString", "internal/abi.NoEscape", "internal/bytealg.MakeNoZero"], recurses := true, plainKeys := false, apart := false }
def FnExactFreeMovesSaid : Prop := fnExactFreeMovesRow.holds Try.pinned (OpenSpec.ofChange fnExactFreeMovesSpec)

/-- ITS FALSE NEIGHBOUR: 'it returns false'. Refute it at one input. -/
def fnExactFreeMovesWrong : ChangeSpec := { name := "fnExactFreeMoves", fn := fun _ => fun
  | [d] => { results := [.lit (.bool false)], args := [d] }
  | _ => none }
def FnExactFreeMovesWrongFalsely : Prop := fnExactFreeMovesRow.holds Try.pinned (OpenSpec.ofChange fnExactFreeMovesWrong)

/-- 'laws.FnExactCountOutcomes': WHATEVER THE INPUT: true; the input reads as it did. -/
def fnExactCountOutcomesSpec : ChangeSpec := { name := "fnExactCountOutcomes", fn := fun _ => fun
  | [d1, d2, d3] => { results := [.lit (.bool true)], args := [d1, d2, d3] }
  | _ => none }
def fnExactCountOutcomesRow : OpenClaim := { program := "ytecmeppkggifeaa", sum := "9f3e8a9abb8db7b6da8ac106d40025001377c056424c4cfba5b15e3acf2f9e05", func := "loop.example/g01271/laws.FnExactCountOutcomes", spec := "fnExactCountOutcomes", inPlace := ["internal/bytealg.IndexByteString", "internal/abi.NoEscape", "internal/bytealg.MakeNoZero"], unfollowed := true, recurses := true, plainKeys := false, apart := false }
def FnExactCountOutcomesSaid : Prop := fnExactCountOutcomesRow.holds Try.pinned (OpenSpec.ofChange fnExactCountOutcomesSpec)

/-- ITS FALSE NEIGHBOUR: 'it returns false'. Refute it at one input. -/
def fnExactCountOutcomesWrong : ChangeSpec := { name := "fnExactCountOutcomes", fn := fun _ => fun
  | [d1, d2, d3] => { results := [.lit (.bool false)], args := [d1, d2, d3] }
  | _ => none }
def FnExactCountOutcomesWrongFalsely : Prop := fnExactCountOutcomesRow.holds Try.pinned (OpenSpec.ofChange fnExactCountOutcomesWrong)

/-- 'laws.FnExactLongestGame': WHATEVER THE INPUT: true; the input reads as it did. -/
def fnExactLongestGameSpec : ChangeSpec := { name := "fnExactLongestGame", fn := fun _ => fun
  | [d1, d2] => { results := [.lit (.bool true)], args := [d1, d2] }
  | _ => none }
def fnExactLongestGameRow : OpenClaim := { program := "ytecmeppkggifeaa", sum := "9f3e8a9abb8db7b6da8ac106d40025001377c056424c4cfba5b15e3acf2f9e05", func := "loop.example/g01271/laws.FnExactLongestGame", spec := "fnExactLongestGame", inPlace := ["internal/bytealg.IndexByteString", "internal/abi.NoEscape", "internal/bytealg.MakeNoZero"], unfollowed := true, recurses := true, plainKeys := false, apart := false }
def FnExactLongestGameSaid : Prop := fnExactLongestGameRow.holds Try.pinned (OpenSpec.ofChange fnExactLongestGameSpec)

/-- ITS FALSE NEIGHBOUR: 'it returns false'. Refute it at one input. -/
def fnExactLongestGameWrong : ChangeSpec := { name := "fnExactLongestGame", fn := fun _ => fun
  | [d1, d2] => { results := [.lit (.bool false)], args := [d1, d2] }
  | _ => none }
def FnExactLongestGameWrongFalsely : Prop := fnExactLongestGameRow.holds Try.pinned (OpenSpec.ofChange fnExactLongestGameWrong)

/-- 'laws.FnExactShortestGame': WHATEVER THE INPUT: true; the input reads as it did. -/
def fnExactShortestGameSpec : ChangeSpec := { name := "fnExactShortestGame", fn := fun _ => fun
  | [d1, d2] => { results := [.lit (.bool true)], args := [d1, d2] }
  | _ => none }
def fnExactShortestGameRow : OpenClaim := { program := "ytecmeppkggifeaa", sum := "9f3e8a9abb8db7b6da8ac106d40025001377c056424c4cfba5b15e3acf2f9e05", func := "loop.example/g01271/laws.FnExactShortestGame", spec := "fnExactShortestGame", inPlace := ["internal/bytealg.IndexByteString", "internal/abi.NoEscape", "internal/bytealg.MakeNoZero"], unfollowed := true, recurses := true, plainKeys := false, apart := false }
def FnExactShortestGameSaid : Prop := fnExactShortestGameRow.holds Try.pinned (OpenSpec.ofChange fnExactShortestGameSpec)

/-- ITS FALSE NEIGHBOUR: 'it returns false'. Refute it at one input. -/
def fnExactShortestGameWrong : ChangeSpec := { name := "fnExactShortestGame", fn := fun _ => fun
  | [d1, d2] => { results := [.lit (.bool false)], args := [d1, d2] }
  | _ => none }
def FnExactShortestGameWrongFalsely : Prop := fnExactShortestGameRow.holds Try.pinned (OpenSpec.ofChange fnExactShortestGameWrong)

/-- 'laws.FnExactCountGames': WHATEVER THE INPUT: true; the input reads as it did. -/
def fnExactCountGamesSpec : ChangeSpec := { name := "fnExactCountGames", fn := fun _ => fun
  | [d1, d2] => { results := [.lit (.bool true)], args := [d1, d2] }
  | _ => none }
def fnExactCountGamesRow : OpenClaim := { program := "ytecmeppkggifeaa", sum := "9f3e8a9abb8db7b6da8ac106d40025001377c056424c4cfba5b15e3acf2f9e05", func := "loop.example/g01271/laws.FnExactCountGames", spec := "fnExactCountGames", inPlace := ["internal/bytealg.IndexByteString", "internal/abi.NoEscape", "internal/bytealg.MakeNoZero"], unfollowed := true, recurses := true, plainKeys := false, apart := false }
def FnExactCountGamesSaid : Prop := fnExactCountGamesRow.holds Try.pinned (OpenSpec.ofChange fnExactCountGamesSpec)

/-- ITS FALSE NEIGHBOUR: 'it returns false'. Refute it at one input. -/
def fnExactCountGamesWrong : ChangeSpec := { name := "fnExactCountGames", fn := fun _ => fun
  | [d1, d2] => { results := [.lit (.bool false)], args := [d1, d2] }
  | _ => none }
def FnExactCountGamesWrongFalsely : Prop := fnExactCountGamesRow.holds Try.pinned (OpenSpec.ofChange fnExactCountGamesWrong)

/- THE SECOND FORM. 'bulk': how many values and letters a reading holds, each counted each time it is reached (what is shared counts as often as it is met; a slice's spare places count too). A statement '..UptoSaid' is the law's where the arguments, and the package variables that the reading takes, are together of bulk at most 1048576: NARROWER than '..Said'. Prove '..Said' where nothing that the law and all that it calls make is longer than what came in: it says more and counts as full. Else prove '..UptoSaid'. A law counts once. -/
mutual
def uptoBulk {H : Type} : DataW H → Nat
  | .lit (.string bytes) => bytes.length + 1
  | .lit _ => 1
  | .nil => 1
  | .ptr d => uptoBulk d + 1
  | .slice elems spare => uptoBulkAll elems + uptoBulkAll spare + 1
  | .agg parts => uptoBulkAll parts + 1
  | .iface _ d => uptoBulk d + 1
  | .map entries => uptoBulkEntries entries + 1
  | .held _ => 1
def uptoBulkAll {H : Type} : List (DataW H) → Nat
  | [] => 0
  | d :: r => uptoBulk d + uptoBulkAll r
def uptoBulkEntries {H : Type} : List (Lit × DataW H) → Nat
  | [] => 0
  | x :: r => uptoBulkEntry x + uptoBulkEntries r
def uptoBulkEntry {H : Type} : Lit × DataW H → Nat
  | (.string bytes, d) => bytes.length + uptoBulk d + 1
  | (_, d) => uptoBulk d + 1
 end
def uptoSmall : (H : Type) → List (DataW H) → Bool := fun _ ds => decide (uptoBulkAll ds ≤ 1048576)
def OpenSpec.upto (s : _root_.Go.ChangeSpec) : _root_.Go.OpenSpec := { _root_.Go.OpenSpec.ofChange s with cond := some uptoSmall }

/-- 'laws.FnExactWinsMoving', WHERE WHAT IT READS IS OF BULK AT MOST 1048576: true; the input reads as it did. -/
def fnExactWinsMovingUptoRow : OpenClaim := { program := "ytecmeppkggifeaa", sum := "9f3e8a9abb8db7b6da8ac106d40025001377c056424c4cfba5b15e3acf2f9e05", func := "loop.example/g01271/laws.FnExactWinsMoving", spec := "fnExactWinsMoving", inPlace := ["internal/bytealg.IndexByteString", "internal/abi.NoEscape", "internal/bytealg.MakeNoZero"], unfollowed := true, recurses := true, plainKeys := false, apart := false, narrowed := true }
def FnExactWinsMovingUptoSaid : Prop := fnExactWinsMovingUptoRow.holds Try.pinned (OpenSpec.upto fnExactWinsMovingSpec)

/-- 'laws.FnExactOutcomeOf', WHERE WHAT IT READS IS OF BULK AT MOST 1048576: true; the input reads as it did. -/
def fnExactOutcomeOfUptoRow : OpenClaim := { program := "ytecmeppkggifeaa", sum := "9f3e8a9abb8db7b6da8ac106d40025001377c056424c4cfba5b15e3acf2f9e05", func := "loop.example/g01271/laws.FnExactOutcomeOf", spec := "fnExactOutcomeOf", inPlace := ["internal/bytealg.IndexByteString", "internal/abi.NoEscape", "internal/bytealg.MakeNoZero"], unfollowed := true, recurses := true, plainKeys := false, apart := false, narrowed := true }
def FnExactOutcomeOfUptoSaid : Prop := fnExactOutcomeOfUptoRow.holds Try.pinned (OpenSpec.upto fnExactOutcomeOfSpec)

/-- 'laws.FnExactBestMoves', WHERE WHAT IT READS IS OF BULK AT MOST 1048576: true; the input reads as it did. -/
def fnExactBestMovesUptoRow : OpenClaim := { program := "ytecmeppkggifeaa", sum := "9f3e8a9abb8db7b6da8ac106d40025001377c056424c4cfba5b15e3acf2f9e05", func := "loop.example/g01271/laws.FnExactBestMoves", spec := "fnExactBestMoves", inPlace := ["internal/bytealg.IndexByteString", "internal/abi.NoEscape", "internal/bytealg.MakeNoZero"], unfollowed := true, recurses := true, plainKeys := false, apart := false, narrowed := true }
def FnExactBestMovesUptoSaid : Prop := fnExactBestMovesUptoRow.holds Try.pinned (OpenSpec.upto fnExactBestMovesSpec)

/-- 'laws.FnExactGameMove', WHERE WHAT IT READS IS OF BULK AT MOST 1048576: true; the input reads as it did. -/
def fnExactGameMoveUptoRow : OpenClaim := { program := "ytecmeppkggifeaa", sum := "9f3e8a9abb8db7b6da8ac106d40025001377c056424c4cfba5b15e3acf2f9e05", func := "loop.example/g01271/laws.FnExactGameMove", spec := "fnExactGameMove", inPlace := ["internal/bytealg.IndexByteString", "internal/abi.NoEscape", "internal/bytealg.MakeNoZero"], unfollowed := true, recurses := true, plainKeys := false, apart := false, narrowed := true }
def FnExactGameMoveUptoSaid : Prop := fnExactGameMoveUptoRow.holds Try.pinned (OpenSpec.upto fnExactGameMoveSpec)

/-- 'laws.FnExactGamePlay', WHERE WHAT IT READS IS OF BULK AT MOST 1048576: true; the input reads as it did. -/
def fnExactGamePlayUptoRow : OpenClaim := { program := "ytecmeppkggifeaa", sum := "9f3e8a9abb8db7b6da8ac106d40025001377c056424c4cfba5b15e3acf2f9e05", func := "loop.example/g01271/laws.FnExactGamePlay", spec := "fnExactGamePlay", inPlace := ["internal/bytealg.IndexByteString", "internal/abi.NoEscape", "internal/bytealg.MakeNoZero"], unfollowed := true, recurses := true, plainKeys := false, apart := false, narrowed := true }
def FnExactGamePlayUptoSaid : Prop := fnExactGamePlayUptoRow.holds Try.pinned (OpenSpec.upto fnExactGamePlaySpec)

/-- 'laws.FnExactWinsSum', WHERE WHAT IT READS IS OF BULK AT MOST 1048576: true; the input reads as it did. -/
def fnExactWinsSumUptoRow : OpenClaim := { program := "ytecmeppkggifeaa", sum := "9f3e8a9abb8db7b6da8ac106d40025001377c056424c4cfba5b15e3acf2f9e05", func := "loop.example/g01271/laws.FnExactWinsSum", spec := "fnExactWinsSum", inPlace := ["internal/bytealg.IndexByteString", "internal/abi.NoEscape", "internal/bytealg.MakeNoZero"], unfollowed := true, recurses := true, plainKeys := false, apart := false, narrowed := true }
def FnExactWinsSumUptoSaid : Prop := fnExactWinsSumUptoRow.holds Try.pinned (OpenSpec.upto fnExactWinsSumSpec)

/-- 'laws.FnExactOutcomeOfSum', WHERE WHAT IT READS IS OF BULK AT MOST 1048576: true; the input reads as it did. -/
def fnExactOutcomeOfSumUptoRow : OpenClaim := { program := "ytecmeppkggifeaa", sum := "9f3e8a9abb8db7b6da8ac106d40025001377c056424c4cfba5b15e3acf2f9e05", func := "loop.example/g01271/laws.FnExactOutcomeOfSum", spec := "fnExactOutcomeOfSum", inPlace := ["internal/bytealg.IndexByteString", "internal/abi.NoEscape", "internal/bytealg.MakeNoZero"], unfollowed := true, recurses := true, plainKeys := false, apart := false, narrowed := true }
def FnExactOutcomeOfSumUptoSaid : Prop := fnExactOutcomeOfSumUptoRow.holds Try.pinned (OpenSpec.upto fnExactOutcomeOfSumSpec)

/-- 'laws.FnExactIsNothing', WHERE WHAT IT READS IS OF BULK AT MOST 1048576: true; the input reads as it did. -/
def fnExactIsNothingUptoRow : OpenClaim := { program := "ytecmeppkggifeaa", sum := "9f3e8a9abb8db7b6da8ac106d40025001377c056424c4cfba5b15e3acf2f9e05", func := "loop.example/g01271/laws.FnExactIsNothing", spec := "fnExactIsNothing", inPlace := ["internal/bytealg.IndexByteString", "internal/abi.NoEscape", "internal/bytealg.MakeNoZero"], unfollowed := true, recurses := true, plainKeys := false, apart := false, narrowed := true }
def FnExactIsNothingUptoSaid : Prop := fnExactIsNothingUptoRow.holds Try.pinned (OpenSpec.upto fnExactIsNothingSpec)

/-- 'laws.FnExactCompareGames', WHERE WHAT IT READS IS OF BULK AT MOST 1048576: true; the input reads as it did. -/
def fnExactCompareGamesUptoRow : OpenClaim := { program := "ytecmeppkggifeaa", sum := "9f3e8a9abb8db7b6da8ac106d40025001377c056424c4cfba5b15e3acf2f9e05", func := "loop.example/g01271/laws.FnExactCompareGames", spec := "fnExactCompareGames", inPlace := ["internal/bytealg.IndexByteString", "internal/abi.NoEscape", "internal/bytealg.MakeNoZero"], unfollowed := true, recurses := true, plainKeys := false, apart := false, narrowed := true }
def FnExactCompareGamesUptoSaid : Prop := fnExactCompareGamesUptoRow.holds Try.pinned (OpenSpec.upto fnExactCompareGamesSpec)

/-- 'laws.FnExactWholeValue', WHERE WHAT IT READS IS OF BULK AT MOST 1048576: true; the input reads as it did. -/
def fnExactWholeValueUptoRow : OpenClaim := { program := "ytecmeppkggifeaa", sum := "9f3e8a9abb8db7b6da8ac106d40025001377c056424c4cfba5b15e3acf2f9e05", func := "loop.example/g01271/laws.FnExactWholeValue", spec := "fnExactWholeValue", inPlace := ["internal/bytealg.IndexByteString", "internal/abi.NoEscape", "internal/bytealg.MakeNoZero"], unfollowed := true, recurses := true, plainKeys := false, apart := false, narrowed := true }
def FnExactWholeValueUptoSaid : Prop := fnExactWholeValueUptoRow.holds Try.pinned (OpenSpec.upto fnExactWholeValueSpec)

/-- 'laws.FnExactFreeMoves', WHERE WHAT IT READS IS OF BULK AT MOST 1048576: true; the input reads as it did. -/
def fnExactFreeMovesUptoRow : OpenClaim := { program := "ytecmeppkggifeaa", sum := "9f3e8a9abb8db7b6da8ac106d40025001377c056424c4cfba5b15e3acf2f9e05", func := "loop.example/g01271/laws.FnExactFreeMoves", spec := "fnExactFreeMoves", inPlace := ["internal/bytealg.IndexByteString", "internal/abi.NoEscape", "internal/bytealg.MakeNoZero"], recurses := true, plainKeys := false, apart := false, narrowed := true }
def FnExactFreeMovesUptoSaid : Prop := fnExactFreeMovesUptoRow.holds Try.pinned (OpenSpec.upto fnExactFreeMovesSpec)

/-- 'laws.FnExactCountOutcomes', WHERE WHAT IT READS IS OF BULK AT MOST 1048576: true; the input reads as it did. -/
def fnExactCountOutcomesUptoRow : OpenClaim := { program := "ytecmeppkggifeaa", sum := "9f3e8a9abb8db7b6da8ac106d40025001377c056424c4cfba5b15e3acf2f9e05", func := "loop.example/g01271/laws.FnExactCountOutcomes", spec := "fnExactCountOutcomes", inPlace := ["internal/bytealg.IndexByteString", "internal/abi.NoEscape", "internal/bytealg.MakeNoZero"], unfollowed := true, recurses := true, plainKeys := false, apart := false, narrowed := true }
def FnExactCountOutcomesUptoSaid : Prop := fnExactCountOutcomesUptoRow.holds Try.pinned (OpenSpec.upto fnExactCountOutcomesSpec)

/-- 'laws.FnExactLongestGame', WHERE WHAT IT READS IS OF BULK AT MOST 1048576: true; the input reads as it did. -/
def fnExactLongestGameUptoRow : OpenClaim := { program := "ytecmeppkggifeaa", sum := "9f3e8a9abb8db7b6da8ac106d40025001377c056424c4cfba5b15e3acf2f9e05", func := "loop.example/g01271/laws.FnExactLongestGame", spec := "fnExactLongestGame", inPlace := ["internal/bytealg.IndexByteString", "internal/abi.NoEscape", "internal/bytealg.MakeNoZero"], unfollowed := true, recurses := true, plainKeys := false, apart := false, narrowed := true }
def FnExactLongestGameUptoSaid : Prop := fnExactLongestGameUptoRow.holds Try.pinned (OpenSpec.upto fnExactLongestGameSpec)

/-- 'laws.FnExactShortestGame', WHERE WHAT IT READS IS OF BULK AT MOST 1048576: true; the input reads as it did. -/
def fnExactShortestGameUptoRow : OpenClaim := { program := "ytecmeppkggifeaa", sum := "9f3e8a9abb8db7b6da8ac106d40025001377c056424c4cfba5b15e3acf2f9e05", func := "loop.example/g01271/laws.FnExactShortestGame", spec := "fnExactShortestGame", inPlace := ["internal/bytealg.IndexByteString", "internal/abi.NoEscape", "internal/bytealg.MakeNoZero"], unfollowed := true, recurses := true, plainKeys := false, apart := false, narrowed := true }
def FnExactShortestGameUptoSaid : Prop := fnExactShortestGameUptoRow.holds Try.pinned (OpenSpec.upto fnExactShortestGameSpec)

/-- 'laws.FnExactCountGames', WHERE WHAT IT READS IS OF BULK AT MOST 1048576: true; the input reads as it did. -/
def fnExactCountGamesUptoRow : OpenClaim := { program := "ytecmeppkggifeaa", sum := "9f3e8a9abb8db7b6da8ac106d40025001377c056424c4cfba5b15e3acf2f9e05", func := "loop.example/g01271/laws.FnExactCountGames", spec := "fnExactCountGames", inPlace := ["internal/bytealg.IndexByteString", "internal/abi.NoEscape", "internal/bytealg.MakeNoZero"], unfollowed := true, recurses := true, plainKeys := false, apart := false, narrowed := true }
def FnExactCountGamesUptoSaid : Prop := fnExactCountGamesUptoRow.holds Try.pinned (OpenSpec.upto fnExactCountGamesSpec)

end Rows
end Go.Proofs.Ytecmeppkggifeaa
