/-
  No cell of these rows narrows 'for every input' (looked for: loops, veiled, ifaces, maps, wideKeys, modest, calm, conditions, laid).
  DERIVED. THE GIVEN ROWS OF THIS SEAT. 23 by the template 'for every input the law returns true; each argument reads behind the call as it read before'; 0 by the template 'total and deterministic' (their statements: YtfjeabepggldiaaTotals.lean).
  GIVEN WITH THE SEED: the statements are not yours to turn. If you find one false, say at which input.
  Laid BY PROGRAM, IN A SANDBOX (cutbox-rows.mjs): the forced cells as the released guide's own fill.sh prints them over the translation 1fb72193a7b73012… (all of the seat's roots in one cut). By AI agents, Wed Nov 11 2026. No macro, syntax, notation, axiom, sorry.
-/
import Derived.Test.YtfjeabepggldiaaChecked
import GoSem.Claim
import GoSem.ClaimJoined
import GoSem.ClaimMapViews
import Derived.JoinedTies
import Derived.KernelRfl
namespace Go.Proofs.Ytfjeabepggldiaa
/- THE CELL 'sum', in the pinned program and in every row, IS THE sha256 OF THE DUMP (.gsa) THAT YtfjeabepggldiaaProg.lean LOADS. Nothing in Lean hashes anything: it is a label: what it is worth is what the hold of that sum in a sandbox is worth. -/
noncomputable def Try.pinned : Pinned := { name := "ytfjeabepggldiaa", sum := "1fb72193a7b73012ef72c44617cb681375c423af23cbe9a561b65de2e4ba62e0", checked := Try.checked }
namespace Rows
def none {H : Type} : Left H := { results := [], args := [] }

/-- 'laws.FnExactIsLine': WHATEVER THE INPUT: true; the input reads as it did. -/
def fnExactIsLineSpec : ChangeSpec := { name := "fnExactIsLine", fn := fun _ => fun
  | [d] => { results := [.lit (.bool true)], args := [d] }
  | _ => none }
def fnExactIsLineRow : OpenClaim := { program := "ytfjeabepggldiaa", sum := "1fb72193a7b73012ef72c44617cb681375c423af23cbe9a561b65de2e4ba62e0", func := "loop.example/g01271/laws.FnExactIsLine", spec := "fnExactIsLine", inPlace := ["internal/bytealg.IndexByteString"], apart := false }
def FnExactIsLineSaid : Prop := fnExactIsLineRow.holds Try.pinned (OpenSpec.ofChange fnExactIsLineSpec)

/-- ITS FALSE NEIGHBOUR: 'it returns false'. Refute it at one input. -/
def fnExactIsLineWrong : ChangeSpec := { name := "fnExactIsLine", fn := fun _ => fun
  | [d] => { results := [.lit (.bool false)], args := [d] }
  | _ => none }
def FnExactIsLineWrongFalsely : Prop := fnExactIsLineRow.holds Try.pinned (OpenSpec.ofChange fnExactIsLineWrong)

/-- 'laws.FnExactFirstLine': WHATEVER THE INPUT: true; the input reads as it did. -/
def fnExactFirstLineSpec : ChangeSpec := { name := "fnExactFirstLine", fn := fun _ => fun
  | [d1, d2, d3] => { results := [.lit (.bool true)], args := [d1, d2, d3] }
  | _ => none }
def fnExactFirstLineRow : OpenClaim := { program := "ytfjeabepggldiaa", sum := "1fb72193a7b73012ef72c44617cb681375c423af23cbe9a561b65de2e4ba62e0", func := "loop.example/g01271/laws.FnExactFirstLine", spec := "fnExactFirstLine", inPlace := ["internal/abi.NoEscape", "internal/bytealg.MakeNoZero"], apart := false }
def FnExactFirstLineSaid : Prop := fnExactFirstLineRow.holds Try.pinned (OpenSpec.ofChange fnExactFirstLineSpec)

/-- ITS FALSE NEIGHBOUR: 'it returns false'. Refute it at one input. -/
def fnExactFirstLineWrong : ChangeSpec := { name := "fnExactFirstLine", fn := fun _ => fun
  | [d1, d2, d3] => { results := [.lit (.bool false)], args := [d1, d2, d3] }
  | _ => none }
def FnExactFirstLineWrongFalsely : Prop := fnExactFirstLineRow.holds Try.pinned (OpenSpec.ofChange fnExactFirstLineWrong)

/-- 'laws.FnExactLastLine': WHATEVER THE INPUT: true; the input reads as it did. -/
def fnExactLastLineSpec : ChangeSpec := { name := "fnExactLastLine", fn := fun _ => fun
  | [d] => { results := [.lit (.bool true)], args := [d] }
  | _ => none }
def fnExactLastLineRow : OpenClaim := { program := "ytfjeabepggldiaa", sum := "1fb72193a7b73012ef72c44617cb681375c423af23cbe9a561b65de2e4ba62e0", func := "loop.example/g01271/laws.FnExactLastLine", spec := "fnExactLastLine", inPlace := ["internal/bytealg.IndexByteString", "internal/bytealg.CountString", "internal/bytealg.IndexString", "internal/abi.NoEscape", "internal/bytealg.MakeNoZero"], named := ["internal/bytealg.MaxLen"], apart := false }
def FnExactLastLineSaid : Prop := fnExactLastLineRow.holds Try.pinned (OpenSpec.ofChange fnExactLastLineSpec)

/-- ITS FALSE NEIGHBOUR: 'it returns false'. Refute it at one input. -/
def fnExactLastLineWrong : ChangeSpec := { name := "fnExactLastLine", fn := fun _ => fun
  | [d] => { results := [.lit (.bool false)], args := [d] }
  | _ => none }
def FnExactLastLineWrongFalsely : Prop := fnExactLastLineRow.holds Try.pinned (OpenSpec.ofChange fnExactLastLineWrong)

/-- 'laws.FnExactCountOf': WHATEVER THE INPUT: true; the input reads as it did. -/
def fnExactCountOfSpec : ChangeSpec := { name := "fnExactCountOf", fn := fun _ => fun
  | [d] => { results := [.lit (.bool true)], args := [d] }
  | _ => none }
def fnExactCountOfRow : OpenClaim := { program := "ytfjeabepggldiaa", sum := "1fb72193a7b73012ef72c44617cb681375c423af23cbe9a561b65de2e4ba62e0", func := "loop.example/g01271/laws.FnExactCountOf", spec := "fnExactCountOf", inPlace := ["internal/bytealg.IndexByteString", "internal/bytealg.CountString", "internal/bytealg.IndexString"], named := ["internal/bytealg.MaxLen"], apart := false }
def FnExactCountOfSaid : Prop := fnExactCountOfRow.holds Try.pinned (OpenSpec.ofChange fnExactCountOfSpec)

/-- ITS FALSE NEIGHBOUR: 'it returns false'. Refute it at one input. -/
def fnExactCountOfWrong : ChangeSpec := { name := "fnExactCountOf", fn := fun _ => fun
  | [d] => { results := [.lit (.bool false)], args := [d] }
  | _ => none }
def FnExactCountOfWrongFalsely : Prop := fnExactCountOfRow.holds Try.pinned (OpenSpec.ofChange fnExactCountOfWrong)

/-- 'laws.FnExactMovesOf': WHATEVER THE INPUT: true; the input reads as it did. -/
def fnExactMovesOfSpec : ChangeSpec := { name := "fnExactMovesOf", fn := fun _ => fun
  | [d] => { results := [.lit (.bool true)], args := [d] }
  | _ => none }
def fnExactMovesOfRow : OpenClaim := { program := "ytfjeabepggldiaa", sum := "1fb72193a7b73012ef72c44617cb681375c423af23cbe9a561b65de2e4ba62e0", func := "loop.example/g01271/laws.FnExactMovesOf", spec := "fnExactMovesOf", inPlace := ["internal/bytealg.IndexByteString"], unfollowed := true, recurses := true, apart := false }
def FnExactMovesOfSaid : Prop := fnExactMovesOfRow.holds Try.pinned (OpenSpec.ofChange fnExactMovesOfSpec)

/-- ITS FALSE NEIGHBOUR: 'it returns false'. Refute it at one input. -/
def fnExactMovesOfWrong : ChangeSpec := { name := "fnExactMovesOf", fn := fun _ => fun
  | [d] => { results := [.lit (.bool false)], args := [d] }
  | _ => none }
def FnExactMovesOfWrongFalsely : Prop := fnExactMovesOfRow.holds Try.pinned (OpenSpec.ofChange fnExactMovesOfWrong)

/-- 'laws.FnExactToadMoves': WHATEVER THE INPUT: true; the input reads as it did. -/
def fnExactToadMovesSpec : ChangeSpec := { name := "fnExactToadMoves", fn := fun _ => fun
  | [d] => { results := [.lit (.bool true)], args := [d] }
  | _ => none }
def fnExactToadMovesRow : OpenClaim := { program := "ytfjeabepggldiaa", sum := "1fb72193a7b73012ef72c44617cb681375c423af23cbe9a561b65de2e4ba62e0", func := "loop.example/g01271/laws.FnExactToadMoves", spec := "fnExactToadMoves", inPlace := ["internal/bytealg.IndexByteString"], unfollowed := true, recurses := true, apart := false }
def FnExactToadMovesSaid : Prop := fnExactToadMovesRow.holds Try.pinned (OpenSpec.ofChange fnExactToadMovesSpec)

/-- ITS FALSE NEIGHBOUR: 'it returns false'. Refute it at one input. -/
def fnExactToadMovesWrong : ChangeSpec := { name := "fnExactToadMoves", fn := fun _ => fun
  | [d] => { results := [.lit (.bool false)], args := [d] }
  | _ => none }
def FnExactToadMovesWrongFalsely : Prop := fnExactToadMovesRow.holds Try.pinned (OpenSpec.ofChange fnExactToadMovesWrong)

/-- 'laws.FnExactFrogMoves': WHATEVER THE INPUT: true; the input reads as it did. -/
def fnExactFrogMovesSpec : ChangeSpec := { name := "fnExactFrogMoves", fn := fun _ => fun
  | [d] => { results := [.lit (.bool true)], args := [d] }
  | _ => none }
def fnExactFrogMovesRow : OpenClaim := { program := "ytfjeabepggldiaa", sum := "1fb72193a7b73012ef72c44617cb681375c423af23cbe9a561b65de2e4ba62e0", func := "loop.example/g01271/laws.FnExactFrogMoves", spec := "fnExactFrogMoves", inPlace := ["internal/bytealg.IndexByteString"], unfollowed := true, recurses := true, apart := false }
def FnExactFrogMovesSaid : Prop := fnExactFrogMovesRow.holds Try.pinned (OpenSpec.ofChange fnExactFrogMovesSpec)

/-- ITS FALSE NEIGHBOUR: 'it returns false'. Refute it at one input. -/
def fnExactFrogMovesWrong : ChangeSpec := { name := "fnExactFrogMoves", fn := fun _ => fun
  | [d] => { results := [.lit (.bool false)], args := [d] }
  | _ => none }
def FnExactFrogMovesWrongFalsely : Prop := fnExactFrogMovesRow.holds Try.pinned (OpenSpec.ofChange fnExactFrogMovesWrong)

/-- 'laws.FnExactCanMove': WHATEVER THE INPUT: true; the input reads as it did. -/
def fnExactCanMoveSpec : ChangeSpec := { name := "fnExactCanMove", fn := fun _ => fun
  | [d1, d2] => { results := [.lit (.bool true)], args := [d1, d2] }
  | _ => none }
def fnExactCanMoveRow : OpenClaim := { program := "ytfjeabepggldiaa", sum := "1fb72193a7b73012ef72c44617cb681375c423af23cbe9a561b65de2e4ba62e0", func := "loop.example/g01271/laws.FnExactCanMove", spec := "fnExactCanMove", inPlace := ["internal/bytealg.IndexByteString"], apart := false }
def FnExactCanMoveSaid : Prop := fnExactCanMoveRow.holds Try.pinned (OpenSpec.ofChange fnExactCanMoveSpec)

/-- ITS FALSE NEIGHBOUR: 'it returns false'. Refute it at one input. -/
def fnExactCanMoveWrong : ChangeSpec := { name := "fnExactCanMove", fn := fun _ => fun
  | [d1, d2] => { results := [.lit (.bool false)], args := [d1, d2] }
  | _ => none }
def FnExactCanMoveWrongFalsely : Prop := fnExactCanMoveRow.holds Try.pinned (OpenSpec.ofChange fnExactCanMoveWrong)

/-- 'laws.FnExactMakeMove': WHATEVER THE INPUT: true; the input reads as it did. -/
def fnExactMakeMoveSpec : ChangeSpec := { name := "fnExactMakeMove", fn := fun _ => fun
  | [d1, d2] => { results := [.lit (.bool true)], args := [d1, d2] }
  | _ => none }
def fnExactMakeMoveRow : OpenClaim := { program := "ytfjeabepggldiaa", sum := "1fb72193a7b73012ef72c44617cb681375c423af23cbe9a561b65de2e4ba62e0", func := "loop.example/g01271/laws.FnExactMakeMove", spec := "fnExactMakeMove", inPlace := ["internal/bytealg.IndexByteString"], apart := false }
def FnExactMakeMoveSaid : Prop := fnExactMakeMoveRow.holds Try.pinned (OpenSpec.ofChange fnExactMakeMoveSpec)

/-- ITS FALSE NEIGHBOUR: 'it returns false'. Refute it at one input. -/
def fnExactMakeMoveWrong : ChangeSpec := { name := "fnExactMakeMove", fn := fun _ => fun
  | [d1, d2] => { results := [.lit (.bool false)], args := [d1, d2] }
  | _ => none }
def FnExactMakeMoveWrongFalsely : Prop := fnExactMakeMoveRow.holds Try.pinned (OpenSpec.ofChange fnExactMakeMoveWrong)

/-- 'laws.FnExactIsJump': WHATEVER THE INPUT: true; the input reads as it did. -/
def fnExactIsJumpSpec : ChangeSpec := { name := "fnExactIsJump", fn := fun _ => fun
  | [d1, d2] => { results := [.lit (.bool true)], args := [d1, d2] }
  | _ => none }
def fnExactIsJumpRow : OpenClaim := { program := "ytfjeabepggldiaa", sum := "1fb72193a7b73012ef72c44617cb681375c423af23cbe9a561b65de2e4ba62e0", func := "loop.example/g01271/laws.FnExactIsJump", spec := "fnExactIsJump", inPlace := ["internal/bytealg.IndexByteString"], apart := false }
def FnExactIsJumpSaid : Prop := fnExactIsJumpRow.holds Try.pinned (OpenSpec.ofChange fnExactIsJumpSpec)

/-- ITS FALSE NEIGHBOUR: 'it returns false'. Refute it at one input. -/
def fnExactIsJumpWrong : ChangeSpec := { name := "fnExactIsJump", fn := fun _ => fun
  | [d1, d2] => { results := [.lit (.bool false)], args := [d1, d2] }
  | _ => none }
def FnExactIsJumpWrongFalsely : Prop := fnExactIsJumpRow.holds Try.pinned (OpenSpec.ofChange fnExactIsJumpWrong)

/-- 'laws.FnExactPlayMoves': WHATEVER THE INPUT: true; the input reads as it did. -/
def fnExactPlayMovesSpec : ChangeSpec := { name := "fnExactPlayMoves", fn := fun _ => fun
  | [d1, d2] => { results := [.lit (.bool true)], args := [d1, d2] }
  | _ => none }
def fnExactPlayMovesRow : OpenClaim := { program := "ytfjeabepggldiaa", sum := "1fb72193a7b73012ef72c44617cb681375c423af23cbe9a561b65de2e4ba62e0", func := "loop.example/g01271/laws.FnExactPlayMoves", spec := "fnExactPlayMoves", inPlace := ["internal/bytealg.IndexByteString"], apart := false }
def FnExactPlayMovesSaid : Prop := fnExactPlayMovesRow.holds Try.pinned (OpenSpec.ofChange fnExactPlayMovesSpec)

/-- ITS FALSE NEIGHBOUR: 'it returns false'. Refute it at one input. -/
def fnExactPlayMovesWrong : ChangeSpec := { name := "fnExactPlayMoves", fn := fun _ => fun
  | [d1, d2] => { results := [.lit (.bool false)], args := [d1, d2] }
  | _ => none }
def FnExactPlayMovesWrongFalsely : Prop := fnExactPlayMovesRow.holds Try.pinned (OpenSpec.ofChange fnExactPlayMovesWrong)

/-- 'laws.FnExactMoveThatFails': WHATEVER THE INPUT: true; the input reads as it did. -/
def fnExactMoveThatFailsSpec : ChangeSpec := { name := "fnExactMoveThatFails", fn := fun _ => fun
  | [d1, d2] => { results := [.lit (.bool true)], args := [d1, d2] }
  | _ => none }
def fnExactMoveThatFailsRow : OpenClaim := { program := "ytfjeabepggldiaa", sum := "1fb72193a7b73012ef72c44617cb681375c423af23cbe9a561b65de2e4ba62e0", func := "loop.example/g01271/laws.FnExactMoveThatFails", spec := "fnExactMoveThatFails", inPlace := ["internal/bytealg.IndexByteString"], apart := false }
def FnExactMoveThatFailsSaid : Prop := fnExactMoveThatFailsRow.holds Try.pinned (OpenSpec.ofChange fnExactMoveThatFailsSpec)

/-- ITS FALSE NEIGHBOUR: 'it returns false'. Refute it at one input. -/
def fnExactMoveThatFailsWrong : ChangeSpec := { name := "fnExactMoveThatFails", fn := fun _ => fun
  | [d1, d2] => { results := [.lit (.bool false)], args := [d1, d2] }
  | _ => none }
def FnExactMoveThatFailsWrongFalsely : Prop := fnExactMoveThatFailsRow.holds Try.pinned (OpenSpec.ofChange fnExactMoveThatFailsWrong)

/-- 'laws.FnExactOtherLine': WHATEVER THE INPUT: true; the input reads as it did. -/
def fnExactOtherLineSpec : ChangeSpec := { name := "fnExactOtherLine", fn := fun _ => fun
  | [d] => { results := [.lit (.bool true)], args := [d] }
  | _ => none }
def fnExactOtherLineRow : OpenClaim := { program := "ytfjeabepggldiaa", sum := "1fb72193a7b73012ef72c44617cb681375c423af23cbe9a561b65de2e4ba62e0", func := "loop.example/g01271/laws.FnExactOtherLine", spec := "fnExactOtherLine", inPlace := ["internal/bytealg.IndexByteString"], apart := false }
def FnExactOtherLineSaid : Prop := fnExactOtherLineRow.holds Try.pinned (OpenSpec.ofChange fnExactOtherLineSpec)

/-- ITS FALSE NEIGHBOUR: 'it returns false'. Refute it at one input. -/
def fnExactOtherLineWrong : ChangeSpec := { name := "fnExactOtherLine", fn := fun _ => fun
  | [d] => { results := [.lit (.bool false)], args := [d] }
  | _ => none }
def FnExactOtherLineWrongFalsely : Prop := fnExactOtherLineRow.holds Try.pinned (OpenSpec.ofChange fnExactOtherLineWrong)

/-- 'laws.FnExactWayToGo': WHATEVER THE INPUT: true; the input reads as it did. -/
def fnExactWayToGoSpec : ChangeSpec := { name := "fnExactWayToGo", fn := fun _ => fun
  | [d] => { results := [.lit (.bool true)], args := [d] }
  | _ => none }
def fnExactWayToGoRow : OpenClaim := { program := "ytfjeabepggldiaa", sum := "1fb72193a7b73012ef72c44617cb681375c423af23cbe9a561b65de2e4ba62e0", func := "loop.example/g01271/laws.FnExactWayToGo", spec := "fnExactWayToGo", inPlace := ["internal/bytealg.IndexByteString", "internal/bytealg.CountString", "internal/bytealg.IndexString"], named := ["internal/bytealg.MaxLen"], apart := false }
def FnExactWayToGoSaid : Prop := fnExactWayToGoRow.holds Try.pinned (OpenSpec.ofChange fnExactWayToGoSpec)

/-- ITS FALSE NEIGHBOUR: 'it returns false'. Refute it at one input. -/
def fnExactWayToGoWrong : ChangeSpec := { name := "fnExactWayToGo", fn := fun _ => fun
  | [d] => { results := [.lit (.bool false)], args := [d] }
  | _ => none }
def FnExactWayToGoWrongFalsely : Prop := fnExactWayToGoRow.holds Try.pinned (OpenSpec.ofChange fnExactWayToGoWrong)

/-- 'laws.FnExactPairsToPass': WHATEVER THE INPUT: true; the input reads as it did. -/
def fnExactPairsToPassSpec : ChangeSpec := { name := "fnExactPairsToPass", fn := fun _ => fun
  | [d] => { results := [.lit (.bool true)], args := [d] }
  | _ => none }
def fnExactPairsToPassRow : OpenClaim := { program := "ytfjeabepggldiaa", sum := "1fb72193a7b73012ef72c44617cb681375c423af23cbe9a561b65de2e4ba62e0", func := "loop.example/g01271/laws.FnExactPairsToPass", spec := "fnExactPairsToPass", inPlace := ["internal/bytealg.IndexByteString"], apart := false }
def FnExactPairsToPassSaid : Prop := fnExactPairsToPassRow.holds Try.pinned (OpenSpec.ofChange fnExactPairsToPassSpec)

/-- ITS FALSE NEIGHBOUR: 'it returns false'. Refute it at one input. -/
def fnExactPairsToPassWrong : ChangeSpec := { name := "fnExactPairsToPass", fn := fun _ => fun
  | [d] => { results := [.lit (.bool false)], args := [d] }
  | _ => none }
def FnExactPairsToPassWrongFalsely : Prop := fnExactPairsToPassRow.holds Try.pinned (OpenSpec.ofChange fnExactPairsToPassWrong)

/-- 'laws.FnExactIsBlocked': WHATEVER THE INPUT: true; the input reads as it did. -/
def fnExactIsBlockedSpec : ChangeSpec := { name := "fnExactIsBlocked", fn := fun _ => fun
  | [d] => { results := [.lit (.bool true)], args := [d] }
  | _ => none }
def fnExactIsBlockedRow : OpenClaim := { program := "ytfjeabepggldiaa", sum := "1fb72193a7b73012ef72c44617cb681375c423af23cbe9a561b65de2e4ba62e0", func := "loop.example/g01271/laws.FnExactIsBlocked", spec := "fnExactIsBlocked", inPlace := ["internal/bytealg.IndexByteString"], unfollowed := true, recurses := true, apart := false }
def FnExactIsBlockedSaid : Prop := fnExactIsBlockedRow.holds Try.pinned (OpenSpec.ofChange fnExactIsBlockedSpec)

/-- ITS FALSE NEIGHBOUR: 'it returns false'. Refute it at one input. -/
def fnExactIsBlockedWrong : ChangeSpec := { name := "fnExactIsBlocked", fn := fun _ => fun
  | [d] => { results := [.lit (.bool false)], args := [d] }
  | _ => none }
def FnExactIsBlockedWrongFalsely : Prop := fnExactIsBlockedRow.holds Try.pinned (OpenSpec.ofChange fnExactIsBlockedWrong)

/-- 'laws.FnExactRankOfLine': WHATEVER THE INPUT: true; the input reads as it did. -/
def fnExactRankOfLineSpec : ChangeSpec := { name := "fnExactRankOfLine", fn := fun _ => fun
  | [d] => { results := [.lit (.bool true)], args := [d] }
  | _ => none }
def fnExactRankOfLineRow : OpenClaim := { program := "ytfjeabepggldiaa", sum := "1fb72193a7b73012ef72c44617cb681375c423af23cbe9a561b65de2e4ba62e0", func := "loop.example/g01271/laws.FnExactRankOfLine", spec := "fnExactRankOfLine", inPlace := ["internal/bytealg.IndexByteString", "internal/bytealg.CountString", "internal/bytealg.IndexString"], named := ["internal/bytealg.MaxLen"], apart := false }
def FnExactRankOfLineSaid : Prop := fnExactRankOfLineRow.holds Try.pinned (OpenSpec.ofChange fnExactRankOfLineSpec)

/-- ITS FALSE NEIGHBOUR: 'it returns false'. Refute it at one input. -/
def fnExactRankOfLineWrong : ChangeSpec := { name := "fnExactRankOfLine", fn := fun _ => fun
  | [d] => { results := [.lit (.bool false)], args := [d] }
  | _ => none }
def FnExactRankOfLineWrongFalsely : Prop := fnExactRankOfLineRow.holds Try.pinned (OpenSpec.ofChange fnExactRankOfLineWrong)

/-- 'laws.FnExactLineOfRank': WHATEVER THE INPUT: true; the input reads as it did. -/
def fnExactLineOfRankSpec : ChangeSpec := { name := "fnExactLineOfRank", fn := fun _ => fun
  | [d1, d2, d3, d4] => { results := [.lit (.bool true)], args := [d1, d2, d3, d4] }
  | _ => none }
def fnExactLineOfRankRow : OpenClaim := { program := "ytfjeabepggldiaa", sum := "1fb72193a7b73012ef72c44617cb681375c423af23cbe9a561b65de2e4ba62e0", func := "loop.example/g01271/laws.FnExactLineOfRank", spec := "fnExactLineOfRank", apart := false }
def FnExactLineOfRankSaid : Prop := fnExactLineOfRankRow.holds Try.pinned (OpenSpec.ofChange fnExactLineOfRankSpec)

/-- ITS FALSE NEIGHBOUR: 'it returns false'. Refute it at one input. -/
def fnExactLineOfRankWrong : ChangeSpec := { name := "fnExactLineOfRank", fn := fun _ => fun
  | [d1, d2, d3, d4] => { results := [.lit (.bool false)], args := [d1, d2, d3, d4] }
  | _ => none }
def FnExactLineOfRankWrongFalsely : Prop := fnExactLineOfRankRow.holds Try.pinned (OpenSpec.ofChange fnExactLineOfRankWrong)

/-- 'laws.FnExactCountLines': WHATEVER THE INPUT: true; the input reads as it did. -/
def fnExactCountLinesSpec : ChangeSpec := { name := "fnExactCountLines", fn := fun _ => fun
  | [d1, d2, d3] => { results := [.lit (.bool true)], args := [d1, d2, d3] }
  | _ => none }
def fnExactCountLinesRow : OpenClaim := { program := "ytfjeabepggldiaa", sum := "1fb72193a7b73012ef72c44617cb681375c423af23cbe9a561b65de2e4ba62e0", func := "loop.example/g01271/laws.FnExactCountLines", spec := "fnExactCountLines", apart := false }
def FnExactCountLinesSaid : Prop := fnExactCountLinesRow.holds Try.pinned (OpenSpec.ofChange fnExactCountLinesSpec)

/-- ITS FALSE NEIGHBOUR: 'it returns false'. Refute it at one input. -/
def fnExactCountLinesWrong : ChangeSpec := { name := "fnExactCountLines", fn := fun _ => fun
  | [d1, d2, d3] => { results := [.lit (.bool false)], args := [d1, d2, d3] }
  | _ => none }
def FnExactCountLinesWrongFalsely : Prop := fnExactCountLinesRow.holds Try.pinned (OpenSpec.ofChange fnExactCountLinesWrong)

/-- 'laws.FnMovesMade': WHATEVER THE INPUT: true; the input reads as it did. -/
def fnMovesMadeSpec : ChangeSpec := { name := "fnMovesMade", fn := fun _ => fun
  | [d1, d2] => { results := [.lit (.bool true)], args := [d1, d2] }
  | _ => none }
def fnMovesMadeRow : OpenClaim := { program := "ytfjeabepggldiaa", sum := "1fb72193a7b73012ef72c44617cb681375c423af23cbe9a561b65de2e4ba62e0", func := "loop.example/g01271/laws.FnMovesMade", spec := "fnMovesMade", inPlace := ["internal/bytealg.IndexByteString", "internal/bytealg.CountString", "internal/bytealg.IndexString"], unfollowed := true, recurses := true, named := ["internal/bytealg.MaxLen"], apart := false }
def FnMovesMadeSaid : Prop := fnMovesMadeRow.holds Try.pinned (OpenSpec.ofChange fnMovesMadeSpec)

/-- ITS FALSE NEIGHBOUR: 'it returns false'. Refute it at one input. -/
def fnMovesMadeWrong : ChangeSpec := { name := "fnMovesMade", fn := fun _ => fun
  | [d1, d2] => { results := [.lit (.bool false)], args := [d1, d2] }
  | _ => none }
def FnMovesMadeWrongFalsely : Prop := fnMovesMadeRow.holds Try.pinned (OpenSpec.ofChange fnMovesMadeWrong)

/-- 'laws.FnMovesMadeOfAll': WHATEVER THE INPUT: true; the input reads as it did. -/
def fnMovesMadeOfAllSpec : ChangeSpec := { name := "fnMovesMadeOfAll", fn := fun _ => fun
  | [d1, d2, d3] => { results := [.lit (.bool true)], args := [d1, d2, d3] }
  | _ => none }
def fnMovesMadeOfAllRow : OpenClaim := { program := "ytfjeabepggldiaa", sum := "1fb72193a7b73012ef72c44617cb681375c423af23cbe9a561b65de2e4ba62e0", func := "loop.example/g01271/laws.FnMovesMadeOfAll", spec := "fnMovesMadeOfAll", inPlace := ["internal/bytealg.IndexByteString", "internal/bytealg.CountString", "internal/bytealg.IndexString"], unfollowed := true, recurses := true, named := ["internal/bytealg.MaxLen"], apart := false }
def FnMovesMadeOfAllSaid : Prop := fnMovesMadeOfAllRow.holds Try.pinned (OpenSpec.ofChange fnMovesMadeOfAllSpec)

/-- ITS FALSE NEIGHBOUR: 'it returns false'. Refute it at one input. -/
def fnMovesMadeOfAllWrong : ChangeSpec := { name := "fnMovesMadeOfAll", fn := fun _ => fun
  | [d1, d2, d3] => { results := [.lit (.bool false)], args := [d1, d2, d3] }
  | _ => none }
def FnMovesMadeOfAllWrongFalsely : Prop := fnMovesMadeOfAllRow.holds Try.pinned (OpenSpec.ofChange fnMovesMadeOfAllWrong)

/-- 'laws.FnLinesRanked': WHATEVER THE INPUT: true; the input reads as it did. -/
def fnLinesRankedSpec : ChangeSpec := { name := "fnLinesRanked", fn := fun _ => fun
  | [d1, d2] => { results := [.lit (.bool true)], args := [d1, d2] }
  | _ => none }
def fnLinesRankedRow : OpenClaim := { program := "ytfjeabepggldiaa", sum := "1fb72193a7b73012ef72c44617cb681375c423af23cbe9a561b65de2e4ba62e0", func := "loop.example/g01271/laws.FnLinesRanked", spec := "fnLinesRanked", inPlace := ["internal/bytealg.IndexByteString", "internal/bytealg.CountString", "internal/bytealg.IndexString", "internal/abi.NoEscape", "internal/bytealg.MakeNoZero"], named := ["internal/bytealg.MaxLen"], apart := false }
def FnLinesRankedSaid : Prop := fnLinesRankedRow.holds Try.pinned (OpenSpec.ofChange fnLinesRankedSpec)

/-- ITS FALSE NEIGHBOUR: 'it returns false'. Refute it at one input. -/
def fnLinesRankedWrong : ChangeSpec := { name := "fnLinesRanked", fn := fun _ => fun
  | [d1, d2] => { results := [.lit (.bool false)], args := [d1, d2] }
  | _ => none }
def FnLinesRankedWrongFalsely : Prop := fnLinesRankedRow.holds Try.pinned (OpenSpec.ofChange fnLinesRankedWrong)

/-- 'laws.FnLinesRankedOfAll': WHATEVER THE INPUT: true; the input reads as it did. -/
def fnLinesRankedOfAllSpec : ChangeSpec := { name := "fnLinesRankedOfAll", fn := fun _ => fun
  | [d1, d2, d3, d4, d5, d6, d7] => { results := [.lit (.bool true)], args := [d1, d2, d3, d4, d5, d6, d7] }
  | _ => none }
def fnLinesRankedOfAllRow : OpenClaim := { program := "ytfjeabepggldiaa", sum := "1fb72193a7b73012ef72c44617cb681375c423af23cbe9a561b65de2e4ba62e0", func := "loop.example/g01271/laws.FnLinesRankedOfAll", spec := "fnLinesRankedOfAll", inPlace := ["internal/bytealg.IndexByteString", "internal/bytealg.CountString", "internal/bytealg.IndexString", "internal/abi.NoEscape", "internal/bytealg.MakeNoZero"], named := ["internal/bytealg.MaxLen"], apart := false }
def FnLinesRankedOfAllSaid : Prop := fnLinesRankedOfAllRow.holds Try.pinned (OpenSpec.ofChange fnLinesRankedOfAllSpec)

/-- ITS FALSE NEIGHBOUR: 'it returns false'. Refute it at one input. -/
def fnLinesRankedOfAllWrong : ChangeSpec := { name := "fnLinesRankedOfAll", fn := fun _ => fun
  | [d1, d2, d3, d4, d5, d6, d7] => { results := [.lit (.bool false)], args := [d1, d2, d3, d4, d5, d6, d7] }
  | _ => none }
def FnLinesRankedOfAllWrongFalsely : Prop := fnLinesRankedOfAllRow.holds Try.pinned (OpenSpec.ofChange fnLinesRankedOfAllWrong)

/- THE SECOND FORM. 'bulk': how many values and letters a reading holds, each counted each time it is reached (what is shared counts as often as it is met; a slice's spare places count too). A statement '..UptoSaid' is the law's where the arguments, and the package variables that the reading takes, are together of bulk at most 1048576: NARROWER than '..Said'. Prove '..Said' where nothing that the law and all that it calls make is longer than what came in: it says more and counts as full. Else prove '..UptoSaid'. A law counts once. -/
mutual
def uptoBulk {H : Type} : DataW H → Nat
  | .lit (.string bytes) => bytes.length + 1
  | .lit _ => 1
  | .nil => 1
  | .ptr d => uptoBulk d + 1
  | .slice elems spare => uptoBulkAll elems + uptoBulkAll spare + 1
  | .agg parts => uptoBulkAll parts + 1
  | .iface _ d => uptoBulk d + 1
  | .map entries => uptoBulkEntries entries + 1
  | .held _ => 1
def uptoBulkAll {H : Type} : List (DataW H) → Nat
  | [] => 0
  | d :: r => uptoBulk d + uptoBulkAll r
def uptoBulkEntries {H : Type} : List (Lit × DataW H) → Nat
  | [] => 0
  | x :: r => uptoBulkEntry x + uptoBulkEntries r
def uptoBulkEntry {H : Type} : Lit × DataW H → Nat
  | (.string bytes, d) => bytes.length + uptoBulk d + 1
  | (_, d) => uptoBulk d + 1
 end
def uptoSmall : (H : Type) → List (DataW H) → Bool := fun _ ds => decide (uptoBulkAll ds ≤ 1048576)
def OpenSpec.upto (s : _root_.Go.ChangeSpec) : _root_.Go.OpenSpec := { _root_.Go.OpenSpec.ofChange s with cond := some uptoSmall }

/-- 'laws.FnExactIsLine', WHERE WHAT IT READS IS OF BULK AT MOST 1048576: true; the input reads as it did. -/
def fnExactIsLineUptoRow : OpenClaim := { program := "ytfjeabepggldiaa", sum := "1fb72193a7b73012ef72c44617cb681375c423af23cbe9a561b65de2e4ba62e0", func := "loop.example/g01271/laws.FnExactIsLine", spec := "fnExactIsLine", inPlace := ["internal/bytealg.IndexByteString"], apart := false, narrowed := true }
def FnExactIsLineUptoSaid : Prop := fnExactIsLineUptoRow.holds Try.pinned (OpenSpec.upto fnExactIsLineSpec)

/-- 'laws.FnExactFirstLine', WHERE WHAT IT READS IS OF BULK AT MOST 1048576: true; the input reads as it did. -/
def fnExactFirstLineUptoRow : OpenClaim := { program := "ytfjeabepggldiaa", sum := "1fb72193a7b73012ef72c44617cb681375c423af23cbe9a561b65de2e4ba62e0", func := "loop.example/g01271/laws.FnExactFirstLine", spec := "fnExactFirstLine", inPlace := ["internal/abi.NoEscape", "internal/bytealg.MakeNoZero"], apart := false, narrowed := true }
def FnExactFirstLineUptoSaid : Prop := fnExactFirstLineUptoRow.holds Try.pinned (OpenSpec.upto fnExactFirstLineSpec)

/-- 'laws.FnExactLastLine', WHERE WHAT IT READS IS OF BULK AT MOST 1048576: true; the input reads as it did. -/
def fnExactLastLineUptoRow : OpenClaim := { program := "ytfjeabepggldiaa", sum := "1fb72193a7b73012ef72c44617cb681375c423af23cbe9a561b65de2e4ba62e0", func := "loop.example/g01271/laws.FnExactLastLine", spec := "fnExactLastLine", inPlace := ["internal/bytealg.IndexByteString", "internal/bytealg.CountString", "internal/bytealg.IndexString", "internal/abi.NoEscape", "internal/bytealg.MakeNoZero"], named := ["internal/bytealg.MaxLen"], apart := false, narrowed := true }
def FnExactLastLineUptoSaid : Prop := fnExactLastLineUptoRow.holds Try.pinned (OpenSpec.upto fnExactLastLineSpec)

/-- 'laws.FnExactCountOf', WHERE WHAT IT READS IS OF BULK AT MOST 1048576: true; the input reads as it did. -/
def fnExactCountOfUptoRow : OpenClaim := { program := "ytfjeabepggldiaa", sum := "1fb72193a7b73012ef72c44617cb681375c423af23cbe9a561b65de2e4ba62e0", func := "loop.example/g01271/laws.FnExactCountOf", spec := "fnExactCountOf", inPlace := ["internal/bytealg.IndexByteString", "internal/bytealg.CountString", "internal/bytealg.IndexString"], named := ["internal/bytealg.MaxLen"], apart := false, narrowed := true }
def FnExactCountOfUptoSaid : Prop := fnExactCountOfUptoRow.holds Try.pinned (OpenSpec.upto fnExactCountOfSpec)

/-- 'laws.FnExactMovesOf', WHERE WHAT IT READS IS OF BULK AT MOST 1048576: true; the input reads as it did. -/
def fnExactMovesOfUptoRow : OpenClaim := { program := "ytfjeabepggldiaa", sum := "1fb72193a7b73012ef72c44617cb681375c423af23cbe9a561b65de2e4ba62e0", func := "loop.example/g01271/laws.FnExactMovesOf", spec := "fnExactMovesOf", inPlace := ["internal/bytealg.IndexByteString"], unfollowed := true, recurses := true, apart := false, narrowed := true }
def FnExactMovesOfUptoSaid : Prop := fnExactMovesOfUptoRow.holds Try.pinned (OpenSpec.upto fnExactMovesOfSpec)

/-- 'laws.FnExactToadMoves', WHERE WHAT IT READS IS OF BULK AT MOST 1048576: true; the input reads as it did. -/
def fnExactToadMovesUptoRow : OpenClaim := { program := "ytfjeabepggldiaa", sum := "1fb72193a7b73012ef72c44617cb681375c423af23cbe9a561b65de2e4ba62e0", func := "loop.example/g01271/laws.FnExactToadMoves", spec := "fnExactToadMoves", inPlace := ["internal/bytealg.IndexByteString"], unfollowed := true, recurses := true, apart := false, narrowed := true }
def FnExactToadMovesUptoSaid : Prop := fnExactToadMovesUptoRow.holds Try.pinned (OpenSpec.upto fnExactToadMovesSpec)

/-- 'laws.FnExactFrogMoves', WHERE WHAT IT READS IS OF BULK AT MOST 1048576: true; the input reads as it did. -/
def fnExactFrogMovesUptoRow : OpenClaim := { program := "ytfjeabepggldiaa", sum := "1fb72193a7b73012ef72c44617cb681375c423af23cbe9a561b65de2e4ba62e0", func := "loop.example/g01271/laws.FnExactFrogMoves", spec := "fnExactFrogMoves", inPlace := ["internal/bytealg.IndexByteString"], unfollowed := true, recurses := true, apart := false, narrowed := true }
def FnExactFrogMovesUptoSaid : Prop := fnExactFrogMovesUptoRow.holds Try.pinned (OpenSpec.upto fnExactFrogMovesSpec)

/-- 'laws.FnExactCanMove', WHERE WHAT IT READS IS OF BULK AT MOST 1048576: true; the input reads as it did. -/
def fnExactCanMoveUptoRow : OpenClaim := { program := "ytfjeabepggldiaa", sum := "1fb72193a7b73012ef72c44617cb681375c423af23cbe9a561b65de2e4ba62e0", func := "loop.example/g01271/laws.FnExactCanMove", spec := "fnExactCanMove", inPlace := ["internal/bytealg.IndexByteString"], apart := false, narrowed := true }
def FnExactCanMoveUptoSaid : Prop := fnExactCanMoveUptoRow.holds Try.pinned (OpenSpec.upto fnExactCanMoveSpec)

/-- 'laws.FnExactMakeMove', WHERE WHAT IT READS IS OF BULK AT MOST 1048576: true; the input reads as it did. -/
def fnExactMakeMoveUptoRow : OpenClaim := { program := "ytfjeabepggldiaa", sum := "1fb72193a7b73012ef72c44617cb681375c423af23cbe9a561b65de2e4ba62e0", func := "loop.example/g01271/laws.FnExactMakeMove", spec := "fnExactMakeMove", inPlace := ["internal/bytealg.IndexByteString"], apart := false, narrowed := true }
def FnExactMakeMoveUptoSaid : Prop := fnExactMakeMoveUptoRow.holds Try.pinned (OpenSpec.upto fnExactMakeMoveSpec)

/-- 'laws.FnExactIsJump', WHERE WHAT IT READS IS OF BULK AT MOST 1048576: true; the input reads as it did. -/
def fnExactIsJumpUptoRow : OpenClaim := { program := "ytfjeabepggldiaa", sum := "1fb72193a7b73012ef72c44617cb681375c423af23cbe9a561b65de2e4ba62e0", func := "loop.example/g01271/laws.FnExactIsJump", spec := "fnExactIsJump", inPlace := ["internal/bytealg.IndexByteString"], apart := false, narrowed := true }
def FnExactIsJumpUptoSaid : Prop := fnExactIsJumpUptoRow.holds Try.pinned (OpenSpec.upto fnExactIsJumpSpec)

/-- 'laws.FnExactPlayMoves', WHERE WHAT IT READS IS OF BULK AT MOST 1048576: true; the input reads as it did. -/
def fnExactPlayMovesUptoRow : OpenClaim := { program := "ytfjeabepggldiaa", sum := "1fb72193a7b73012ef72c44617cb681375c423af23cbe9a561b65de2e4ba62e0", func := "loop.example/g01271/laws.FnExactPlayMoves", spec := "fnExactPlayMoves", inPlace := ["internal/bytealg.IndexByteString"], apart := false, narrowed := true }
def FnExactPlayMovesUptoSaid : Prop := fnExactPlayMovesUptoRow.holds Try.pinned (OpenSpec.upto fnExactPlayMovesSpec)

/-- 'laws.FnExactMoveThatFails', WHERE WHAT IT READS IS OF BULK AT MOST 1048576: true; the input reads as it did. -/
def fnExactMoveThatFailsUptoRow : OpenClaim := { program := "ytfjeabepggldiaa", sum := "1fb72193a7b73012ef72c44617cb681375c423af23cbe9a561b65de2e4ba62e0", func := "loop.example/g01271/laws.FnExactMoveThatFails", spec := "fnExactMoveThatFails", inPlace := ["internal/bytealg.IndexByteString"], apart := false, narrowed := true }
def FnExactMoveThatFailsUptoSaid : Prop := fnExactMoveThatFailsUptoRow.holds Try.pinned (OpenSpec.upto fnExactMoveThatFailsSpec)

/-- 'laws.FnExactOtherLine', WHERE WHAT IT READS IS OF BULK AT MOST 1048576: true; the input reads as it did. -/
def fnExactOtherLineUptoRow : OpenClaim := { program := "ytfjeabepggldiaa", sum := "1fb72193a7b73012ef72c44617cb681375c423af23cbe9a561b65de2e4ba62e0", func := "loop.example/g01271/laws.FnExactOtherLine", spec := "fnExactOtherLine", inPlace := ["internal/bytealg.IndexByteString"], apart := false, narrowed := true }
def FnExactOtherLineUptoSaid : Prop := fnExactOtherLineUptoRow.holds Try.pinned (OpenSpec.upto fnExactOtherLineSpec)

/-- 'laws.FnExactWayToGo', WHERE WHAT IT READS IS OF BULK AT MOST 1048576: true; the input reads as it did. -/
def fnExactWayToGoUptoRow : OpenClaim := { program := "ytfjeabepggldiaa", sum := "1fb72193a7b73012ef72c44617cb681375c423af23cbe9a561b65de2e4ba62e0", func := "loop.example/g01271/laws.FnExactWayToGo", spec := "fnExactWayToGo", inPlace := ["internal/bytealg.IndexByteString", "internal/bytealg.CountString", "internal/bytealg.IndexString"], named := ["internal/bytealg.MaxLen"], apart := false, narrowed := true }
def FnExactWayToGoUptoSaid : Prop := fnExactWayToGoUptoRow.holds Try.pinned (OpenSpec.upto fnExactWayToGoSpec)

/-- 'laws.FnExactPairsToPass', WHERE WHAT IT READS IS OF BULK AT MOST 1048576: true; the input reads as it did. -/
def fnExactPairsToPassUptoRow : OpenClaim := { program := "ytfjeabepggldiaa", sum := "1fb72193a7b73012ef72c44617cb681375c423af23cbe9a561b65de2e4ba62e0", func := "loop.example/g01271/laws.FnExactPairsToPass", spec := "fnExactPairsToPass", inPlace := ["internal/bytealg.IndexByteString"], apart := false, narrowed := true }
def FnExactPairsToPassUptoSaid : Prop := fnExactPairsToPassUptoRow.holds Try.pinned (OpenSpec.upto fnExactPairsToPassSpec)

/-- 'laws.FnExactIsBlocked', WHERE WHAT IT READS IS OF BULK AT MOST 1048576: true; the input reads as it did. -/
def fnExactIsBlockedUptoRow : OpenClaim := { program := "ytfjeabepggldiaa", sum := "1fb72193a7b73012ef72c44617cb681375c423af23cbe9a561b65de2e4ba62e0", func := "loop.example/g01271/laws.FnExactIsBlocked", spec := "fnExactIsBlocked", inPlace := ["internal/bytealg.IndexByteString"], unfollowed := true, recurses := true, apart := false, narrowed := true }
def FnExactIsBlockedUptoSaid : Prop := fnExactIsBlockedUptoRow.holds Try.pinned (OpenSpec.upto fnExactIsBlockedSpec)

/-- 'laws.FnExactRankOfLine', WHERE WHAT IT READS IS OF BULK AT MOST 1048576: true; the input reads as it did. -/
def fnExactRankOfLineUptoRow : OpenClaim := { program := "ytfjeabepggldiaa", sum := "1fb72193a7b73012ef72c44617cb681375c423af23cbe9a561b65de2e4ba62e0", func := "loop.example/g01271/laws.FnExactRankOfLine", spec := "fnExactRankOfLine", inPlace := ["internal/bytealg.IndexByteString", "internal/bytealg.CountString", "internal/bytealg.IndexString"], named := ["internal/bytealg.MaxLen"], apart := false, narrowed := true }
def FnExactRankOfLineUptoSaid : Prop := fnExactRankOfLineUptoRow.holds Try.pinned (OpenSpec.upto fnExactRankOfLineSpec)

/-- 'laws.FnExactLineOfRank', WHERE WHAT IT READS IS OF BULK AT MOST 1048576: true; the input reads as it did. -/
def fnExactLineOfRankUptoRow : OpenClaim := { program := "ytfjeabepggldiaa", sum := "1fb72193a7b73012ef72c44617cb681375c423af23cbe9a561b65de2e4ba62e0", func := "loop.example/g01271/laws.FnExactLineOfRank", spec := "fnExactLineOfRank", apart := false, narrowed := true }
def FnExactLineOfRankUptoSaid : Prop := fnExactLineOfRankUptoRow.holds Try.pinned (OpenSpec.upto fnExactLineOfRankSpec)

/-- 'laws.FnExactCountLines', WHERE WHAT IT READS IS OF BULK AT MOST 1048576: true; the input reads as it did. -/
def fnExactCountLinesUptoRow : OpenClaim := { program := "ytfjeabepggldiaa", sum := "1fb72193a7b73012ef72c44617cb681375c423af23cbe9a561b65de2e4ba62e0", func := "loop.example/g01271/laws.FnExactCountLines", spec := "fnExactCountLines", apart := false, narrowed := true }
def FnExactCountLinesUptoSaid : Prop := fnExactCountLinesUptoRow.holds Try.pinned (OpenSpec.upto fnExactCountLinesSpec)

/-- 'laws.FnMovesMade', WHERE WHAT IT READS IS OF BULK AT MOST 1048576: true; the input reads as it did. -/
def fnMovesMadeUptoRow : OpenClaim := { program := "ytfjeabepggldiaa", sum := "1fb72193a7b73012ef72c44617cb681375c423af23cbe9a561b65de2e4ba62e0", func := "loop.example/g01271/laws.FnMovesMade", spec := "fnMovesMade", inPlace := ["internal/bytealg.IndexByteString", "internal/bytealg.CountString", "internal/bytealg.IndexString"], unfollowed := true, recurses := true, named := ["internal/bytealg.MaxLen"], apart := false, narrowed := true }
def FnMovesMadeUptoSaid : Prop := fnMovesMadeUptoRow.holds Try.pinned (OpenSpec.upto fnMovesMadeSpec)

/-- 'laws.FnMovesMadeOfAll', WHERE WHAT IT READS IS OF BULK AT MOST 1048576: true; the input reads as it did. -/
def fnMovesMadeOfAllUptoRow : OpenClaim := { program := "ytfjeabepggldiaa", sum := "1fb72193a7b73012ef72c44617cb681375c423af23cbe9a561b65de2e4ba62e0", func := "loop.example/g01271/laws.FnMovesMadeOfAll", spec := "fnMovesMadeOfAll", inPlace := ["internal/bytealg.IndexByteString", "internal/bytealg.CountString", "internal/bytealg.IndexString"], unfollowed := true, recurses := true, named := ["internal/bytealg.MaxLen"], apart := false, narrowed := true }
def FnMovesMadeOfAllUptoSaid : Prop := fnMovesMadeOfAllUptoRow.holds Try.pinned (OpenSpec.upto fnMovesMadeOfAllSpec)

/-- 'laws.FnLinesRanked', WHERE WHAT IT READS IS OF BULK AT MOST 1048576: true; the input reads as it did. -/
def fnLinesRankedUptoRow : OpenClaim := { program := "ytfjeabepggldiaa", sum := "1fb72193a7b73012ef72c44617cb681375c423af23cbe9a561b65de2e4ba62e0", func := "loop.example/g01271/laws.FnLinesRanked", spec := "fnLinesRanked", inPlace := ["internal/bytealg.IndexByteString", "internal/bytealg.CountString", "internal/bytealg.IndexString", "internal/abi.NoEscape", "internal/bytealg.MakeNoZero"], named := ["internal/bytealg.MaxLen"], apart := false, narrowed := true }
def FnLinesRankedUptoSaid : Prop := fnLinesRankedUptoRow.holds Try.pinned (OpenSpec.upto fnLinesRankedSpec)

/-- 'laws.FnLinesRankedOfAll', WHERE WHAT IT READS IS OF BULK AT MOST 1048576: true; the input reads as it did. -/
def fnLinesRankedOfAllUptoRow : OpenClaim := { program := "ytfjeabepggldiaa", sum := "1fb72193a7b73012ef72c44617cb681375c423af23cbe9a561b65de2e4ba62e0", func := "loop.example/g01271/laws.FnLinesRankedOfAll", spec := "fnLinesRankedOfAll", inPlace := ["internal/bytealg.IndexByteString", "internal/bytealg.CountString", "internal/bytealg.IndexString", "internal/abi.NoEscape", "internal/bytealg.MakeNoZero"], named := ["internal/bytealg.MaxLen"], apart := false, narrowed := true }
def FnLinesRankedOfAllUptoSaid : Prop := fnLinesRankedOfAllUptoRow.holds Try.pinned (OpenSpec.upto fnLinesRankedOfAllSpec)

end Rows
end Go.Proofs.Ytfjeabepggldiaa
