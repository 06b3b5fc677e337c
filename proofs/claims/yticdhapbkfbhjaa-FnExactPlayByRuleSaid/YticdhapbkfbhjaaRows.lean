/-
  No cell of these rows narrows 'for every input' (looked for: loops, veiled, ifaces, maps, wideKeys, modest, calm, conditions, laid).
  DERIVED. THE GIVEN ROWS OF THIS SEAT. 10 by the template 'for every input the law returns true; each argument reads behind the call as it read before'; 0 by the template 'total and deterministic' (their statements: YticdhapbkfbhjaaTotals.lean).
  GIVEN WITH THE SEED: the statements are not yours to turn. If you find one false, say at which input.
  Laid BY PROGRAM, IN A SANDBOX (cutbox-rows.mjs): the forced cells as the released guide's own fill.sh prints them over the translation 7f4b9ab50b552000… (all of the seat's roots in one cut). By AI agents, Wed Nov 11 2026. No macro, syntax, notation, axiom, sorry.
-/
import Derived.Test.YticdhapbkfbhjaaChecked
import GoSem.Claim
import GoSem.ClaimJoined
import GoSem.ClaimMapViews
import Derived.JoinedTies
import Derived.KernelRfl
namespace Go.Proofs.Yticdhapbkfbhjaa
/- THE CELL 'sum', in the pinned program and in every row, IS THE sha256 OF THE DUMP (.gsa) THAT YticdhapbkfbhjaaProg.lean LOADS. Nothing in Lean hashes anything: it is a label: what it is worth is what the hold of that sum in a sandbox is worth. -/
noncomputable def Try.pinned : Pinned := { name := "yticdhapbkfbhjaa", sum := "7f4b9ab50b5520009974f712bb43e6049e3363c45d3fe99be2f198c2c2243db4", checked := Try.checked }
namespace Rows
def none {H : Type} : Left H := { results := [], args := [] }

/-- 'laws.FnExactPlayMoves': WHATEVER THE INPUT: true; the input reads as it did. -/
def fnExactPlayMovesSpec : ChangeSpec := { name := "fnExactPlayMoves", fn := fun _ => fun
  | [d1, d2] => { results := [.lit (.bool true)], args := [d1, d2] }
  | _ => none }
def fnExactPlayMovesRow : OpenClaim := { program := "yticdhapbkfbhjaa", sum := "7f4b9ab50b5520009974f712bb43e6049e3363c45d3fe99be2f198c2c2243db4", func := "loop.example/g01271/laws.FnExactPlayMoves", spec := "fnExactPlayMoves", inPlace := ["internal/bytealg.IndexByteString"], unfollowed := true, recurses := true, plainKeys := false, apart := false }
def FnExactPlayMovesSaid : Prop := fnExactPlayMovesRow.holds Try.pinned (OpenSpec.ofChange fnExactPlayMovesSpec)

/-- ITS FALSE NEIGHBOUR: 'it returns false'. Refute it at one input. -/
def fnExactPlayMovesWrong : ChangeSpec := { name := "fnExactPlayMoves", fn := fun _ => fun
  | [d1, d2] => { results := [.lit (.bool false)], args := [d1, d2] }
  | _ => none }
def FnExactPlayMovesWrongFalsely : Prop := fnExactPlayMovesRow.holds Try.pinned (OpenSpec.ofChange fnExactPlayMovesWrong)

/-- 'laws.FnExactMoveThatFails': WHATEVER THE INPUT: true; the input reads as it did. -/
def fnExactMoveThatFailsSpec : ChangeSpec := { name := "fnExactMoveThatFails", fn := fun _ => fun
  | [d1, d2] => { results := [.lit (.bool true)], args := [d1, d2] }
  | _ => none }
def fnExactMoveThatFailsRow : OpenClaim := { program := "yticdhapbkfbhjaa", sum := "7f4b9ab50b5520009974f712bb43e6049e3363c45d3fe99be2f198c2c2243db4", func := "loop.example/g01271/laws.FnExactMoveThatFails", spec := "fnExactMoveThatFails", inPlace := ["internal/bytealg.IndexByteString"], unfollowed := true, recurses := true, plainKeys := false, apart := false }
def FnExactMoveThatFailsSaid : Prop := fnExactMoveThatFailsRow.holds Try.pinned (OpenSpec.ofChange fnExactMoveThatFailsSpec)

/-- ITS FALSE NEIGHBOUR: 'it returns false'. Refute it at one input. -/
def fnExactMoveThatFailsWrong : ChangeSpec := { name := "fnExactMoveThatFails", fn := fun _ => fun
  | [d1, d2] => { results := [.lit (.bool false)], args := [d1, d2] }
  | _ => none }
def FnExactMoveThatFailsWrongFalsely : Prop := fnExactMoveThatFailsRow.holds Try.pinned (OpenSpec.ofChange fnExactMoveThatFailsWrong)

/-- 'laws.FnExactOtherLine': WHATEVER THE INPUT: true; the input reads as it did. -/
def fnExactOtherLineSpec : ChangeSpec := { name := "fnExactOtherLine", fn := fun _ => fun
  | [d] => { results := [.lit (.bool true)], args := [d] }
  | _ => none }
def fnExactOtherLineRow : OpenClaim := { program := "yticdhapbkfbhjaa", sum := "7f4b9ab50b5520009974f712bb43e6049e3363c45d3fe99be2f198c2c2243db4", func := "loop.example/g01271/laws.FnExactOtherLine", spec := "fnExactOtherLine", inPlace := ["internal/bytealg.IndexByteString"], plainKeys := false, apart := false }
def FnExactOtherLineSaid : Prop := fnExactOtherLineRow.holds Try.pinned (OpenSpec.ofChange fnExactOtherLineSpec)

/-- ITS FALSE NEIGHBOUR: 'it returns false'. Refute it at one input. -/
def fnExactOtherLineWrong : ChangeSpec := { name := "fnExactOtherLine", fn := fun _ => fun
  | [d] => { results := [.lit (.bool false)], args := [d] }
  | _ => none }
def FnExactOtherLineWrongFalsely : Prop := fnExactOtherLineRow.holds Try.pinned (OpenSpec.ofChange fnExactOtherLineWrong)

/-- 'laws.FnExactIsExchange': WHATEVER THE INPUT: true; the input reads as it did. -/
def fnExactIsExchangeSpec : ChangeSpec := { name := "fnExactIsExchange", fn := fun _ => fun
  | [d1, d2, d3, d4] => { results := [.lit (.bool true)], args := [d1, d2, d3, d4] }
  | _ => none }
def fnExactIsExchangeRow : OpenClaim := { program := "yticdhapbkfbhjaa", sum := "7f4b9ab50b5520009974f712bb43e6049e3363c45d3fe99be2f198c2c2243db4", func := "loop.example/g01271/laws.FnExactIsExchange", spec := "fnExactIsExchange", inPlace := ["internal/abi.NoEscape", "internal/bytealg.MakeNoZero", "internal/bytealg.IndexByteString", "internal/bytealg.CountString", "internal/bytealg.IndexString"], unfollowed := true, recurses := true, named := ["internal/bytealg.MaxLen"], plainKeys := false, apart := false }
def FnExactIsExchangeSaid : Prop := fnExactIsExchangeRow.holds Try.pinned (OpenSpec.ofChange fnExactIsExchangeSpec)

/-- ITS FALSE NEIGHBOUR: 'it returns false'. Refute it at one input. -/
def fnExactIsExchangeWrong : ChangeSpec := { name := "fnExactIsExchange", fn := fun _ => fun
  | [d1, d2, d3, d4] => { results := [.lit (.bool false)], args := [d1, d2, d3, d4] }
  | _ => none }
def FnExactIsExchangeWrongFalsely : Prop := fnExactIsExchangeRow.holds Try.pinned (OpenSpec.ofChange fnExactIsExchangeWrong)

/-- 'laws.FnExactBackExchange': WHATEVER THE INPUT: true; the input reads as it did. -/
def fnExactBackExchangeSpec : ChangeSpec := { name := "fnExactBackExchange", fn := fun _ => fun
  | [d1, d2, d3, d4] => { results := [.lit (.bool true)], args := [d1, d2, d3, d4] }
  | _ => none }
def fnExactBackExchangeRow : OpenClaim := { program := "yticdhapbkfbhjaa", sum := "7f4b9ab50b5520009974f712bb43e6049e3363c45d3fe99be2f198c2c2243db4", func := "loop.example/g01271/laws.FnExactBackExchange", spec := "fnExactBackExchange", inPlace := ["internal/abi.NoEscape", "internal/bytealg.MakeNoZero", "internal/bytealg.IndexByteString", "internal/bytealg.CountString", "internal/bytealg.IndexString"], unfollowed := true, recurses := true, named := ["internal/bytealg.MaxLen"], plainKeys := false, apart := false }
def FnExactBackExchangeSaid : Prop := fnExactBackExchangeRow.holds Try.pinned (OpenSpec.ofChange fnExactBackExchangeSpec)

/-- ITS FALSE NEIGHBOUR: 'it returns false'. Refute it at one input. -/
def fnExactBackExchangeWrong : ChangeSpec := { name := "fnExactBackExchange", fn := fun _ => fun
  | [d1, d2, d3, d4] => { results := [.lit (.bool false)], args := [d1, d2, d3, d4] }
  | _ => none }
def FnExactBackExchangeWrongFalsely : Prop := fnExactBackExchangeRow.holds Try.pinned (OpenSpec.ofChange fnExactBackExchangeWrong)

/-- 'laws.FnExactIsOwnBack': WHATEVER THE INPUT: true; the input reads as it did. -/
def fnExactIsOwnBackSpec : ChangeSpec := { name := "fnExactIsOwnBack", fn := fun _ => fun
  | [d1, d2, d3, d4] => { results := [.lit (.bool true)], args := [d1, d2, d3, d4] }
  | _ => none }
def fnExactIsOwnBackRow : OpenClaim := { program := "yticdhapbkfbhjaa", sum := "7f4b9ab50b5520009974f712bb43e6049e3363c45d3fe99be2f198c2c2243db4", func := "loop.example/g01271/laws.FnExactIsOwnBack", spec := "fnExactIsOwnBack", inPlace := ["internal/abi.NoEscape", "internal/bytealg.MakeNoZero", "internal/bytealg.IndexByteString", "internal/bytealg.CountString", "internal/bytealg.IndexString"], unfollowed := true, recurses := true, named := ["internal/bytealg.MaxLen"], plainKeys := false, apart := false }
def FnExactIsOwnBackSaid : Prop := fnExactIsOwnBackRow.holds Try.pinned (OpenSpec.ofChange fnExactIsOwnBackSpec)

/-- ITS FALSE NEIGHBOUR: 'it returns false'. Refute it at one input. -/
def fnExactIsOwnBackWrong : ChangeSpec := { name := "fnExactIsOwnBack", fn := fun _ => fun
  | [d1, d2, d3, d4] => { results := [.lit (.bool false)], args := [d1, d2, d3, d4] }
  | _ => none }
def FnExactIsOwnBackWrongFalsely : Prop := fnExactIsOwnBackRow.holds Try.pinned (OpenSpec.ofChange fnExactIsOwnBackWrong)

/-- 'laws.FnExactCompareGames': WHATEVER THE INPUT: true; the input reads as it did. -/
def fnExactCompareGamesSpec : ChangeSpec := { name := "fnExactCompareGames", fn := fun _ => fun
  | [d1, d2] => { results := [.lit (.bool true)], args := [d1, d2] }
  | _ => none }
def fnExactCompareGamesRow : OpenClaim := { program := "yticdhapbkfbhjaa", sum := "7f4b9ab50b5520009974f712bb43e6049e3363c45d3fe99be2f198c2c2243db4", func := "loop.example/g01271/laws.FnExactCompareGames", spec := "fnExactCompareGames", inPlace := ["internal/bytealg.IndexByteString", "internal/abi.NoEscape", "internal/bytealg.MakeNoZero"], unfollowed := true, recurses := true, plainKeys := false, apart := false }
def FnExactCompareGamesSaid : Prop := fnExactCompareGamesRow.holds Try.pinned (OpenSpec.ofChange fnExactCompareGamesSpec)

/-- ITS FALSE NEIGHBOUR: 'it returns false'. Refute it at one input. -/
def fnExactCompareGamesWrong : ChangeSpec := { name := "fnExactCompareGames", fn := fun _ => fun
  | [d1, d2] => { results := [.lit (.bool false)], args := [d1, d2] }
  | _ => none }
def FnExactCompareGamesWrongFalsely : Prop := fnExactCompareGamesRow.holds Try.pinned (OpenSpec.ofChange fnExactCompareGamesWrong)

/-- 'laws.FnExactWholeValue': WHATEVER THE INPUT: true; the input reads as it did. -/
def fnExactWholeValueSpec : ChangeSpec := { name := "fnExactWholeValue", fn := fun _ => fun
  | [d] => { results := [.lit (.bool true)], args := [d] }
  | _ => none }
def fnExactWholeValueRow : OpenClaim := { program := "yticdhapbkfbhjaa", sum := "7f4b9ab50b5520009974f712bb43e6049e3363c45d3fe99be2f198c2c2243db4", func := "loop.example/g01271/laws.FnExactWholeValue", spec := "fnExactWholeValue", inPlace := ["internal/bytealg.IndexByteString", "internal/abi.NoEscape", "internal/bytealg.MakeNoZero"], unfollowed := true, recurses := true, plainKeys := false, apart := false }
def FnExactWholeValueSaid : Prop := fnExactWholeValueRow.holds Try.pinned (OpenSpec.ofChange fnExactWholeValueSpec)

/-- ITS FALSE NEIGHBOUR: 'it returns false'. Refute it at one input. -/
def fnExactWholeValueWrong : ChangeSpec := { name := "fnExactWholeValue", fn := fun _ => fun
  | [d] => { results := [.lit (.bool false)], args := [d] }
  | _ => none }
def FnExactWholeValueWrongFalsely : Prop := fnExactWholeValueRow.holds Try.pinned (OpenSpec.ofChange fnExactWholeValueWrong)

/-- 'laws.FnExactPlayByRule': WHATEVER THE INPUT: true; the input reads as it did. -/
def fnExactPlayByRuleSpec : ChangeSpec := { name := "fnExactPlayByRule", fn := fun _ => fun
  | [d1, d2, d3] => { results := [.lit (.bool true)], args := [d1, d2, d3] }
  | _ => none }
def fnExactPlayByRuleRow : OpenClaim := { program := "yticdhapbkfbhjaa", sum := "7f4b9ab50b5520009974f712bb43e6049e3363c45d3fe99be2f198c2c2243db4", func := "loop.example/g01271/laws.FnExactPlayByRule", spec := "fnExactPlayByRule", inPlace := ["internal/bytealg.IndexByteString"], unfollowed := true, recurses := true, plainKeys := false, apart := false }
def FnExactPlayByRuleSaid : Prop := fnExactPlayByRuleRow.holds Try.pinned (OpenSpec.ofChange fnExactPlayByRuleSpec)

/-- ITS FALSE NEIGHBOUR: 'it returns false'. Refute it at one input. -/
def fnExactPlayByRuleWrong : ChangeSpec := { name := "fnExactPlayByRule", fn := fun _ => fun
  | [d1, d2, d3] => { results := [.lit (.bool false)], args := [d1, d2, d3] }
  | _ => none }
def FnExactPlayByRuleWrongFalsely : Prop := fnExactPlayByRuleRow.holds Try.pinned (OpenSpec.ofChange fnExactPlayByRuleWrong)

/-- 'laws.FnExactWordOfMoves': WHATEVER THE INPUT: true; the input reads as it did. -/
def fnExactWordOfMovesSpec : ChangeSpec := { name := "fnExactWordOfMoves", fn := fun _ => fun
  | [d1, d2] => { results := [.lit (.bool true)], args := [d1, d2] }
  | _ => none }
def fnExactWordOfMovesRow : OpenClaim := { program := "yticdhapbkfbhjaa", sum := "7f4b9ab50b5520009974f712bb43e6049e3363c45d3fe99be2f198c2c2243db4", func := "loop.example/g01271/laws.FnExactWordOfMoves", spec := "fnExactWordOfMoves", inPlace := ["internal/bytealg.IndexByteString"], unfollowed := true, recurses := true, plainKeys := false, apart := false }
def FnExactWordOfMovesSaid : Prop := fnExactWordOfMovesRow.holds Try.pinned (OpenSpec.ofChange fnExactWordOfMovesSpec)

/-- ITS FALSE NEIGHBOUR: 'it returns false'. Refute it at one input. -/
def fnExactWordOfMovesWrong : ChangeSpec := { name := "fnExactWordOfMoves", fn := fun _ => fun
  | [d1, d2] => { results := [.lit (.bool false)], args := [d1, d2] }
  | _ => none }
def FnExactWordOfMovesWrongFalsely : Prop := fnExactWordOfMovesRow.holds Try.pinned (OpenSpec.ofChange fnExactWordOfMovesWrong)

/- THE SECOND FORM. 'bulk': how many values and letters a reading holds, each counted each time it is reached (what is shared counts as often as it is met; a slice's spare places count too). A statement '..UptoSaid' is the law's where the arguments, and the package variables that the reading takes, are together of bulk at most 1048576: NARROWER than '..Said'. Prove '..Said' where nothing that the law and all that it calls make is longer than what came in: it says more and counts as full. Else prove '..UptoSaid'. A law counts once. -/
mutual
def uptoBulk {H : Type} : DataW H → Nat
  | .lit (.string bytes) => bytes.length + 1
  | .lit _ => 1
  | .nil => 1
  | .ptr d => uptoBulk d + 1
  | .slice elems spare => uptoBulkAll elems + uptoBulkAll spare + 1
  | .agg parts => uptoBulkAll parts + 1
  | .iface _ d => uptoBulk d + 1
  | .map entries => uptoBulkEntries entries + 1
  | .held _ => 1
def uptoBulkAll {H : Type} : List (DataW H) → Nat
  | [] => 0
  | d :: r => uptoBulk d + uptoBulkAll r
def uptoBulkEntries {H : Type} : List (Lit × DataW H) → Nat
  | [] => 0
  | x :: r => uptoBulkEntry x + uptoBulkEntries r
def uptoBulkEntry {H : Type} : Lit × DataW H → Nat
  | (.string bytes, d) => bytes.length + uptoBulk d + 1
  | (_, d) => uptoBulk d + 1
 end
def uptoSmall : (H : Type) → List (DataW H) → Bool := fun _ ds => decide (uptoBulkAll ds ≤ 1048576)
def OpenSpec.upto (s : _root_.Go.ChangeSpec) : _root_.Go.OpenSpec := { _root_.Go.OpenSpec.ofChange s with cond := some uptoSmall }

/-- 'laws.FnExactPlayMoves', WHERE WHAT IT READS IS OF BULK AT MOST 1048576: true; the input reads as it did. -/
def fnExactPlayMovesUptoRow : OpenClaim := { program := "yticdhapbkfbhjaa", sum := "7f4b9ab50b5520009974f712bb43e6049e3363c45d3fe99be2f198c2c2243db4", func := "loop.example/g01271/laws.FnExactPlayMoves", spec := "fnExactPlayMoves", inPlace := ["internal/bytealg.IndexByteString"], unfollowed := true, recurses := true, plainKeys := false, apart := false, narrowed := true }
def FnExactPlayMovesUptoSaid : Prop := fnExactPlayMovesUptoRow.holds Try.pinned (OpenSpec.upto fnExactPlayMovesSpec)

/-- 'laws.FnExactMoveThatFails', WHERE WHAT IT READS IS OF BULK AT MOST 1048576: true; the input reads as it did. -/
def fnExactMoveThatFailsUptoRow : OpenClaim := { program := "yticdhapbkfbhjaa", sum := "7f4b9ab50b5520009974f712bb43e6049e3363c45d3fe99be2f198c2c2243db4", func := "loop.example/g01271/laws.FnExactMoveThatFails", spec := "fnExactMoveThatFails", inPlace := ["internal/bytealg.IndexByteString"], unfollowed := true, recurses := true, plainKeys := false, apart := false, narrowed := true }
def FnExactMoveThatFailsUptoSaid : Prop := fnExactMoveThatFailsUptoRow.holds Try.pinned (OpenSpec.upto fnExactMoveThatFailsSpec)

/-- 'laws.FnExactOtherLine', WHERE WHAT IT READS IS OF BULK AT MOST 1048576: true; the input reads as it did. -/
def fnExactOtherLineUptoRow : OpenClaim := { program := "yticdhapbkfbhjaa", sum := "7f4b9ab50b5520009974f712bb43e6049e3363c45d3fe99be2f198c2c2243db4", func := "loop.example/g01271/laws.FnExactOtherLine", spec := "fnExactOtherLine", inPlace := ["internal/bytealg.IndexByteString"], plainKeys := false, apart := false, narrowed := true }
def FnExactOtherLineUptoSaid : Prop := fnExactOtherLineUptoRow.holds Try.pinned (OpenSpec.upto fnExactOtherLineSpec)

/-- 'laws.FnExactIsExchange', WHERE WHAT IT READS IS OF BULK AT MOST 1048576: true; the input reads as it did. -/
def fnExactIsExchangeUptoRow : OpenClaim := { program := "yticdhapbkfbhjaa", sum := "7f4b9ab50b5520009974f712bb43e6049e3363c45d3fe99be2f198c2c2243db4", func := "loop.example/g01271/laws.FnExactIsExchange", spec := "fnExactIsExchange", inPlace := ["internal/abi.NoEscape", "internal/bytealg.MakeNoZero", "internal/bytealg.IndexByteString", "internal/bytealg.CountString", "internal/bytealg.IndexString"], unfollowed := true, recurses := true, named := ["internal/bytealg.MaxLen"], plainKeys := false, apart := false, narrowed := true }
def FnExactIsExchangeUptoSaid : Prop := fnExactIsExchangeUptoRow.holds Try.pinned (OpenSpec.upto fnExactIsExchangeSpec)

/-- 'laws.FnExactBackExchange', WHERE WHAT IT READS IS OF BULK AT MOST 1048576: true; the input reads as it did. -/
def fnExactBackExchangeUptoRow : OpenClaim := { program := "yticdhapbkfbhjaa", sum := "7f4b9ab50b5520009974f712bb43e6049e3363c45d3fe99be2f198c2c2243db4", func := "loop.example/g01271/laws.FnExactBackExchange", spec := "fnExactBackExchange", inPlace := ["internal/abi.NoEscape", "internal/bytealg.MakeNoZero", "internal/bytealg.IndexByteString", "internal/bytealg.CountString", "internal/bytealg.IndexString"], unfollowed := true, recurses := true, named := ["internal/bytealg.MaxLen"], plainKeys := false, apart := false, narrowed := true }
def FnExactBackExchangeUptoSaid : Prop := fnExactBackExchangeUptoRow.holds Try.pinned (OpenSpec.upto fnExactBackExchangeSpec)

/-- 'laws.FnExactIsOwnBack', WHERE WHAT IT READS IS OF BULK AT MOST 1048576: true; the input reads as it did. -/
def fnExactIsOwnBackUptoRow : OpenClaim := { program := "yticdhapbkfbhjaa", sum := "7f4b9ab50b5520009974f712bb43e6049e3363c45d3fe99be2f198c2c2243db4", func := "loop.example/g01271/laws.FnExactIsOwnBack", spec := "fnExactIsOwnBack", inPlace := ["internal/abi.NoEscape", "internal/bytealg.MakeNoZero", "internal/bytealg.IndexByteString", "internal/bytealg.CountString", "internal/bytealg.IndexString"], unfollowed := true, recurses := true, named := ["internal/bytealg.MaxLen"], plainKeys := false, apart := false, narrowed := true }
def FnExactIsOwnBackUptoSaid : Prop := fnExactIsOwnBackUptoRow.holds Try.pinned (OpenSpec.upto fnExactIsOwnBackSpec)

/-- 'laws.FnExactCompareGames', WHERE WHAT IT READS IS OF BULK AT MOST 1048576: true; the input reads as it did. -/
def fnExactCompareGamesUptoRow : OpenClaim := { program := "yticdhapbkfbhjaa", sum := "7f4b9ab50b5520009974f712bb43e6049e3363c45d3fe99be2f198c2c2243db4", func := "loop.example/g01271/laws.FnExactCompareGames", spec := "fnExactCompareGames", inPlace := ["internal/bytealg.IndexByteString", "internal/abi.NoEscape", "internal/bytealg.MakeNoZero"], unfollowed := true, recurses := true, plainKeys := false, apart := false, narrowed := true }
def FnExactCompareGamesUptoSaid : Prop := fnExactCompareGamesUptoRow.holds Try.pinned (OpenSpec.upto fnExactCompareGamesSpec)

/-- 'laws.FnExactWholeValue', WHERE WHAT IT READS IS OF BULK AT MOST 1048576: true; the input reads as it did. -/
def fnExactWholeValueUptoRow : OpenClaim := { program := "yticdhapbkfbhjaa", sum := "7f4b9ab50b5520009974f712bb43e6049e3363c45d3fe99be2f198c2c2243db4", func := "loop.example/g01271/laws.FnExactWholeValue", spec := "fnExactWholeValue", inPlace := ["internal/bytealg.IndexByteString", "internal/abi.NoEscape", "internal/bytealg.MakeNoZero"], unfollowed := true, recurses := true, plainKeys := false, apart := false, narrowed := true }
def FnExactWholeValueUptoSaid : Prop := fnExactWholeValueUptoRow.holds Try.pinned (OpenSpec.upto fnExactWholeValueSpec)

/-- 'laws.FnExactPlayByRule', WHERE WHAT IT READS IS OF BULK AT MOST 1048576: true; the input reads as it did. -/
def fnExactPlayByRuleUptoRow : OpenClaim := { program := "yticdhapbkfbhjaa", sum := "7f4b9ab50b5520009974f712bb43e6049e3363c45d3fe99be2f198c2c2243db4", func := "loop.example/g01271/laws.FnExactPlayByRule", spec := "fnExactPlayByRule", inPlace := ["internal/bytealg.IndexByteString"], unfollowed := true, recurses := true, plainKeys := false, apart := false, narrowed := true }
def FnExactPlayByRuleUptoSaid : Prop := fnExactPlayByRuleUptoRow.holds Try.pinned (OpenSpec.upto fnExactPlayByRuleSpec)

/-- 'laws.FnExactWordOfMoves', WHERE WHAT IT READS IS OF BULK AT MOST 1048576: true; the input reads as it did. -/
def fnExactWordOfMovesUptoRow : OpenClaim := { program := "yticdhapbkfbhjaa", sum := "7f4b9ab50b5520009974f712bb43e6049e3363c45d3fe99be2f198c2c2243db4", func := "loop.example/g01271/laws.FnExactWordOfMoves", spec := "fnExactWordOfMoves", inPlace := ["internal/bytealg.IndexByteString"], unfollowed := true, recurses := true, plainKeys := false, apart := false, narrowed := true }
def FnExactWordOfMovesUptoSaid : Prop := fnExactWordOfMovesUptoRow.holds Try.pinned (OpenSpec.upto fnExactWordOfMovesSpec)

end Rows
end Go.Proofs.Yticdhapbkfbhjaa
