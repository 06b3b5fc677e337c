/-
  No cell of these rows narrows 'for every input' (looked for: loops, veiled, ifaces, maps, wideKeys, modest, calm, conditions, laid).
  DERIVED. THE GIVEN ROWS OF THIS SEAT. 14 by the template 'for every input the law returns true; each argument reads behind the call as it read before'; 0 by the template 'total and deterministic' (their statements: YtdjfkhhlnkkilaaTotals.lean).
  GIVEN WITH THE SEED: the statements are not yours to turn. If you find one false, say at which input.
  Laid BY PROGRAM, IN A SANDBOX (cutbox-rows.mjs): the forced cells as the released guide's own fill.sh prints them over the translation 80f4c0b4ea079e9a… (all of the seat's roots in one cut). By AI agents, Wed Nov 11 2026. No macro, syntax, notation, axiom, sorry.
-/
import Derived.Test.YtdjfkhhlnkkilaaChecked
import GoSem.Claim
import GoSem.ClaimJoined
import GoSem.ClaimMapViews
import Derived.JoinedTies
import Derived.KernelRfl
namespace Go.Proofs.Ytdjfkhhlnkkilaa
/- THE CELL 'sum', in the pinned program and in every row, IS THE sha256 OF THE DUMP (.gsa) THAT YtdjfkhhlnkkilaaProg.lean LOADS. Nothing in Lean hashes anything: it is a label: what it is worth is what the hold of that sum in a sandbox is worth. -/
noncomputable def Try.pinned : Pinned := { name := "ytdjfkhhlnkkilaa", sum := "80f4c0b4ea079e9a265af4eacfd08b973ead382ebd5005fd13a8c76d166cc3f6", checked := Try.checked }
namespace Rows
def none {H : Type} : Left H := { results := [], args := [] }

/-- 'laws.FnExactReachedFrom': WHATEVER THE INPUT: true; the input reads as it did. -/
def fnExactReachedFromSpec : ChangeSpec := { name := "fnExactReachedFrom", fn := fun _ => fun
  | [d] => { results := [.lit (.bool true)], args := [d] }
  | _ => none }
def fnExactReachedFromRow : OpenClaim := { program := "ytdjfkhhlnkkilaa", sum := "80f4c0b4ea079e9a265af4eacfd08b973ead382ebd5005fd13a8c76d166cc3f6", func := "loop.example/g01271/laws.FnExactReachedFrom", spec := "fnExactReachedFrom", inPlace := ["internal/bytealg.IndexByteString"], unfollowed := true, recurses := true, apart := false }
def FnExactReachedFromSaid : Prop := fnExactReachedFromRow.holds Try.pinned (OpenSpec.ofChange fnExactReachedFromSpec)

/-- ITS FALSE NEIGHBOUR: 'it returns false'. Refute it at one input. -/
def fnExactReachedFromWrong : ChangeSpec := { name := "fnExactReachedFrom", fn := fun _ => fun
  | [d] => { results := [.lit (.bool false)], args := [d] }
  | _ => none }
def FnExactReachedFromWrongFalsely : Prop := fnExactReachedFromRow.holds Try.pinned (OpenSpec.ofChange fnExactReachedFromWrong)

/-- 'laws.FnExactCountReached': WHATEVER THE INPUT: true; the input reads as it did. -/
def fnExactCountReachedSpec : ChangeSpec := { name := "fnExactCountReached", fn := fun _ => fun
  | [d] => { results := [.lit (.bool true)], args := [d] }
  | _ => none }
def fnExactCountReachedRow : OpenClaim := { program := "ytdjfkhhlnkkilaa", sum := "80f4c0b4ea079e9a265af4eacfd08b973ead382ebd5005fd13a8c76d166cc3f6", func := "loop.example/g01271/laws.FnExactCountReached", spec := "fnExactCountReached", inPlace := ["internal/bytealg.IndexByteString"], unfollowed := true, recurses := true, apart := false }
def FnExactCountReachedSaid : Prop := fnExactCountReachedRow.holds Try.pinned (OpenSpec.ofChange fnExactCountReachedSpec)

/-- ITS FALSE NEIGHBOUR: 'it returns false'. Refute it at one input. -/
def fnExactCountReachedWrong : ChangeSpec := { name := "fnExactCountReached", fn := fun _ => fun
  | [d] => { results := [.lit (.bool false)], args := [d] }
  | _ => none }
def FnExactCountReachedWrongFalsely : Prop := fnExactCountReachedRow.holds Try.pinned (OpenSpec.ofChange fnExactCountReachedWrong)

/-- 'laws.FnExactCanReach': WHATEVER THE INPUT: true; the input reads as it did. -/
def fnExactCanReachSpec : ChangeSpec := { name := "fnExactCanReach", fn := fun _ => fun
  | [d1, d2] => { results := [.lit (.bool true)], args := [d1, d2] }
  | _ => none }
def fnExactCanReachRow : OpenClaim := { program := "ytdjfkhhlnkkilaa", sum := "80f4c0b4ea079e9a265af4eacfd08b973ead382ebd5005fd13a8c76d166cc3f6", func := "loop.example/g01271/laws.FnExactCanReach", spec := "fnExactCanReach", inPlace := ["internal/bytealg.IndexByteString"], unfollowed := true, recurses := true, apart := false }
def FnExactCanReachSaid : Prop := fnExactCanReachRow.holds Try.pinned (OpenSpec.ofChange fnExactCanReachSpec)

/-- ITS FALSE NEIGHBOUR: 'it returns false'. Refute it at one input. -/
def fnExactCanReachWrong : ChangeSpec := { name := "fnExactCanReach", fn := fun _ => fun
  | [d1, d2] => { results := [.lit (.bool false)], args := [d1, d2] }
  | _ => none }
def FnExactCanReachWrongFalsely : Prop := fnExactCanReachRow.holds Try.pinned (OpenSpec.ofChange fnExactCanReachWrong)

/-- 'laws.FnExactMovesBetween': WHATEVER THE INPUT: true; the input reads as it did. -/
def fnExactMovesBetweenSpec : ChangeSpec := { name := "fnExactMovesBetween", fn := fun _ => fun
  | [d1, d2] => { results := [.lit (.bool true)], args := [d1, d2] }
  | _ => none }
def fnExactMovesBetweenRow : OpenClaim := { program := "ytdjfkhhlnkkilaa", sum := "80f4c0b4ea079e9a265af4eacfd08b973ead382ebd5005fd13a8c76d166cc3f6", func := "loop.example/g01271/laws.FnExactMovesBetween", spec := "fnExactMovesBetween", inPlace := ["internal/bytealg.IndexByteString"], unfollowed := true, recurses := true, apart := false }
def FnExactMovesBetweenSaid : Prop := fnExactMovesBetweenRow.holds Try.pinned (OpenSpec.ofChange fnExactMovesBetweenSpec)

/-- ITS FALSE NEIGHBOUR: 'it returns false'. Refute it at one input. -/
def fnExactMovesBetweenWrong : ChangeSpec := { name := "fnExactMovesBetween", fn := fun _ => fun
  | [d1, d2] => { results := [.lit (.bool false)], args := [d1, d2] }
  | _ => none }
def FnExactMovesBetweenWrongFalsely : Prop := fnExactMovesBetweenRow.holds Try.pinned (OpenSpec.ofChange fnExactMovesBetweenWrong)

/-- 'laws.FnExactCountPlays': WHATEVER THE INPUT: true; the input reads as it did. -/
def fnExactCountPlaysSpec : ChangeSpec := { name := "fnExactCountPlays", fn := fun _ => fun
  | [d1, d2] => { results := [.lit (.bool true)], args := [d1, d2] }
  | _ => none }
def fnExactCountPlaysRow : OpenClaim := { program := "ytdjfkhhlnkkilaa", sum := "80f4c0b4ea079e9a265af4eacfd08b973ead382ebd5005fd13a8c76d166cc3f6", func := "loop.example/g01271/laws.FnExactCountPlays", spec := "fnExactCountPlays", inPlace := ["internal/bytealg.IndexByteString"], unfollowed := true, recurses := true, apart := false }
def FnExactCountPlaysSaid : Prop := fnExactCountPlaysRow.holds Try.pinned (OpenSpec.ofChange fnExactCountPlaysSpec)

/-- ITS FALSE NEIGHBOUR: 'it returns false'. Refute it at one input. -/
def fnExactCountPlaysWrong : ChangeSpec := { name := "fnExactCountPlays", fn := fun _ => fun
  | [d1, d2] => { results := [.lit (.bool false)], args := [d1, d2] }
  | _ => none }
def FnExactCountPlaysWrongFalsely : Prop := fnExactCountPlaysRow.holds Try.pinned (OpenSpec.ofChange fnExactCountPlaysWrong)

/-- 'laws.FnExactFirstPlay': WHATEVER THE INPUT: true; the input reads as it did. -/
def fnExactFirstPlaySpec : ChangeSpec := { name := "fnExactFirstPlay", fn := fun _ => fun
  | [d1, d2] => { results := [.lit (.bool true)], args := [d1, d2] }
  | _ => none }
def fnExactFirstPlayRow : OpenClaim := { program := "ytdjfkhhlnkkilaa", sum := "80f4c0b4ea079e9a265af4eacfd08b973ead382ebd5005fd13a8c76d166cc3f6", func := "loop.example/g01271/laws.FnExactFirstPlay", spec := "fnExactFirstPlay", inPlace := ["internal/bytealg.IndexByteString"], unfollowed := true, recurses := true, apart := false }
def FnExactFirstPlaySaid : Prop := fnExactFirstPlayRow.holds Try.pinned (OpenSpec.ofChange fnExactFirstPlaySpec)

/-- ITS FALSE NEIGHBOUR: 'it returns false'. Refute it at one input. -/
def fnExactFirstPlayWrong : ChangeSpec := { name := "fnExactFirstPlay", fn := fun _ => fun
  | [d1, d2] => { results := [.lit (.bool false)], args := [d1, d2] }
  | _ => none }
def FnExactFirstPlayWrongFalsely : Prop := fnExactFirstPlayRow.holds Try.pinned (OpenSpec.ofChange fnExactFirstPlayWrong)

/-- 'laws.FnExactLinesBefore': WHATEVER THE INPUT: true; the input reads as it did. -/
def fnExactLinesBeforeSpec : ChangeSpec := { name := "fnExactLinesBefore", fn := fun _ => fun
  | [d] => { results := [.lit (.bool true)], args := [d] }
  | _ => none }
def fnExactLinesBeforeRow : OpenClaim := { program := "ytdjfkhhlnkkilaa", sum := "80f4c0b4ea079e9a265af4eacfd08b973ead382ebd5005fd13a8c76d166cc3f6", func := "loop.example/g01271/laws.FnExactLinesBefore", spec := "fnExactLinesBefore", inPlace := ["internal/bytealg.IndexByteString"], unfollowed := true, recurses := true, apart := false }
def FnExactLinesBeforeSaid : Prop := fnExactLinesBeforeRow.holds Try.pinned (OpenSpec.ofChange fnExactLinesBeforeSpec)

/-- ITS FALSE NEIGHBOUR: 'it returns false'. Refute it at one input. -/
def fnExactLinesBeforeWrong : ChangeSpec := { name := "fnExactLinesBefore", fn := fun _ => fun
  | [d] => { results := [.lit (.bool false)], args := [d] }
  | _ => none }
def FnExactLinesBeforeWrongFalsely : Prop := fnExactLinesBeforeRow.holds Try.pinned (OpenSpec.ofChange fnExactLinesBeforeWrong)

/-- 'laws.FnExactDeadEnds': WHATEVER THE INPUT: true; the input reads as it did. -/
def fnExactDeadEndsSpec : ChangeSpec := { name := "fnExactDeadEnds", fn := fun _ => fun
  | [d] => { results := [.lit (.bool true)], args := [d] }
  | _ => none }
def fnExactDeadEndsRow : OpenClaim := { program := "ytdjfkhhlnkkilaa", sum := "80f4c0b4ea079e9a265af4eacfd08b973ead382ebd5005fd13a8c76d166cc3f6", func := "loop.example/g01271/laws.FnExactDeadEnds", spec := "fnExactDeadEnds", inPlace := ["internal/bytealg.IndexByteString"], unfollowed := true, recurses := true, apart := false }
def FnExactDeadEndsSaid : Prop := fnExactDeadEndsRow.holds Try.pinned (OpenSpec.ofChange fnExactDeadEndsSpec)

/-- ITS FALSE NEIGHBOUR: 'it returns false'. Refute it at one input. -/
def fnExactDeadEndsWrong : ChangeSpec := { name := "fnExactDeadEnds", fn := fun _ => fun
  | [d] => { results := [.lit (.bool false)], args := [d] }
  | _ => none }
def FnExactDeadEndsWrongFalsely : Prop := fnExactDeadEndsRow.holds Try.pinned (OpenSpec.ofChange fnExactDeadEndsWrong)

/-- 'laws.FnExactLongestPlay': WHATEVER THE INPUT: true; the input reads as it did. -/
def fnExactLongestPlaySpec : ChangeSpec := { name := "fnExactLongestPlay", fn := fun _ => fun
  | [d] => { results := [.lit (.bool true)], args := [d] }
  | _ => none }
def fnExactLongestPlayRow : OpenClaim := { program := "ytdjfkhhlnkkilaa", sum := "80f4c0b4ea079e9a265af4eacfd08b973ead382ebd5005fd13a8c76d166cc3f6", func := "loop.example/g01271/laws.FnExactLongestPlay", spec := "fnExactLongestPlay", inPlace := ["internal/bytealg.IndexByteString"], unfollowed := true, recurses := true, apart := false }
def FnExactLongestPlaySaid : Prop := fnExactLongestPlayRow.holds Try.pinned (OpenSpec.ofChange fnExactLongestPlaySpec)

/-- ITS FALSE NEIGHBOUR: 'it returns false'. Refute it at one input. -/
def fnExactLongestPlayWrong : ChangeSpec := { name := "fnExactLongestPlay", fn := fun _ => fun
  | [d] => { results := [.lit (.bool false)], args := [d] }
  | _ => none }
def FnExactLongestPlayWrongFalsely : Prop := fnExactLongestPlayRow.holds Try.pinned (OpenSpec.ofChange fnExactLongestPlayWrong)

/-- 'laws.FnExactShortestStop': WHATEVER THE INPUT: true; the input reads as it did. -/
def fnExactShortestStopSpec : ChangeSpec := { name := "fnExactShortestStop", fn := fun _ => fun
  | [d] => { results := [.lit (.bool true)], args := [d] }
  | _ => none }
def fnExactShortestStopRow : OpenClaim := { program := "ytdjfkhhlnkkilaa", sum := "80f4c0b4ea079e9a265af4eacfd08b973ead382ebd5005fd13a8c76d166cc3f6", func := "loop.example/g01271/laws.FnExactShortestStop", spec := "fnExactShortestStop", inPlace := ["internal/bytealg.IndexByteString"], unfollowed := true, recurses := true, apart := false }
def FnExactShortestStopSaid : Prop := fnExactShortestStopRow.holds Try.pinned (OpenSpec.ofChange fnExactShortestStopSpec)

/-- ITS FALSE NEIGHBOUR: 'it returns false'. Refute it at one input. -/
def fnExactShortestStopWrong : ChangeSpec := { name := "fnExactShortestStop", fn := fun _ => fun
  | [d] => { results := [.lit (.bool false)], args := [d] }
  | _ => none }
def FnExactShortestStopWrongFalsely : Prop := fnExactShortestStopRow.holds Try.pinned (OpenSpec.ofChange fnExactShortestStopWrong)

/-- 'laws.FnExactCountAllPlays': WHATEVER THE INPUT: true; the input reads as it did. -/
def fnExactCountAllPlaysSpec : ChangeSpec := { name := "fnExactCountAllPlays", fn := fun _ => fun
  | [d] => { results := [.lit (.bool true)], args := [d] }
  | _ => none }
def fnExactCountAllPlaysRow : OpenClaim := { program := "ytdjfkhhlnkkilaa", sum := "80f4c0b4ea079e9a265af4eacfd08b973ead382ebd5005fd13a8c76d166cc3f6", func := "loop.example/g01271/laws.FnExactCountAllPlays", spec := "fnExactCountAllPlays", inPlace := ["internal/bytealg.IndexByteString"], unfollowed := true, recurses := true, apart := false }
def FnExactCountAllPlaysSaid : Prop := fnExactCountAllPlaysRow.holds Try.pinned (OpenSpec.ofChange fnExactCountAllPlaysSpec)

/-- ITS FALSE NEIGHBOUR: 'it returns false'. Refute it at one input. -/
def fnExactCountAllPlaysWrong : ChangeSpec := { name := "fnExactCountAllPlays", fn := fun _ => fun
  | [d] => { results := [.lit (.bool false)], args := [d] }
  | _ => none }
def FnExactCountAllPlaysWrongFalsely : Prop := fnExactCountAllPlaysRow.holds Try.pinned (OpenSpec.ofChange fnExactCountAllPlaysWrong)

/-- 'laws.FnExactNearestLine': WHATEVER THE INPUT: true; the input reads as it did. -/
def fnExactNearestLineSpec : ChangeSpec := { name := "fnExactNearestLine", fn := fun _ => fun
  | [d] => { results := [.lit (.bool true)], args := [d] }
  | _ => none }
def fnExactNearestLineRow : OpenClaim := { program := "ytdjfkhhlnkkilaa", sum := "80f4c0b4ea079e9a265af4eacfd08b973ead382ebd5005fd13a8c76d166cc3f6", func := "loop.example/g01271/laws.FnExactNearestLine", spec := "fnExactNearestLine", inPlace := ["internal/bytealg.IndexByteString", "internal/bytealg.CountString", "internal/bytealg.IndexString"], unfollowed := true, recurses := true, named := ["internal/bytealg.MaxLen"], apart := false }
def FnExactNearestLineSaid : Prop := fnExactNearestLineRow.holds Try.pinned (OpenSpec.ofChange fnExactNearestLineSpec)

/-- ITS FALSE NEIGHBOUR: 'it returns false'. Refute it at one input. -/
def fnExactNearestLineWrong : ChangeSpec := { name := "fnExactNearestLine", fn := fun _ => fun
  | [d] => { results := [.lit (.bool false)], args := [d] }
  | _ => none }
def FnExactNearestLineWrongFalsely : Prop := fnExactNearestLineRow.holds Try.pinned (OpenSpec.ofChange fnExactNearestLineWrong)

/-- 'laws.FnExactCanFinish': WHATEVER THE INPUT: true; the input reads as it did. -/
def fnExactCanFinishSpec : ChangeSpec := { name := "fnExactCanFinish", fn := fun _ => fun
  | [d] => { results := [.lit (.bool true)], args := [d] }
  | _ => none }
def fnExactCanFinishRow : OpenClaim := { program := "ytdjfkhhlnkkilaa", sum := "80f4c0b4ea079e9a265af4eacfd08b973ead382ebd5005fd13a8c76d166cc3f6", func := "loop.example/g01271/laws.FnExactCanFinish", spec := "fnExactCanFinish", inPlace := ["internal/bytealg.IndexByteString", "internal/bytealg.CountString", "internal/bytealg.IndexString", "internal/abi.NoEscape", "internal/bytealg.MakeNoZero"], unfollowed := true, recurses := true, named := ["internal/bytealg.MaxLen"], apart := false }
def FnExactCanFinishSaid : Prop := fnExactCanFinishRow.holds Try.pinned (OpenSpec.ofChange fnExactCanFinishSpec)

/-- ITS FALSE NEIGHBOUR: 'it returns false'. Refute it at one input. -/
def fnExactCanFinishWrong : ChangeSpec := { name := "fnExactCanFinish", fn := fun _ => fun
  | [d] => { results := [.lit (.bool false)], args := [d] }
  | _ => none }
def FnExactCanFinishWrongFalsely : Prop := fnExactCanFinishRow.holds Try.pinned (OpenSpec.ofChange fnExactCanFinishWrong)

/-- 'laws.FnExactReachedAfter': WHATEVER THE INPUT: true; the input reads as it did. -/
def fnExactReachedAfterSpec : ChangeSpec := { name := "fnExactReachedAfter", fn := fun _ => fun
  | [d1, d2] => { results := [.lit (.bool true)], args := [d1, d2] }
  | _ => none }
def fnExactReachedAfterRow : OpenClaim := { program := "ytdjfkhhlnkkilaa", sum := "80f4c0b4ea079e9a265af4eacfd08b973ead382ebd5005fd13a8c76d166cc3f6", func := "loop.example/g01271/laws.FnExactReachedAfter", spec := "fnExactReachedAfter", inPlace := ["internal/bytealg.IndexByteString"], unfollowed := true, recurses := true, apart := false }
def FnExactReachedAfterSaid : Prop := fnExactReachedAfterRow.holds Try.pinned (OpenSpec.ofChange fnExactReachedAfterSpec)

/-- ITS FALSE NEIGHBOUR: 'it returns false'. Refute it at one input. -/
def fnExactReachedAfterWrong : ChangeSpec := { name := "fnExactReachedAfter", fn := fun _ => fun
  | [d1, d2] => { results := [.lit (.bool false)], args := [d1, d2] }
  | _ => none }
def FnExactReachedAfterWrongFalsely : Prop := fnExactReachedAfterRow.holds Try.pinned (OpenSpec.ofChange fnExactReachedAfterWrong)

/- THE SECOND FORM. 'bulk': how many values and letters a reading holds, each counted each time it is reached (what is shared counts as often as it is met; a slice's spare places count too). A statement '..UptoSaid' is the law's where the arguments, and the package variables that the reading takes, are together of bulk at most 1048576: NARROWER than '..Said'. Prove '..Said' where nothing that the law and all that it calls make is longer than what came in: it says more and counts as full. Else prove '..UptoSaid'. A law counts once. -/
mutual
def uptoBulk {H : Type} : DataW H → Nat
  | .lit (.string bytes) => bytes.length + 1
  | .lit _ => 1
  | .nil => 1
  | .ptr d => uptoBulk d + 1
  | .slice elems spare => uptoBulkAll elems + uptoBulkAll spare + 1
  | .agg parts => uptoBulkAll parts + 1
  | .iface _ d => uptoBulk d + 1
  | .map entries => uptoBulkEntries entries + 1
  | .held _ => 1
def uptoBulkAll {H : Type} : List (DataW H) → Nat
  | [] => 0
  | d :: r => uptoBulk d + uptoBulkAll r
def uptoBulkEntries {H : Type} : List (Lit × DataW H) → Nat
  | [] => 0
  | x :: r => uptoBulkEntry x + uptoBulkEntries r
def uptoBulkEntry {H : Type} : Lit × DataW H → Nat
  | (.string bytes, d) => bytes.length + uptoBulk d + 1
  | (_, d) => uptoBulk d + 1
 end
def uptoSmall : (H : Type) → List (DataW H) → Bool := fun _ ds => decide (uptoBulkAll ds ≤ 1048576)
def OpenSpec.upto (s : _root_.Go.ChangeSpec) : _root_.Go.OpenSpec := { _root_.Go.OpenSpec.ofChange s with cond := some uptoSmall }

/-- 'laws.FnExactReachedFrom', WHERE WHAT IT READS IS OF BULK AT MOST 1048576: true; the input reads as it did. -/
def fnExactReachedFromUptoRow : OpenClaim := { program := "ytdjfkhhlnkkilaa", sum := "80f4c0b4ea079e9a265af4eacfd08b973ead382ebd5005fd13a8c76d166cc3f6", func := "loop.example/g01271/laws.FnExactReachedFrom", spec := "fnExactReachedFrom", inPlace := ["internal/bytealg.IndexByteString"], unfollowed := true, recurses := true, apart := false, narrowed := true }
def FnExactReachedFromUptoSaid : Prop := fnExactReachedFromUptoRow.holds Try.pinned (OpenSpec.upto fnExactReachedFromSpec)

/-- 'laws.FnExactCountReached', WHERE WHAT IT READS IS OF BULK AT MOST 1048576: true; the input reads as it did. -/
def fnExactCountReachedUptoRow : OpenClaim := { program := "ytdjfkhhlnkkilaa", sum := "80f4c0b4ea079e9a265af4eacfd08b973ead382ebd5005fd13a8c76d166cc3f6", func := "loop.example/g01271/laws.FnExactCountReached", spec := "fnExactCountReached", inPlace := ["internal/bytealg.IndexByteString"], unfollowed := true, recurses := true, apart := false, narrowed := true }
def FnExactCountReachedUptoSaid : Prop := fnExactCountReachedUptoRow.holds Try.pinned (OpenSpec.upto fnExactCountReachedSpec)

/-- 'laws.FnExactCanReach', WHERE WHAT IT READS IS OF BULK AT MOST 1048576: true; the input reads as it did. -/
def fnExactCanReachUptoRow : OpenClaim := { program := "ytdjfkhhlnkkilaa", sum := "80f4c0b4ea079e9a265af4eacfd08b973ead382ebd5005fd13a8c76d166cc3f6", func := "loop.example/g01271/laws.FnExactCanReach", spec := "fnExactCanReach", inPlace := ["internal/bytealg.IndexByteString"], unfollowed := true, recurses := true, apart := false, narrowed := true }
def FnExactCanReachUptoSaid : Prop := fnExactCanReachUptoRow.holds Try.pinned (OpenSpec.upto fnExactCanReachSpec)

/-- 'laws.FnExactMovesBetween', WHERE WHAT IT READS IS OF BULK AT MOST 1048576: true; the input reads as it did. -/
def fnExactMovesBetweenUptoRow : OpenClaim := { program := "ytdjfkhhlnkkilaa", sum := "80f4c0b4ea079e9a265af4eacfd08b973ead382ebd5005fd13a8c76d166cc3f6", func := "loop.example/g01271/laws.FnExactMovesBetween", spec := "fnExactMovesBetween", inPlace := ["internal/bytealg.IndexByteString"], unfollowed := true, recurses := true, apart := false, narrowed := true }
def FnExactMovesBetweenUptoSaid : Prop := fnExactMovesBetweenUptoRow.holds Try.pinned (OpenSpec.upto fnExactMovesBetweenSpec)

/-- 'laws.FnExactCountPlays', WHERE WHAT IT READS IS OF BULK AT MOST 1048576: true; the input reads as it did. -/
def fnExactCountPlaysUptoRow : OpenClaim := { program := "ytdjfkhhlnkkilaa", sum := "80f4c0b4ea079e9a265af4eacfd08b973ead382ebd5005fd13a8c76d166cc3f6", func := "loop.example/g01271/laws.FnExactCountPlays", spec := "fnExactCountPlays", inPlace := ["internal/bytealg.IndexByteString"], unfollowed := true, recurses := true, apart := false, narrowed := true }
def FnExactCountPlaysUptoSaid : Prop := fnExactCountPlaysUptoRow.holds Try.pinned (OpenSpec.upto fnExactCountPlaysSpec)

/-- 'laws.FnExactFirstPlay', WHERE WHAT IT READS IS OF BULK AT MOST 1048576: true; the input reads as it did. -/
def fnExactFirstPlayUptoRow : OpenClaim := { program := "ytdjfkhhlnkkilaa", sum := "80f4c0b4ea079e9a265af4eacfd08b973ead382ebd5005fd13a8c76d166cc3f6", func := "loop.example/g01271/laws.FnExactFirstPlay", spec := "fnExactFirstPlay", inPlace := ["internal/bytealg.IndexByteString"], unfollowed := true, recurses := true, apart := false, narrowed := true }
def FnExactFirstPlayUptoSaid : Prop := fnExactFirstPlayUptoRow.holds Try.pinned (OpenSpec.upto fnExactFirstPlaySpec)

/-- 'laws.FnExactLinesBefore', WHERE WHAT IT READS IS OF BULK AT MOST 1048576: true; the input reads as it did. -/
def fnExactLinesBeforeUptoRow : OpenClaim := { program := "ytdjfkhhlnkkilaa", sum := "80f4c0b4ea079e9a265af4eacfd08b973ead382ebd5005fd13a8c76d166cc3f6", func := "loop.example/g01271/laws.FnExactLinesBefore", spec := "fnExactLinesBefore", inPlace := ["internal/bytealg.IndexByteString"], unfollowed := true, recurses := true, apart := false, narrowed := true }
def FnExactLinesBeforeUptoSaid : Prop := fnExactLinesBeforeUptoRow.holds Try.pinned (OpenSpec.upto fnExactLinesBeforeSpec)

/-- 'laws.FnExactDeadEnds', WHERE WHAT IT READS IS OF BULK AT MOST 1048576: true; the input reads as it did. -/
def fnExactDeadEndsUptoRow : OpenClaim := { program := "ytdjfkhhlnkkilaa", sum := "80f4c0b4ea079e9a265af4eacfd08b973ead382ebd5005fd13a8c76d166cc3f6", func := "loop.example/g01271/laws.FnExactDeadEnds", spec := "fnExactDeadEnds", inPlace := ["internal/bytealg.IndexByteString"], unfollowed := true, recurses := true, apart := false, narrowed := true }
def FnExactDeadEndsUptoSaid : Prop := fnExactDeadEndsUptoRow.holds Try.pinned (OpenSpec.upto fnExactDeadEndsSpec)

/-- 'laws.FnExactLongestPlay', WHERE WHAT IT READS IS OF BULK AT MOST 1048576: true; the input reads as it did. -/
def fnExactLongestPlayUptoRow : OpenClaim := { program := "ytdjfkhhlnkkilaa", sum := "80f4c0b4ea079e9a265af4eacfd08b973ead382ebd5005fd13a8c76d166cc3f6", func := "loop.example/g01271/laws.FnExactLongestPlay", spec := "fnExactLongestPlay", inPlace := ["internal/bytealg.IndexByteString"], unfollowed := true, recurses := true, apart := false, narrowed := true }
def FnExactLongestPlayUptoSaid : Prop := fnExactLongestPlayUptoRow.holds Try.pinned (OpenSpec.upto fnExactLongestPlaySpec)

/-- 'laws.FnExactShortestStop', WHERE WHAT IT READS IS OF BULK AT MOST 1048576: true; the input reads as it did. -/
def fnExactShortestStopUptoRow : OpenClaim := { program := "ytdjfkhhlnkkilaa", sum := "80f4c0b4ea079e9a265af4eacfd08b973ead382ebd5005fd13a8c76d166cc3f6", func := "loop.example/g01271/laws.FnExactShortestStop", spec := "fnExactShortestStop", inPlace := ["internal/bytealg.IndexByteString"], unfollowed := true, recurses := true, apart := false, narrowed := true }
def FnExactShortestStopUptoSaid : Prop := fnExactShortestStopUptoRow.holds Try.pinned (OpenSpec.upto fnExactShortestStopSpec)

/-- 'laws.FnExactCountAllPlays', WHERE WHAT IT READS IS OF BULK AT MOST 1048576: true; the input reads as it did. -/
def fnExactCountAllPlaysUptoRow : OpenClaim := { program := "ytdjfkhhlnkkilaa", sum := "80f4c0b4ea079e9a265af4eacfd08b973ead382ebd5005fd13a8c76d166cc3f6", func := "loop.example/g01271/laws.FnExactCountAllPlays", spec := "fnExactCountAllPlays", inPlace := ["internal/bytealg.IndexByteString"], unfollowed := true, recurses := true, apart := false, narrowed := true }
def FnExactCountAllPlaysUptoSaid : Prop := fnExactCountAllPlaysUptoRow.holds Try.pinned (OpenSpec.upto fnExactCountAllPlaysSpec)

/-- 'laws.FnExactNearestLine', WHERE WHAT IT READS IS OF BULK AT MOST 1048576: true; the input reads as it did. -/
def fnExactNearestLineUptoRow : OpenClaim := { program := "ytdjfkhhlnkkilaa", sum := "80f4c0b4ea079e9a265af4eacfd08b973ead382ebd5005fd13a8c76d166cc3f6", func := "loop.example/g01271/laws.FnExactNearestLine", spec := "fnExactNearestLine", inPlace := ["internal/bytealg.IndexByteString", "internal/bytealg.CountString", "internal/bytealg.IndexString"], unfollowed := true, recurses := true, named := ["internal/bytealg.MaxLen"], apart := false, narrowed := true }
def FnExactNearestLineUptoSaid : Prop := fnExactNearestLineUptoRow.holds Try.pinned (OpenSpec.upto fnExactNearestLineSpec)

/-- 'laws.FnExactCanFinish', WHERE WHAT IT READS IS OF BULK AT MOST 1048576: true; the input reads as it did. -/
def fnExactCanFinishUptoRow : OpenClaim := { program := "ytdjfkhhlnkkilaa", sum := "80f4c0b4ea079e9a265af4eacfd08b973ead382ebd5005fd13a8c76d166cc3f6", func := "loop.example/g01271/laws.FnExactCanFinish", spec := "fnExactCanFinish", inPlace := ["internal/bytealg.IndexByteString", "internal/bytealg.CountString", "internal/bytealg.IndexString", "internal/abi.NoEscape", "internal/bytealg.MakeNoZero"], unfollowed := true, recurses := true, named := ["internal/bytealg.MaxLen"], apart := false, narrowed := true }
def FnExactCanFinishUptoSaid : Prop := fnExactCanFinishUptoRow.holds Try.pinned (OpenSpec.upto fnExactCanFinishSpec)

/-- 'laws.FnExactReachedAfter', WHERE WHAT IT READS IS OF BULK AT MOST 1048576: true; the input reads as it did. -/
def fnExactReachedAfterUptoRow : OpenClaim := { program := "ytdjfkhhlnkkilaa", sum := "80f4c0b4ea079e9a265af4eacfd08b973ead382ebd5005fd13a8c76d166cc3f6", func := "loop.example/g01271/laws.FnExactReachedAfter", spec := "fnExactReachedAfter", inPlace := ["internal/bytealg.IndexByteString"], unfollowed := true, recurses := true, apart := false, narrowed := true }
def FnExactReachedAfterUptoSaid : Prop := fnExactReachedAfterUptoRow.holds Try.pinned (OpenSpec.upto fnExactReachedAfterSpec)

end Rows
end Go.Proofs.Ytdjfkhhlnkkilaa
