/-
  No cell of these rows narrows 'for every input' (looked for: loops, veiled, ifaces, maps, wideKeys, modest, calm, conditions, laid).
  DERIVED. THE GIVEN ROWS OF THIS SEAT. 7 by the template 'for every input the law returns true; each argument reads behind the call as it read before'; 0 by the template 'total and deterministic' (their statements: YtoefeooldcbfiaaTotals.lean).
  GIVEN WITH THE SEED: the statements are not yours to turn. If you find one false, say at which input.
  Laid BY PROGRAM, IN A SANDBOX (cutbox-rows.mjs): the forced cells as the released guide's own fill.sh prints them over the translation 4aeb0eca7c42fea7… (all of the seat's roots in one cut). By AI agents, Wed Nov 11 2026. No macro, syntax, notation, axiom, sorry.
-/
import Derived.Test.YtoefeooldcbfiaaChecked
import GoSem.Claim
import GoSem.ClaimJoined
import GoSem.ClaimMapViews
import Derived.JoinedTies
import Derived.KernelRfl
namespace Go.Proofs.Ytoefeooldcbfiaa
/- THE CELL 'sum', in the pinned program and in every row, IS THE sha256 OF THE DUMP (.gsa) THAT YtoefeooldcbfiaaProg.lean LOADS. Nothing in Lean hashes anything: it is a label: what it is worth is what the hold of that sum in a sandbox is worth. -/
noncomputable def Try.pinned : Pinned := { name := "ytoefeooldcbfiaa", sum := "4aeb0eca7c42fea7178ecd38e409034392d3abb740b4e43449161d20c650c66f", checked := Try.checked }
namespace Rows
def none {H : Type} : Left H := { results := [], args := [] }

/-- 'laws.FnExactWordOfMoves': WHATEVER THE INPUT: true; the input reads as it did. -/
def fnExactWordOfMovesSpec : ChangeSpec := { name := "fnExactWordOfMoves", fn := fun _ => fun
  | [d1, d2] => { results := [.lit (.bool true)], args := [d1, d2] }
  | _ => none }
def fnExactWordOfMovesRow : OpenClaim := { program := "ytoefeooldcbfiaa", sum := "4aeb0eca7c42fea7178ecd38e409034392d3abb740b4e43449161d20c650c66f", func := "loop.example/g01271/laws.FnExactWordOfMoves", spec := "fnExactWordOfMoves", inPlace := ["internal/bytealg.IndexByteString"], unfollowed := true, recurses := true, apart := false }
def FnExactWordOfMovesSaid : Prop := fnExactWordOfMovesRow.holds Try.pinned (OpenSpec.ofChange fnExactWordOfMovesSpec)

/-- ITS FALSE NEIGHBOUR: 'it returns false'. Refute it at one input. -/
def fnExactWordOfMovesWrong : ChangeSpec := { name := "fnExactWordOfMoves", fn := fun _ => fun
  | [d1, d2] => { results := [.lit (.bool false)], args := [d1, d2] }
  | _ => none }
def FnExactWordOfMovesWrongFalsely : Prop := fnExactWordOfMovesRow.holds Try.pinned (OpenSpec.ofChange fnExactWordOfMovesWrong)

/-- 'laws.FnExactAllWordsOf': WHATEVER THE INPUT: true; the input reads as it did. -/
def fnExactAllWordsOfSpec : ChangeSpec := { name := "fnExactAllWordsOf", fn := fun _ => fun
  | [d1, d2] => { results := [.lit (.bool true)], args := [d1, d2] }
  | _ => none }
def fnExactAllWordsOfRow : OpenClaim := { program := "ytoefeooldcbfiaa", sum := "4aeb0eca7c42fea7178ecd38e409034392d3abb740b4e43449161d20c650c66f", func := "loop.example/g01271/laws.FnExactAllWordsOf", spec := "fnExactAllWordsOf", inPlace := ["internal/bytealg.IndexByteString", "internal/bytealg.CountString", "internal/bytealg.IndexString"], unfollowed := true, recurses := true, named := ["internal/bytealg.MaxLen"], apart := false }
def FnExactAllWordsOfSaid : Prop := fnExactAllWordsOfRow.holds Try.pinned (OpenSpec.ofChange fnExactAllWordsOfSpec)

/-- ITS FALSE NEIGHBOUR: 'it returns false'. Refute it at one input. -/
def fnExactAllWordsOfWrong : ChangeSpec := { name := "fnExactAllWordsOf", fn := fun _ => fun
  | [d1, d2] => { results := [.lit (.bool false)], args := [d1, d2] }
  | _ => none }
def FnExactAllWordsOfWrongFalsely : Prop := fnExactAllWordsOfRow.holds Try.pinned (OpenSpec.ofChange fnExactAllWordsOfWrong)

/-- 'laws.FnExactCountWordsOf': WHATEVER THE INPUT: true; the input reads as it did. -/
def fnExactCountWordsOfSpec : ChangeSpec := { name := "fnExactCountWordsOf", fn := fun _ => fun
  | [d1, d2] => { results := [.lit (.bool true)], args := [d1, d2] }
  | _ => none }
def fnExactCountWordsOfRow : OpenClaim := { program := "ytoefeooldcbfiaa", sum := "4aeb0eca7c42fea7178ecd38e409034392d3abb740b4e43449161d20c650c66f", func := "loop.example/g01271/laws.FnExactCountWordsOf", spec := "fnExactCountWordsOf", inPlace := ["internal/bytealg.IndexByteString", "internal/bytealg.CountString", "internal/bytealg.IndexString"], unfollowed := true, recurses := true, named := ["internal/bytealg.MaxLen"], apart := false }
def FnExactCountWordsOfSaid : Prop := fnExactCountWordsOfRow.holds Try.pinned (OpenSpec.ofChange fnExactCountWordsOfSpec)

/-- ITS FALSE NEIGHBOUR: 'it returns false'. Refute it at one input. -/
def fnExactCountWordsOfWrong : ChangeSpec := { name := "fnExactCountWordsOf", fn := fun _ => fun
  | [d1, d2] => { results := [.lit (.bool false)], args := [d1, d2] }
  | _ => none }
def FnExactCountWordsOfWrongFalsely : Prop := fnExactCountWordsOfRow.holds Try.pinned (OpenSpec.ofChange fnExactCountWordsOfWrong)

/-- 'laws.FnExactLongestWord': WHATEVER THE INPUT: true; the input reads as it did. -/
def fnExactLongestWordSpec : ChangeSpec := { name := "fnExactLongestWord", fn := fun _ => fun
  | [d] => { results := [.lit (.bool true)], args := [d] }
  | _ => none }
def fnExactLongestWordRow : OpenClaim := { program := "ytoefeooldcbfiaa", sum := "4aeb0eca7c42fea7178ecd38e409034392d3abb740b4e43449161d20c650c66f", func := "loop.example/g01271/laws.FnExactLongestWord", spec := "fnExactLongestWord", inPlace := ["internal/bytealg.IndexByteString", "internal/bytealg.CountString", "internal/bytealg.IndexString"], unfollowed := true, recurses := true, named := ["internal/bytealg.MaxLen"], apart := false }
def FnExactLongestWordSaid : Prop := fnExactLongestWordRow.holds Try.pinned (OpenSpec.ofChange fnExactLongestWordSpec)

/-- ITS FALSE NEIGHBOUR: 'it returns false'. Refute it at one input. -/
def fnExactLongestWordWrong : ChangeSpec := { name := "fnExactLongestWord", fn := fun _ => fun
  | [d] => { results := [.lit (.bool false)], args := [d] }
  | _ => none }
def FnExactLongestWordWrongFalsely : Prop := fnExactLongestWordRow.holds Try.pinned (OpenSpec.ofChange fnExactLongestWordWrong)

/-- 'laws.FnExactExchangeWord': WHATEVER THE INPUT: true; the input reads as it did. -/
def fnExactExchangeWordSpec : ChangeSpec := { name := "fnExactExchangeWord", fn := fun _ => fun
  | [d1, d2] => { results := [.lit (.bool true)], args := [d1, d2] }
  | _ => none }
def fnExactExchangeWordRow : OpenClaim := { program := "ytoefeooldcbfiaa", sum := "4aeb0eca7c42fea7178ecd38e409034392d3abb740b4e43449161d20c650c66f", func := "loop.example/g01271/laws.FnExactExchangeWord", spec := "fnExactExchangeWord", inPlace := ["internal/abi.NoEscape", "internal/bytealg.MakeNoZero", "internal/bytealg.IndexByteString", "internal/bytealg.CountString", "internal/bytealg.IndexString"], unfollowed := true, recurses := true, named := ["internal/bytealg.MaxLen"], apart := false }
def FnExactExchangeWordSaid : Prop := fnExactExchangeWordRow.holds Try.pinned (OpenSpec.ofChange fnExactExchangeWordSpec)

/-- ITS FALSE NEIGHBOUR: 'it returns false'. Refute it at one input. -/
def fnExactExchangeWordWrong : ChangeSpec := { name := "fnExactExchangeWord", fn := fun _ => fun
  | [d1, d2] => { results := [.lit (.bool false)], args := [d1, d2] }
  | _ => none }
def FnExactExchangeWordWrongFalsely : Prop := fnExactExchangeWordRow.holds Try.pinned (OpenSpec.ofChange fnExactExchangeWordWrong)

/-- 'laws.FnExactExchangeMoves': WHATEVER THE INPUT: true; the input reads as it did. -/
def fnExactExchangeMovesSpec : ChangeSpec := { name := "fnExactExchangeMoves", fn := fun _ => fun
  | [d1, d2] => { results := [.lit (.bool true)], args := [d1, d2] }
  | _ => none }
def fnExactExchangeMovesRow : OpenClaim := { program := "ytoefeooldcbfiaa", sum := "4aeb0eca7c42fea7178ecd38e409034392d3abb740b4e43449161d20c650c66f", func := "loop.example/g01271/laws.FnExactExchangeMoves", spec := "fnExactExchangeMoves", apart := false }
def FnExactExchangeMovesSaid : Prop := fnExactExchangeMovesRow.holds Try.pinned (OpenSpec.ofChange fnExactExchangeMovesSpec)

/-- ITS FALSE NEIGHBOUR: 'it returns false'. Refute it at one input. -/
def fnExactExchangeMovesWrong : ChangeSpec := { name := "fnExactExchangeMoves", fn := fun _ => fun
  | [d1, d2] => { results := [.lit (.bool false)], args := [d1, d2] }
  | _ => none }
def FnExactExchangeMovesWrongFalsely : Prop := fnExactExchangeMovesRow.holds Try.pinned (OpenSpec.ofChange fnExactExchangeMovesWrong)

/-- 'laws.FnExactWordBetween': WHATEVER THE INPUT: true; the input reads as it did. -/
def fnExactWordBetweenSpec : ChangeSpec := { name := "fnExactWordBetween", fn := fun _ => fun
  | [d1, d2] => { results := [.lit (.bool true)], args := [d1, d2] }
  | _ => none }
def fnExactWordBetweenRow : OpenClaim := { program := "ytoefeooldcbfiaa", sum := "4aeb0eca7c42fea7178ecd38e409034392d3abb740b4e43449161d20c650c66f", func := "loop.example/g01271/laws.FnExactWordBetween", spec := "fnExactWordBetween", inPlace := ["internal/bytealg.IndexByteString", "internal/bytealg.CountString", "internal/bytealg.IndexString"], unfollowed := true, recurses := true, named := ["internal/bytealg.MaxLen"], apart := false }
def FnExactWordBetweenSaid : Prop := fnExactWordBetweenRow.holds Try.pinned (OpenSpec.ofChange fnExactWordBetweenSpec)

/-- ITS FALSE NEIGHBOUR: 'it returns false'. Refute it at one input. -/
def fnExactWordBetweenWrong : ChangeSpec := { name := "fnExactWordBetween", fn := fun _ => fun
  | [d1, d2] => { results := [.lit (.bool false)], args := [d1, d2] }
  | _ => none }
def FnExactWordBetweenWrongFalsely : Prop := fnExactWordBetweenRow.holds Try.pinned (OpenSpec.ofChange fnExactWordBetweenWrong)

/- THE SECOND FORM. 'bulk': how many values and letters a reading holds, each counted each time it is reached (what is shared counts as often as it is met; a slice's spare places count too). A statement '..UptoSaid' is the law's where the arguments, and the package variables that the reading takes, are together of bulk at most 1048576: NARROWER than '..Said'. Prove '..Said' where nothing that the law and all that it calls make is longer than what came in: it says more and counts as full. Else prove '..UptoSaid'. A law counts once. -/
mutual
def uptoBulk {H : Type} : DataW H → Nat
  | .lit (.string bytes) => bytes.length + 1
  | .lit _ => 1
  | .nil => 1
  | .ptr d => uptoBulk d + 1
  | .slice elems spare => uptoBulkAll elems + uptoBulkAll spare + 1
  | .agg parts => uptoBulkAll parts + 1
  | .iface _ d => uptoBulk d + 1
  | .map entries => uptoBulkEntries entries + 1
  | .held _ => 1
def uptoBulkAll {H : Type} : List (DataW H) → Nat
  | [] => 0
  | d :: r => uptoBulk d + uptoBulkAll r
def uptoBulkEntries {H : Type} : List (Lit × DataW H) → Nat
  | [] => 0
  | x :: r => uptoBulkEntry x + uptoBulkEntries r
def uptoBulkEntry {H : Type} : Lit × DataW H → Nat
  | (.string bytes, d) => bytes.length + uptoBulk d + 1
  | (_, d) => uptoBulk d + 1
 end
def uptoSmall : (H : Type) → List (DataW H) → Bool := fun _ ds => decide (uptoBulkAll ds ≤ 1048576)
def OpenSpec.upto (s : _root_.Go.ChangeSpec) : _root_.Go.OpenSpec := { _root_.Go.OpenSpec.ofChange s with cond := some uptoSmall }

/-- 'laws.FnExactWordOfMoves', WHERE WHAT IT READS IS OF BULK AT MOST 1048576: true; the input reads as it did. -/
def fnExactWordOfMovesUptoRow : OpenClaim := { program := "ytoefeooldcbfiaa", sum := "4aeb0eca7c42fea7178ecd38e409034392d3abb740b4e43449161d20c650c66f", func := "loop.example/g01271/laws.FnExactWordOfMoves", spec := "fnExactWordOfMoves", inPlace := ["internal/bytealg.IndexByteString"], unfollowed := true, recurses := true, apart := false, narrowed := true }
def FnExactWordOfMovesUptoSaid : Prop := fnExactWordOfMovesUptoRow.holds Try.pinned (OpenSpec.upto fnExactWordOfMovesSpec)

/-- 'laws.FnExactAllWordsOf', WHERE WHAT IT READS IS OF BULK AT MOST 1048576: true; the input reads as it did. -/
def fnExactAllWordsOfUptoRow : OpenClaim := { program := "ytoefeooldcbfiaa", sum := "4aeb0eca7c42fea7178ecd38e409034392d3abb740b4e43449161d20c650c66f", func := "loop.example/g01271/laws.FnExactAllWordsOf", spec := "fnExactAllWordsOf", inPlace := ["internal/bytealg.IndexByteString", "internal/bytealg.CountString", "internal/bytealg.IndexString"], unfollowed := true, recurses := true, named := ["internal/bytealg.MaxLen"], apart := false, narrowed := true }
def FnExactAllWordsOfUptoSaid : Prop := fnExactAllWordsOfUptoRow.holds Try.pinned (OpenSpec.upto fnExactAllWordsOfSpec)

/-- 'laws.FnExactCountWordsOf', WHERE WHAT IT READS IS OF BULK AT MOST 1048576: true; the input reads as it did. -/
def fnExactCountWordsOfUptoRow : OpenClaim := { program := "ytoefeooldcbfiaa", sum := "4aeb0eca7c42fea7178ecd38e409034392d3abb740b4e43449161d20c650c66f", func := "loop.example/g01271/laws.FnExactCountWordsOf", spec := "fnExactCountWordsOf", inPlace := ["internal/bytealg.IndexByteString", "internal/bytealg.CountString", "internal/bytealg.IndexString"], unfollowed := true, recurses := true, named := ["internal/bytealg.MaxLen"], apart := false, narrowed := true }
def FnExactCountWordsOfUptoSaid : Prop := fnExactCountWordsOfUptoRow.holds Try.pinned (OpenSpec.upto fnExactCountWordsOfSpec)

/-- 'laws.FnExactLongestWord', WHERE WHAT IT READS IS OF BULK AT MOST 1048576: true; the input reads as it did. -/
def fnExactLongestWordUptoRow : OpenClaim := { program := "ytoefeooldcbfiaa", sum := "4aeb0eca7c42fea7178ecd38e409034392d3abb740b4e43449161d20c650c66f", func := "loop.example/g01271/laws.FnExactLongestWord", spec := "fnExactLongestWord", inPlace := ["internal/bytealg.IndexByteString", "internal/bytealg.CountString", "internal/bytealg.IndexString"], unfollowed := true, recurses := true, named := ["internal/bytealg.MaxLen"], apart := false, narrowed := true }
def FnExactLongestWordUptoSaid : Prop := fnExactLongestWordUptoRow.holds Try.pinned (OpenSpec.upto fnExactLongestWordSpec)

/-- 'laws.FnExactExchangeWord', WHERE WHAT IT READS IS OF BULK AT MOST 1048576: true; the input reads as it did. -/
def fnExactExchangeWordUptoRow : OpenClaim := { program := "ytoefeooldcbfiaa", sum := "4aeb0eca7c42fea7178ecd38e409034392d3abb740b4e43449161d20c650c66f", func := "loop.example/g01271/laws.FnExactExchangeWord", spec := "fnExactExchangeWord", inPlace := ["internal/abi.NoEscape", "internal/bytealg.MakeNoZero", "internal/bytealg.IndexByteString", "internal/bytealg.CountString", "internal/bytealg.IndexString"], unfollowed := true, recurses := true, named := ["internal/bytealg.MaxLen"], apart := false, narrowed := true }
def FnExactExchangeWordUptoSaid : Prop := fnExactExchangeWordUptoRow.holds Try.pinned (OpenSpec.upto fnExactExchangeWordSpec)

/-- 'laws.FnExactExchangeMoves', WHERE WHAT IT READS IS OF BULK AT MOST 1048576: true; the input reads as it did. -/
def fnExactExchangeMovesUptoRow : OpenClaim := { program := "ytoefeooldcbfiaa", sum := "4aeb0eca7c42fea7178ecd38e409034392d3abb740b4e43449161d20c650c66f", func := "loop.example/g01271/laws.FnExactExchangeMoves", spec := "fnExactExchangeMoves", apart := false, narrowed := true }
def FnExactExchangeMovesUptoSaid : Prop := fnExactExchangeMovesUptoRow.holds Try.pinned (OpenSpec.upto fnExactExchangeMovesSpec)

/-- 'laws.FnExactWordBetween', WHERE WHAT IT READS IS OF BULK AT MOST 1048576: true; the input reads as it did. -/
def fnExactWordBetweenUptoRow : OpenClaim := { program := "ytoefeooldcbfiaa", sum := "4aeb0eca7c42fea7178ecd38e409034392d3abb740b4e43449161d20c650c66f", func := "loop.example/g01271/laws.FnExactWordBetween", spec := "fnExactWordBetween", inPlace := ["internal/bytealg.IndexByteString", "internal/bytealg.CountString", "internal/bytealg.IndexString"], unfollowed := true, recurses := true, named := ["internal/bytealg.MaxLen"], apart := false, narrowed := true }
def FnExactWordBetweenUptoSaid : Prop := fnExactWordBetweenUptoRow.holds Try.pinned (OpenSpec.upto fnExactWordBetweenSpec)

end Rows
end Go.Proofs.Ytoefeooldcbfiaa
