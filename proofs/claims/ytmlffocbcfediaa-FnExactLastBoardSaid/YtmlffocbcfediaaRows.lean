/-
  No cell of these rows narrows 'for every input' (looked for: loops, veiled, ifaces, maps, wideKeys, modest, calm, conditions, laid).
  DERIVED. THE GIVEN ROWS OF THIS SEAT. 3 by the template 'for every input the law returns true; each argument reads behind the call as it read before'; 0 by the template 'total and deterministic' (their statements: YtmlffocbcfediaaTotals.lean).
  GIVEN WITH THE SEED: the statements are not yours to turn. If you find one false, say at which input.
  Laid BY PROGRAM, IN A SANDBOX (cutbox-rows.mjs): the forced cells as the released guide's own fill.sh prints them over the translation f7ff775a23cb54f7… (all of the seat's roots in one cut). By AI agents, Wed Nov 11 2026. No macro, syntax, notation, axiom, sorry.
-/
import Derived.Test.YtmlffocbcfediaaChecked
import GoSem.Claim
import GoSem.ClaimJoined
import GoSem.ClaimMapViews
import Derived.JoinedTies
import Derived.KernelRfl
namespace Go.Proofs.Ytmlffocbcfediaa
/- THE CELL 'sum', in the pinned program and in every row, IS THE sha256 OF THE DUMP (.gsa) THAT YtmlffocbcfediaaProg.lean LOADS. Nothing in Lean hashes anything: it is a label: what it is worth is what the hold of that sum in a sandbox is worth. -/
noncomputable def Try.pinned : Pinned := { name := "ytmlffocbcfediaa", sum := "f7ff775a23cb54f78e04866930459ddf50bb21e57570e40c4168d094460efa55", checked := Try.checked }
namespace Rows
def none {H : Type} : Left H := { results := [], args := [] }

/-- 'laws.FnExactFirstBoard': WHATEVER THE INPUT: true; the input reads as it did. -/
def fnExactFirstBoardSpec : ChangeSpec := { name := "fnExactFirstBoard", fn := fun _ => fun
  | [d1, d2] => { results := [.lit (.bool true)], args := [d1, d2] }
  | _ => none }
def fnExactFirstBoardRow : OpenClaim := { program := "ytmlffocbcfediaa", sum := "f7ff775a23cb54f78e04866930459ddf50bb21e57570e40c4168d094460efa55", func := "loop.example/g01271/laws.FnExactFirstBoard", spec := "fnExactFirstBoard", inPlace := ["internal/abi.NoEscape", "internal/bytealg.MakeNoZero"], apart := false }
def FnExactFirstBoardSaid : Prop := fnExactFirstBoardRow.holds Try.pinned (OpenSpec.ofChange fnExactFirstBoardSpec)

/-- ITS FALSE NEIGHBOUR: 'it returns false'. Refute it at one input. -/
def fnExactFirstBoardWrong : ChangeSpec := { name := "fnExactFirstBoard", fn := fun _ => fun
  | [d1, d2] => { results := [.lit (.bool false)], args := [d1, d2] }
  | _ => none }
def FnExactFirstBoardWrongFalsely : Prop := fnExactFirstBoardRow.holds Try.pinned (OpenSpec.ofChange fnExactFirstBoardWrong)

/-- 'laws.FnExactLastBoard': WHATEVER THE INPUT: true; the input reads as it did. -/
def fnExactLastBoardSpec : ChangeSpec := { name := "fnExactLastBoard", fn := fun _ => fun
  | [d1, d2] => { results := [.lit (.bool true)], args := [d1, d2] }
  | _ => none }
def fnExactLastBoardRow : OpenClaim := { program := "ytmlffocbcfediaa", sum := "f7ff775a23cb54f78e04866930459ddf50bb21e57570e40c4168d094460efa55", func := "loop.example/g01271/laws.FnExactLastBoard", spec := "fnExactLastBoard", inPlace := ["internal/abi.NoEscape", "internal/bytealg.MakeNoZero"], apart := false }
def FnExactLastBoardSaid : Prop := fnExactLastBoardRow.holds Try.pinned (OpenSpec.ofChange fnExactLastBoardSpec)

/-- ITS FALSE NEIGHBOUR: 'it returns false'. Refute it at one input. -/
def fnExactLastBoardWrong : ChangeSpec := { name := "fnExactLastBoard", fn := fun _ => fun
  | [d1, d2] => { results := [.lit (.bool false)], args := [d1, d2] }
  | _ => none }
def FnExactLastBoardWrongFalsely : Prop := fnExactLastBoardRow.holds Try.pinned (OpenSpec.ofChange fnExactLastBoardWrong)

/-- 'laws.FnExactBoardLength': WHATEVER THE INPUT: true; the input reads as it did. -/
def fnExactBoardLengthSpec : ChangeSpec := { name := "fnExactBoardLength", fn := fun _ => fun
  | [d1, d2] => { results := [.lit (.bool true)], args := [d1, d2] }
  | _ => none }
def fnExactBoardLengthRow : OpenClaim := { program := "ytmlffocbcfediaa", sum := "f7ff775a23cb54f78e04866930459ddf50bb21e57570e40c4168d094460efa55", func := "loop.example/g01271/laws.FnExactBoardLength", spec := "fnExactBoardLength", apart := false }
def FnExactBoardLengthSaid : Prop := fnExactBoardLengthRow.holds Try.pinned (OpenSpec.ofChange fnExactBoardLengthSpec)

/-- ITS FALSE NEIGHBOUR: 'it returns false'. Refute it at one input. -/
def fnExactBoardLengthWrong : ChangeSpec := { name := "fnExactBoardLength", fn := fun _ => fun
  | [d1, d2] => { results := [.lit (.bool false)], args := [d1, d2] }
  | _ => none }
def FnExactBoardLengthWrongFalsely : Prop := fnExactBoardLengthRow.holds Try.pinned (OpenSpec.ofChange fnExactBoardLengthWrong)

/- THE SECOND FORM. 'bulk': how many values and letters a reading holds, each counted each time it is reached (what is shared counts as often as it is met; a slice's spare places count too). A statement '..UptoSaid' is the law's where the arguments, and the package variables that the reading takes, are together of bulk at most 1048576: NARROWER than '..Said'. Prove '..Said' where nothing that the law and all that it calls make is longer than what came in: it says more and counts as full. Else prove '..UptoSaid'. A law counts once. -/
mutual
def uptoBulk {H : Type} : DataW H → Nat
  | .lit (.string bytes) => bytes.length + 1
  | .lit _ => 1
  | .nil => 1
  | .ptr d => uptoBulk d + 1
  | .slice elems spare => uptoBulkAll elems + uptoBulkAll spare + 1
  | .agg parts => uptoBulkAll parts + 1
  | .iface _ d => uptoBulk d + 1
  | .map entries => uptoBulkEntries entries + 1
  | .held _ => 1
def uptoBulkAll {H : Type} : List (DataW H) → Nat
  | [] => 0
  | d :: r => uptoBulk d + uptoBulkAll r
def uptoBulkEntries {H : Type} : List (Lit × DataW H) → Nat
  | [] => 0
  | x :: r => uptoBulkEntry x + uptoBulkEntries r
def uptoBulkEntry {H : Type} : Lit × DataW H → Nat
  | (.string bytes, d) => bytes.length + uptoBulk d + 1
  | (_, d) => uptoBulk d + 1
 end
def uptoSmall : (H : Type) → List (DataW H) → Bool := fun _ ds => decide (uptoBulkAll ds ≤ 1048576)
def OpenSpec.upto (s : _root_.Go.ChangeSpec) : _root_.Go.OpenSpec := { _root_.Go.OpenSpec.ofChange s with cond := some uptoSmall }

/-- 'laws.FnExactFirstBoard', WHERE WHAT IT READS IS OF BULK AT MOST 1048576: true; the input reads as it did. -/
def fnExactFirstBoardUptoRow : OpenClaim := { program := "ytmlffocbcfediaa", sum := "f7ff775a23cb54f78e04866930459ddf50bb21e57570e40c4168d094460efa55", func := "loop.example/g01271/laws.FnExactFirstBoard", spec := "fnExactFirstBoard", inPlace := ["internal/abi.NoEscape", "internal/bytealg.MakeNoZero"], apart := false, narrowed := true }
def FnExactFirstBoardUptoSaid : Prop := fnExactFirstBoardUptoRow.holds Try.pinned (OpenSpec.upto fnExactFirstBoardSpec)

/-- 'laws.FnExactLastBoard', WHERE WHAT IT READS IS OF BULK AT MOST 1048576: true; the input reads as it did. -/
def fnExactLastBoardUptoRow : OpenClaim := { program := "ytmlffocbcfediaa", sum := "f7ff775a23cb54f78e04866930459ddf50bb21e57570e40c4168d094460efa55", func := "loop.example/g01271/laws.FnExactLastBoard", spec := "fnExactLastBoard", inPlace := ["internal/abi.NoEscape", "internal/bytealg.MakeNoZero"], apart := false, narrowed := true }
def FnExactLastBoardUptoSaid : Prop := fnExactLastBoardUptoRow.holds Try.pinned (OpenSpec.upto fnExactLastBoardSpec)

/-- 'laws.FnExactBoardLength', WHERE WHAT IT READS IS OF BULK AT MOST 1048576: true; the input reads as it did. -/
def fnExactBoardLengthUptoRow : OpenClaim := { program := "ytmlffocbcfediaa", sum := "f7ff775a23cb54f78e04866930459ddf50bb21e57570e40c4168d094460efa55", func := "loop.example/g01271/laws.FnExactBoardLength", spec := "fnExactBoardLength", apart := false, narrowed := true }
def FnExactBoardLengthUptoSaid : Prop := fnExactBoardLengthUptoRow.holds Try.pinned (OpenSpec.upto fnExactBoardLengthSpec)

end Rows
end Go.Proofs.Ytmlffocbcfediaa
