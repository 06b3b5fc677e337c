/-
  No cell of these rows narrows 'for every input' (looked for: loops, veiled, ifaces, maps, wideKeys, modest, calm, conditions, laid).
  DERIVED. THE GIVEN ROWS OF THIS SEAT. 6 by the template 'for every input the law returns true; each argument reads behind the call as it read before'; 0 by the template 'total and deterministic' (their statements: YtfjjdelmfohaeaaTotals.lean).
  GIVEN WITH THE SEED: the statements are not yours to turn. If you find one false, say at which input.
  Laid BY PROGRAM, IN A SANDBOX (cutbox-rows.mjs): the forced cells as the released guide's own fill.sh prints them over the translation ce641230f3459ebc… (all of the seat's roots in one cut). By AI agents, Wed Nov 11 2026. No macro, syntax, notation, axiom, sorry.
-/
import Derived.Test.YtfjjdelmfohaeaaChecked
import GoSem.Claim
import GoSem.ClaimJoined
import GoSem.ClaimMapViews
import Derived.JoinedTies
import Derived.KernelRfl
namespace Go.Proofs.Ytfjjdelmfohaeaa
/- THE CELL 'sum', in the pinned program and in every row, IS THE sha256 OF THE DUMP (.gsa) THAT YtfjjdelmfohaeaaProg.lean LOADS. Nothing in Lean hashes anything: it is a label: what it is worth is what the hold of that sum in a sandbox is worth. -/
noncomputable def Try.pinned : Pinned := { name := "ytfjjdelmfohaeaa", sum := "ce641230f3459ebca77c8abb567a1691d36765177e4b0e7b460f9342b1c37f04", checked := Try.checked }
namespace Rows
def none {H : Type} : Left H := { results := [], args := [] }

/-- 'laws.FnExactIsRing': WHATEVER THE INPUT: true; the input reads as it did. -/
def fnExactIsRingSpec : ChangeSpec := { name := "fnExactIsRing", fn := fun _ => fun
  | [d] => { results := [.lit (.bool true)], args := [d] }
  | _ => none }
def fnExactIsRingRow : OpenClaim := { program := "ytfjjdelmfohaeaa", sum := "ce641230f3459ebca77c8abb567a1691d36765177e4b0e7b460f9342b1c37f04", func := "loop.example/g01271/laws.FnExactIsRing", spec := "fnExactIsRing", inPlace := ["internal/bytealg.IndexByteString"], apart := false }
def FnExactIsRingSaid : Prop := fnExactIsRingRow.holds Try.pinned (OpenSpec.ofChange fnExactIsRingSpec)

/-- ITS FALSE NEIGHBOUR: 'it returns false'. Refute it at one input. -/
def fnExactIsRingWrong : ChangeSpec := { name := "fnExactIsRing", fn := fun _ => fun
  | [d] => { results := [.lit (.bool false)], args := [d] }
  | _ => none }
def FnExactIsRingWrongFalsely : Prop := fnExactIsRingRow.holds Try.pinned (OpenSpec.ofChange fnExactIsRingWrong)

/-- 'laws.FnExactTurnRing': WHATEVER THE INPUT: true; the input reads as it did. -/
def fnExactTurnRingSpec : ChangeSpec := { name := "fnExactTurnRing", fn := fun _ => fun
  | [d1, d2] => { results := [.lit (.bool true)], args := [d1, d2] }
  | _ => none }
def fnExactTurnRingRow : OpenClaim := { program := "ytfjjdelmfohaeaa", sum := "ce641230f3459ebca77c8abb567a1691d36765177e4b0e7b460f9342b1c37f04", func := "loop.example/g01271/laws.FnExactTurnRing", spec := "fnExactTurnRing", inPlace := ["internal/bytealg.IndexByteString"], apart := false }
def FnExactTurnRingSaid : Prop := fnExactTurnRingRow.holds Try.pinned (OpenSpec.ofChange fnExactTurnRingSpec)

/-- ITS FALSE NEIGHBOUR: 'it returns false'. Refute it at one input. -/
def fnExactTurnRingWrong : ChangeSpec := { name := "fnExactTurnRing", fn := fun _ => fun
  | [d1, d2] => { results := [.lit (.bool false)], args := [d1, d2] }
  | _ => none }
def FnExactTurnRingWrongFalsely : Prop := fnExactTurnRingRow.holds Try.pinned (OpenSpec.ofChange fnExactTurnRingWrong)

/-- 'laws.FnExactMirrorRing': WHATEVER THE INPUT: true; the input reads as it did. -/
def fnExactMirrorRingSpec : ChangeSpec := { name := "fnExactMirrorRing", fn := fun _ => fun
  | [d] => { results := [.lit (.bool true)], args := [d] }
  | _ => none }
def fnExactMirrorRingRow : OpenClaim := { program := "ytfjjdelmfohaeaa", sum := "ce641230f3459ebca77c8abb567a1691d36765177e4b0e7b460f9342b1c37f04", func := "loop.example/g01271/laws.FnExactMirrorRing", spec := "fnExactMirrorRing", inPlace := ["internal/bytealg.IndexByteString"], apart := false }
def FnExactMirrorRingSaid : Prop := fnExactMirrorRingRow.holds Try.pinned (OpenSpec.ofChange fnExactMirrorRingSpec)

/-- ITS FALSE NEIGHBOUR: 'it returns false'. Refute it at one input. -/
def fnExactMirrorRingWrong : ChangeSpec := { name := "fnExactMirrorRing", fn := fun _ => fun
  | [d] => { results := [.lit (.bool false)], args := [d] }
  | _ => none }
def FnExactMirrorRingWrongFalsely : Prop := fnExactMirrorRingRow.holds Try.pinned (OpenSpec.ofChange fnExactMirrorRingWrong)

/-- 'laws.FnExactLeastRing': WHATEVER THE INPUT: true; the input reads as it did. -/
def fnExactLeastRingSpec : ChangeSpec := { name := "fnExactLeastRing", fn := fun _ => fun
  | [d] => { results := [.lit (.bool true)], args := [d] }
  | _ => none }
def fnExactLeastRingRow : OpenClaim := { program := "ytfjjdelmfohaeaa", sum := "ce641230f3459ebca77c8abb567a1691d36765177e4b0e7b460f9342b1c37f04", func := "loop.example/g01271/laws.FnExactLeastRing", spec := "fnExactLeastRing", inPlace := ["internal/bytealg.IndexByteString"], apart := false }
def FnExactLeastRingSaid : Prop := fnExactLeastRingRow.holds Try.pinned (OpenSpec.ofChange fnExactLeastRingSpec)

/-- ITS FALSE NEIGHBOUR: 'it returns false'. Refute it at one input. -/
def fnExactLeastRingWrong : ChangeSpec := { name := "fnExactLeastRing", fn := fun _ => fun
  | [d] => { results := [.lit (.bool false)], args := [d] }
  | _ => none }
def FnExactLeastRingWrongFalsely : Prop := fnExactLeastRingRow.holds Try.pinned (OpenSpec.ofChange fnExactLeastRingWrong)

/-- 'laws.FnExactCountRings': WHATEVER THE INPUT: true; the input reads as it did. -/
def fnExactCountRingsSpec : ChangeSpec := { name := "fnExactCountRings", fn := fun _ => fun
  | [d1, d2, d3] => { results := [.lit (.bool true)], args := [d1, d2, d3] }
  | _ => none }
def fnExactCountRingsRow : OpenClaim := { program := "ytfjjdelmfohaeaa", sum := "ce641230f3459ebca77c8abb567a1691d36765177e4b0e7b460f9342b1c37f04", func := "loop.example/g01271/laws.FnExactCountRings", spec := "fnExactCountRings", inPlace := ["internal/bytealg.IndexByteString"], unfollowed := true, recurses := true, apart := false }
def FnExactCountRingsSaid : Prop := fnExactCountRingsRow.holds Try.pinned (OpenSpec.ofChange fnExactCountRingsSpec)

/-- ITS FALSE NEIGHBOUR: 'it returns false'. Refute it at one input. -/
def fnExactCountRingsWrong : ChangeSpec := { name := "fnExactCountRings", fn := fun _ => fun
  | [d1, d2, d3] => { results := [.lit (.bool false)], args := [d1, d2, d3] }
  | _ => none }
def FnExactCountRingsWrongFalsely : Prop := fnExactCountRingsRow.holds Try.pinned (OpenSpec.ofChange fnExactCountRingsWrong)

/-- 'laws.FnExactMeetsOfRing': WHATEVER THE INPUT: true; the input reads as it did. -/
def fnExactMeetsOfRingSpec : ChangeSpec := { name := "fnExactMeetsOfRing", fn := fun _ => fun
  | [d] => { results := [.lit (.bool true)], args := [d] }
  | _ => none }
def fnExactMeetsOfRingRow : OpenClaim := { program := "ytfjjdelmfohaeaa", sum := "ce641230f3459ebca77c8abb567a1691d36765177e4b0e7b460f9342b1c37f04", func := "loop.example/g01271/laws.FnExactMeetsOfRing", spec := "fnExactMeetsOfRing", inPlace := ["internal/bytealg.IndexByteString", "internal/bytealg.CountString", "internal/bytealg.IndexString"], named := ["internal/bytealg.MaxLen"], apart := false }
def FnExactMeetsOfRingSaid : Prop := fnExactMeetsOfRingRow.holds Try.pinned (OpenSpec.ofChange fnExactMeetsOfRingSpec)

/-- ITS FALSE NEIGHBOUR: 'it returns false'. Refute it at one input. -/
def fnExactMeetsOfRingWrong : ChangeSpec := { name := "fnExactMeetsOfRing", fn := fun _ => fun
  | [d] => { results := [.lit (.bool false)], args := [d] }
  | _ => none }
def FnExactMeetsOfRingWrongFalsely : Prop := fnExactMeetsOfRingRow.holds Try.pinned (OpenSpec.ofChange fnExactMeetsOfRingWrong)

/- THE SECOND FORM. 'bulk': how many values and letters a reading holds, each counted each time it is reached (what is shared counts as often as it is met; a slice's spare places count too). A statement '..UptoSaid' is the law's where the arguments, and the package variables that the reading takes, are together of bulk at most 1048576: NARROWER than '..Said'. Prove '..Said' where nothing that the law and all that it calls make is longer than what came in: it says more and counts as full. Else prove '..UptoSaid'. A law counts once. -/
mutual
def uptoBulk {H : Type} : DataW H → Nat
  | .lit (.string bytes) => bytes.length + 1
  | .lit _ => 1
  | .nil => 1
  | .ptr d => uptoBulk d + 1
  | .slice elems spare => uptoBulkAll elems + uptoBulkAll spare + 1
  | .agg parts => uptoBulkAll parts + 1
  | .iface _ d => uptoBulk d + 1
  | .map entries => uptoBulkEntries entries + 1
  | .held _ => 1
def uptoBulkAll {H : Type} : List (DataW H) → Nat
  | [] => 0
  | d :: r => uptoBulk d + uptoBulkAll r
def uptoBulkEntries {H : Type} : List (Lit × DataW H) → Nat
  | [] => 0
  | x :: r => uptoBulkEntry x + uptoBulkEntries r
def uptoBulkEntry {H : Type} : Lit × DataW H → Nat
  | (.string bytes, d) => bytes.length + uptoBulk d + 1
  | (_, d) => uptoBulk d + 1
 end
def uptoSmall : (H : Type) → List (DataW H) → Bool := fun _ ds => decide (uptoBulkAll ds ≤ 1048576)
def OpenSpec.upto (s : _root_.Go.ChangeSpec) : _root_.Go.OpenSpec := { _root_.Go.OpenSpec.ofChange s with cond := some uptoSmall }

/-- 'laws.FnExactIsRing', WHERE WHAT IT READS IS OF BULK AT MOST 1048576: true; the input reads as it did. -/
def fnExactIsRingUptoRow : OpenClaim := { program := "ytfjjdelmfohaeaa", sum := "ce641230f3459ebca77c8abb567a1691d36765177e4b0e7b460f9342b1c37f04", func := "loop.example/g01271/laws.FnExactIsRing", spec := "fnExactIsRing", inPlace := ["internal/bytealg.IndexByteString"], apart := false, narrowed := true }
def FnExactIsRingUptoSaid : Prop := fnExactIsRingUptoRow.holds Try.pinned (OpenSpec.upto fnExactIsRingSpec)

/-- 'laws.FnExactTurnRing', WHERE WHAT IT READS IS OF BULK AT MOST 1048576: true; the input reads as it did. -/
def fnExactTurnRingUptoRow : OpenClaim := { program := "ytfjjdelmfohaeaa", sum := "ce641230f3459ebca77c8abb567a1691d36765177e4b0e7b460f9342b1c37f04", func := "loop.example/g01271/laws.FnExactTurnRing", spec := "fnExactTurnRing", inPlace := ["internal/bytealg.IndexByteString"], apart := false, narrowed := true }
def FnExactTurnRingUptoSaid : Prop := fnExactTurnRingUptoRow.holds Try.pinned (OpenSpec.upto fnExactTurnRingSpec)

/-- 'laws.FnExactMirrorRing', WHERE WHAT IT READS IS OF BULK AT MOST 1048576: true; the input reads as it did. -/
def fnExactMirrorRingUptoRow : OpenClaim := { program := "ytfjjdelmfohaeaa", sum := "ce641230f3459ebca77c8abb567a1691d36765177e4b0e7b460f9342b1c37f04", func := "loop.example/g01271/laws.FnExactMirrorRing", spec := "fnExactMirrorRing", inPlace := ["internal/bytealg.IndexByteString"], apart := false, narrowed := true }
def FnExactMirrorRingUptoSaid : Prop := fnExactMirrorRingUptoRow.holds Try.pinned (OpenSpec.upto fnExactMirrorRingSpec)

/-- 'laws.FnExactLeastRing', WHERE WHAT IT READS IS OF BULK AT MOST 1048576: true; the input reads as it did. -/
def fnExactLeastRingUptoRow : OpenClaim := { program := "ytfjjdelmfohaeaa", sum := "ce641230f3459ebca77c8abb567a1691d36765177e4b0e7b460f9342b1c37f04", func := "loop.example/g01271/laws.FnExactLeastRing", spec := "fnExactLeastRing", inPlace := ["internal/bytealg.IndexByteString"], apart := false, narrowed := true }
def FnExactLeastRingUptoSaid : Prop := fnExactLeastRingUptoRow.holds Try.pinned (OpenSpec.upto fnExactLeastRingSpec)

/-- 'laws.FnExactCountRings', WHERE WHAT IT READS IS OF BULK AT MOST 1048576: true; the input reads as it did. -/
def fnExactCountRingsUptoRow : OpenClaim := { program := "ytfjjdelmfohaeaa", sum := "ce641230f3459ebca77c8abb567a1691d36765177e4b0e7b460f9342b1c37f04", func := "loop.example/g01271/laws.FnExactCountRings", spec := "fnExactCountRings", inPlace := ["internal/bytealg.IndexByteString"], unfollowed := true, recurses := true, apart := false, narrowed := true }
def FnExactCountRingsUptoSaid : Prop := fnExactCountRingsUptoRow.holds Try.pinned (OpenSpec.upto fnExactCountRingsSpec)

/-- 'laws.FnExactMeetsOfRing', WHERE WHAT IT READS IS OF BULK AT MOST 1048576: true; the input reads as it did. -/
def fnExactMeetsOfRingUptoRow : OpenClaim := { program := "ytfjjdelmfohaeaa", sum := "ce641230f3459ebca77c8abb567a1691d36765177e4b0e7b460f9342b1c37f04", func := "loop.example/g01271/laws.FnExactMeetsOfRing", spec := "fnExactMeetsOfRing", inPlace := ["internal/bytealg.IndexByteString", "internal/bytealg.CountString", "internal/bytealg.IndexString"], named := ["internal/bytealg.MaxLen"], apart := false, narrowed := true }
def FnExactMeetsOfRingUptoSaid : Prop := fnExactMeetsOfRingUptoRow.holds Try.pinned (OpenSpec.upto fnExactMeetsOfRingSpec)

end Rows
end Go.Proofs.Ytfjjdelmfohaeaa
