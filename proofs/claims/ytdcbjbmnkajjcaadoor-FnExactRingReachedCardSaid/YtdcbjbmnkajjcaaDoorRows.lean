/-
  NARROWER THAN 'FOR EVERY INPUT', by the rows' own cells (each row's printed sentence says how): FnExactRingReached: laid · FnExactReachOnRing: laid · FnExactShortestOnRing: laid · FnExactPathOnRing: laid · FnExactComesAround: laid.
  DERIVED. THE GIVEN ROWS OF THIS SEAT. 5 by the template 'for every input the law returns true; each argument reads behind the call as it read before'; 0 by the template 'total and deterministic' (their statements: YtdcbjbmnkajjcaaDoorTotals.lean).
  GIVEN WITH THE SEED: the statements are not yours to turn. If you find one false, say at which input.
  Laid BY PROGRAM, IN A SANDBOX (cutbox-rows.mjs): the forced cells as the released guide's own fill.sh prints them over the translation ccb278c79340749d… (all of the seat's roots in one cut). By AI agents, Wed Nov 11 2026. No macro, syntax, notation, axiom, sorry.
-/
import Derived.Test.YtdcbjbmnkajjcaaDoorChecked
import GoSem.PinnedTables
import GoSem.Claim
import GoSem.ClaimJoined
import GoSem.ClaimMapViews
import Derived.JoinedTies
import Derived.KernelRfl
namespace Go.Proofs.YtdcbjbmnkajjcaaDoor
/- THE CELL 'sum', in the pinned program and in every row, IS THE sha256 OF THE DUMP (.gsa) THAT YtdcbjbmnkajjcaaDoorProg.lean LOADS. Nothing in Lean hashes anything: it is a label: what it is worth is what the hold of that sum in a sandbox is worth. -/
noncomputable def Tryd.pinned : Pinned := { name := "ytdcbjbmnkajjcaadoor", sum := "ccb278c79340749d80d45b66b9b70ef09ac38c5c111b9d44a2cee986eadc3706", checked := Tryd.checked }
namespace Rows
def none {H : Type} : Left H := { results := [], args := [] }

/- WHAT THE LISTED PACKAGE-LEVEL VARIABLES READ AS WHEN THE CALL BEGINS. Each datum BY PROGRAM (the guide's laid-datum.mjs) off the statement by which the dump's own 'gosem.cut.vars' lays the variable. In a bare row this is a premise. The card (YtdcbjbmnkajjcaaDoorCards.lean) ties it to the program's text. -/
def laid_unicode_utf8_acceptRanges {H : Type} : DataW H := .agg [.agg [.lit (.int .u8 128), .lit (.int .u8 191)], .agg [.lit (.int .u8 160), .lit (.int .u8 191)], .agg [.lit (.int .u8 128), .lit (.int .u8 159)], .agg [.lit (.int .u8 144), .lit (.int .u8 191)], .agg [.lit (.int .u8 128), .lit (.int .u8 143)], .agg [.lit (.int .u8 0), .lit (.int .u8 0)], .agg [.lit (.int .u8 0), .lit (.int .u8 0)], .agg [.lit (.int .u8 0), .lit (.int .u8 0)], .agg [.lit (.int .u8 0), .lit (.int .u8 0)], .agg [.lit (.int .u8 0), .lit (.int .u8 0)], .agg [.lit (.int .u8 0), .lit (.int .u8 0)], .agg [.lit (.int .u8 0), .lit (.int .u8 0)], .agg [.lit (.int .u8 0), .lit (.int .u8 0)], .agg [.lit (.int .u8 0), .lit (.int .u8 0)], .agg [.lit (.int .u8 0), .lit (.int .u8 0)], .agg [.lit (.int .u8 0), .lit (.int .u8 0)]]
/-- One of Go's own tables, pinned by name: the form's constant. -/
def laid_unicode_utf8_first : DataW Unit := Go.Pinned.utf8First

/-- 'laws.FnExactRingReached': WHATEVER THE INPUT: true; the input reads as it did. -/
def fnExactRingReachedSpec : ChangeSpec := { name := "fnExactRingReached", fn := fun _ => fun
  | [d] => { results := [.lit (.bool true)], args := [d] }
  | _ => none }
def fnExactRingReachedRow : OpenClaim := { program := "ytdcbjbmnkajjcaadoor", sum := "ccb278c79340749d80d45b66b9b70ef09ac38c5c111b9d44a2cee986eadc3706", func := "loop.example/g01271/laws.FnExactRingReached", spec := "fnExactRingReached", inPlace := ["internal/bytealg.IndexByteString", "internal/bytealg.IndexString", "internal/bytealg.CountString", "internal/abi.NoEscape", "internal/bytealg.MakeNoZero"], recurses := true, named := ["unicode/utf8.first", "unicode/utf8.acceptRanges", "internal/bytealg.MaxLen"], plainKeys := false, apart := false, laid := [("unicode/utf8.acceptRanges", laid_unicode_utf8_acceptRanges), ("unicode/utf8.first", laid_unicode_utf8_first)] }
def FnExactRingReachedSaid : Prop := fnExactRingReachedRow.holds Tryd.pinned (OpenSpec.ofChange fnExactRingReachedSpec)

/-- ITS FALSE NEIGHBOUR: 'it returns false'. Refute it at one input. -/
def fnExactRingReachedWrong : ChangeSpec := { name := "fnExactRingReached", fn := fun _ => fun
  | [d] => { results := [.lit (.bool false)], args := [d] }
  | _ => none }
def FnExactRingReachedWrongFalsely : Prop := fnExactRingReachedRow.holds Tryd.pinned (OpenSpec.ofChange fnExactRingReachedWrong)

/-- 'laws.FnExactReachOnRing': WHATEVER THE INPUT: true; the input reads as it did. -/
def fnExactReachOnRingSpec : ChangeSpec := { name := "fnExactReachOnRing", fn := fun _ => fun
  | [d1, d2] => { results := [.lit (.bool true)], args := [d1, d2] }
  | _ => none }
def fnExactReachOnRingRow : OpenClaim := { program := "ytdcbjbmnkajjcaadoor", sum := "ccb278c79340749d80d45b66b9b70ef09ac38c5c111b9d44a2cee986eadc3706", func := "loop.example/g01271/laws.FnExactReachOnRing", spec := "fnExactReachOnRing", inPlace := ["internal/bytealg.IndexByteString", "internal/bytealg.IndexString", "internal/bytealg.CountString", "internal/abi.NoEscape", "internal/bytealg.MakeNoZero"], named := ["unicode/utf8.first", "unicode/utf8.acceptRanges", "internal/bytealg.MaxLen"], plainKeys := false, apart := false, laid := [("unicode/utf8.acceptRanges", laid_unicode_utf8_acceptRanges), ("unicode/utf8.first", laid_unicode_utf8_first)] }
def FnExactReachOnRingSaid : Prop := fnExactReachOnRingRow.holds Tryd.pinned (OpenSpec.ofChange fnExactReachOnRingSpec)

/-- ITS FALSE NEIGHBOUR: 'it returns false'. Refute it at one input. -/
def fnExactReachOnRingWrong : ChangeSpec := { name := "fnExactReachOnRing", fn := fun _ => fun
  | [d1, d2] => { results := [.lit (.bool false)], args := [d1, d2] }
  | _ => none }
def FnExactReachOnRingWrongFalsely : Prop := fnExactReachOnRingRow.holds Tryd.pinned (OpenSpec.ofChange fnExactReachOnRingWrong)

/-- 'laws.FnExactShortestOnRing': WHATEVER THE INPUT: true; the input reads as it did. -/
def fnExactShortestOnRingSpec : ChangeSpec := { name := "fnExactShortestOnRing", fn := fun _ => fun
  | [d1, d2] => { results := [.lit (.bool true)], args := [d1, d2] }
  | _ => none }
def fnExactShortestOnRingRow : OpenClaim := { program := "ytdcbjbmnkajjcaadoor", sum := "ccb278c79340749d80d45b66b9b70ef09ac38c5c111b9d44a2cee986eadc3706", func := "loop.example/g01271/laws.FnExactShortestOnRing", spec := "fnExactShortestOnRing", inPlace := ["internal/bytealg.IndexByteString", "internal/bytealg.IndexString", "internal/bytealg.CountString", "internal/abi.NoEscape", "internal/bytealg.MakeNoZero"], named := ["unicode/utf8.first", "unicode/utf8.acceptRanges", "internal/bytealg.MaxLen"], plainKeys := false, apart := false, laid := [("unicode/utf8.acceptRanges", laid_unicode_utf8_acceptRanges), ("unicode/utf8.first", laid_unicode_utf8_first)] }
def FnExactShortestOnRingSaid : Prop := fnExactShortestOnRingRow.holds Tryd.pinned (OpenSpec.ofChange fnExactShortestOnRingSpec)

/-- ITS FALSE NEIGHBOUR: 'it returns false'. Refute it at one input. -/
def fnExactShortestOnRingWrong : ChangeSpec := { name := "fnExactShortestOnRing", fn := fun _ => fun
  | [d1, d2] => { results := [.lit (.bool false)], args := [d1, d2] }
  | _ => none }
def FnExactShortestOnRingWrongFalsely : Prop := fnExactShortestOnRingRow.holds Tryd.pinned (OpenSpec.ofChange fnExactShortestOnRingWrong)

/-- 'laws.FnExactPathOnRing': WHATEVER THE INPUT: true; the input reads as it did. -/
def fnExactPathOnRingSpec : ChangeSpec := { name := "fnExactPathOnRing", fn := fun _ => fun
  | [d1, d2] => { results := [.lit (.bool true)], args := [d1, d2] }
  | _ => none }
def fnExactPathOnRingRow : OpenClaim := { program := "ytdcbjbmnkajjcaadoor", sum := "ccb278c79340749d80d45b66b9b70ef09ac38c5c111b9d44a2cee986eadc3706", func := "loop.example/g01271/laws.FnExactPathOnRing", spec := "fnExactPathOnRing", inPlace := ["internal/bytealg.IndexByteString", "internal/bytealg.IndexString", "internal/bytealg.CountString", "internal/abi.NoEscape", "internal/bytealg.MakeNoZero"], named := ["unicode/utf8.first", "unicode/utf8.acceptRanges", "internal/bytealg.MaxLen"], plainKeys := false, apart := false, laid := [("unicode/utf8.acceptRanges", laid_unicode_utf8_acceptRanges), ("unicode/utf8.first", laid_unicode_utf8_first)] }
def FnExactPathOnRingSaid : Prop := fnExactPathOnRingRow.holds Tryd.pinned (OpenSpec.ofChange fnExactPathOnRingSpec)

/-- ITS FALSE NEIGHBOUR: 'it returns false'. Refute it at one input. -/
def fnExactPathOnRingWrong : ChangeSpec := { name := "fnExactPathOnRing", fn := fun _ => fun
  | [d1, d2] => { results := [.lit (.bool false)], args := [d1, d2] }
  | _ => none }
def FnExactPathOnRingWrongFalsely : Prop := fnExactPathOnRingRow.holds Tryd.pinned (OpenSpec.ofChange fnExactPathOnRingWrong)

/-- 'laws.FnExactComesAround': WHATEVER THE INPUT: true; the input reads as it did. -/
def fnExactComesAroundSpec : ChangeSpec := { name := "fnExactComesAround", fn := fun _ => fun
  | [d] => { results := [.lit (.bool true)], args := [d] }
  | _ => none }
def fnExactComesAroundRow : OpenClaim := { program := "ytdcbjbmnkajjcaadoor", sum := "ccb278c79340749d80d45b66b9b70ef09ac38c5c111b9d44a2cee986eadc3706", func := "loop.example/g01271/laws.FnExactComesAround", spec := "fnExactComesAround", inPlace := ["internal/bytealg.IndexByteString", "internal/bytealg.IndexString", "internal/bytealg.CountString", "internal/abi.NoEscape", "internal/bytealg.MakeNoZero"], named := ["unicode/utf8.first", "unicode/utf8.acceptRanges", "internal/bytealg.MaxLen"], plainKeys := false, apart := false, laid := [("unicode/utf8.acceptRanges", laid_unicode_utf8_acceptRanges), ("unicode/utf8.first", laid_unicode_utf8_first)] }
def FnExactComesAroundSaid : Prop := fnExactComesAroundRow.holds Tryd.pinned (OpenSpec.ofChange fnExactComesAroundSpec)

/-- ITS FALSE NEIGHBOUR: 'it returns false'. Refute it at one input. -/
def fnExactComesAroundWrong : ChangeSpec := { name := "fnExactComesAround", fn := fun _ => fun
  | [d] => { results := [.lit (.bool false)], args := [d] }
  | _ => none }
def FnExactComesAroundWrongFalsely : Prop := fnExactComesAroundRow.holds Tryd.pinned (OpenSpec.ofChange fnExactComesAroundWrong)

/- THE SECOND FORM. 'bulk': how many values and letters a reading holds, each counted each time it is reached (what is shared counts as often as it is met; a slice's spare places count too). A statement '..UptoSaid' is the law's where the arguments, and the package variables that the reading takes, are together of bulk at most 1048576: NARROWER than '..Said'. Prove '..Said' where nothing that the law and all that it calls make is longer than what came in: it says more and counts as full. Else prove '..UptoSaid'. A law counts once. -/
mutual
def uptoBulk {H : Type} : DataW H → Nat
  | .lit (.string bytes) => bytes.length + 1
  | .lit _ => 1
  | .nil => 1
  | .ptr d => uptoBulk d + 1
  | .slice elems spare => uptoBulkAll elems + uptoBulkAll spare + 1
  | .agg parts => uptoBulkAll parts + 1
  | .iface _ d => uptoBulk d + 1
  | .map entries => uptoBulkEntries entries + 1
  | .held _ => 1
def uptoBulkAll {H : Type} : List (DataW H) → Nat
  | [] => 0
  | d :: r => uptoBulk d + uptoBulkAll r
def uptoBulkEntries {H : Type} : List (Lit × DataW H) → Nat
  | [] => 0
  | x :: r => uptoBulkEntry x + uptoBulkEntries r
def uptoBulkEntry {H : Type} : Lit × DataW H → Nat
  | (.string bytes, d) => bytes.length + uptoBulk d + 1
  | (_, d) => uptoBulk d + 1
 end
def uptoSmall : (H : Type) → List (DataW H) → Bool := fun _ ds => decide (uptoBulkAll ds ≤ 1048576)
def OpenSpec.upto (s : _root_.Go.ChangeSpec) : _root_.Go.OpenSpec := { _root_.Go.OpenSpec.ofChange s with cond := some uptoSmall }

/-- 'laws.FnExactRingReached', WHERE WHAT IT READS IS OF BULK AT MOST 1048576: true; the input reads as it did. -/
def fnExactRingReachedUptoRow : OpenClaim := { program := "ytdcbjbmnkajjcaadoor", sum := "ccb278c79340749d80d45b66b9b70ef09ac38c5c111b9d44a2cee986eadc3706", func := "loop.example/g01271/laws.FnExactRingReached", spec := "fnExactRingReached", inPlace := ["internal/bytealg.IndexByteString", "internal/bytealg.IndexString", "internal/bytealg.CountString", "internal/abi.NoEscape", "internal/bytealg.MakeNoZero"], recurses := true, named := ["unicode/utf8.first", "unicode/utf8.acceptRanges", "internal/bytealg.MaxLen"], plainKeys := false, apart := false, laid := [("unicode/utf8.acceptRanges", laid_unicode_utf8_acceptRanges), ("unicode/utf8.first", laid_unicode_utf8_first)], narrowed := true }
def FnExactRingReachedUptoSaid : Prop := fnExactRingReachedUptoRow.holds Tryd.pinned (OpenSpec.upto fnExactRingReachedSpec)

/-- 'laws.FnExactReachOnRing', WHERE WHAT IT READS IS OF BULK AT MOST 1048576: true; the input reads as it did. -/
def fnExactReachOnRingUptoRow : OpenClaim := { program := "ytdcbjbmnkajjcaadoor", sum := "ccb278c79340749d80d45b66b9b70ef09ac38c5c111b9d44a2cee986eadc3706", func := "loop.example/g01271/laws.FnExactReachOnRing", spec := "fnExactReachOnRing", inPlace := ["internal/bytealg.IndexByteString", "internal/bytealg.IndexString", "internal/bytealg.CountString", "internal/abi.NoEscape", "internal/bytealg.MakeNoZero"], named := ["unicode/utf8.first", "unicode/utf8.acceptRanges", "internal/bytealg.MaxLen"], plainKeys := false, apart := false, laid := [("unicode/utf8.acceptRanges", laid_unicode_utf8_acceptRanges), ("unicode/utf8.first", laid_unicode_utf8_first)], narrowed := true }
def FnExactReachOnRingUptoSaid : Prop := fnExactReachOnRingUptoRow.holds Tryd.pinned (OpenSpec.upto fnExactReachOnRingSpec)

/-- 'laws.FnExactShortestOnRing', WHERE WHAT IT READS IS OF BULK AT MOST 1048576: true; the input reads as it did. -/
def fnExactShortestOnRingUptoRow : OpenClaim := { program := "ytdcbjbmnkajjcaadoor", sum := "ccb278c79340749d80d45b66b9b70ef09ac38c5c111b9d44a2cee986eadc3706", func := "loop.example/g01271/laws.FnExactShortestOnRing", spec := "fnExactShortestOnRing", inPlace := ["internal/bytealg.IndexByteString", "internal/bytealg.IndexString", "internal/bytealg.CountString", "internal/abi.NoEscape", "internal/bytealg.MakeNoZero"], named := ["unicode/utf8.first", "unicode/utf8.acceptRanges", "internal/bytealg.MaxLen"], plainKeys := false, apart := false, laid := [("unicode/utf8.acceptRanges", laid_unicode_utf8_acceptRanges), ("unicode/utf8.first", laid_unicode_utf8_first)], narrowed := true }
def FnExactShortestOnRingUptoSaid : Prop := fnExactShortestOnRingUptoRow.holds Tryd.pinned (OpenSpec.upto fnExactShortestOnRingSpec)

/-- 'laws.FnExactPathOnRing', WHERE WHAT IT READS IS OF BULK AT MOST 1048576: true; the input reads as it did. -/
def fnExactPathOnRingUptoRow : OpenClaim := { program := "ytdcbjbmnkajjcaadoor", sum := "ccb278c79340749d80d45b66b9b70ef09ac38c5c111b9d44a2cee986eadc3706", func := "loop.example/g01271/laws.FnExactPathOnRing", spec := "fnExactPathOnRing", inPlace := ["internal/bytealg.IndexByteString", "internal/bytealg.IndexString", "internal/bytealg.CountString", "internal/abi.NoEscape", "internal/bytealg.MakeNoZero"], named := ["unicode/utf8.first", "unicode/utf8.acceptRanges", "internal/bytealg.MaxLen"], plainKeys := false, apart := false, laid := [("unicode/utf8.acceptRanges", laid_unicode_utf8_acceptRanges), ("unicode/utf8.first", laid_unicode_utf8_first)], narrowed := true }
def FnExactPathOnRingUptoSaid : Prop := fnExactPathOnRingUptoRow.holds Tryd.pinned (OpenSpec.upto fnExactPathOnRingSpec)

/-- 'laws.FnExactComesAround', WHERE WHAT IT READS IS OF BULK AT MOST 1048576: true; the input reads as it did. -/
def fnExactComesAroundUptoRow : OpenClaim := { program := "ytdcbjbmnkajjcaadoor", sum := "ccb278c79340749d80d45b66b9b70ef09ac38c5c111b9d44a2cee986eadc3706", func := "loop.example/g01271/laws.FnExactComesAround", spec := "fnExactComesAround", inPlace := ["internal/bytealg.IndexByteString", "internal/bytealg.IndexString", "internal/bytealg.CountString", "internal/abi.NoEscape", "internal/bytealg.MakeNoZero"], named := ["unicode/utf8.first", "unicode/utf8.acceptRanges", "internal/bytealg.MaxLen"], plainKeys := false, apart := false, laid := [("unicode/utf8.acceptRanges", laid_unicode_utf8_acceptRanges), ("unicode/utf8.first", laid_unicode_utf8_first)], narrowed := true }
def FnExactComesAroundUptoSaid : Prop := fnExactComesAroundUptoRow.holds Tryd.pinned (OpenSpec.upto fnExactComesAroundSpec)

end Rows
end Go.Proofs.YtdcbjbmnkajjcaaDoor
