/- FnExactFirstShortest: for every input of the law's parameter types, in whatever memory, the law returns true, and each argument reads afterwards as it read before. Conditions: none beside the form's own. -/
import Derived.Test.YtdcbjbmnkajjcaaFsE
import Derived.Test.YtdcbjbmnkajjcaaRows
import Derived.Test.YtdcbjbmnkajjcaaHead
import Derived.ProofKit
import Derived.OpenShut
import Derived.ShutString
import Derived.ChangeOld
import Derived.Below
import Derived.Lib.SmallJoins
namespace Go.Proofs.Ytdcbjbmnkajjcaa.fnExactFirstShortest
open Go.ChangeShapes Go.WideShapes Go.ChangeAt Go.RowKit Go.Joins
open Go.ChangeMaps (open_string shut_string)
theorem own : ownKnob Try.prog.godebug = none := by kernel_rfl
theorem cells_r : Try.prog.cellsOf 23 = 3 := by kernel_rfl
set_option maxHeartbeats 4000000 in
set_option maxRecDepth 100000 in
theorem lifted (os : Os) (started : os.Started) (H : Type) (enc : TypeId × Value → H) :
    ReturnsInHanded {} Try.checked os 3 .any (Rows.fnExactFirstShortestSpec.pre6 enc Try.prog Try.f3 Rows.fnExactFirstShortestRow.domain false) (Rows.fnExactFirstShortestSpec.post enc Try.prog Try.f3 false true false false) := by
  refine returnsInHanded_of_change (C := Try.checked) own started (by kernel_rfl) Try.func3
    (ChangeSpec.witness6 (enc := enc) (C := Try.checked) false ⟨#[], #[.string ByteArray.empty, .string ByteArray.empty, .agg #[.bool false, .bool false, .bool false]], []⟩ 8 (by kernel_rfl) (by kernel_rfl) (by kernel_rfl) (by kernel_rfl)) ?_
  intro W base args ds gs before hval0 hW hcnd hsz
  have hval : ∀ (j : Nat) t v, Try.f3.params[j]? = some t → args[j]? = some v → Value.okWide Try.prog W .any base t v := hval0
  have hW' := hW
  obtain ⟨p, q, hA0, hV, rfl, hfz, hnd⟩ := hW
  have hA : DataW.TrodAll enc Try.prog W 0 (fun _ => true) true Try.f3.params.toList args.toList ds p := hA0
  rw [Try.params3] at hA hval
  obtain ⟨v0, vs0, d0, ds0, p0, q0, hargs, rfl, rfl, h0, r0⟩ := trodAll_cons hA
  obtain ⟨v1, vs1, d1, ds1, p1, q1, rfl, rfl, rfl, h1, r1⟩ := trodAll_cons r0
  obtain ⟨v2, vs2, d2, ds2, p2, q2, rfl, rfl, rfl, h2, r2⟩ := trodAll_cons r1
  obtain ⟨rfl, rfl, rfl⟩ := trodAll_nil r2
  obtain rfl : args = #[v0, v1, v2] := by cases args; simp_all
  obtain ⟨rfl, rfl⟩ := trodVars_none hV
  obtain ⟨a0, rfl, rfl, rfl, w0⟩ := open_string Try.underlying9 (hval 0 9 v0 rfl rfl) h0
  obtain ⟨a1, rfl, rfl, rfl, w1⟩ := open_string Try.underlying9 (hval 1 9 v1 rfl rfl) h1
  obtain ⟨c2, e2, f2, y2, z2, x2, m2, rfl, rfl, rfl, hy2, hz2, hx2⟩ := open_agg3 Try.underlying23 (by kernel_rfl) cells_r (hval 2 23 v2 rfl rfl) h2
  obtain ⟨a2, ea2, rfl⟩ := DataW.trod_bool Try.underlying4 hy2
  obtain ⟨b2, eb2, rfl⟩ := DataW.trod_bool Try.underlying4 hz2
  obtain ⟨g2, eg2, rfl⟩ := DataW.trod_bool Try.underlying4 hx2
  simp at ea2 eb2 eg2
  subst ea2 eb2 eg2
  clear hA0 hval0
  refine (walk_FnExactFirstShortest a0 w0 a1 w1 a2 b2 g2 W).mono fun e W' ⟨he, bel⟩ => ?_
  subst he
  exact ⟨_, rfl, _, _, _, [], _, [], hW', trodAll_mk1 (shut_bool Try.underlying4 _), (trodAll_cons_mk (shut_string Try.underlying9 w0) (trodAll_cons_mk (shut_string Try.underlying9 w1) (trodAll_cons_mk (shut_agg3 (y0 := (.lit (.bool a2), [])) (y1 := (.lit (.bool b2), [])) (y2 := (.lit (.bool g2), [])) Try.underlying23 (by kernel_rfl) cells_r ⟨1, by show DataW.trod enc Try.prog _ _ _ _ 1 4 _ = _; simp [DataW.trod, Try.underlying4]⟩ ⟨1, by show DataW.trod enc Try.prog _ _ _ _ 1 4 _ = _; simp [DataW.trod, Try.underlying4]⟩ ⟨1, by show DataW.trod enc Try.prog _ _ _ _ 1 4 _ = _; simp [DataW.trod, Try.underlying4]⟩) trodAll_mk0))), rfl, bel.frame _, fun h => by cases h⟩
set_option maxHeartbeats 8000000 in
set_option maxRecDepth 100000 in
theorem closed : joinedFacts Try.checked.prog 3 Try.f3 Rows.fnExactFirstShortestSpec Rows.fnExactFirstShortestRow = true := by
  unfold joinedFacts
  repeat refine Bool.and_eq_true_iff.mpr ⟨?_, ?_⟩
  all_goals first | (with_reducible exact head_heard) | (with_reducible exact head_enter) | ((with_reducible refine make_ok _ ?_); rfl) | ((with_reducible refine lifts_ok _ ?_); rfl) | (as_aux_lemma => kernel_rfl)
theorem over : Rows.fnExactFirstShortestRow.holds Try.pinned (OpenSpec.ofChange Rows.fnExactFirstShortestSpec) :=
  OpenClaim.holds_of_wide 3 Try.f3 rfl rfl rfl rfl rfl rfl rfl ⟨rfl, rfl, rfl, rfl, rfl⟩ rfl rfl rfl rfl rfl (by kernel_rfl) Try.func3 closed
    (of_decide_eq_true (by kernel_rfl)) (by unfold Func.isWrapper; first | (rw [if_pos (by decide +kernel)]; kernel_rfl) | (rw [if_neg (by decide +kernel)]; exact ⟨rfl, rfl⟩))
    (fun os started H enc _ => lifted os started H enc)
/-- The statement. -/
theorem proved : Rows.FnExactFirstShortestSaid := over
end Go.Proofs.Ytdcbjbmnkajjcaa.fnExactFirstShortest
