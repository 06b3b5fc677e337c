/- Contract: all plays from a line, the model's recursion. -/
import Derived.Test.YtfiifjcjmnhbnaaDoorSwAa
import Derived.Test.YtfiifjcjmnhbnaaDoorSwAh
import Derived.Test.YtfiifjcjmnhbnaaDoorSwM
import Derived.Deep.CutBlock
namespace Go.Proofs.YtfiifjcjmnhbnaaDoor
open Go.RowKit Go.Shelf Go.Maps

set_option maxRecDepth 100000 in
set_option maxHeartbeats 4000000 in
theorem swList_end (base B n O : Nat) (l : List UInt8) (vp : Value) (vs : List Value) (PS : List (List (Int × Int))) (vm : Value) (F : List (Int × Int)) (w : World) (hg : goodT n l) (hl : l = lastL l)
    (hS : MoS base B n O vp vs PS w) (hvm : w.ownsRow base 55 2 vm F.length (flat F)) (hap : ∀ x ∈ vs, ∀ g, x.ownBlock = some g → vm.ownBlock ≠ some g) (hbw : base ≤ w.heap.size) (hPS : PS.length ≤ 1000) :
    Calls Tryd.prog 12 #[.pointer (some ⟨B, 0, none⟩), .string (str l), vm, .pointer (some ⟨O, 0, none⟩)] w (MoPost base B n O vp vs vm (PS ++ [F]) w) := by
  obtain ⟨i0, hi, hz0, hz1, hz2⟩ := info_parts Tryd.infoMS
  have HI := Lib.hid hi
  have HZ0 := Lib.hid hz0
  have HZ1 := Lib.hid hz1
  have HZ2 := Lib.hid hz2
  clear hi hz0 hz1 hz2
  obtain ⟨Am, capm, rfl⟩ := own_formA hvm
  have hs12 : (str l).size ≤ 12 := ((goodL_iff _).1 hg.1).2.1
  have HLL := Lib.hid (fun wx => liLast_any (str l) wx (by omega))
  rw [byt_str, ← hl] at HLL
  have hb : ((str l).toList == (str l).toList) = true := by rw [same_str]; simp
  have hc := hS.out.cellAt 0 (by omega)
  have hc : w.cell? ⟨O, 0, none⟩ = some vp := by simpa using hc
  have hfz := hS.out.frozenAt 0
  have hlen := hS.pl.len
  have HS := Lib.hid hS
  have HVM := Lib.hid hvm
  have HAP := Lib.hid hap
  have hOw := hS.ltO
  have H3 : vs.length + 1 ≤ maxLen := by unfold maxLen; omega
  have H4 : (vs.length + 1) * 24 ≤ 140737488355328 := by omega
  have H5 : base ≤ (w.alloc (Obj.cells #[.slice Am F.length capm] 36)).heap.size := by simp; omega
  have hbA : Below w.heap.size w (w.alloc (Obj.cells #[.slice Am F.length capm] 36)) := (Below.refl _ _).alloc (Nat.le_refl _) _
  have HSA := Lib.hid (hS.below hbA)
  have HVA := Lib.hid (own_below hvm hbA)
  have HBA := Lib.hid hbA
  clear hS hvm hap hg hl hbA hPS hs12 hlen
  go_enter Tryd.func12, Tryd.ntmps12
  go_wp2_with fail
  refine (HLL.out _).mono ?_
  rintro e w' ⟨rfl, rfl⟩
  go_wp2_with (first | (at_builtin; refine wpList_append_own_at _ rfl _ _ 22 rfl base 36 i0 (.slice none 0 0) 1 24 Tryd.underlying22 HI.out HZ0.out HZ1.out HZ2.out rfl (by decide) _ _ _ rfl HSA.out.pl.out ⟨w.heap.size, 0, none⟩ 1 1 [.slice Am F.length capm] rfl rfl (cell_one_newA _ _ _) (fun u hu => by simp at hu; subst hu; rfl) H3 H4 H5 ?_; intro v' w4 hown' hgrow _ hat; obtain ⟨hM4, hF4⟩ := HSA.out.push HVA.out HAP.out hown' hgrow; obtain ⟨A', cap', rfl⟩ := own_formA hown'; have HM4 := Lib.hid hM4; have HF4 := Lib.hid hF4; have HAT := Lib.hid hat; have hne4 : some O ≠ vp.ownBlock := (fun e => rows_apartS HSA.out.pl.out HSA.out.out T_no O e.symm rfl); have hc4 := (hgrow.cell_far ⟨O, 0, none⟩ (by simp; omega) hne4).trans ((HBA.out.cell (p := ⟨O, 0, none⟩) hOw).trans hc); have hf4 := (hgrow.frozen_far ⟨O, 0, none⟩ (by simp; omega) hne4).trans (HSA.out.out.frozenAt 0); clear hM4 hF4 hat hown' hgrow hne4))
  refine bodyPost_ret (results_none rfl _ _ _) rfl ?_
  refine ⟨rfl, _, _, HM4.out, (FrS.ofBelow HS.out.lt HBA.out).then HF4.out (.inl rfl), ?_, fun x hx => ?_⟩
  · rcases HAT.out with h | h
    · exact .inl h
    · refine .inr fun g e => ?_
      rw [h] at e
      injection e with e
      have := HBA.out.size
      omega
  · rcases List.mem_append.1 hx with h | h
    · exact .inl h
    · simp at h
      exact .inr (.inl h)
/-- What the model's recursion promises at so many moves left. -/
def MoAll (n k : Nat) : Prop :=
  ∀ (base B O : Nat) (l : List UInt8) (vp : Value) (vs : List Value) (PS : List (List (Int × Int))) (gv cv : Nat) (F : List (Int × Int)) (w : World), goodT n l → 0 < swN l → msL l = (k : Int) → MoS base B n O vp vs PS w →
    w.ownsRow base 55 2 (.slice (some ⟨gv, 0, none⟩) F.length cv) F.length (flat F) → (∀ x ∈ vs, x.ownBlock ≠ some gv) → base ≤ w.heap.size → PS.length + swN l ≤ 1000 → F.length + k ≤ 60000 →
    Calls Tryd.prog 12 #[.pointer (some ⟨B, 0, none⟩), .string (str l), .slice (some ⟨gv, 0, none⟩) F.length cv, .pointer (some ⟨O, 0, none⟩)] w (MoPost base B n O vp vs (.slice (some ⟨gv, 0, none⟩) F.length cv) (PS ++ (allF k l).map (F ++ ·)) w)
/-- Behind some moves of a line. -/
structure MoR (base B n O : Nat) (vp : Value) (vs : List Value) (W0 : World) (Q : List (List (Int × Int))) (W : World) : Prop where
  st : ∃ vp1 vs1, MoS base B n O vp1 vs1 Q W ∧ (vp1.ownBlock = vp.ownBlock ∨ ∀ g, vp1.ownBlock = some g → W0.heap.size ≤ g) ∧ ∀ x ∈ vs1, x ∈ vs ∨ ∀ g, x.ownBlock = some g → W0.heap.size ≤ g
  fr : FrS B O vp.ownBlock W0 W
section
variable {base B n O : Nat} {vp : Value} {vs : List Value} {Q : List (List (Int × Int))} {W0 W W' : World}
theorem MoR.start (h : MoS base B n O vp vs Q W0) : MoR base B n O vp vs W0 Q W0 := ⟨⟨vp, vs, h, .inl rfl, fun _ hx => .inl hx⟩, FrS.refl _ _ _ _⟩
theorem MoR.lt (h : MoR base B n O vp vs W0 Q W) : B < W.heap.size := by
  obtain ⟨⟨_, _, h1, _⟩, _⟩ := h
  exact h1.lt
theorem MoR.below (h : MoR base B n O vp vs W0 Q W) (hb : Below W.heap.size W W') : MoR base B n O vp vs W0 Q W' := by
  have hB := h.lt
  obtain ⟨⟨vp1, vs1, h1, h2, h3⟩, h4⟩ := h
  exact ⟨⟨vp1, vs1, h1.below hb, h2, h3⟩, h4.then (row' := vp.ownBlock) (FrS.ofBelow hB hb) (.inl rfl)⟩
theorem MoR.known (h : MoR base B n O vp vs W0 Q W) (hk : KpX B W W') {ks : List (List UInt8)} (hn : EnW W' B n ks) : MoR base B n O vp vs W0 Q W' := by
  obtain ⟨⟨vp1, vs1, h1, h2, h3⟩, h4⟩ := h
  exact ⟨⟨vp1, vs1, h1.known hk hn, h2, h3⟩, h4.then (row' := vp.ownBlock) (FrS.ofKpX hk) (.inl rfl)⟩
/-- A play list from a line behind a move is told: so many more. -/
theorem MoR.told {vp1 vm : Value} {vs1 : List Value} {Q' : List (List (Int × Int))} {Wp Wc : World} {e : Ending} (hfr : FrS B O vp.ownBlock W0 Wp) (h2 : vp1.ownBlock = vp.ownBlock ∨ ∀ g, vp1.ownBlock = some g → W0.heap.size ≤ g) (h3 : ∀ x ∈ vs1, x ∈ vs ∨ ∀ g, x.ownBlock = some g → W0.heap.size ≤ g)
    (hm : ∀ g, vm.ownBlock = some g → W0.heap.size ≤ g) (h : MoPost base B n O vp1 vs1 vm Q' Wp e Wc) : e = .returned (.tuple #[]) ∧ MoR base B n O vp vs W0 Q' Wc := by
  obtain ⟨he, vp2, vs2, a1, a2, a3, a4⟩ := h
  have hs := hfr.size
  refine ⟨he, ⟨vp2, vs2, a1, ?_, fun x hx => ?_⟩, hfr.then a2 h2⟩
  · rcases a3 with h | h
    · rw [h]; exact h2
    · exact .inr fun g e => Nat.le_trans hs (h g e)
  · rcases a4 x hx with h | rfl | h
    · exact h3 x h
    · exact .inr hm
    · exact .inr fun g e => Nat.le_trans hs (h g e)
end
end Go.Proofs.YtfiifjcjmnhbnaaDoor
