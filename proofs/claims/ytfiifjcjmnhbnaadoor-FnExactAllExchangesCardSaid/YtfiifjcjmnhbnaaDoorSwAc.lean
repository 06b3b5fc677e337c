/- All exchanges: where the recursion stands (no walk). -/
import Derived.Test.YtfiifjcjmnhbnaaDoorSwAb
namespace Go.Proofs.YtfiifjcjmnhbnaaDoor
open Go.RowKit Go.Maps

/-- The rows of plays, and the moves made, behind some rounds. -/
structure AdR (base : Nat) (vp0 : Value) (vs0 : List Value) (vm : Value) (F : List (Int × Int)) (W0 : World) (Q : List (List (Int × Int))) (v : Value) (W : World) : Prop where
  pl : ∃ vs, PlW W base v vs Q ∧ ∀ x ∈ vs, x ∈ vs0 ∨ ∀ g, x.ownBlock = some g → W0.heap.size ≤ g
  made : W.ownsRow base 55 2 vm F.length (flat F)
  fr : FrA vp0.ownBlock vm.ownBlock W0 W
  new : v.ownBlock = vp0.ownBlock ∨ ∀ g, v.ownBlock = some g → W0.heap.size ≤ g
section
variable {base : Nat} {vp0 vm v v' : Value} {vs0 vs : List Value} {F : List (Int × Int)} {W0 W W' W8 Wc : World} {Q : List (List (Int × Int))} {m : Int × Int}
theorem AdR.start (hp : PlW W0 base vp0 vs0 Q) (hm : W0.ownsRow base 55 2 vm F.length (flat F)) : AdR base vp0 vs0 vm F W0 Q vp0 W0 :=
  ⟨⟨vs0, hp, fun _ h => .inl h⟩, hm, FrA.refl _ _ _, .inl rfl⟩
theorem AdR.below (h : AdR base vp0 vs0 vm F W0 Q v W) (hb : Below W.heap.size W W') : AdR base vp0 vs0 vm F W0 Q v W' := by
  obtain ⟨⟨vs, h1, h2⟩, h3, h4, h5⟩ := h
  exact ⟨⟨vs, h1.below hb, h2⟩, own_below h3 hb, h4.then (FrA.ofBelow hb) (.inl rfl) (.inl rfl), h5⟩
theorem AdR.from (h : AdR base vp0 vs0 vm F W Q v W') (hb : Below W0.heap.size W0 W) : AdR base vp0 vs0 vm F W0 Q v W' := by
  obtain ⟨⟨vs, h1, h2⟩, h3, h4, h5⟩ := h
  refine ⟨⟨vs, h1, fun x hx => (h2 x hx).imp id fun h g hg => Nat.le_trans hb.size (h g hg)⟩, h3, (FrA.ofBelow hb).then h4 (.inl rfl) (.inl rfl), h5.imp id fun h g hg => Nat.le_trans hb.size (h g hg)⟩
theorem AdR.ready (h : AdR base vp0 vs0 vm F W0 Q v W) (hvm : W0.ownsRow base 55 2 vm F.length (flat F)) (hap : ∀ x ∈ vs0, ∀ g, x.ownBlock = some g → vm.ownBlock ≠ some g)
    (hg : W.grownBy W8 vm.ownBlock) (hL : Lies W W8 vm v' F.length 1) (hrow : W8.ownsRow base 55 2 v' (F.length + 1) (flat F ++ [.int .i64 m.1, .int .i64 m.2])) (hb : Below W8.heap.size W8 Wc) :
    ∃ vs, PlW Wc base v vs Q ∧ Wc.ownsRow base 55 2 v' (F ++ [m]).length (flat (F ++ [m])) ∧ (∀ x ∈ vs, ∀ g, x.ownBlock = some g → v'.ownBlock ≠ some g) ∧ FrA vp0.ownBlock vm.ownBlock W0 Wc ∧
      ∀ Q' v9 w9, AdR base v vs v' (F ++ [m]) Wc Q' v9 w9 → AdR base vp0 vs0 vm F W0 Q' v9 w9 := by
  obtain ⟨⟨vs, h1, h2⟩, h3, h4, h5⟩ := h
  have hap1 : ∀ x ∈ vs, ∀ g, x.ownBlock = some g → vm.ownBlock ≠ some g := fun x hx g hxg e => by
    rcases h2 x hx with h | h
    · exact hap x h g hxg e
    · have := h g hxg
      have := (hvm.lt g e).2
      omega
  have hp8 : PlW W8 base v vs Q := h1.keep (fun g hgb => hg.block g (h1.out.lt g hgb).2 fun e => rows_apartS h3 h1.out T_mm g e.symm hgb) fun x hx g hgb => by
    obtain ⟨p, hp⟩ := h1.at hx
    exact hg.block g (hp.lt g hgb).2 fun e => hap1 x hx g hgb e.symm
  have e1 : flat (F ++ [m]) = flat F ++ [.int .i64 m.1, .int .i64 m.2] := by simp [flat]
  have hrow8 : W8.ownsRow base 55 2 v' (F ++ [m]).length (flat (F ++ [m])) := by rw [e1, List.length_append]; exact hrow
  have hfr : FrA vp0.ownBlock vm.ownBlock W0 Wc := (h4.then (FrA.ofGrown2 hg) (.inl rfl) (.inl rfl)).then (FrA.ofBelow hb) (.inl rfl) (.inl rfl)
  refine ⟨vs, hp8.below hb, own_below hrow8 hb, fun x hx g hxg e => ?_, hfr, fun Q' v9 w9 h9 => ?_⟩
  · rcases hL with ⟨g', cap, rfl, rfl⟩ | ⟨e2, _⟩
    · exact hap1 x hx g hxg e
    · rw [e2] at e
      injection e with e
      obtain ⟨p, hp⟩ := h1.at hx
      have := (hp.lt g hxg).2
      omega
  · obtain ⟨⟨vs9, a1, a2⟩, a3, a4, a5⟩ := h9
    have hWc : W0.heap.size ≤ Wc.heap.size := hfr.size
    refine ⟨⟨vs9, a1, fun x hx => ?_⟩, ?_, hfr.then a4 ?_ ?_, ?_⟩
    · rcases a2 x hx with h | h
      · exact h2 x h
      · exact .inr fun g hgx => Nat.le_trans hWc (h g hgx)
    · rcases hL with ⟨g', cap, rfl, rfl⟩ | ⟨e2, hgn⟩
      · rw [e1, List.length_append] at a3
        exact own_back a3 (by rw [flat_len])
      · have m8 : W8.ownsRow base 55 2 vm F.length (flat F) := own_blkS h3 fun g hgb => hgn.block g (h3.lt g hgb).2 (by simp)
        have mc := own_below m8 hb
        exact own_blkS mc fun g hgb => a4.block g (mc.lt g hgb).2 (fun e => rows_apartS mc (hp8.below hb).out T_mm g hgb e.symm) (fun e => by
          rw [e2] at e
          injection e with e
          have := (h3.lt g hgb).2
          omega)
    · rcases h5 with h | h
      · exact .inl h
      · exact .inr (.inr h)
    · rcases hL with ⟨g', cap, rfl, rfl⟩ | ⟨e2, _⟩
      · exact .inl rfl
      · refine .inr (.inr fun g e => ?_)
        rw [e2] at e
        injection e with e
        have := h4.size
        omega
    · rcases a5 with h | h
      · rw [h]; exact h5
      · exact .inr fun g e => Nat.le_trans hWc (h g e)
end
/-- What the plays are, of what was there, of what was made before, and of those from here. -/
def AdPost (base : Nat) (vp : Value) (vs : List Value) (PS : List (List (Int × Int))) (vm : Value) (F : List (Int × Int)) (A : List (List (Int × Int))) (w : World) (e : Ending) (w' : World) : Prop :=
  ∃ v, e = .returned v ∧ AdR base vp vs vm F w (PS ++ A.map (F ++ ·)) v w'
theorem map_belowS {P : Program} {k : TypeId} {R : Value → Option (DataW Unit × List MemPlace)} {w w' : World} {b n B : Nat} {D : DataW Unit} (h : w.ownsMap P k R b n D) (hb : Below B w w') (hlt : b < B) : w'.ownsMap P k R b n D := by
  obtain ⟨es, clock, h1, h2⟩ := h
  exact ⟨es, clock, (hb.block b hlt).trans h1, h2⟩
end Go.Proofs.YtfiifjcjmnhbnaaDoor
