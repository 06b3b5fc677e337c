/- All exchanges, the model's recursion: where it stands (no walk). -/
import Derived.Test.YtfiifjcjmnhbnaaDoorSwAd
namespace Go.Proofs.YtfiifjcjmnhbnaaDoor
open Go.RowKit Go.Maps

theorem grown_setCellS (W : World) (O : Nat) (v : Value) : W.grownBy (W.setCell ⟨O, 0, none⟩ v) (some O) := by
  have hb : Below 0 W (W.setCell ⟨O, 0, none⟩ v) := (Below.refl 0 W).setCell (Nat.zero_le _) v
  exact ⟨hb.os, hb.tape, hb.output, hb.size, fun k _ hk => Below.heap_setCell _ _ _ k (fun e => hk (by rw [e]))⟩
theorem ex_sameS {B : Nat} {W W' : World} (h : W'.heap[B]? = W.heap[B]?) {k : Nat} (he : Ex B W' k) : Ex B W k := by
  rcases he with rfl | ⟨o, v, hc, hv⟩
  · exact .inl rfl
  · exact .inr ⟨o, v, (World.cell?_of_block (a := ⟨B, o, none⟩) h).symm.trans hc, hv⟩
/-- The box's memory, the list's cell and one row are written, nothing else. -/
structure FrS (B O : Nat) (row : Option Nat) (W W' : World) : Prop where
  os : W'.os = W.os
  tape : W'.tape = W.tape
  output : W'.output = W.output
  size : W.heap.size ≤ W'.heap.size
  keep : ∀ k, k < W.heap.size → ¬ Ex B W k → k ≠ O → some k ≠ row → W'.heap[k]? = W.heap[k]?
  ex : ∀ k, k < W.heap.size → Ex B W' k → Ex B W k
section
variable {B O n base : Nat} {row row' : Option Nat} {W W' W1 W2 W3 : World} {vp vp' vm v : Value} {vs : List Value} {Q : List (List (Int × Int))} {F : List (Int × Int)}
theorem FrS.refl (B O : Nat) (row : Option Nat) (W : World) : FrS B O row W W := ⟨rfl, rfl, rfl, Nat.le_refl _, fun _ _ _ _ _ => rfl, fun _ _ h => h⟩
theorem FrS.then (h : FrS B O row W1 W2) (h' : FrS B O row' W2 W3) (hr : row' = row ∨ ∀ g, row' = some g → W1.heap.size ≤ g) : FrS B O row W1 W3 :=
  ⟨h'.os.trans h.os, h'.tape.trans h.tape, h'.output.trans h.output, Nat.le_trans h.size h'.size,
    fun k hk h1 h2 h3 => (h'.keep k (Nat.lt_of_lt_of_le hk h.size) (fun he => h1 (h.ex k hk he)) h2 (fun e => by
      rcases hr with hr | hr
      · exact h3 (e.trans hr)
      · have := hr k e.symm; omega)).trans (h.keep k hk h1 h2 h3),
    fun k hk he => h.ex k hk (h'.ex k (Nat.lt_of_lt_of_le hk h.size) he)⟩
theorem FrS.ofKpX (h : KpX B W W') : FrS B O row W W' := ⟨h.os, h.tape, h.output, h.size, fun k hk h1 _ _ => h.keep k hk h1, h.ex⟩
theorem FrS.ofBelow (hB : B < W.heap.size) (h : Below W.heap.size W W') : FrS B O row W W' := FrS.ofKpX (KpX.below hB h)
theorem FrS.ofGrown (hB : B < W.heap.size) (hne : some B ≠ row) (h : W.grownBy W' row) : FrS B O row W W' :=
  ⟨h.os, h.tape, h.output, h.size, fun k hk _ _ h3 => h.block k hk h3, fun _ _ he => ex_sameS (h.block B hB hne) he⟩
theorem FrS.ofSet (hB : B < W.heap.size) (hne : B ≠ O) (v : Value) : FrS B O row W (W.setCell ⟨O, 0, none⟩ v) := by
  have h := grown_setCellS W O v
  exact ⟨h.os, h.tape, h.output, h.size, fun k hk _ h2 _ => h.block k hk (fun e => h2 (by injection e)), fun _ _ he => ex_sameS (h.block B hB (fun e => hne (by injection e))) he⟩
/-- The list's cell, the rows in it, and what the box remembers. -/
structure MoS (base B n O : Nat) (vp : Value) (vs : List Value) (Q : List (List (Int × Int))) (W : World) : Prop where
  kn : ∃ ks, EnW W B n ks
  out : W.ownsRow 0 22 1 (.slice (some ⟨O, 0, none⟩) 1 1) 1 [vp]
  pl : PlW W base vp vs Q
theorem MoS.lt (h : MoS base B n O vp vs Q W) : B < W.heap.size := by
  obtain ⟨ks, hk⟩ := h.kn
  exact hk.lt
theorem MoS.ltO (h : MoS base B n O vp vs Q W) : O < W.heap.size := (h.out.lt O rfl).2
theorem MoS.exO (h : MoS base B n O vp vs Q W) : ¬ Ex B W O := by
  obtain ⟨ks, hk⟩ := h.kn
  exact hk.apartE (by decide) (by decide) (by decide) h.out O rfl
theorem MoS.exV (h : MoS base B n O vp vs Q W) : ∀ g, vp.ownBlock = some g → ¬ Ex B W g := by
  obtain ⟨ks, hk⟩ := h.kn
  exact hk.apartE (by decide) (by decide) (by decide) h.pl.out
theorem MoS.exM (h : MoS base B n O vp vs Q W) {b m : Nat} {u : Value} {xs : List Value} (hu : W.ownsRow b 55 2 u m xs) : ∀ g, u.ownBlock = some g → ¬ Ex B W g := by
  obtain ⟨ks, hk⟩ := h.kn
  exact hk.apartE (by decide) (by decide) (by decide) hu
theorem MoS.keep (h : MoS base B n O vp vs Q W) (hk : ∃ ks, EnW W' B n ks) (hb : ∀ k, k < W.heap.size → ¬ Ex B W k → W'.heap[k]? = W.heap[k]?) : MoS base B n O vp vs Q W' :=
  ⟨hk, own_blkS h.out fun g hg => hb g (h.out.lt g hg).2 (by injection hg with hg; have hg : O = g := hg; rw [← hg]; exact h.exO),
    h.pl.keep (fun g hg => hb g (h.pl.out.lt g hg).2 (h.exV g hg)) fun x hx g hg => by
      obtain ⟨p, hp⟩ := h.pl.at hx
      exact hb g (hp.lt g hg).2 (h.exM hp g hg)⟩
theorem MoS.below (h : MoS base B n O vp vs Q W) (hb : Below W.heap.size W W') : MoS base B n O vp vs Q W' := by
  obtain ⟨ks, hk⟩ := h.kn
  exact h.keep ⟨ks, hk.below hb⟩ fun k hk _ => hb.block k hk
theorem MoS.known (h : MoS base B n O vp vs Q W) (hk : KpX B W W') {ks : List (List UInt8)} (hn : EnW W' B n ks) : MoS base B n O vp vs Q W' := h.keep ⟨ks, hn⟩ hk.keep
theorem T_mo : (55 : TypeId) ≠ 22 := by decide
theorem T_no : (36 : TypeId) ≠ 22 := by decide
/-- One play more is told. -/
theorem MoS.push (h : MoS base B n O vp vs Q W) (hu : W.ownsRow base 55 2 vm F.length (flat F)) (ha : ∀ x ∈ vs, ∀ g, x.ownBlock = some g → vm.ownBlock ≠ some g)
    (ho : W'.ownsRow base 36 1 vp' (vs.length + 1) (vs ++ [vm])) (hg : W.grownBy W' vp.ownBlock) : MoS base B n O vp' (vs ++ [vm]) (Q ++ [F]) (W'.setCell ⟨O, 0, none⟩ vp') ∧ FrS B O vp.ownBlock W (W'.setCell ⟨O, 0, none⟩ vp') := by
  obtain ⟨ks, hk⟩ := h.kn
  have hBv : some B ≠ vp.ownBlock := fun e => h.exV B e.symm (.inl rfl)
  have hBO : B ≠ O := fun e => h.exO (by rw [e]; exact .inl rfl)
  have hk1 : EnW W' B n ks := hk.grownX h.exV hg
  have ho1 : W'.ownsRow 0 22 1 (.slice (some ⟨O, 0, none⟩) 1 1) 1 [vp] := own_blkS h.out fun g hgO => hg.block g (h.out.lt g hgO).2 fun e => rows_apartS h.pl.out h.out T_no g e.symm hgO
  have hg2 := grown_setCellS W' O vp'
  have hp1 := h.pl.push hu ha ho hg
  have hB1 : B < W'.heap.size := hk1.lt
  refine ⟨⟨⟨ks, hk1.grownX (row := some O) (fun g e => by injection e with e; subst e; exact hk1.apartE (by decide) (by decide) (by decide) ho1 O rfl) hg2⟩, ?_, hp1.keep (fun g hgb => hg2.block g (hp1.out.lt g hgb).2 fun e => ?_) fun x hx g hgb => ?_⟩, (FrS.ofGrown h.lt hBv hg).then (FrS.ofSet hB1 hBO vp') (.inl rfl)⟩
  · have := (ho1.stored 0 vp').1
    simpa using this
  · exact rows_apartS hp1.out ho1 T_no g hgb e.symm
  · obtain ⟨p, hp⟩ := hp1.at hx
    exact hg2.block g (hp.lt g hgb).2 fun e => rows_apartS hp ho1 T_mo g hgb e.symm
end
/-- What the model's recursion leaves. -/
def MoPost (base B n O : Nat) (vp : Value) (vs : List Value) (vm : Value) (Q : List (List (Int × Int))) (w : World) (e : Ending) (w' : World) : Prop :=
  e = .returned (.tuple #[]) ∧ ∃ vp' vs', MoS base B n O vp' vs' Q w' ∧ FrS B O vp.ownBlock w w' ∧ (vp'.ownBlock = vp.ownBlock ∨ ∀ g, vp'.ownBlock = some g → w.heap.size ≤ g) ∧ ∀ x ∈ vs', x ∈ vs ∨ x = vm ∨ ∀ g, x.ownBlock = some g → w.heap.size ≤ g
end Go.Proofs.YtfiifjcjmnhbnaaDoor
