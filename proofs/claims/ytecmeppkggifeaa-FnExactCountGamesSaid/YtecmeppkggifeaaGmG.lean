/- Games: the program's map of what it told of all games; no walk. -/
import Derived.Test.YtecmeppkggifeaaGmR
import Derived.Test.YtecmeppkggifeaaGmE
namespace Go.Proofs.Ytecmeppkggifeaa
open Go.RowKit Go.Maps

abbrev gV (c : G3) : Value := .agg #[.int .i64 (c.1 : Int), .int .i64 (c.2.1 : Int), .int .i64 c.2.2]
def gD (a b c : Int) : DataW Unit := .agg [.lit (.int .i64 a), .lit (.int .i64 b), .lit (.int .i64 c)]
def gmsR : Value → Option (DataW Unit × List MemPlace)
  | .agg xs => match xs.toList with
    | [.int .i64 a, .int .i64 b, .int .i64 c] => some (gD a b c, [])
    | _ => none
  | _ => none
theorem gmsR_mk (a b c : Int) : gmsR (.agg #[.int .i64 a, .int .i64 b, .int .i64 c]) = some (gD a b c, []) := rfl
theorem gmsR_inv {v : Value} {y : DataW Unit × List MemPlace} (h : gmsR v = some y) : ∃ a b c, v = .agg #[.int .i64 a, .int .i64 b, .int .i64 c] ∧ y = (gD a b c, []) := by
  unfold gmsR at h
  split at h
  · split at h
    · rename_i xs _ a b c e
      injection h with h
      exact ⟨a, b, c, congrArg Value.agg (Array.ext' (by simpa using e)), h.symm⟩
    · cases h
  · cases h
theorem gD_inj {a b c a' b' c' : Int} (h : gD a b c = gD a' b' c') : a = a' ∧ b = b' ∧ c = c' := by
  unfold gD at h
  simpa using h
theorem zeroG (w : World) : (zeroValue 89).run Try.prog w = .ok (.agg #[.int .i64 0, .int .i64 0, .int .i64 0]) w := by kernel_rfl
abbrev gDm (tm : Bool) (s : List UInt8) : DataW Unit := gD ((Gm tm s).1 : Int) ((Gm tm s).2.1 : Int) (Gm tm s).2.2
/-- What the map tells is so. -/
def ToldGD (L : Nat) (D : DataW Unit) : Prop :=
  (∀ tm s, sigT L s → Maps.has D (.string (kbT tm s)) = true → hasV D (kbT tm s) (gDm tm s)) ∧ ∀ x, Maps.has D (.string x) = true → ∃ tm s, sigT L s ∧ x = kbT tm s
theorem toldG_put {L : Nat} {D : DataW Unit} (hL : L ≤ 12) (hD : IsMap D) (h : ToldGD L D) (tm : Bool) {s : List UInt8} (hs : sigT L s) : ToldGD L (D.put (.string (kbT tm s)) (gDm tm s)) := by
  have hm : ∀ s', sigT L s' → s'.length ≤ maxLen := fun s' h => by have := h.1; unfold maxLen; omega
  refine ⟨fun tm' s' hs' hh => ?_, fun x hx => ?_⟩
  · by_cases e : kbT tm' s' = kbT tm s
    · obtain ⟨rfl, rfl⟩ := kbT_inj (hm _ hs') (hm _ hs) e
      exact hasV_same hD _ _
    · rcases has_put hh with h1 | h1
      · exact absurd h1 e
      · exact hasV_other _ (h.1 tm' s' hs' h1) e
  · rcases has_put hx with rfl | h1
    · exact ⟨tm, s, hs, rfl⟩
    · exact h.2 x h1
def ToldG (W : World) (B L : Nat) : Prop := ∃ D, W.ownsMap Try.prog 67 gmsR B 78364164096 D ∧ ToldGD L D
theorem ToldG.below {W W' : World} {B L : Nat} (h : ToldG W B L) (hb : Below W.heap.size W W') : ToldG W' B L := by
  obtain ⟨D, h1, h2⟩ := h
  exact ⟨D, h1.kept (grown_of_below hb) (by simp), h2⟩
theorem ToldG.lt {W : World} {B L : Nat} (h : ToldG W B L) : B < W.heap.size := by
  obtain ⟨D, h1, _⟩ := h
  exact h1.lt
structure TelGB (W : World) (B Bt Br Bs : Nat) : Prop where
  told : W.cell? ⟨Bt, 0, none⟩ = some (.map (some B))
  rule : W.cell? ⟨Br, 0, none⟩ = some (.func (.func 111) #[] #[])
  tell : W.cell? ⟨Bs, 0, none⟩ = some (.func (.func 122) #[] #[.pointer (some ⟨Bt, 0, none⟩), .pointer (some ⟨Br, 0, none⟩), .pointer (some ⟨Bs, 0, none⟩)])
  lt : Bt < W.heap.size ∧ Br < W.heap.size ∧ Bs < W.heap.size
  ne : Bt ≠ B ∧ Br ≠ B ∧ Bs ≠ B
theorem TelGB.kp {W W' : World} {B Bt Br Bs : Nat} (h : TelGB W B Bt Br Bs) (hk : KpM B W W') : TelGB W' B Bt Br Bs := by
  obtain ⟨a, b, c⟩ := h.lt
  obtain ⟨x, y, z⟩ := h.ne
  have := hk.size
  exact ⟨(hk.cell a x).trans h.told, (hk.cell b y).trans h.rule, (hk.cell c z).trans h.tell, ⟨by omega, by omega, by omega⟩, h.ne⟩
structure TelG (W : World) (L B Bt Br Bs : Nat) : Prop where
  map : ToldG W B L
  box : TelGB W B Bt Br Bs
theorem TelG.below {W W' : World} {L B Bt Br Bs : Nat} (h : TelG W L B Bt Br Bs) (hb : Below W.heap.size W W') : TelG W' L B Bt Br Bs := ⟨h.map.below hb, h.box.kp (KpM.below hb)⟩
/-- A block that is none of the teller's may be written. -/
theorem TelG.off {W : World} {L B Bt Br Bs C : Nat} (h : TelG W L B Bt Br Bs) (h1 : C ≠ B) (h2 : C ≠ Bt) (h3 : C ≠ Br) (h4 : C ≠ Bs) (o : Nat) (u : Value) : TelG (W.setCell ⟨C, o, none⟩ u) L B Bt Br Bs := by
  have hg : W.grownBy (W.setCell ⟨C, o, none⟩ u) (some C) := ⟨rfl, rfl, rfl, by simp, fun k _ hk => Below.heap_setCell _ _ _ _ (fun e => hk (by rw [e]))⟩
  have hc : ∀ b, b ≠ C → (W.setCell ⟨C, o, none⟩ u).cell? ⟨b, 0, none⟩ = W.cell? ⟨b, 0, none⟩ := fun b hb => World.cell?_setCell_other _ _ _ _ (by intro e; injection e with e; first | exact hb e | exact hb e.symm)
  obtain ⟨D, m1, m2⟩ := h.map
  exact ⟨⟨D, m1.kept hg (by simp [Ne.symm h1]), m2⟩, ⟨(hc Bt (Ne.symm h2)).trans h.box.told, (hc Br (Ne.symm h3)).trans h.box.rule, (hc Bs (Ne.symm h4)).trans h.box.tell, by simpa using h.box.lt, h.box.ne⟩⟩
theorem telG_map {L B Bt Br Bs : Nat} {tm : Bool} {s : List UInt8} {W : World} (hL : L ≤ 12) (hs : sigT L s) (hI : TelG W L B Bt Br Bs) :
    ∃ W', (Instr.mapUpdate 133 (.map (some B)) (tnV tm s) (gV (Gm tm s))).run Try.prog W = .ok () W' ∧ TelG W' L B Bt Br Bs ∧ KpM B W W' := by
  obtain ⟨D, h1, h2⟩ := hI.map
  have hm : s.length ≤ maxLen := by have := hs.1; unfold maxLen; omega
  obtain ⟨W', hrun, r1, r2⟩ := h1.store Try.keysT Try.underlying133 (by decide) (keyT tm hm) (gmsR_mk _ _ _)
  have hg := r2.grown
  have hK : KpM B W W' := ⟨hg.os, hg.tape, hg.output, hg.size, fun k hne hk => hg.block k hk hne⟩
  have hD2 := toldG_put hL h1.isMap h2 tm hs
  exact ⟨W', hrun, ⟨⟨_, told_few hL r1 hD2.2, hD2⟩, hI.box.kp hK⟩, hK⟩
/-- All old blocks but two lie as they lay. -/
structure KpN (B C : Nat) (W W' : World) : Prop where
  size : W.heap.size ≤ W'.heap.size
  keep : ∀ k, k < W.heap.size → k ≠ B → k ≠ C → W'.heap[k]? = W.heap[k]?
theorem KpN.refl (B C : Nat) (W : World) : KpN B C W W := ⟨Nat.le_refl _, fun _ _ _ _ => rfl⟩
theorem KpN.trans {B C : Nat} {a b c : World} (h : KpN B C a b) (k : KpN B C b c) : KpN B C a c :=
  ⟨Nat.le_trans h.size k.size, fun i hi h1 h2 => (k.keep i (Nat.lt_of_lt_of_le hi h.size) h1 h2).trans (h.keep i hi h1 h2)⟩
theorem KpN.far {B C : Nat} {W W' : World} (h : KpM B W W') : KpN B C W W' := ⟨h.size, fun k hk h1 _ => h.far.2 k (fun e => h1 (by injection e)) hk⟩
theorem KpN.below {B C : Nat} {W W' : World} (h : Below W.heap.size W W') : KpN B C W W' := ⟨h.size, fun k hk _ _ => h.block k hk⟩
theorem KpN.set {B C : Nat} (W : World) (o : Nat) (u : Value) : KpN B C W (W.setCell ⟨C, o, none⟩ u) := ⟨by simp, fun k _ _ h => Below.heap_setCell _ _ _ _ h⟩
theorem KpN.cell {B C : Nat} {W W' : World} (h : KpN B C W W') {b o : Nat} (hb : b < W.heap.size) (h1 : b ≠ B) (h2 : b ≠ C) : W'.cell? ⟨b, o, none⟩ = W.cell? ⟨b, o, none⟩ := World.cell?_of_block (a := ⟨b, o, none⟩) (h.keep b hb h1 h2)
theorem KpN.frozen {B C : Nat} {W W' : World} (h : KpN B C W W') {b o : Nat} (hb : b < W.heap.size) (h1 : b ≠ B) (h2 : b ≠ C) : W'.frozen? ⟨b, o, none⟩ = W.frozen? ⟨b, o, none⟩ := World.frozen?_of_block (a := ⟨b, o, none⟩) (h.keep b hb h1 h2)
theorem MvAt.kpN {B C : Nat} {w w' : World} {A : Option Addr} {l : List (Int × Int)} (h : MvAt w A l) (hf : KpN B C w w') (hne : ∀ a, A = some a → a.block ≠ B ∧ a.block ≠ C) : MvAt w' A l := by
  intro k hk
  obtain ⟨g, a, b, c, d⟩ := h k hk
  obtain ⟨n1, n2⟩ := hne _ a
  exact ⟨g, a, Nat.lt_of_lt_of_le b hf.size, (hf.cell b n1 n2).trans c, (hf.cell b n1 n2).trans d⟩
end Go.Proofs.Ytecmeppkggifeaa
