/- Contracts: the first and the last exchange, the program's. -/
import Derived.Test.YtfiifjcjmnhbnaaDoorSwH
import Derived.Test.YtfiifjcjmnhbnaaDoorSwZ
import Derived.Test.YtfiifjcjmnhbnaaDoorSwM
import Derived.Test.YtfiifjcjmnhbnaaDoorSwF
import Derived.Deep.LoopGhost
import Derived.Test.YtfiifjcjmnhbnaaDoorMoves
namespace Go.Proofs.YtfiifjcjmnhbnaaDoor
open Go.RowKit Go.Shelf Go.Maps

/-- The exchange is there. -/
def hasX (t g f : Int) : Bool := few t g f && decide (0 < swN (firstL t.toNat g.toNat f.toNat))
/-- The moves of the first exchange, or the last one. -/
def movX (last : Bool) (t g f : Int) : List (Int × Int) := exM last (msL (firstL t.toNat g.toNat f.toNat)).toNat (firstL t.toNat g.toNat f.toNat)
def FxYes (l : List (Int × Int)) (w : World) (e : Ending) (w' : World) : Prop :=
  ∃ v, e = .returned (.tuple #[v, .bool true]) ∧ w'.ownsRow w.heap.size 55 2 v l.length (flat l) ∧ Below w.heap.size w w'
def FxNo (w : World) (e : Ending) (w' : World) : Prop := e = .returned (.tuple #[.slice none 0 0, .bool false]) ∧ Below w.heap.size w w'
end Go.Proofs.YtfiifjcjmnhbnaaDoor
namespace Go.Proofs.YtfiifjcjmnhbnaaDoor
open Go.RowKit

section
variable {W W' : World} {B n b m : Nat} {ks : List (List UInt8)} {vs vw v : Value} {xs : List Value}
/-- A row of moves is no memory of the box. -/
theorem EnM.apart (h : EnM W B n ks vs vw) (hr : W.ownsRow b 55 2 v m xs) : ∀ g, v.ownBlock = some g → ¬ Ex B W g := by
  intro g hg he
  rcases (en_ex h.box g).1 he with rfl | h1 | h1
  · rcases hr.2 with ⟨hv, _⟩ | ⟨g', cap, cur, rfl, _, hc, _⟩
    · subst hv; cases hg
    · injection hg with hg
      have hg : g' = g := hg
      subst hg
      rw [h.box] at hc
      injection hc with hc
      injection hc with _ hc _
      exact absurd hc (by decide)
  · rcases own_apart hr h.row1 (by decide) with h2 | h2
    · rw [hg] at h2; cases h2
    · exact h2 (hg.trans h1.symm)
  · rcases own_apart hr h.row2 (by decide) with h2 | h2
    · rw [hg] at h2; cases h2
    · exact h2 (hg.trans h1.symm)
/-- The row of moves grows: what is known stays. -/
theorem EnM.grownM (h : EnM W B n ks vs vw) (hr : W.ownsRow b 55 2 v m xs) (hg : W.grownBy W' v.ownBlock) : EnM W' B n ks vs vw := by
  have ha := h.apart hr
  have h1 : some B ≠ v.ownBlock := fun e => ha B e.symm (.inl rfl)
  refine ⟨(hg.block B h.lt h1).trans h.box, h.row1.kept hg ?_, h.row2.kept hg ?_, h.nodup, h.good⟩
  · rcases own_apart h.row1 hr (by decide) with h2 | h2
    · exact .inl h2
    · exact .inr h2
  · rcases own_apart h.row2 hr (by decide) with h2 | h2
    · exact .inl h2
    · exact .inr h2
/-- .. and the row stays while more becomes known. -/
theorem own_kpx (h : EnM W B n ks vs vw) (hr : W.ownsRow b 55 2 v m xs) (hk : KpX B W W') : W'.ownsRow b 55 2 v m xs := by
  have ha := h.apart hr
  refine ⟨hr.1, ?_⟩
  rcases hr.2 with h2 | ⟨g, cap, cur, rfl, hb, hg, r⟩
  · exact .inl h2
  · exact .inr ⟨g, cap, cur, rfl, hb, (hk.keep g (Array.getElem?_eq_some_iff.1 hg).1 (ha g rfl)).trans hg, r⟩
end
/-- Where the model's exchange stands: what is known, and the moves made. -/
structure OnW (W : World) (B n : Nat) (F : List (Int × Int)) (v : Value) : Prop where
  kn : ∃ ks, EnW W B n ks
  row : W.ownsRow (B + 1) 55 2 v F.length (flat F)
section
variable {W W' w3 : World} {B n : Nat} {F G : List (Int × Int)} {v v' : Value}
theorem OnW.lt (h : OnW W B n F v) : B < W.heap.size := by
  obtain ⟨ks, hk⟩ := h.kn
  exact hk.lt
theorem OnW.below (h : OnW W B n F v) (hb : Below W.heap.size W W') : OnW W' B n F v := by
  obtain ⟨ks, hk⟩ := h.kn
  exact ⟨⟨ks, hk.below hb⟩, own_below h.row hb⟩
theorem OnW.kp (h : OnW W B n F v) (hk : KpX B W W') {ks' : List (List UInt8)} (hn : EnW W' B n ks') : OnW W' B n F v := by
  obtain ⟨ks, vs, vw, hm⟩ := h.kn
  exact ⟨⟨ks', hn⟩, own_kpx hm h.row hk⟩
theorem OnW.more (h : OnW W B n F v) (hg : W.grownBy W' v.ownBlock) (hr : W'.ownsRow (B + 1) 55 2 v' G.length (flat G)) : OnW W' B n G v' := by
  obtain ⟨ks, vs, vw, hm⟩ := h.kn
  exact ⟨⟨ks, vs, vw, hm.grownM h.row hg⟩, hr⟩
end
end Go.Proofs.YtfiifjcjmnhbnaaDoor
namespace Go.Proofs.YtfiifjcjmnhbnaaDoor
open Go.RowKit

theorem exN_ms {n : Nat} (last : Bool) : ∀ (i : Nat) (l : List UInt8), goodT n l → 0 < swN l → (i : Int) ≤ msL l → msL (exN last i l) = msL l - i
  | 0, l, _, _, _ => by simp [exN]
  | i + 1, l, h, h0, hi => by
    have hne : l ≠ lastL l := fun e => by
      have := (live_ms _ l h (Nat.le_refl _) h0).2.2 e
      omega
    obtain ⟨m, hm⟩ := pick_some last h h0 hne
    obtain ⟨h1, h2⟩ := pick_mem hm
    have hv := mv_nx h1
    have h3 := (steps_line n).one l _ h hv
    have h4 := exN_ms last i (behind (str l) m.1 m.2) (nx_good h hv) h2 (by omega)
    have e : exN last (i + 1) l = exN last i (behind (str l) m.1 m.2) := by show (match pickM last l with | some m => _ | none => _) = _; rw [hm]
    rw [e, h4, h3]
    push_cast
    omega

end Go.Proofs.YtfiifjcjmnhbnaaDoor
namespace Go.Proofs.YtfiifjcjmnhbnaaDoor
open Go.RowKit

/-- The moves that are answered. -/
def fxL (t g f : Int) : List (Int × Int) := if hasX t g f then movX false t g f else []
def FxAns (t g f : Int) (w : World) (e : Ending) (w' : World) : Prop :=
  ∃ v, e = .returned (.tuple #[v, .bool (hasX t g f)]) ∧ w'.ownsRow w.heap.size 55 2 v (fxL t g f).length (flat (fxL t g f)) ∧ Below w.heap.size w w'
theorem fx_yes {t g f : Int} {w w' : World} {e : Ending} (h : hasX t g f = true) (hp : FxYes (movX false t g f) w e w') : FxAns t g f w e w' := by
  obtain ⟨v, he, ho, hb⟩ := hp
  exact ⟨v, by rw [h]; exact he, by unfold fxL; rw [if_pos h]; exact ho, hb⟩
theorem fx_no {t g f : Int} {w w' : World} {e : Ending} (h : hasX t g f = false) (hp : FxNo w e w') : FxAns t g f w e w' := by
  obtain ⟨he, hb⟩ := hp
  refine ⟨_, by rw [h]; exact he, ?_, hb⟩
  unfold fxL
  rw [if_neg (by rw [h]; decide)]
  exact World.ownsRow_nil _ _ _ _
end Go.Proofs.YtfiifjcjmnhbnaaDoor
namespace Go.Proofs.YtfiifjcjmnhbnaaDoor
open Go.RowKit

theorem at_ownF {w : World} {base : Nat} {A : Option Addr} {cap : Nat} {l : List (Int × Int)} (h : w.ownsRow base 55 2 (.slice A l.length cap) l.length (flat l)) : MvAt w A l := by
  obtain ⟨A', cap', e, h⟩ := at_of_own h
  injection e with e1 _ e2
  subst e1
  exact h
theorem fxL_len (t g f : Int) : (fxL t g f).length ≤ 200 := by
  unfold fxL
  split
  · rename_i h
    have hc : few t g f = true := by unfold hasX at h; rw [Bool.and_eq_true] at h; exact h.1
    have hf := (few_iff t g f).1 hc
    have h1 : wayL (firstL t.toNat g.toNat f.toNat) ≤ 128 := by
      rw [firstL_way]
      have a1 := Nat.mul_le_mul (show t.toNat ≤ 8 by omega) (show g.toNat + f.toNat ≤ 8 by omega)
      have a2 := Nat.mul_le_mul (show f.toNat ≤ 8 by omega) (show t.toNat + g.toNat ≤ 8 by omega)
      omega
    have h2 := exM_len false (msL (firstL t.toNat g.toNat f.toNat)).toNat (firstL t.toNat g.toNat f.toNat)
    have h3 : msL (firstL t.toNat g.toNat f.toNat) = wayL (firstL t.toNat g.toNat f.toNat) - ((pairSt (firstL t.toNat g.toNat f.toNat)).1 : Int) := rfl
    unfold movX
    omega
  · simp
end Go.Proofs.YtfiifjcjmnhbnaaDoor
