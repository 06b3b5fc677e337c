/- Contracts: whether a text is in a list; the model's search for live lines. -/
import Derived.Test.YtfiifjcjmnhbnaaDoorSwRa
import Derived.Test.YtfiifjcjmnhbnaaDoorSwG
import Derived.Deep.LoopGhost
namespace Go.Proofs.YtfiifjcjmnhbnaaDoor
open Go.RowKit

theorem Tryd.infoSSw : (Tryd.prog.info? 29).map (fun i => (i.zero, i.size, i.bytes)) = some (some (.slice none 0 0), 1, 24) := by kernel_rfl
theorem one_row (w : World) (v : Value) (t : TypeId) (base : Nat) (hb : base ≤ w.heap.size) : (w.alloc (.cells #[v] t)).ownsRow base t 1 (.slice (some ⟨w.heap.size, 0, none⟩) 1 1) 1 [v] :=
  ⟨rfl, .inr ⟨w.heap.size, 1, #[v], rfl, hb, (MapKept.heap_alloc w _).1, Nat.le_refl _, by decide, rfl, rfl⟩⟩
theorem ReO.start {w : World} {B n : Nat} {ks : List (List UInt8)} {l : List UInt8} (hk : EnW w B n ks) : ReO w B n l 0 (.slice (some ⟨w.heap.size, 0, none⟩) 1 1) (.slice none 0 0) (w.alloc (.cells #[.string (str l)] 9)) := by
  have hb : Below w.heap.size w (w.alloc (.cells #[.string (str l)] 9)) := (Below.refl _ _).alloc (Nat.le_refl _) _
  refine ⟨⟨ks, hk.below hb⟩, ⟨one_row w _ _ _ (Nat.le_refl _), fun g hg he => ?_⟩, LyX.nil, KpX.below hk.lt hb⟩
  injection hg with hg
  have hg : w.heap.size = g := hg
  have := hk.ex_old hb he
  omega
/-- A list of moves of the call's own. -/
def OwM (b : Nat) (v : Value) (M : List (Int × Int)) (W : World) : Prop := W.ownsRow b 55 2 v M.length (flat M)
theorem OwM.below {b : Nat} {v : Value} {M : List (Int × Int)} {W W' : World} (h : OwM b v M W) (hb : Below W.heap.size W W') : OwM b v M W' := own_below h hb
theorem OwM.known {b B n : Nat} {v : Value} {M : List (Int × Int)} {W W' : World} {ks : List (List UInt8)} (h : OwM b v M W) (hn : EnW W B n ks) (hk : KpX B W W') : OwM b v M W' :=
  (own_kpxE (hn.apartE (by decide) (by decide) (by decide) h) h hk).1
theorem OwM.more {b B b2 : Nat} {v u : Value} {M : List (Int × Int)} {S : List (List UInt8)} {W w3 : World} {o : Obj} (h : OwM b v M W) (hr : TxX W B b2 u S) (hg : (W.alloc o).grownBy w3 u.ownBlock) : OwM b v M w3 :=
  World.ownsRow.kept (World.ownsRow.alloc h o) hg (own_apart (World.ownsRow.alloc h o) (hr.1.alloc o) (by decide))
theorem OwM.at {b c : Nat} {A : Option Addr} {M : List (Int × Int)} {W : World} (h : OwM b (.slice A M.length c) M W) : MvAt W A M := at_ownF h
/-- What the search leaves. -/
def RcPost (B n : Nat) (l : List UInt8) (W : World) (e : Ending) (w' : World) : Prop :=
  ∃ v d, e = .returned v ∧ d ≤ 60000 ∧ layW l d = [] ∧ LyX w' B W.heap.size v (layW l) d ∧ (∃ ks, EnW w' B n ks) ∧ KpX B W w'
end Go.Proofs.YtfiifjcjmnhbnaaDoor
