/- Contracts: who wins lines and sums, the model's. -/
import Derived.Test.YtflpncdnneapmaaGmV
namespace Go.Proofs.Ytflpncdnneapmaa
open Go.RowKit Go.Maps Go.Shelf

abbrev knB : Obj := Obj.cells #[.slice none 0 0, .slice none 0 0] 64
theorem sumOk_one (wl : List UInt8) : sumOk [wl] = fewB (str wl) := by
  unfold sumOk fewB
  rw [str_size]
  simp
theorem KnW.ex {W : World} {B L k : Nat} {ks : List (List UInt8)} (h : KnW W B L ks) (he : Ex B W k) : B ≤ k ∧ k < W.heap.size := by
  obtain ⟨bs, vs, vw, h⟩ := h
  exact h.ex_in k he
/-- What is known at a box that was just made, and something made behind it. -/
theorem new_box (w : World) (o : Obj) (L : Nat) : KnW ((w.alloc knB).alloc o) w.heap.size L [] ∧ ∀ k, Ex w.heap.size ((w.alloc knB).alloc o) k → k = w.heap.size := by
  have h0 := KnW.new w L
  have hb : Below (w.alloc knB).heap.size (w.alloc knB) ((w.alloc knB).alloc o) := (Below.refl _ _).alloc (Nat.le_refl _) _
  refine ⟨h0.below hb, fun k he => ?_⟩
  obtain ⟨bs, vs, vw, h⟩ := h0
  have h1 := h.ex_old hb he
  have h2 := (h.below hb).ex_in k he
  simp at h1
  omega
/-- A call of win, and what lies below its box. -/
theorem win_below (B L : Nat) (tm : Bool) (ls : List (List UInt8)) (A : Option Addr) (cap : Nat) (W : World) (ks : List (List UInt8)) (hs : SumG L ls) (hA : StO W A ls) (hx : ∀ a, A = some a → ¬ Ex B W a.block) (hK : KnW W B L ks) :
    Calls Try.prog 70 #[.pointer (some ⟨B, 0, none⟩), .slice A ls.length cap, .bool tm] W fun e W' => e = .returned (.bool (Wn tm (joinG ls))) ∧ (∃ ks', KnW W' B L ks') ∧ KpX B W W' ∧ Below B W W' := by
  refine (win_any _ B L tm ls A cap W ks rfl hs hA hx hK).mono ?_
  rintro e w' ⟨rfl, ks', h1, _, h3⟩
  have hB : B < W.heap.size := by obtain ⟨_, _, _, h⟩ := hK; exact h.lt
  exact ⟨rfl, ⟨ks', h1⟩, h3, h3.to_below (Nat.le_of_lt hB) fun k he => (hK.ex he).1⟩
theorem one_slice (w : World) (wl : List UInt8) : StO (w.alloc (.cells #[.string (str wl)] 9)) (some ⟨w.heap.size, 0, none⟩) [wl] := fun k hk => by
  obtain rfl : k = 0 := by simpa using hk
  exact ⟨w.heap.size, 0, rfl, by simp, by rw [World.cell?_alloc_new]; rfl⟩

/-- The outcome out of who wins. -/
def outC (a b : Bool) : UInt8 := if a && b then 49 else if a then 84 else if b then 70 else 50
/-- Whether an outcome is a second one's win. -/
theorem outC_two (a b : Bool) : ((str [outC a b]).toList == [50]) = (!a && !b) := by
  have h := same_str [outC a b] [50]
  have e : (str [50]).toList = [50] := by rw [Lib.toList_data]; rfl
  rw [e] at h
  rw [h]
  cases a <;> cases b <;> decide
end Go.Proofs.Ytflpncdnneapmaa
