/- Contract: the model's copy of a list of texts. -/
import Derived.Test.YtoiaklnaecghnabGreatDoorSl
namespace Go.Proofs.YtoiaklnaecghnabGreatDoor
open Go.RowKit

theorem ownS_none (w : World) : (w.alloc (Obj.cells #[] 9)).ownsRow w.heap.size 9 1 (.slice (some ⟨w.heap.size, 0, none⟩) 0 0) 0 [] := World.ownsRow_made w #[] 0 (Nat.le_refl _) (by decide) rfl
set_option maxRecDepth 100000 in
set_option maxHeartbeats 1000000 in
theorem l1OwnS_at (ls : List (List UInt8)) (A : Option Addr) (cap : Nat) (w : World) (hA : StAt w A ls) (hlen : 0 < ls.length) (hl : ls.length ≤ 1000) :
    Calls Tryz.prog 36 #[.slice A ls.length cap] w fun e w' => ∃ v, e = .returned v ∧ w'.ownsRow w.heap.size 9 1 v ls.length (txs ls) ∧ Below w.heap.size w w' := by
  obtain ⟨i0, hi, hz0, hz1, hz2⟩ := info_parts Tryz.infoS
  have HI := Lib.hid hi
  have HZ0 := Lib.hid hz0
  have HZ1 := Lib.hid hz1
  have HZ2 := Lib.hid hz2
  clear hi hz0 hz1 hz2
  obtain ⟨g, rfl, hg, _⟩ := hA 0 hlen
  have hcells : ∀ j u, (txs ls)[j]? = some u → (w.alloc (Obj.cells #[] 9)).cell? ((⟨g, 0, none⟩ : Addr).add j) = some u := by
    intro j u hu
    have hj : j < ls.length := by have := (List.getElem?_eq_some_iff.1 hu).1; rwa [txs_len] at this
    obtain ⟨g', e1, _, hc⟩ := hA j hj
    injection e1 with e1
    injection e1 with e1 _
    subst e1
    rw [addr_add]
    have e2 : (txs ls)[j]? = some (.string (str ls[j])) := by simp [txs, hj]
    rw [e2] at hu
    injection hu with hu
    rw [← hu, ← hc]
    rw [World.cell?_alloc_lt]; exact hg
  have HCE := Lib.hid hcells
  clear hcells hA
  go_enter Tryz.func36, Tryz.ntmps36
  go_wp2_with (first
    | (at_builtin; refine wpList_append_st _ rfl _ _ 32 rfl w.heap.size 9 i0 (.string ByteArray.empty) 1 16 Tryz.underlying32 HI.out HZ0.out HZ1.out HZ2.out rfl (by decide) _ 0 [] rfl (ownS_none w) (some ⟨g, 0, none⟩) ls.length cap (txs ls) rfl (fun e => by cases e) (by rw [txs_len, Nat.mul_one]) (fun _ e => by cases e; exact HCE.out) (txs_one _) (by unfold maxLen; omega) (by omega) (by simp) ?_; intro v1 w1 ho1 hg1))
  go_ret
  have b1 := ((Below.refl w.heap.size w).alloc (Nat.le_refl _) (Obj.cells #[] 9)).grown hg1 (by simp) (fun j hj => ((ownS_none w).lt _ hj).1)
  exact ⟨v1, rfl, by simpa using ho1, b1⟩
end Go.Proofs.YtoiaklnaecghnabGreatDoor
