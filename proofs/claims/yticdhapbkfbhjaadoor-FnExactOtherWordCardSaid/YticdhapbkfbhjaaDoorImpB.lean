/- Contracts: the program's functions on lines, on. -/
import Derived.Test.YticdhapbkfbhjaaDoorImp
namespace Go.Proofs.YticdhapbkfbhjaaDoor
open Go.RowKit

set_option maxHeartbeats 400000 in
theorem otherSign_any (c : UInt8) (w : World) (hs : isSign c = true) :
    Calls Tryd.prog 25 #[.int .u8 c.toNat] w fun e w' => e = .returned (.int .u8 (oSign c).toNat) ∧ w = w' := by
  rcases sign_cases c with rfl | rfl | rfl | h
  · go_enter Tryd.func25, Tryd.ntmps25
    go_wp2
    go_ret
    exact ⟨rfl, rfl⟩
  · go_enter Tryd.func25, Tryd.ntmps25
    go_wp2
    go_ret
    exact ⟨rfl, rfl⟩
  · go_enter Tryd.func25, Tryd.ntmps25
    go_wp2
    go_ret
    exact ⟨rfl, rfl⟩
  · rw [h] at hs; cases hs

def u8s (l : List UInt8) : List Value := l.map fun c => .int .u8 (c.toNat : Int)
theorem u8s_len (l : List UInt8) : (u8s l).length = l.length := by simp [u8s]
theorem good_sign {s : ByteArray} (h : goodL s = true) (k : Nat) (hk : k < s.size) : isSign s[k] = true := by
  have h1 := ((goodL_iff s).1 h).2.2
  rw [List.all_eq_true] at h1
  apply h1
  have : (byt s)[k]'(by rw [byt_len]; exact hk) = s[k] := rfl
  rw [← this]
  exact List.getElem_mem _

theorem Tryd.info5 : (Tryd.prog.info? 5).map (fun i => (i.zero, i.size, i.bytes)) = some (some (.int .u8 0), 1, 1) := by kernel_rfl

theorem addr_add (g j : Nat) : (⟨g, 0, none⟩ : Addr).add j = ⟨g, j, none⟩ := by
  unfold Addr.add
  split
  · simp_all
  · simp
theorem made_one (z : Value) (hz : z.cells = #[z]) (n : Nat) : (madeCells z.cells n).toList = List.replicate n z := by
  rw [hz]
  apply List.ext_getElem
  · simp [madeCells]
  · intro i h1 h2
    simp [madeCells, Nat.mod_one]
/-- What the new text's cells hold behind k rounds. -/
def othCells (s : ByteArray) (k : Nat) : List Value := List.replicate (s.size - k) (.int .u8 0) ++ u8s (otherL ((byt s).take k))
theorem othCells_len (s : ByteArray) (k : Nat) (hk : k ≤ s.size) : (othCells s k).length = s.size := by
  simp [othCells, u8s_len, otherL_len, byt_len]; omega
theorem othCells_set (s : ByteArray) (k : Nat) (hk : k < s.size) : (othCells s k).set (s.size - 1 - k) (.int .u8 (oSign s[k]).toNat) = othCells s (k + 1) := by
  unfold othCells
  obtain ⟨j, hj⟩ : ∃ j, s.size - k = j + 1 := ⟨s.size - k - 1, by omega⟩
  have e1 : s.size - 1 - k = j := by omega
  have e2 : s.size - (k + 1) = j := by omega
  have e3 : otherL ((byt s).take (k + 1)) = oSign s[k] :: otherL ((byt s).take k) := by
    rw [take_snoc s k hk]
    simp [otherL]
  rw [e1, e2, e3, hj, List.replicate_succ', List.append_assoc, List.set_append_right _ _ (by simp)]
  simp [u8s]

end Go.Proofs.YticdhapbkfbhjaaDoor
