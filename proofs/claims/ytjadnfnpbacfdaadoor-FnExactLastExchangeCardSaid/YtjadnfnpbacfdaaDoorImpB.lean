/- Contracts: the program's functions on lines, on. -/
import Derived.Test.YtjadnfnpbacfdaaDoorImp
namespace Go.Proofs.YtjadnfnpbacfdaaDoor
open Go.RowKit

def u8s (l : List UInt8) : List Value := l.map fun c => .int .u8 (c.toNat : Int)
theorem u8s_len (l : List UInt8) : (u8s l).length = l.length := by simp [u8s]
theorem good_sign {s : ByteArray} (h : goodL s = true) (k : Nat) (hk : k < s.size) : isSign s[k] = true := by
  have h1 := ((goodL_iff s).1 h).2.2
  rw [List.all_eq_true] at h1
  apply h1
  have : (byt s)[k]'(by rw [byt_len]; exact hk) = s[k] := rfl
  rw [← this]
  exact List.getElem_mem _

theorem Tryd.info5 : (Tryd.prog.info? 5).map (fun i => (i.zero, i.size, i.bytes)) = some (some (.int .u8 0), 1, 1) := by kernel_rfl

theorem addr_add (g j : Nat) : (⟨g, 0, none⟩ : Addr).add j = ⟨g, j, none⟩ := by
  unfold Addr.add
  split
  · simp_all
  · simp
theorem made_one (z : Value) (hz : z.cells = #[z]) (n : Nat) : (madeCells z.cells n).toList = List.replicate n z := by
  rw [hz]
  apply List.ext_getElem
  · simp [madeCells]
  · intro i h1 h2
    simp [madeCells, Nat.mod_one]
/-- What the new text's cells hold behind k rounds. -/
def othCells (s : ByteArray) (k : Nat) : List Value := List.replicate (s.size - k) (.int .u8 0) ++ u8s (otherL ((byt s).take k))
theorem othCells_len (s : ByteArray) (k : Nat) (hk : k ≤ s.size) : (othCells s k).length = s.size := by
  simp [othCells, u8s_len, otherL_len, byt_len]; omega
theorem othCells_set (s : ByteArray) (k : Nat) (hk : k < s.size) : (othCells s k).set (s.size - 1 - k) (.int .u8 (oSign s[k]).toNat) = othCells s (k + 1) := by
  unfold othCells
  obtain ⟨j, hj⟩ : ∃ j, s.size - k = j + 1 := ⟨s.size - k - 1, by omega⟩
  have e1 : s.size - 1 - k = j := by omega
  have e2 : s.size - (k + 1) = j := by omega
  have e3 : otherL ((byt s).take (k + 1)) = oSign s[k] :: otherL ((byt s).take k) := by
    rw [take_snoc s k hk]
    simp [otherL]
  rw [e1, e2, e3, hj, List.replicate_succ', List.append_assoc, List.set_append_right _ _ (by simp)]
  simp [u8s]

set_option maxHeartbeats 400000 in
theorem pairs_any (s : ByteArray) (w : World) (hs : s.size ≤ maxLen) :
    Calls Tryd.prog 114 #[.string s] w fun e w' => e = .returned (intOr (goodL s) (pairSt (byt s)).1) ∧ w = w' := by
  cases hc : goodL s
  · have hC := Lib.hid hc
    clear hc
    go_enter Tryd.func114, Tryd.ntmps114
    go_wp2_with (go_at_call 106; refine (isLine_any _ _ hs).mono ?_; rintro e w' ⟨rfl, rfl⟩; rw [hC.out])
    go_ret2
    exact ⟨rfl, rfl⟩
  · have hC := Lib.hid hc
    obtain ⟨_, _, _⟩ := (goodL_iff s).1 hc
    clear hc
    go_enter Tryd.func114, Tryd.ntmps114
    go_wp2_with (go_at_call 106; refine (isLine_any _ _ hs).mono ?_; rintro e w' ⟨rfl, rfl⟩; rw [hC.out])
    go_loop [4, 5, 6, 12] (fun t n _ i => ∃ k : Nat, k ≤ s.size ∧ i = .int .i64 k ∧ n = .int .i64 (pairSt ((byt s).take k)).1 ∧ t = .int .i64 (pairSt ((byt s).take k)).2) (fun _ _ _ i => s.size - (intOf i).toNat)
    case atStart => exact ⟨0, Nat.zero_le _, rfl, rfl, rfl⟩
    case round =>
      obtain ⟨k, hk, rfl, rfl, rfl⟩ := hrel
      by_cases hlt : k < s.size
      · have HS : Hid (pairSt ((byt s).take (k + 1)) = pairStep (pairSt ((byt s).take k)) s[k]) := by
          show _ = _
          rw [take_snoc s k hlt, pairSt_snoc]
        have hb := pairSt_le ((byt s).take k)
        have hl : ((byt s).take k).length ≤ 100 := by rw [List.length_take, byt_len]; omega
        have hq : ((byt s).take k).length * ((byt s).take k).length ≤ 100 * 100 := Nat.mul_le_mul hl hl
        have b1 : (pairSt ((byt s).take k)).1 ≤ 10000 := by omega
        have b2 : (pairSt ((byt s).take k)).2 ≤ 100 := by omega
        clear hb hl hq
        generalize pairSt ((byt s).take k) = p at HS b1 b2
        obtain ⟨p1, p2⟩ := p
        rcases byte_split s[k] with ⟨hc, hv⟩ | ⟨hc, hv⟩ | ⟨hc, hv, hv2⟩
        all_goals
          have hC := Lib.hid hc
          clear hc
          go_wp2
          go_round
          case rel =>
            refine ⟨k + 1, by omega, by go_num, ?_, ?_⟩ <;> (rw [HS.out]; simp only [hC.out, pairStep]; first | go_num | rfl)
          case measure => simp [intOf]; omega
      · go_wp2
        go_ret2
        obtain rfl : k = s.size := by omega
        exact ⟨by rw [take_all]; rfl, rfl⟩
end Go.Proofs.YtjadnfnpbacfdaaDoor
