/- Contracts: the model's pieces of a text between walls; the rows of a board. -/
import Derived.Test.YtoiaklnaecghnabGreatDoorBdA
import Derived.Test.YtoiaklnaecghnabGreatDoorSl
import Derived.Test.YtoiaklnaecghnabGreatDoorMove
namespace Go.Proofs.YtoiaklnaecghnabGreatDoor
open Go.RowKit

/-- Where the cutting stands behind k bytes. -/
def pcA (s : ByteArray) (k : Nat) : List (List UInt8) := (splSt ((byt s).take k)).1
def pcB (s : ByteArray) (k : Nat) : List UInt8 := (splSt ((byt s).take k)).2
theorem pc_zero (s : ByteArray) : pcA s 0 = [] ∧ pcB s 0 = [] := ⟨rfl, rfl⟩
theorem pc_wall (s : ByteArray) (k : Nat) (h : k < s.size) (h47 : s[k] = 47) : pcA s (k + 1) = pcA s k ++ [pcB s k] ∧ pcB s (k + 1) = [] := by
  unfold pcA pcB
  rw [take_snoc s k h, splSt_snoc, h47]
  simp [splStep]
theorem pc_sign (s : ByteArray) (k : Nat) (h : k < s.size) (h47 : s[k] ≠ 47) : pcA s (k + 1) = pcA s k ∧ pcB s (k + 1) = pcB s k ++ [s[k]] := by
  unfold pcA pcB
  rw [take_snoc s k h, splSt_snoc]
  simp [splStep, h47]
theorem pc_all (s : ByteArray) : spl (byt s) = pcA s s.size ++ [pcB s s.size] := by
  unfold pcA pcB spl
  rw [take_all]
/-- The piece at hand is the text from f to k. -/
def PcAt (s : ByteArray) (f k : Nat) : Prop := f ≤ k ∧ (pcA s k).length ≤ k ∧ str (pcB s k) = s.extract f k
theorem PcAt.zero (s : ByteArray) : PcAt s 0 0 := ⟨Nat.le_refl _, Nat.le_refl _, by rw [(pc_zero s).2, ext_str]; simp⟩
theorem PcAt.wall {s : ByteArray} {f k : Nat} (h : PcAt s f k) (hk : k < s.size) (h47 : s[k] = 47) : PcAt s (k + 1) (k + 1) := by
  obtain ⟨h1, h2, h3⟩ := h
  obtain ⟨e1, e2⟩ := pc_wall s k hk h47
  refine ⟨Nat.le_refl _, by rw [e1]; simp; omega, ?_⟩
  rw [e2, ext_str]
  congr 1
  rw [List.drop_of_length_le (by rw [List.length_take]; omega)]
theorem PcAt.sign {s : ByteArray} {f k : Nat} (h : PcAt s f k) (hk : k < s.size) (h47 : s[k] ≠ 47) : PcAt s f (k + 1) := by
  obtain ⟨h1, h2, h3⟩ := h
  obtain ⟨e1, e2⟩ := pc_sign s k hk h47
  refine ⟨by omega, by rw [e1]; omega, ?_⟩
  rw [ext_str] at h3
  have h4 := str_inj.1 h3
  rw [e2, ext_str, take_snoc s k hk, h4, List.drop_append_of_le_length (by rw [List.length_take, byt_len]; omega)]

/-- The answer: a list of texts in memory of the call's own. -/
def BtPost (w : World) (l : List (List UInt8)) (e : Ending) (w' : World) : Prop :=
  ∃ v, e = .returned v ∧ w'.ownsRow w.heap.size 9 1 v l.length (txs l) ∧ Below w.heap.size w w'

set_option maxRecDepth 100000 in
set_option maxHeartbeats 2000000 in
theorem l1Split_any (s : ByteArray) (w : World) (hs : s.size ≤ 40) :
    Calls Tryz.prog 23 #[.string s, .int .u8 47] w (BtPost w (spl (byt s))) := by
  obtain ⟨i0, hi, hz0, hz1, hz2⟩ := info_parts Tryz.infoS
  have HI := Lib.hid hi
  have HZ0 := Lib.hid hz0
  have HZ1 := Lib.hid hz1
  have HZ2 := Lib.hid hz2
  clear hi hz0 hz1 hz2
  go_enter Tryz.func23, Tryz.ntmps23
  go_wp2
  go_loopw [5, 6, 7] (fun v f i wr => ∃ k q : Nat, k ≤ s.size ∧ i = .int .i64 k ∧ f = .int .i64 q ∧ Hid (PcAt s q k) ∧ wr.ownsRow w.heap.size 9 1 v (pcA s k).length (txs (pcA s k)) ∧ Below w.heap.size w wr) (fun _ _ i _ => s.size - (intOf i).toNat)
  case atStart => exact ⟨0, 0, Nat.zero_le _, rfl, rfl, Lib.hid (PcAt.zero s), World.ownsRow_nil _ _ _ _, Below.refl _ _⟩
  case round =>
    obtain ⟨k, q, hk, rfl, rfl, HP, hown, hB⟩ := hrel
    obtain ⟨hqk, hlen, hcut⟩ := HP.out
    have HC := Lib.hid hcut
    clear hcut
    by_cases hlt : k < s.size
    · by_cases h47 : s[k] = 47
      · have hv : ((s[k].toNat : Int) == 47) = true := by rw [h47]; rfl
        have HP1 := Lib.hid (HP.out.wall hlt h47)
        have HE := Lib.hid (pc_wall s k hlt h47).1
        clear h47
        have H3 : (pcA s k).length + 1 ≤ maxLen := by unfold maxLen; omega
        have H4 : ((pcA s k).length + 1) * 16 ≤ 140737488355328 := by omega
        have H5 : w.heap.size ≤ (wr.alloc (Obj.cells #[Value.string (s.extract q k)] 9)).heap.size := by have := hB.size; simp; omega
        go_wp2_with (first | (at_builtin; refine wpList_append_own _ rfl _ _ 32 rfl w.heap.size 9 i0 (.string ByteArray.empty) 1 16 Tryz.underlying32 HI.out HZ0.out HZ1.out HZ2.out rfl (by decide) _ _ _ rfl (hown.alloc _) ⟨wr.heap.size, 0, none⟩ 1 1 [.string (s.extract q k)] rfl rfl (cell_one_new _ _ _) (fun u hu => by simp at hu; subst hu; rfl) H3 H4 H5 ?_; intro v' w3 hown' hgrow _))
        go_roundw
        case rel =>
          refine ⟨k + 1, k + 1, by omega, by go_num, by go_num, HP1, ?_, ((hB.alloc hB.size _).grown hgrow H5 fun j hj => (hown.lt _ hj).1)⟩
          rw [HE.out, txs_app, List.length_append]
          show w3.ownsRow _ _ _ _ _ (txs (pcA s k) ++ [.string (str (pcB s k))])
          rw [HC.out]
          exact hown'
        case measure => simp [intOf]; omega
      · have hv : ((s[k].toNat : Int) == 47) = false := bne_u8 (a := s[k]) (b := 47) h47
        have HP1 := Lib.hid (HP.out.sign hlt h47)
        have HE := Lib.hid (pc_sign s k hlt h47).1
        clear h47
        go_wp2
        go_roundw
        case rel =>
          refine ⟨k + 1, q, by omega, by go_num, rfl, HP1, ?_, hB⟩
          rw [HE.out]
          exact hown
        case measure => simp [intOf]; omega
    · obtain rfl : k = s.size := by omega
      have H3 : (pcA s s.size).length + 1 ≤ maxLen := by unfold maxLen; omega
      have H4 : ((pcA s s.size).length + 1) * 16 ≤ 140737488355328 := by omega
      have H5 : w.heap.size ≤ (wr.alloc (Obj.cells #[Value.string (s.extract q s.size)] 9)).heap.size := by have := hB.size; simp; omega
      have HA := Lib.hid (pc_all s)
      go_wp2_with (first | (at_builtin; refine wpList_append_own _ rfl _ _ 32 rfl w.heap.size 9 i0 (.string ByteArray.empty) 1 16 Tryz.underlying32 HI.out HZ0.out HZ1.out HZ2.out rfl (by decide) _ _ _ rfl (hown.alloc _) ⟨wr.heap.size, 0, none⟩ 1 1 [.string (s.extract q s.size)] rfl rfl (cell_one_new _ _ _) (fun u hu => by simp at hu; subst hu; rfl) H3 H4 H5 ?_; intro v' w3 hown' hgrow _))
      go_ret
      refine ⟨_, rfl, ?_, ((hB.alloc hB.size _).grown hgrow H5 fun j hj => (hown.lt _ hj).1)⟩
      rw [HA.out, txs_app, List.length_append]
      show w3.ownsRow _ _ _ _ _ (txs (pcA s s.size) ++ [.string (str (pcB s s.size))])
      rw [HC.out]
      exact hown'
end Go.Proofs.YtoiaklnaecghnabGreatDoor
