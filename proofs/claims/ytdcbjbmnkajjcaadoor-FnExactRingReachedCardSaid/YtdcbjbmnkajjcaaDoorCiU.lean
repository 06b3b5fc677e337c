/- Contracts: all moves on a ring, the program's; a move asked and made, both sides. -/
import Derived.Test.YtdcbjbmnkajjcaaDoorCiT
import Derived.Test.YtdcbjbmnkajjcaaDoorCiE
import Derived.Test.YtdcbjbmnkajjcaaDoorWalkV
namespace Go.Proofs.YtdcbjbmnkajjcaaDoor
open Go.RowKit

theorem rep3_repeat (s : ByteArray) : (⟨(Lib.repeatL s.data.toList 3).toArray⟩ : ByteArray) = rep3 s := by
  unfold rep3
  show str (byt s ++ (byt s ++ (byt s ++ []))) = _
  rw [List.append_nil]
theorem rgTo_le2 (s : ByteArray) (hr : 3 ≤ s.size) : ∀ k, k ≤ s.size → (rgTo s k).length ≤ k
  | 0, _ => by simp [rgTo]
  | k + 1, h => by
    have h1 := rgTo_le2 s hr k (by omega)
    have h2 := rgIn_le1 s hr k (by omega)
    rw [rgTo, List.length_append]
    omega

set_option maxRecDepth 100000 in
set_option maxHeartbeats 2000000 in
theorem ringMovesOf_any (s : ByteArray) (w : World) (hr : ringB s = true) :
    Calls Tryd.prog 46 #[ringV (byt s)] w (SpPost w (rgTo s s.size)) := by
  obtain ⟨i0, hi, hz0, hz1, hz2⟩ := info_parts Tryd.infoM
  have HI := Lib.hid hi
  have HZ0 := Lib.hid hz0
  have HZ1 := Lib.hid hz1
  have HZ2 := Lib.hid hz2
  clear hi hz0 hz1 hz2
  obtain ⟨h3, h9⟩ := ring_sz hr
  have hbl := byt_len s
  have HTX : Hid (∀ wx, Calls Tryd.prog 29 #[ringV (byt s)] wx fun e w' => e = .returned (.string s) ∧ Below wx.heap.size wx w') := Lib.hid fun wx => by
    have := ringText_any (byt s) wx (by omega) (sign_nz ((goodL_iff s).1 (ring_good hr)).2.2)
    rw [str_byt] at this
    exact this
  have HRP : Hid (∀ wx, Calls Tryd.prog 57 #[.string s, .int .i64 3] wx fun e w' => e = .returned (.string (rep3 s)) ∧ Below wx.heap.size wx w') := Lib.hid fun wx => by
    have := Tryd.strings_Repeat s 3 wx (by omega) (by omega)
    rw [rep3_repeat] at this
    exact this
  have HLE := Lib.hid (rgTo_le2 s h3)
  have HC := Lib.hid (rgM_cases s h3)
  have HMF : Hid (∀ (k : Nat) wx, Calls Tryd.prog 58 #[.string (rep3 s), .int .i64 ((s.size : Int) + (k : Int))] wx fun e w' => e = .returned (.agg #[.int .i64 ((s.size : Int) + (k : Int)), .int .i64 (rgM s k)]) ∧ Below wx.heap.size wx w') := Lib.hid fun k wx =>
    moveFrom_any (rep3 s) ((s.size + k : Nat) : Int) wx (by rw [rep3_size]; omega)
  have hnz : ((s.size : Int) == 0) = false := beq_eq_false_iff_ne.2 (by omega)
  obtain ⟨c0, c1, c2, c3, c4, c5, c6, c7, c8, hp9⟩ := ring_nine (ringP_len (l := byt s) (by omega))
  have hv : ringV (byt s) = .agg #[.int .u8 c0.toNat, .int .u8 c1.toNat, .int .u8 c2.toNat, .int .u8 c3.toNat, .int .u8 c4.toNat, .int .u8 c5.toNat, .int .u8 c6.toNat, .int .u8 c7.toNat, .int .u8 c8.toNat] := by unfold ringV; rw [hp9]; rfl
  rw [hv] at HTX ⊢
  clear hv hp9 hr hbl
  go_enter Tryd.func46, Tryd.ntmps46
  go_wp2_with fail
  refine (HTX.out _).mono ?_
  rintro e w1 ⟨rfl, hb1⟩
  have HB1 := Lib.hid (((Below.refl w.heap.size w).alloc (Nat.le_refl _) (Obj.cells #[.int .u8 c0.toNat, .int .u8 c1.toNat, .int .u8 c2.toNat, .int .u8 c3.toNat, .int .u8 c4.toNat, .int .u8 c5.toNat, .int .u8 c6.toNat, .int .u8 c7.toNat, .int .u8 c8.toNat] 46)).trans (hb1.mono (by simp)))
  clear hb1
  go_wp2_with fail
  refine (HRP.out _).mono ?_
  rintro e w2 ⟨rfl, hb2⟩
  have HB2 := Lib.hid (HB1.out.trans (hb2.mono HB1.out.size))
  clear hb2 HB1
  go_wp2
  go_loopw [5, 6, 7, 14] (fun v _ _ i wr => ∃ k : Nat, k ≤ s.size ∧ i = .int .i64 k ∧ wr.ownsRow w.heap.size 58 2 v (rgTo s k).length (flat (rgTo s k)) ∧ Below w.heap.size w wr) (fun _ _ _ i _ => s.size - (intOf i).toNat)
  case atStart => exact ⟨0, Nat.zero_le _, rfl, World.ownsRow_nil _ _ _ _, HB2.out⟩
  case round =>
    obtain ⟨k, hk, rfl, hown, hB⟩ := hrel
    have hle := HLE.out k hk
    by_cases hlt : k < s.size
    · have hS : Hid (rgTo s (k + 1) = rgTo s k ++ rgIn s k s.size) := Lib.hid rfl
      generalize rgTo s k = L at hown hS hle
      rcases HC.out k hlt with ⟨hM, hno⟩ | ⟨m, hM, hmne, hm3, hmk, hyes⟩
      · have HN := Lib.hid (rgIn_no s k hno)
        have HF : Hid (∀ wx, Calls Tryd.prog 58 #[.string (rep3 s), .int .i64 ((s.size : Int) + (k : Int))] wx fun e w' => e = .returned (.agg #[.int .i64 ((s.size : Int) + (k : Int)), .int .i64 ((s.size : Int) + (k : Int))]) ∧ Below wx.heap.size wx w') := Lib.hid fun wx => by
          have := HMF.out k wx
          rw [hM] at this
          exact this
        clear hM hno
        go_wp2_with fail
        refine (HF.out _).mono ?_
        rintro e w3 ⟨rfl, hb3⟩
        have hown3 := own_below hown hb3
        have hB3 := hB.trans (hb3.mono hB.size)
        clear hown hB hb3
        go_wp2
        go_roundw
        case rel => exact ⟨k + 1, by omega, by go_num, by rw [hS.out, HN.out, List.append_nil]; exact hown3.alloc _, hB3.alloc hB3.size _⟩
        case measure => simp [intOf]; omega
      · have hmn : m % s.size < s.size := Nat.mod_lt _ (by omega)
        have HN := Lib.hid (rgIn_one s k (m % s.size) hmn hyes)
        have HF : Hid (∀ wx, Calls Tryd.prog 58 #[.string (rep3 s), .int .i64 ((s.size : Int) + (k : Int))] wx fun e w' => e = .returned (.agg #[.int .i64 ((s.size : Int) + (k : Int)), .int .i64 (m : Int)]) ∧ Below wx.heap.size wx w') := Lib.hid fun wx => by
          have := HMF.out k wx
          rw [hM] at this
          exact this
        have hne1 : (((s.size : Int) + (k : Int)) == (m : Int)) = false := beq_eq_false_iff_ne.2 (by omega)
        have hne2 : (((s.size : Int) + (k : Int)) != (m : Int)) = true := by unfold bne; rw [hne1]; rfl
        have hmod : (m : Int).tmod (s.size : Int) = ((m % s.size : Nat) : Int) := rfl
        clear hM hyes hmne hmk
        generalize m % s.size = t at HN hmod hmn
        go_wp2_with fail
        refine (HF.out _).mono ?_
        rintro e w3 ⟨rfl, hb3⟩
        have hown3 := (own_below hown hb3).alloc (Obj.cells #[Value.int .i64 ((s.size : Int) + (k : Int)), Value.int .i64 (m : Int)] 58)
        have hB3 := (hB.trans (hb3.mono hB.size)).alloc (hB.trans (hb3.mono hB.size)).size (Obj.cells #[Value.int .i64 ((s.size : Int) + (k : Int)), Value.int .i64 (m : Int)] 58)
        clear hown hB hb3
        have H2 : ∀ x ∈ [Value.int .i64 (k : Int), Value.int .i64 (t : Int)], x.oneCell' = true := fun x hx => by simp at hx; rcases hx with rfl | rfl <;> rfl
        have H3 : L.length + 1 ≤ maxLen := by unfold maxLen; omega
        have H4 : (L.length + 1) * 16 ≤ 140737488355328 := by omega
        have H5 : w.heap.size ≤ ((w3.alloc (Obj.cells #[Value.int .i64 ((s.size : Int) + (k : Int)), Value.int .i64 (m : Int)] 58)).alloc (mvB k t)).heap.size := by have := hB3.size; simp at this ⊢; omega
        have H6 : ∀ j u, [Value.int .i64 (k : Int), Value.int .i64 (t : Int)][j]? = some u → ((w3.alloc (Obj.cells #[Value.int .i64 ((s.size : Int) + (k : Int)), Value.int .i64 (m : Int)] 58)).alloc (mvB k t)).cell? ((⟨w3.heap.size + 1, 0, none⟩ : Addr).add j) = some u := by
          have := cell_two_new (w3.alloc (Obj.cells #[Value.int .i64 ((s.size : Int) + (k : Int)), Value.int .i64 (m : Int)] 58)) (.int .i64 k) (.int .i64 t) 58
          simpa using this
        go_wp2_with (first | (at_builtin; refine wpList_append_own _ rfl _ _ 33 rfl w.heap.size 58 i0 (.agg #[.int .i64 0, .int .i64 0]) 2 16 Tryd.underlying33 HI.out HZ0.out HZ1.out HZ2.out rfl (by decide) _ _ _ rfl (hown3.alloc (mvB k t)) ⟨w3.heap.size + 1, 0, none⟩ 1 1 [.int .i64 k, .int .i64 t] rfl rfl H6 H2 H3 H4 H5 ?_; intro v' w5 hown' hgrow _))
        go_roundw
        case rel =>
          refine ⟨k + 1, by omega, by go_num, ?_, ((hB3.alloc hB3.size (mvB k t)).grown hgrow H5 fun j hj => (hown3.lt _ hj).1)⟩
          rw [hS.out, HN.out, flat_app, List.length_append]
          exact hown'
        case measure => simp [intOf]; omega
    · go_wp2
      go_ret
      obtain rfl : k = s.size := by omega
      exact ⟨_, rfl, hown, hB⟩

/-- All moves on a ring, or none. -/
def rgOr (s : ByteArray) : List (Int × Int) := if ringB s then rgTo s s.size else []
theorem rgOr_le (s : ByteArray) : (rgOr s).length ≤ 9 := by
  unfold rgOr
  split
  · rename_i h
    obtain ⟨h3, h9⟩ := ring_sz h
    have := rgTo_le2 s h3 s.size (Nat.le_refl _)
    omega
  · simp
theorem mem_rgOr (s : ByteArray) (f t : Int) : (f, t) ∈ rgOr s ↔ (ringB s && rgCi s f t) = true := by
  unfold rgOr
  cases h : ringB s
  · simp
  · rw [if_pos rfl, mem_rgTo s s.size (Nat.le_refl _), Bool.true_and]
    constructor
    · exact fun h => h.2.2
    · intro h
      obtain ⟨a, c, rfl, rfl, ha, _, _, _⟩ := rgCi_in h
      exact ⟨by omega, by omega, h⟩

end Go.Proofs.YtdcbjbmnkajjcaaDoor
