/- Contracts: the program's functions on lines, on. -/
import Derived.Test.YtnelaojpbafldaaImp
namespace Go.Proofs.Ytnelaojpbafldaa
open Go.RowKit

set_option maxHeartbeats 400000 in
theorem otherSign_any (c : UInt8) (w : World) (hs : isSign c = true) :
    Calls Try.prog 68 #[.int .u8 c.toNat] w fun e w' => e = .returned (.int .u8 (oSign c).toNat) ∧ w = w' := by
  rcases sign_cases c with rfl | rfl | rfl | h
  · go_enter Try.func68, Try.ntmps68
    go_wp2
    go_ret
    exact ⟨rfl, rfl⟩
  · go_enter Try.func68, Try.ntmps68
    go_wp2
    go_ret
    exact ⟨rfl, rfl⟩
  · go_enter Try.func68, Try.ntmps68
    go_wp2
    go_ret
    exact ⟨rfl, rfl⟩
  · rw [h] at hs; cases hs

def u8s (l : List UInt8) : List Value := l.map fun c => .int .u8 (c.toNat : Int)
theorem u8s_len (l : List UInt8) : (u8s l).length = l.length := by simp [u8s]
theorem good_sign {s : ByteArray} (h : goodL s = true) (k : Nat) (hk : k < s.size) : isSign s[k] = true := by
  have h1 := ((goodL_iff s).1 h).2.2
  rw [List.all_eq_true] at h1
  apply h1
  have : (byt s)[k]'(by rw [byt_len]; exact hk) = s[k] := rfl
  rw [← this]
  exact List.getElem_mem _

theorem Try.info5 : (Try.prog.info? 5).map (fun i => (i.zero, i.size, i.bytes)) = some (some (.int .u8 0), 1, 1) := by kernel_rfl

theorem addr_add (g j : Nat) : (⟨g, 0, none⟩ : Addr).add j = ⟨g, j, none⟩ := by
  unfold Addr.add
  split
  · simp_all
  · simp
theorem made_one (z : Value) (hz : z.cells = #[z]) (n : Nat) : (madeCells z.cells n).toList = List.replicate n z := by
  rw [hz]
  apply List.ext_getElem
  · simp [madeCells]
  · intro i h1 h2
    simp [madeCells, Nat.mod_one]
/-- What the new text's cells hold behind k rounds. -/
def othCells (s : ByteArray) (k : Nat) : List Value := List.replicate (s.size - k) (.int .u8 0) ++ u8s (otherL ((byt s).take k))
theorem othCells_len (s : ByteArray) (k : Nat) (hk : k ≤ s.size) : (othCells s k).length = s.size := by
  simp [othCells, u8s_len, otherL_len, byt_len]; omega
theorem othCells_set (s : ByteArray) (k : Nat) (hk : k < s.size) : (othCells s k).set (s.size - 1 - k) (.int .u8 (oSign s[k]).toNat) = othCells s (k + 1) := by
  unfold othCells
  obtain ⟨j, hj⟩ : ∃ j, s.size - k = j + 1 := ⟨s.size - k - 1, by omega⟩
  have e1 : s.size - 1 - k = j := by omega
  have e2 : s.size - (k + 1) = j := by omega
  have e3 : otherL ((byt s).take (k + 1)) = oSign s[k] :: otherL ((byt s).take k) := by
    rw [take_snoc s k hk]
    simp [otherL]
  rw [e1, e2, e3, hj, List.replicate_succ', List.append_assoc, List.set_append_right _ _ (by simp)]
  simp [u8s]

set_option maxRecDepth 20000 in
set_option maxHeartbeats 1000000 in
theorem otherLine_any (s : ByteArray) (w : World) (hs : s.size ≤ maxLen) :
    Calls Try.prog 20 #[.string s] w fun e w' => e = .returned (strOr (goodL s) (otherL (byt s))) ∧ Below w.heap.size w w' := by
  cases hc : goodL s
  · have hC := Lib.hid hc
    clear hc
    go_enter Try.func20, Try.ntmps20
    go_wp2_with (go_at_call 23; refine (isLine_any _ _ hs).mono ?_; rintro e w' ⟨rfl, rfl⟩; rw [hC.out])
    go_ret2
    exact ⟨rfl, Below.refl _ _⟩
  · have hC := Lib.hid hc
    have hsg := Lib.hid (good_sign hc)
    obtain ⟨h1, h12, _⟩ := (goodL_iff s).1 hc
    clear hc
    obtain ⟨i0, hi, hz0, hz1, hz2⟩ := info_parts Try.info5
    go_enter Try.func20, Try.ntmps20
    have hbytes : i0.bytes * s.size ≤ 281474976710656 := by rw [hz2]; omega
    have hmx : s.size ≤ maxLen := by unfold maxLen; omega
    have HI := Lib.hid hi
    have HZ0 := Lib.hid hz0
    have HZ1 := Lib.hid hz1
    clear hi hz0 hz1 hz2
    go_wp2_with (first | (go_at_call 23; refine (isLine_any _ _ hs).mono ?_; rintro e w' ⟨rfl, rfl⟩; rw [hC.out]) | (at_make; refine wpList_make_full _ rfl (.tmp 10) (.tmp 10) 62 rfl w.heap.size 5 i0 (.int .u8 0) 1 Try.underlying62 HI.out HZ0.out HZ1.out .i64 .i64 s.size s.size s.size rfl rfl rfl rfl hbytes hmx (Nat.le_refl _) ?_; intro w1 hown hgrow))
    have hB0 : Below w.heap.size w w1 := (Below.refl _ _).grown hgrow (Nat.le_refl _) (by simp)
    have hown0 : w1.ownsRow w.heap.size 5 1 (.slice (some ⟨w.heap.size, 0, none⟩) s.size s.size) s.size (othCells s 0) := by
      have e : (madeCells (Value.int .u8 0).cells (s.size * 1)).toList = othCells s 0 := by
        have : (othCells s 0) = List.replicate s.size (.int .u8 0) := by simp [othCells, otherL, u8s]
        rw [this, Nat.mul_one]
        exact made_one (.int .u8 0) rfl s.size
      rw [← e]; exact hown
    clear hown hgrow HI HZ0 HZ1 hbytes
    go_loopw [5, 14] (fun _ i wr => ∃ k : Nat, k ≤ s.size ∧ i = .int .i64 k ∧ wr.ownsRow w.heap.size 5 1 (.slice (some ⟨w.heap.size, 0, none⟩) s.size s.size) s.size (othCells s k) ∧ Below w.heap.size w wr) (fun _ i _ => s.size - (intOf i).toNat)
    case atStart => exact ⟨0, Nat.zero_le _, rfl, hown0, hB0⟩
    case round =>
      obtain ⟨k, hk, rfl, hown, hB⟩ := hrel
      clear hown0 hB0
      by_cases hlt : k < s.size
      · have hfr := hown.frozenAt (s.size - 1 - k)
        have hcl := hown.cellAt (s.size - 1 - k) (by omega)
        obtain ⟨v0, hv0⟩ : ∃ v0, (othCells s k)[s.size - 1 - k]? = some v0 := ⟨_, List.getElem?_eq_getElem (by rw [othCells_len s k hk]; omega)⟩
        rw [hv0] at hcl
        clear hv0
        have hH := Lib.hid hown
        have hset := Lib.hid (othCells_set s k hlt)
        have hx := Lib.hid (hsg.out k hlt)
        have hidx : ((s.size : Int) - 1 - (k : Int)).toNat = s.size - 1 - k := by omega
        clear hown
        go_wp2_with (first | (go_at_call 68; refine (otherSign_any _ _ hx.out).mono ?_; rintro e w' ⟨rfl, rfl⟩))
        go_roundw
        case rel =>
          refine ⟨k + 1, by omega, by go_num, ?_, hB.setCell (Nat.le_refl _) _⟩
          rw [← hset.out]
          exact (hH.out.stored _ _).1
        case measure => simp [intOf]; omega
      · obtain rfl : k = s.size := by omega
        have hlen : (otherL (byt s)).length = s.size := by rw [otherL_len, byt_len]
        have hcv := run_convert_bytes_back (P := Try.prog) wr 62 9 5 ⟨w.heap.size, 0, none⟩ s.size (otherL (byt s)) Try.underlying62 Try.underlying5 Try.underlying9 (by
          intro j hj
          have e : othCells s s.size = u8s (otherL (byt s)) := by simp [othCells, take_all]
          have := hown.cellAt j (by omega)
          rw [e] at this
          rw [addr_add, this]
          simp [u8s, hj])
        rw [hlen] at hcv
        clear hown hlen
        go_wp2
        go_ret2
        exact ⟨rfl, hB⟩

set_option maxHeartbeats 400000 in
theorem pairs_any (s : ByteArray) (w : World) (hs : s.size ≤ maxLen) :
    Calls Try.prog 16 #[.string s] w fun e w' => e = .returned (intOr (goodL s) (pairSt (byt s)).1) ∧ w = w' := by
  cases hc : goodL s
  · have hC := Lib.hid hc
    clear hc
    go_enter Try.func16, Try.ntmps16
    go_wp2_with (go_at_call 23; refine (isLine_any _ _ hs).mono ?_; rintro e w' ⟨rfl, rfl⟩; rw [hC.out])
    go_ret2
    exact ⟨rfl, rfl⟩
  · have hC := Lib.hid hc
    obtain ⟨_, _, _⟩ := (goodL_iff s).1 hc
    clear hc
    go_enter Try.func16, Try.ntmps16
    go_wp2_with (go_at_call 23; refine (isLine_any _ _ hs).mono ?_; rintro e w' ⟨rfl, rfl⟩; rw [hC.out])
    go_loop [4, 5, 6, 12] (fun t n _ i => ∃ k : Nat, k ≤ s.size ∧ i = .int .i64 k ∧ n = .int .i64 (pairSt ((byt s).take k)).1 ∧ t = .int .i64 (pairSt ((byt s).take k)).2) (fun _ _ _ i => s.size - (intOf i).toNat)
    case atStart => exact ⟨0, Nat.zero_le _, rfl, rfl, rfl⟩
    case round =>
      obtain ⟨k, hk, rfl, rfl, rfl⟩ := hrel
      by_cases hlt : k < s.size
      · have HS : Hid (pairSt ((byt s).take (k + 1)) = pairStep (pairSt ((byt s).take k)) s[k]) := by
          show _ = _
          rw [take_snoc s k hlt, pairSt_snoc]
        have hb := pairSt_le ((byt s).take k)
        have hl : ((byt s).take k).length ≤ 100 := by rw [List.length_take, byt_len]; omega
        have hq : ((byt s).take k).length * ((byt s).take k).length ≤ 100 * 100 := Nat.mul_le_mul hl hl
        have b1 : (pairSt ((byt s).take k)).1 ≤ 10000 := by omega
        have b2 : (pairSt ((byt s).take k)).2 ≤ 100 := by omega
        clear hb hl hq
        generalize pairSt ((byt s).take k) = p at HS b1 b2
        obtain ⟨p1, p2⟩ := p
        rcases byte_split s[k] with ⟨hc, hv⟩ | ⟨hc, hv⟩ | ⟨hc, hv, hv2⟩
        all_goals
          have hC := Lib.hid hc
          clear hc
          go_wp2
          go_round
          case rel =>
            refine ⟨k + 1, by omega, by go_num, ?_, ?_⟩ <;> (rw [HS.out]; simp only [hC.out, pairStep]; first | go_num | rfl)
          case measure => simp [intOf]; omega
      · go_wp2
        go_ret2
        obtain rfl : k = s.size := by omega
        exact ⟨by rw [take_all]; rfl, rfl⟩
end Go.Proofs.Ytnelaojpbafldaa
