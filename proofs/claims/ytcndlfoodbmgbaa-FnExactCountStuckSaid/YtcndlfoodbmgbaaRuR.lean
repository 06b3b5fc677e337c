/- All lines with so many of each, in both sides' lists. -/
import Derived.Test.YtcndlfoodbmgbaaRuQa
import Derived.Test.YtcndlfoodbmgbaaReachB
import Derived.Test.YtcndlfoodbmgbaaUnr
import Derived.Test.YtcndlfoodbmgbaaUnrI
import Derived.Test.YtcndlfoodbmgbaaMany
import Derived.Test.YtcndlfoodbmgbaaRankMath
import Derived.Test.YtcndlfoodbmgbaaImpB
import Derived.Test.YtcndlfoodbmgbaaSl
namespace Go.Proofs.Ytcndlfoodbmgbaa
open Go.RowKit

def lnk (t g f : Int) (k : Nat) : List UInt8 := unr (t + g + f).toNat t g f k
def lnsTo (t g f : Int) (k : Nat) : List (List UInt8) := (List.range k).map (lnk t g f)
theorem lns_len (t g f : Int) (k : Nat) : (lnsTo t g f k).length = k := by simp [lnsTo]
theorem lns_succ (t g f : Int) (k : Nat) : lnsTo t g f (k + 1) = lnsTo t g f k ++ [lnk t g f k] := by simp [lnsTo, List.range_succ]
theorem lns_txs (t g f : Int) (k : Nat) : txs (lnsTo t g f (k + 1)) = txs (lnsTo t g f k) ++ [.string (str (lnk t g f k))] := by rw [lns_succ]; simp [txs]
theorem lns_at (t g f : Int) {k n : Nat} (h : k < n) : (txs (lnsTo t g f n))[k]? = some (.string (str (lnk t g f k))) := by simp [txs, lnsTo, h]
def manyK (t g f : Int) : Nat := (manyI t g f).toNat
theorem many8 {t g f : Int} (h : thrR t g f = true) : manyI t g f = (manyK t g f : Int) ∧ manyK t g f ≤ 1000 := by
  have h0 : ((List.range 9).all fun t => (List.range 9).all fun g => (List.range 9).all fun f => decide (8 < t + g + f) || decide (manyI (t : Int) (g : Int) (f : Int) ≤ 1000)) = true := by decide +kernel
  obtain ⟨ht, hg, hf, _, hs⟩ := (thrR_iff t g f).1 h
  have h1 := (manyI_le t g f (by omega)).1
  unfold manyK
  obtain ⟨x, rfl⟩ := Int.eq_ofNat_of_zero_le ht
  obtain ⟨y, rfl⟩ := Int.eq_ofNat_of_zero_le hg
  obtain ⟨z, rfl⟩ := Int.eq_ofNat_of_zero_le hf
  rw [List.all_eq_true] at h0
  have a := h0 x (List.mem_range.2 (by omega))
  rw [List.all_eq_true] at a
  have b := a y (List.mem_range.2 (by omega))
  rw [List.all_eq_true] at b
  have c := b z (List.mem_range.2 (by omega))
  simp at c
  rcases c with c | c
  · omega
  · constructor
    · omega
    · omega
theorem lnk_T {t g f : Int} (h : thrR t g f = true) {k : Nat} (hk : k < manyK t g f) : goodT (lnk t g f k).length (lnk t g f k) := by
  obtain ⟨ht, hg, hf, h1, h8⟩ := (thrR_iff t g f).1 h
  have hm := (many8 h).1
  obtain ⟨ha, _⟩ := rkL_unr (t + g + f).toNat t g f k ht hg hf (by omega) (by omega) (by omega) (by omega)
  have hl : (lnk t g f k).length = (t + g + f).toNat := unr_len _ _ _ _ _
  refine ⟨(goodL_iff _).2 ⟨?_, ?_, ?_⟩, rfl, by omega⟩
  · rw [str_size]; omega
  · rw [str_size]; omega
  · rw [byt_str]; exact ha
theorem thrR_three {t g f : Int} (h : thrR t g f = true) : three t g f = true := by
  unfold thrR at h
  exact (Bool.and_eq_true_iff.1 h).1
theorem lnk_in {t g f : Int} (h : thrR t g f = true) {k : Nat} (hk : k < manyK t g f) : (three t g f && inR (k : Int) 0 (manyI t g f - 1)) = true := by
  have hm := (many8 h).1
  rw [thrR_three h, Bool.true_and]; unfold inR
  rw [Bool.and_eq_true, decide_eq_true_iff, decide_eq_true_iff]; omega
/-- All lines, in order, in a list of the call's own. -/
def LnPost (w : World) (t g f : Int) (e : Ending) (w' : World) : Prop :=
  ∃ v, e = .returned v ∧ w'.ownsRow w.heap.size 9 1 v (manyK t g f) (txs (lnsTo t g f (manyK t g f))) ∧ Below w.heap.size w w'
theorem row_set (A : List Value) (m k : Nat) (z v : Value) (hA : A.length = k) (hm : 0 < m) : (A ++ List.replicate m z).set k v = A ++ [v] ++ List.replicate (m - 1) z := by
  obtain ⟨n, rfl⟩ : ∃ n, m = n + 1 := ⟨m - 1, by omega⟩
  subst hA
  rw [List.set_append_right _ _ (Nat.le_refl _), Nat.sub_self, List.replicate_succ]
  simp
theorem row_at (A : List Value) (m k : Nat) (z : Value) (hA : A.length = k) (hm : 0 < m) : (A ++ List.replicate m z)[k]? = some z := by
  subst hA
  rw [List.getElem?_append_right (Nat.le_refl _), Nat.sub_self]
  simp [hm]
set_option maxRecDepth 100000 in
set_option maxHeartbeats 2000000 in
theorem ruLines_any (t g f : Int) (w : World) (hc : thrR t g f = true) :
    Calls Try.prog 87 #[.int .i64 t, .int .i64 g, .int .i64 f] w (LnPost w t g f) := by
  obtain ⟨i0, hi, hz0, hz1, hz2⟩ := info_parts Try.infoS
  have HI := Lib.hid hi
  have HZ0 := Lib.hid hz0
  have HZ1 := Lib.hid hz1
  have HZ2 := Lib.hid hz2
  clear hi hz0 hz1 hz2
  obtain ⟨hN, hN1⟩ := many8 hc
  obtain ⟨ht, hg, hf, h1, h8⟩ := (thrR_iff t g f).1 hc
  have HR : Hid (∀ k : Nat, k < manyK t g f → ∀ wx, Calls Try.prog 115 #[.int .i64 t, .int .i64 g, .int .i64 f, .int .i64 k] wx fun e w' => e = .returned (.tuple #[.string (str (lnk t g f k)), .bool true]) ∧ Below wx.heap.size wx w') := Lib.hid fun k hk wx => by
    have := sUnr_any t g f k wx
    rw [lnk_in hc hk] at this
    exact this
  have HM : Hid (∀ wx, Calls Try.prog 114 #[.int .i64 t, .int .i64 g, .int .i64 f] wx fun e w' => e = .returned (.int .i64 (manyK t g f)) ∧ wx = w') := Lib.hid fun wx => by
    have := liMany_any t g f wx (by omega) (by omega) (by omega) (by omega)
    rw [hN] at this
    exact this
  unfold LnPost
  have HT := Lib.hid (fun k => lns_txs t g f k)
  clear hN hc ht hg hf h1 h8
  generalize manyK t g f = N at HR HM hN1
  go_enter Try.func87, Try.ntmps87
  go_wp2
  go_loopw [7, 8] (fun v i wr => ∃ k : Nat, k ≤ N ∧ i = .int .i64 k ∧ wr.ownsRow w.heap.size 9 1 v k (txs (lnsTo t g f k)) ∧ Below w.heap.size w wr) (fun _ i _ => N - (intOf i).toNat)
  case atStart => exact ⟨0, Nat.zero_le _, rfl, World.ownsRow_nil _ _ _ _, Below.refl _ _⟩
  case round =>
    obtain ⟨k, hk, rfl, hown, hB⟩ := hrel
    go_wp2_with fail
    refine (HM.out _).mono ?_
    rintro e w' ⟨rfl, rfl⟩
    by_cases hlt : k < N
    · have i1 : (0 : Int) ≤ (k : Int) := by omega
      have i2 : (k : Int) < (N : Int) := by omega
      go_wp2_with fail
      refine (HR.out k hlt _).mono ?_
      rintro e w2 ⟨rfl, hb2⟩
      have hown2 := own_below hown hb2
      have hB2 := hB.trans (hb2.mono hB.size)
      clear hown hB hb2
      have H3 : k + 1 ≤ maxLen := by unfold maxLen; omega
      have H4 : (k + 1) * 16 ≤ 140737488355328 := by omega
      have H5 : w.heap.size ≤ (w2.alloc (Obj.cells #[Value.string (str (lnk t g f k))] 9)).heap.size := by have := hB2.size; simp; omega
      go_wp2_with (first | (at_builtin; refine wpList_append_own _ rfl _ _ 77 rfl w.heap.size 9 i0 (.string ByteArray.empty) 1 16 Try.underlying77 HI.out HZ0.out HZ1.out HZ2.out rfl (by decide) _ _ _ rfl (hown2.alloc _) ⟨w2.heap.size, 0, none⟩ 1 1 [.string (str (lnk t g f k))] rfl rfl (cell_one_new _ _ _) (fun u hu => by simp at hu; subst hu; rfl) H3 H4 H5 ?_; intro v' w3 hown' hgrow _))
      go_roundw
      case rel =>
        refine ⟨k + 1, by omega, by go_num, ?_, ((hB2.alloc hB2.size _).grown hgrow H5 fun j hj => (hown2.lt _ hj).1)⟩
        rw [HT.out]
        exact hown'
      case measure => simp [intOf]; omega
    · obtain rfl : k = N := by omega
      go_wp2
      go_ret
      exact ⟨_, rfl, hown, hB⟩
set_option maxRecDepth 100000 in
set_option maxHeartbeats 2000000 in
theorem allLines_any (t g f : Int) (w : World) (hc : thrR t g f = true) :
    Calls Try.prog 88 #[.int .i64 t, .int .i64 g, .int .i64 f] w (LnPost w t g f) := by
  obtain ⟨i0, hi, hz0, hz1, hz2⟩ := info_parts Try.infoS
  have HI := Lib.hid hi
  have HZ0 := Lib.hid hz0
  have HZ1 := Lib.hid hz1
  obtain ⟨hN, hN1⟩ := many8 hc
  have HR : Hid (∀ k : Nat, k < manyK t g f → ∀ wx, Calls Try.prog 117 #[.int .i64 t, .int .i64 g, .int .i64 f, .int .i64 k] wx fun e w' => e = .returned (.tuple #[.string (str (lnk t g f k)), .bool true]) ∧ Below wx.heap.size wx w') := Lib.hid fun k hk wx => by
    have := unr_any t g f k wx
    rw [lnk_in hc hk] at this
    exact this
  have HCL : Hid (∀ wx, Calls Try.prog 116 #[.int .i64 t, .int .i64 g, .int .i64 f] wx fun e w' => e = .returned (.tuple #[.int .i64 (manyK t g f), .bool true]) ∧ Below wx.heap.size wx w') := Lib.hid fun wx => by
    have := countLines_any t g f wx
    rw [thrR_three hc, hN] at this
    exact this
  unfold LnPost
  have HT := Lib.hid (fun k => lns_txs t g f k)
  clear hN hc
  generalize manyK t g f = N at HR HCL hN1
  have hbytes : i0.bytes * N ≤ 281474976710656 := by rw [hz2]; omega
  have hmx : N ≤ maxLen := by unfold maxLen; omega
  clear hi hz0 hz1 hz2
  go_enter Try.func88, Try.ntmps88
  go_wp2_with fail
  refine (HCL.out _).mono ?_
  rintro e w1 ⟨rfl, hb1⟩
  go_wp2_with (at_make; refine wpList_make_full _ rfl (.tmp 18) (.tmp 18) 77 rfl w1.heap.size 9 i0 (.string ByteArray.empty) 1 Try.underlying77 HI.out HZ0.out HZ1.out .i64 .i64 (N : Int) (N : Int) N rfl rfl rfl rfl hbytes hmx (Nat.le_refl _) ?_; intro w2 hown hgrow)
  have e0 : (madeCells (Value.string ByteArray.empty).cells (N * 1)).toList = txs (lnsTo t g f 0) ++ List.replicate (N - 0) (.string ByteArray.empty) := by
    rw [Nat.mul_one, made_one (.string ByteArray.empty) rfl N]; rfl
  rw [e0] at hown
  have HO := Lib.hid hown
  have HB := Lib.hid (hb1.grown hgrow hb1.size (by simp))
  have hz := hb1.size
  clear hown hgrow hb1 HI HZ0 HZ1 hbytes e0
  generalize w1.heap.size = gs at HO hz
  go_wp2
  go_loopw [22] (fun i wr => ∃ k : Nat, k ≤ N ∧ i = .int .i64 k ∧ wr.ownsRow gs 9 1 (.slice (some ⟨gs, 0, none⟩) N N) N (txs (lnsTo t g f k) ++ List.replicate (N - k) (.string ByteArray.empty)) ∧ Below w.heap.size w wr) (fun i _ => N - (intOf i).toNat)
  case atStart => exact ⟨0, Nat.zero_le _, rfl, HO.out, HB.out⟩
  case round =>
    obtain ⟨k, hk, rfl, hown, hB⟩ := hrel
    by_cases hlt : k < N
    · have i1 : (0 : Int) ≤ (k : Int) := by omega
      have i2 : (k : Int) < (N : Int) := by omega
      have hlen : (txs (lnsTo t g f k)).length = k := by simp [txs, lns_len]
      go_wp2_with fail
      refine (HR.out k hlt _).mono ?_
      rintro e w4 ⟨rfl, hb4⟩
      have hown4 := own_below hown hb4
      have HB4 := Lib.hid (hB.trans (hb4.mono hB.size))
      have hcl := (hown4.cellAt k (by omega)).trans (row_at _ (N - k) k _ hlen (by omega))
      have hfr := hown4.frozenAt k
      have hst := (hown4.stored k (.string (str (lnk t g f k)))).1
      rw [row_set _ (N - k) k _ _ hlen (by omega), ← HT.out, show N - k - 1 = N - (k + 1) by omega] at hst
      have HST := Lib.hid hst
      clear hown hb4 hown4 hst hB HO HB
      go_wp2
      go_roundw
      case rel => exact ⟨k + 1, by omega, by go_num, HST.out, HB4.out.setCell hz _⟩
      case measure => simp [intOf]; omega
    · obtain rfl : k = N := by omega
      rw [Nat.sub_self, List.replicate_zero, List.append_nil] at hown
      go_wp2
      go_ret
      exact ⟨_, rfl, own_base hown hz, hB⟩
end Go.Proofs.Ytcndlfoodbmgbaa
