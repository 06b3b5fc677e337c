/- All lines with so many of each, in order, in a list: the program's. -/
import Derived.Test.YtdcbjbmnkajjcaaMany
import Derived.Test.YtdcbjbmnkajjcaaUnrI
import Derived.Test.YtdcbjbmnkajjcaaImp
import Derived.Test.YtdcbjbmnkajjcaaSl
import Derived.Test.YtdcbjbmnkajjcaaMoves
namespace Go.Proofs.Ytdcbjbmnkajjcaa
open Go.RowKit

def lnk (t g f : Int) (k : Nat) : List UInt8 := unr (t + g + f).toNat t g f k
def lnsTo (t g f : Int) (k : Nat) : List (List UInt8) := (List.range k).map (lnk t g f)
theorem lns_len (t g f : Int) (k : Nat) : (lnsTo t g f k).length = k := by simp [lnsTo]
theorem lns_succ (t g f : Int) (k : Nat) : lnsTo t g f (k + 1) = lnsTo t g f k ++ [lnk t g f k] := by simp [lnsTo, List.range_succ]
theorem lns_txs (t g f : Int) (k : Nat) : txs (lnsTo t g f (k + 1)) = txs (lnsTo t g f k) ++ [.string (str (lnk t g f k))] := by rw [lns_succ]; simp [txs]
theorem lns_at (t g f : Int) {k n : Nat} (h : k < n) : (txs (lnsTo t g f n))[k]? = some (.string (str (lnk t g f k))) := by simp [txs, lnsTo, h]
def manyK (t g f : Int) : Nat := (manyI t g f).toNat
theorem manyK_eq {t g f : Int} (h : three t g f = true) : manyI t g f = (manyK t g f : Int) := by
  obtain ⟨_, _, _, _, h12⟩ := (three_iff t g f).1 h
  have h1 := (manyI_le t g f (by omega)).1
  unfold manyK
  omega
theorem lnk_inG {t g f : Int} (h : three t g f = true) {k : Nat} (hk : k < manyK t g f) : (three t g f && inR (k : Int) 0 (manyI t g f - 1)) = true := by
  have hm := manyK_eq h
  rw [h, Bool.true_and]; unfold inR
  rw [Bool.and_eq_true, decide_eq_true_iff, decide_eq_true_iff]; omega
/-- All lines, in order, in a list of the call's own. -/
def LnPost (w : World) (t g f : Int) (e : Ending) (w' : World) : Prop :=
  ∃ v, e = .returned v ∧ w'.ownsRow w.heap.size 9 1 v (manyK t g f) (txs (lnsTo t g f (manyK t g f))) ∧ Below w.heap.size w w'
theorem row_set (A : List Value) (m k : Nat) (z v : Value) (hA : A.length = k) (hm : 0 < m) : (A ++ List.replicate m z).set k v = A ++ [v] ++ List.replicate (m - 1) z := by
  obtain ⟨n, rfl⟩ : ∃ n, m = n + 1 := ⟨m - 1, by omega⟩
  subst hA
  rw [List.set_append_right _ _ (Nat.le_refl _), Nat.sub_self, List.replicate_succ]
  simp
theorem row_at (A : List Value) (m k : Nat) (z : Value) (hA : A.length = k) (hm : 0 < m) : (A ++ List.replicate m z)[k]? = some z := by
  subst hA
  rw [List.getElem?_append_right (Nat.le_refl _), Nat.sub_self]
  simp [hm]
set_option maxRecDepth 100000 in
set_option maxHeartbeats 2000000 in
theorem allLinesG_any (t g f : Int) (w : World) (hc : three t g f = true) (hN1 : manyI t g f ≤ 100000) :
    Calls Try.prog 33 #[.int .i64 t, .int .i64 g, .int .i64 f] w (LnPost w t g f) := by
  obtain ⟨i0, hi, hz0, hz1, hz2⟩ := info_parts Try.infoS
  have HI := Lib.hid hi
  have HZ0 := Lib.hid hz0
  have HZ1 := Lib.hid hz1
  have hN := manyK_eq hc
  have hN1 : manyK t g f ≤ 100000 := by omega
  have HR : Hid (∀ k : Nat, k < manyK t g f → ∀ wx, Calls Try.prog 51 #[.int .i64 t, .int .i64 g, .int .i64 f, .int .i64 k] wx fun e w' => e = .returned (.tuple #[.string (str (lnk t g f k)), .bool true]) ∧ Below wx.heap.size wx w') := Lib.hid fun k hk wx => by
    have := unr_any t g f k wx
    rw [lnk_inG hc hk] at this
    exact this
  have HCL : Hid (∀ wx, Calls Try.prog 50 #[.int .i64 t, .int .i64 g, .int .i64 f] wx fun e w' => e = .returned (.tuple #[.int .i64 (manyK t g f), .bool true]) ∧ Below wx.heap.size wx w') := Lib.hid fun wx => by
    have := countLines_any t g f wx
    rw [hc, hN] at this
    exact this
  unfold LnPost
  have HT := Lib.hid (fun k => lns_txs t g f k)
  clear hN hc
  generalize manyK t g f = N at HR HCL hN1
  have hbytes : i0.bytes * N ≤ 281474976710656 := by rw [hz2]; omega
  have hmx : N ≤ maxLen := by unfold maxLen; omega
  clear hi hz0 hz1 hz2
  go_enter Try.func33, Try.ntmps33
  go_wp2_with fail
  refine (HCL.out _).mono ?_
  rintro e w1 ⟨rfl, hb1⟩
  go_wp2_with (at_make; refine wpList_make_full _ rfl (.tmp 18) (.tmp 18) 36 rfl w1.heap.size 9 i0 (.string ByteArray.empty) 1 Try.underlying36 HI.out HZ0.out HZ1.out .i64 .i64 (N : Int) (N : Int) N rfl rfl rfl rfl hbytes hmx (Nat.le_refl _) ?_; intro w2 hown hgrow)
  have e0 : (madeCells (Value.string ByteArray.empty).cells (N * 1)).toList = txs (lnsTo t g f 0) ++ List.replicate (N - 0) (.string ByteArray.empty) := by
    rw [Nat.mul_one, made_one (.string ByteArray.empty) rfl N]; rfl
  rw [e0] at hown
  have HO := Lib.hid hown
  have HB := Lib.hid (hb1.grown hgrow hb1.size (by simp))
  have hz := hb1.size
  clear hown hgrow hb1 HI HZ0 HZ1 hbytes e0
  generalize w1.heap.size = gs at HO hz
  go_wp2
  go_loopw [22] (fun i wr => ∃ k : Nat, k ≤ N ∧ i = .int .i64 k ∧ wr.ownsRow gs 9 1 (.slice (some ⟨gs, 0, none⟩) N N) N (txs (lnsTo t g f k) ++ List.replicate (N - k) (.string ByteArray.empty)) ∧ Below w.heap.size w wr) (fun i _ => N - (intOf i).toNat)
  case atStart => exact ⟨0, Nat.zero_le _, rfl, HO.out, HB.out⟩
  case round =>
    obtain ⟨k, hk, rfl, hown, hB⟩ := hrel
    by_cases hlt : k < N
    · have i1 : (0 : Int) ≤ (k : Int) := by omega
      have i2 : (k : Int) < (N : Int) := by omega
      have hlen : (txs (lnsTo t g f k)).length = k := by simp [txs, lns_len]
      go_wp2_with fail
      refine (HR.out k hlt _).mono ?_
      rintro e w4 ⟨rfl, hb4⟩
      have hown4 := own_below hown hb4
      have HB4 := Lib.hid (hB.trans (hb4.mono hB.size))
      have hcl := (hown4.cellAt k (by omega)).trans (row_at _ (N - k) k _ hlen (by omega))
      have hfr := hown4.frozenAt k
      have hst := (hown4.stored k (.string (str (lnk t g f k)))).1
      rw [row_set _ (N - k) k _ _ hlen (by omega), ← HT.out, show N - k - 1 = N - (k + 1) by omega] at hst
      have HST := Lib.hid hst
      clear hown hb4 hown4 hst hB HO HB
      go_wp2
      go_roundw
      case rel => exact ⟨k + 1, by omega, by go_num, HST.out, HB4.out.setCell hz _⟩
      case measure => simp [intOf]; omega
    · obtain rfl : k = N := by omega
      rw [Nat.sub_self, List.replicate_zero, List.append_nil] at hown
      go_wp2
      go_ret
      exact ⟨_, rfl, own_base hown hz, hB⟩
end Go.Proofs.Ytdcbjbmnkajjcaa
