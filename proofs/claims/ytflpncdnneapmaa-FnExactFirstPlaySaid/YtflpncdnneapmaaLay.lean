/- Contracts: the program's lines behind a line. -/
import Derived.Test.YtflpncdnneapmaaReachB
import Derived.Test.YtflpncdnneapmaaSl
import Derived.Test.YtflpncdnneapmaaWalkV
namespace Go.Proofs.Ytflpncdnneapmaa
open Go.RowKit

/-- The answer: a list of texts in memory of the call's own. -/
def TxPost (w : World) (l : List (List UInt8)) (e : Ending) (w' : World) : Prop :=
  ∃ v, e = .returned v ∧ w'.ownsRow w.heap.size 9 1 v l.length (txs l) ∧ Below w.heap.size w w'
theorem txs_take (l : List (List UInt8)) (k : Nat) (h : k < l.length) : txs (l.take (k + 1)) = txs (l.take k) ++ [.string (str l[k])] := by
  rw [List.take_succ_eq_append_getElem h, txs_app]; rfl
theorem nxL_at (l : List UInt8) (hg : goodL (str l) = true) : nxL l = (mvsOr (canM (str l)) (str l)).map fun m => behind (str l) m.1 m.2 := by
  unfold nxL mvsOr; rw [hg]; rfl

set_option maxRecDepth 100000 in
set_option maxHeartbeats 1000000 in
theorem linesBehind_any (l : List UInt8) (w : World) (hg : goodL (str l) = true) :
    Calls Try.prog 66 #[.string (str l)] w (TxPost w (nxL l)) := by
  obtain ⟨i0, hi, hz0, hz1, hz2⟩ := info_parts Try.infoS
  have HI := Lib.hid hi
  have HZ0 := Lib.hid hz0
  have HZ1 := Lib.hid hz1
  have HZ2 := Lib.hid hz2
  clear hi hz0 hz1 hz2
  have hsz := ((goodL_iff _).1 hg).2.1
  have hs : (str l).size ≤ maxLen := by unfold maxLen; omega
  have HN := Lib.hid (nxL_at l hg)
  have HC : ∀ m ∈ mvsOr (canM (str l)) (str l), canM (str l) m.1 m.2 = true := fun m hm => by
    unfold mvsOr at hm; rw [hg] at hm
    exact (mem_moves _ _ _).1 hm
  have HC := Lib.hid HC
  have hlen := mvsOr_le (canM (str l)) (str l)
  have HM := Lib.hid (fun wx => movesOf_any (str l) wx hs)
  have hgB := hg
  rw [hg] at HM
  generalize mvsOr (canM (str l)) (str l) = M at HN HC hlen HM
  generalize str l = s at HN HC hs HM hsz
  obtain ⟨N, hN⟩ : ∃ N, M.map (fun m => behind s m.1 m.2) = N := ⟨_, rfl⟩
  rw [HN.out, hN]
  have hNl : N.length = M.length := by rw [← hN]; simp
  have HNk : Hid (∀ k (h : k < M.length), N[k]'(by omega) = behind s M[k].1 M[k].2) := by show _; intro k h; subst hN; simp
  have HNL := Lib.hid hNl
  clear HN hN hg hgB
  go_enter Try.func66, Try.ntmps66
  go_wp2_with fail
  refine (HM.out _).mono ?_
  rintro e w1 ⟨v1, rfl, ho1, hb1⟩
  obtain ⟨A1, cap1, rfl, AT1⟩ := at_of_own ho1
  have AT := Lib.hid AT1
  have HB1 := Lib.hid hb1
  clear ho1 AT1 hb1
  go_wp2
  go_loopw [5, 15] (fun v i wr => ∃ k : Nat, k ≤ M.length ∧ i = .int .i64 k ∧ wr.ownsRow w1.heap.size 9 1 v k (txs (N.take k)) ∧ Below w1.heap.size w1 wr) (fun _ i _ => M.length - (intOf i).toNat)
  case atStart => exact ⟨0, Nat.zero_le _, rfl, World.ownsRow_nil _ _ _ _, Below.refl _ _⟩
  case round =>
    obtain ⟨k, hk, rfl, hown, hB⟩ := hrel
    by_cases hlt : k < M.length
    · obtain ⟨g, rfl, z1, p1, q1⟩ := (AT.out.below hB) k hlt
      obtain ⟨a, b, e1, e2, ha, hb, hne⟩ := canM_in (HC.out _ (List.getElem_mem hlt))
      have hT : Hid (txs (N.take (k + 1)) = txs (N.take k) ++ [.string (str (putL s a b))]) := by
        show _ = _
        rw [txs_take _ _ (by rw [HNL.out]; exact hlt), HNk.out k hlt, e1, e2]; rfl
      rw [e1] at p1
      rw [e2] at q1
      clear e1 e2
      go_wp2_with fail
      refine (lineBehind_any s a b _ ha hb hne).mono ?_
      rintro e w2 ⟨rfl, hb2⟩
      have hz : wr.heap.size < w2.heap.size := by have := hb2.size; simp at this; omega
      have hown2 := own_below (hown.alloc _) hb2
      have hB2 := (hB.alloc hB.size _).trans (hb2.mono (by have := hB.size; simp; omega))
      clear hown hB hb2 p1 q1
      have H3 : k + 1 ≤ maxLen := by unfold maxLen; omega
      have H4 : (k + 1) * 16 ≤ 140737488355328 := by omega
      have H5 : w1.heap.size ≤ (w2.alloc (Obj.cells #[Value.string (str (putL s a b))] 9)).heap.size := by have := hB2.size; simp; omega
      go_wp2_with (first | (at_builtin; refine wpList_append_own _ rfl _ _ 61 rfl w1.heap.size 9 i0 (.string ByteArray.empty) 1 16 Try.underlying61 HI.out HZ0.out HZ1.out HZ2.out rfl (by decide) _ _ _ rfl (hown2.alloc _) ⟨w2.heap.size, 0, none⟩ 1 1 [.string (str (putL s a b))] rfl rfl (cell_one_new _ _ _) (fun u hu => by simp at hu; subst hu; rfl) H3 H4 H5 ?_; intro v' w3 hown' hgrow _))
      go_roundw
      case rel =>
        refine ⟨k + 1, by omega, by go_num, ?_, ((hB2.alloc hB2.size _).grown hgrow H5 fun j hj => (hown2.lt _ hj).1)⟩
        rw [hT.out]
        exact hown'
      case measure => simp [intOf]; omega
    · go_wp2
      go_ret
      obtain rfl : k = M.length := by omega
      refine ⟨_, rfl, ?_, HB1.out.trans (hB.mono HB1.out.size)⟩
      rw [List.take_of_length_le (by rw [HNL.out]; exact Nat.le_refl _)] at hown
      rw [HNL.out]
      exact own_base hown HB1.out.size
end Go.Proofs.Ytflpncdnneapmaa
