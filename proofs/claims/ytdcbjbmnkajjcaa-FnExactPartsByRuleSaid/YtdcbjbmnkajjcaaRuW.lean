/- BothWays: the mathematics, the program's side, the search in what was found backwards, and the model's side over a contract for the search backwards. -/
import Derived.Test.YtdcbjbmnkajjcaaRuM
import Derived.Test.YtdcbjbmnkajjcaaRuA
namespace Go.Proofs.Ytdcbjbmnkajjcaa
open Go.RowKit

theorem putB_good {n : Nat} {o b l : Bool} {u v : List UInt8} (hu : goodT n u) (hv : v ∈ nxB o b l u) : goodT n v := by
  obtain ⟨i, j, hi, hj, _, rfl⟩ := mem_nxB.1 hv
  obtain ⟨h1, h2, h3⟩ := (goodL_iff _).1 hu.1
  rw [str_size] at h1 h2
  rw [byt_str] at h3
  have hl : (putL (str u) i j).length = u.length := by rw [putL_len, str_size]
  refine ⟨(goodL_iff _).2 ⟨by rw [str_size, hl]; exact h1, by rw [str_size, hl]; exact h2, ?_⟩, by rw [hl]; exact hu.2.1, hu.2.2⟩
  rw [byt_str]
  show (((byt (str u)).set j ((byt (str u)).getD i 0)).set i 46).all isSign = true
  rw [byt_str]
  refine all_set _ _ _ (all_set _ _ _ h3 ?_) (by decide)
  rw [List.getD_eq_getElem?_getD, List.getElem?_eq_getElem hi]
  exact List.all_eq_true.1 h3 _ (List.getElem_mem hi)
theorem found_B {n : Nat} (o b l : Bool) {wl : List UInt8} (hw : goodT n wl) : Found (goodT n) (bfsL (nxB o b l) wl) 60000 :=
  found_at (fun _ _ h1 h2 => putB_good h1 h2) hw 60000
/-- Each line that is reached is found backwards too. -/
def bothL (o b l : Bool) (wl : List UInt8) : Bool := (keysF (bfsL (nxR o b l) wl)).all fun x => decide (x ∈ keysF (bfsL (nxB o b l) wl))
theorem nxR_length {o b l : Bool} {u v : List UInt8} (h : v ∈ nxR o b l u) : v.length = u.length := by
  obtain ⟨f, t, _, rfl⟩ := mem_nxR h
  rw [behind_len, str_size]
theorem both_is {n : Nat} (o b l : Bool) {wl : List UInt8} (hw : goodT n wl) : bothL o b l wl = (b || decide ((ruTo (str wl) o b l (str wl).size).length = 0)) := by
  have hR : (bfsL (nxR o b l) wl).length ≤ 59049 := found_few (found_L o b l hw)
  have hB : (bfsL (nxB o b l) wl).length ≤ 59049 := found_few (found_B o b l hw)
  have rR : wl ∈ keysF (bfsL (nxR o b l) wl) := bfs_root 60000
  have rB : wl ∈ keysF (bfsL (nxB o b l) wl) := bfs_root 60000
  cases b with
  | true =>
    rw [Bool.true_or]
    unfold bothL
    rw [List.all_eq_true]
    intro x hx
    rw [decide_eq_true_iff]
    refine bfs_all (nx := nxR o true l) (wl := wl) (G := fun x => x ∈ keysF (bfsL (nxB o true l) wl)) (fun u v hu hv => ?_) rB x hx
    exact bfs_closed hB hu (nxB_iff.2 ⟨nxR_back hv, nxR_length hv⟩)
  | false =>
    rw [Bool.false_or, ← nxR_len]
    by_cases h0 : (nxR o false l wl).length = 0
    · rw [decide_eq_true h0]
      have hnil : nxR o false l wl = [] := List.eq_nil_of_length_eq_zero h0
      unfold bothL
      rw [List.all_eq_true]
      intro x hx
      rw [decide_eq_true_iff]
      have e : x = wl := bfs_all (nx := nxR o false l) (wl := wl) (G := fun x => x = wl) (fun u v hu hv => by
        rw [hu, hnil] at hv
        cases hv) rfl x hx
      rw [e]
      exact rB
    · rw [decide_eq_false h0]
      obtain ⟨v, hv⟩ := List.exists_mem_of_ne_nil _ (fun e => h0 (by rw [e]; rfl) : nxR o false l wl ≠ [])
      have hvR := bfs_closed hR rR hv
      have hall := bfs_all (nx := nxB o false l) (wl := wl) (G := fun x => goodT n x ∧ potF 0 wl ≤ potF 0 x) (fun u x hu hx => by
        have hg := putB_good hu.1 hx
        have := pot_less hg.1 (nxB_iff.1 hx).1
        exact ⟨hg, by omega⟩) ⟨hw, Int.le_refl _⟩
      unfold bothL
      rw [List.all_eq_false]
      refine ⟨v, hvR, ?_⟩
      rw [decide_eq_true_iff]
      intro h
      have h1 := (hall v h).2
      have h2 := pot_less hw.1 hv
      omega
/-- The answer of BothWays. -/
def bwV (s : ByteArray) (o b l : Bool) : Value := if rchB s then .tuple #[.bool (b || decide ((ruTo s o b l s.size).length = 0)), .bool true] else .tuple #[.bool false, .bool false]
theorem bwV_open (s : ByteArray) (o b l : Bool) : ∃ x y, bwV s o b l = .tuple #[.bool x, .bool y] := by
  unfold bwV
  split
  · exact ⟨_, _, rfl⟩
  · exact ⟨_, _, rfl⟩
set_option maxRecDepth 100000 in
set_option maxHeartbeats 2000000 in
theorem ruLeft_any (L : Fnd) (vl : List UInt8) (w : World) (R0 ga ca gb cb : Nat) (HLA0 : w.ownsRow R0 9 1 (.slice (some ⟨ga, 0, none⟩) L.length ca) L.length (txs (keysF L))) (HLB0 : w.ownsRow R0 3 1 (.slice (some ⟨gb, 0, none⟩) L.length cb) L.length (nus (depF L)))
    (ga2 : ga < w.heap.size) (gb2 : gb < w.heap.size) (hlen : L.length ≤ 59049) (hn : (keysF L).Nodup) :
    Calls Try.prog 15 #[.agg #[.slice (some ⟨ga, 0, none⟩) L.length ca, .slice (some ⟨gb, 0, none⟩) L.length cb], .string (str vl)] w fun e w' => e = .returned (.int .i64 (stI (stF L vl))) ∧ Below w.heap.size w w' := by
  have HLA := Lib.hid HLA0
  have HLB := Lib.hid HLB0
  have HND := Lib.hid hn
  clear HLA0 HLB0 hn
  go_enter Try.func15, Try.ntmps15
  go_wp2
  go_loop [10] (fun t => ∃ i : Nat, i ≤ L.length ∧ t = .int .i64 i ∧ Hid (∀ j (h : j < L.length), j < i → L[j].1 ≠ vl)) (fun t => L.length - (intOf t).toNat)
  case atStart => exact ⟨0, Nat.zero_le _, rfl, Lib.hid fun j _ h => absurd h (by omega)⟩
  case round =>
    obtain ⟨i, hi, rfl, hno⟩ := hrel
    by_cases hlt : i < L.length
    · have hat : L[i]? = some L[i] := List.getElem?_eq_getElem hlt
      have hca := (cell_below w (Obj.cells #[.slice (some ⟨ga, 0, none⟩) L.length ca, .slice (some ⟨gb, 0, none⟩) L.length cb] rrT) ga i ga2).trans (rrCell HLA.out hat)
      have hcb := (cell_below w (Obj.cells #[.slice (some ⟨ga, 0, none⟩) L.length ca, .slice (some ⟨gb, 0, none⟩) L.length cb] rrT) gb i gb2).trans (rrCellI HLB.out hat)
      have HM : Hid (L[i] ∈ L) := Lib.hid (List.getElem_mem hlt)
      have HNX : Hid (L[i].1 ≠ vl → ∀ j (h : j < L.length), j < i + 1 → L[j].1 ≠ vl) := Lib.hid fun h0 j h hj => by
        by_cases e : j = i
        · subst e; exact h0
        · exact hno.out j h (by omega)
      have hsame := same_str L[i].1 vl
      have i1 : (i : Int) < (L.length : Int) := by omega
      clear hat
      obtain ⟨⟨x, d⟩, hp⟩ : ∃ p, p = L[i] := ⟨_, rfl⟩
      rw [← hp] at hca hcb HM HNX hsame
      clear hp
      by_cases e : x = vl
      · subst e
        rw [show decide (((x, d) : List UInt8 × Nat).1 = x) = true by simp] at hsame
        have HR : Hid (stF L x = some d) := Lib.hid (stF_some HND.out HM.out)
        go_wp2
        go_ret
        exact ⟨by rw [HR.out]; rfl, (Below.refl _ _).alloc (Nat.le_refl _) _⟩
      · rw [show decide (((x, d) : List UInt8 × Nat).1 = vl) = false by simpa using e] at hsame
        have HN2 := Lib.hid (HNX.out e)
        clear e
        go_wp2
        go_round
        case rel => exact ⟨i + 1, by omega, by go_num, HN2⟩
        case measure => simp [intOf]; omega
    · obtain rfl : i = L.length := by omega
      have HR : Hid (stF L vl = none) := Lib.hid (stF_none fun h => by
        obtain ⟨p, hp, e⟩ := List.mem_map.1 h
        obtain ⟨j, hj, rfl⟩ := List.getElem_of_mem hp
        exact hno.out j hj hj e)
      go_wp2
      go_ret
      exact ⟨by rw [HR.out]; rfl, (Below.refl _ _).alloc (Nat.le_refl _) _⟩
end Go.Proofs.Ytdcbjbmnkajjcaa
