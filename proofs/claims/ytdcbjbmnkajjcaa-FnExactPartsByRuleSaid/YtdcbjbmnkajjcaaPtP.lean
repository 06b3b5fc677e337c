/- PartsByRule: what hangs together by a rule; labels and searches count the same; no walk. -/
import Derived.Test.YtdcbjbmnkajjcaaRuR
import Derived.Test.YtdcbjbmnkajjcaaRuW
namespace Go.Proofs.Ytdcbjbmnkajjcaa
open Go.RowKit

theorem ruC_plain {s : ByteArray} {o b l : Bool} {f t : Int} (h : ruC s o true l f t = true) (hd : ((sgAt s f == 84) == decide (f ≤ t)) = true) : ruC s o b l f t = true := by
  unfold ruC at h ⊢
  rw [hd, Bool.or_true]
  rwa [Bool.true_or] at h
theorem ruC_more {s : ByteArray} {o b l : Bool} {f t : Int} (h : ruC s o b l f t = true) : ruC s o true l f t = true := by
  unfold ruC at h ⊢
  rw [Bool.true_or]
  simp only [Bool.and_eq_true] at h ⊢
  exact ⟨⟨⟨h.1.1.1, trivial⟩, h.1.2⟩, h.2⟩
theorem nxR_more {o b l : Bool} {u v : List UInt8} (h : v ∈ nxR o b l u) : v ∈ nxR o true l u := by
  obtain ⟨m, hm, rfl⟩ := List.mem_map.1 h
  obtain ⟨h1, h2, h3⟩ := (mem_ruTo _ _ _ _ _ m.1 m.2).1 hm
  exact List.mem_map.2 ⟨m, (mem_ruTo _ _ _ _ _ m.1 m.2).2 ⟨h1, h2, ruC_more h3⟩, rfl⟩
/-- With Back, a move is one without, here or there. -/
theorem nxR_either {o b l : Bool} {u v : List UInt8} (h : v ∈ nxR o true l u) : v ∈ nxR o b l u ∨ u ∈ nxR o b l v := by
  obtain ⟨f, t, hc, e⟩ := mem_nxR h
  have hu := ruC_undo hc
  have hs := ruC_sg hc
  obtain ⟨a, c, rfl, rfl, ha, hc2, hne⟩ := ruC_in hc
  have e2 : v = putL (str u) a c := e
  rw [← e] at hu
  by_cases hd : ((sgAt (str u) a == 84) == decide ((a : Int) ≤ c)) = true
  · refine .inl (List.mem_map.2 ⟨((a : Int), (c : Int)), (mem_ruTo _ _ _ _ _ _ _).2 ⟨by omega, by omega, ruC_plain hc hd⟩, e.symm⟩)
  · have hv : sgAt (str v) c = sgAt (str u) a := by
      rw [e2, sg_put (str u) a c ha c hc2, if_neg (fun e => hne e.symm), if_pos rfl]
    have hd2 : ((sgAt (str v) c == 84) == decide ((c : Int) ≤ a)) = true := by
      rw [hv]
      have : decide ((c : Int) ≤ a) = !decide ((a : Int) ≤ c) := by
        by_cases hac : (a : Int) ≤ c
        · rw [decide_eq_true hac, decide_eq_false (by omega)]; rfl
        · rw [decide_eq_false hac, decide_eq_true (by omega)]; rfl
      rw [this]
      revert hd
      generalize (sgAt (str u) a == 84) = p
      generalize decide ((a : Int) ≤ c) = q
      cases p <;> cases q <;> decide
    refine .inr (List.mem_map.2 ⟨((c : Int), (a : Int)), (mem_ruTo _ _ _ _ _ _ _).2 ⟨by omega, by rw [e, str_size, behind_len]; omega, ruC_plain hu hd2⟩, ?_⟩)
    show putL (str v) c a = u
    rw [e2, put_back (str u) a c ha hc2 hne hs.2, byt_str]
/-- Two lines hang together. -/
def Cn (o l : Bool) (u v : List UInt8) : Prop := v ∈ keysF (bfsL (nxR o true l) u)
instance (o l : Bool) (u v : List UInt8) : Decidable (Cn o l u v) := inferInstanceAs (Decidable (v ∈ keysF (bfsL (nxR o true l) u)))
theorem Cn.refl (o l : Bool) (u : List UInt8) : Cn o l u u := bfs_root 60000
theorem Cn.step {o l : Bool} {n : Nat} {u v w : List UInt8} (hg : goodT n u) (h : Cn o l u v) (hw : w ∈ nxR o true l v) : Cn o l u w := bfs_closed (found_few (found_L o true l hg)) h hw
theorem Cn.good {o l : Bool} {n : Nat} {u v : List UInt8} (hg : goodT n u) (h : Cn o l u v) : goodT n v := (found_L o true l hg).good v h
theorem Cn.trans {o l : Bool} {n : Nat} {u v w : List UInt8} (hg : goodT n u) (h : Cn o l u v) (h2 : Cn o l v w) : Cn o l u w :=
  bfs_all (nx := nxR o true l) (wl := v) (G := fun x => Cn o l u x) (fun _ _ hx hy => hx.step hg hy) h w h2
theorem Cn.symm {o l : Bool} {n : Nat} {u v : List UInt8} (hg : goodT n u) (h : Cn o l u v) : Cn o l v u :=
  (bfs_all (nx := nxR o true l) (wl := u) (G := fun x => goodT n x ∧ Cn o l x u) (fun _ y hx hy =>
    ⟨nxR_good hx.1 hy, Cn.trans (nxR_good hx.1 hy) (Cn.step (nxR_good hx.1 hy) (Cn.refl o l y) (nxR_back hy)) hx.2⟩) ⟨hg, Cn.refl o l u⟩ v h).2
/-- A line with so many of each. -/
structure LnOf (t g f : Int) (x : List UInt8) : Prop where
  all : x.all isSign = true
  c84 : (cnt 84 x : Int) = t
  c46 : (cnt 46 x : Int) = g
  c70 : (cnt 70 x : Int) = f
def rkN (x : List UInt8) : Nat := (rkL x).toNat
theorem LnOf.len {t g f : Int} {x : List UInt8} (h : LnOf t g f x) : (x.length : Int) = t + g + f := by
  have := cnt_sum x h.all
  have h1 := h.c84
  have h2 := h.c46
  have h3 := h.c70
  omega
theorem LnOf.rank {t g f : Int} {x : List UInt8} (h : LnOf t g f x) (hc : thrR t g f = true) : rkL x = (rkN x : Int) ∧ rkN x < manyK t g f ∧ lnk t g f (rkN x) = x := by
  obtain ⟨ht, hg, hf, h1, h8⟩ := (thrR_iff t g f).1 hc
  have hl := h.len
  obtain ⟨⟨i0, i1⟩, i2⟩ := unr_rkL x h.all (by omega)
  rw [h.c84, h.c46, h.c70] at i1 i2
  have hm := (many8 hc).1
  have hr : rkL x = (rkN x : Int) := by unfold rkN; omega
  refine ⟨hr, by omega, ?_⟩
  unfold lnk
  rw [← hr, show (t + g + f).toNat = x.length by omega]
  exact i2
theorem lnk_of {t g f : Int} (hc : thrR t g f = true) {k : Nat} (hk : k < manyK t g f) : LnOf t g f (lnk t g f k) ∧ rkN (lnk t g f k) = k := by
  obtain ⟨ht, hg, hf, h1, h8⟩ := (thrR_iff t g f).1 hc
  have hm := (many8 hc).1
  obtain ⟨a, b, c, d, e⟩ := rkL_unr (t + g + f).toNat t g f k ht hg hf (by omega) (by omega) (by omega) (by omega)
  exact ⟨⟨a, b, c, d⟩, by unfold rkN lnk; rw [e]; omega⟩
theorem LnOf.next {t g f : Int} {o b l : Bool} {x y : List UInt8} (h : LnOf t g f x) (hy : y ∈ nxR o b l x) : LnOf t g f y := by
  obtain ⟨a, c, hc, rfl⟩ := mem_nxR hy
  refine ⟨ruC_behind_all (by rw [byt_str]; exact h.all) hc, ?_, ?_, ?_⟩
  · rw [ruC_behind_cnt 84 hc, byt_str]; exact h.c84
  · rw [ruC_behind_cnt 46 hc, byt_str]; exact h.c46
  · rw [ruC_behind_cnt 70 hc, byt_str]; exact h.c70
theorem LnOf.good {t g f : Int} {x : List UInt8} (h : LnOf t g f x) (hc : thrR t g f = true) : goodT (t + g + f).toNat x := by
  obtain ⟨ht, hg, hf, h1, h8⟩ := (thrR_iff t g f).1 hc
  have hl := h.len
  exact ⟨(goodL_iff _).2 ⟨by rw [str_size]; omega, by rw [str_size]; omega, by rw [byt_str]; exact h.all⟩, by omega, by omega⟩
/-- The first line of its part. -/
def lstB (o l : Bool) (t g f : Int) (k : Nat) : Bool := (List.range k).all fun j => !decide (Cn o l (lnk t g f j) (lnk t g f k))
theorem lstB_iff {o l : Bool} {t g f : Int} {k : Nat} : lstB o l t g f k = true ↔ ∀ j, j < k → ¬ Cn o l (lnk t g f j) (lnk t g f k) := by
  unfold lstB
  rw [List.all_eq_true]
  simp only [List.mem_range, Bool.not_eq_true', decide_eq_false_iff_not]
def ptN (o l : Bool) (t g f : Int) (k : Nat) : Nat := ((List.range k).filter (lstB o l t g f)).length
theorem ptN_succ (o l : Bool) (t g f : Int) (k : Nat) : ptN o l t g f (k + 1) = ptN o l t g f k + if lstB o l t g f k then 1 else 0 := by
  unfold ptN
  rw [List.range_succ, List.filter_append, List.length_append]
  cases h : lstB o l t g f k <;> simp [h]
theorem ptN_le (o l : Bool) (t g f : Int) (k : Nat) : ptN o l t g f k ≤ k := by
  have := List.length_filter_le (lstB o l t g f) (List.range k)
  rw [List.length_range] at this
  exact this
/-- What is found from the first k lines. -/
def FdK (o l : Bool) (t g f : Int) (k : Nat) (v : List UInt8) : Prop := ∃ j, j < k ∧ Cn o l (lnk t g f j) v
theorem fdK_lst {o l : Bool} {t g f : Int} {k : Nat} : lstB o l t g f k = true ↔ ¬ FdK o l t g f k (lnk t g f k) := by
  rw [lstB_iff]
  exact ⟨fun h ⟨j, hj, hc⟩ => h j hj hc, fun h j hj hc => h ⟨j, hj, hc⟩⟩
theorem fdK_next {o l : Bool} {t g f : Int} {k : Nat} {v : List UInt8} : FdK o l t g f (k + 1) v ↔ FdK o l t g f k v ∨ v ∈ keysF (bfsL (nxR o true l) (lnk t g f k)) := by
  constructor
  · rintro ⟨j, hj, hc⟩
    by_cases e : j = k
    · subst e; exact .inr hc
    · exact .inl ⟨j, by omega, hc⟩
  · rintro (⟨j, hj, hc⟩ | h)
    · exact ⟨j, by omega, hc⟩
    · exact ⟨k, by omega, h⟩
theorem fdK_same {o l : Bool} {t g f : Int} {k : Nat} {v : List UInt8} (hc : thrR t g f = true) (hk : k < manyK t g f) (h : lstB o l t g f k = false) : FdK o l t g f (k + 1) v ↔ FdK o l t g f k v := by
  rw [fdK_next]
  constructor
  · rintro (h2 | h2)
    · exact h2
    · have h3 : ¬ ¬ FdK o l t g f k (lnk t g f k) := fun hn => by rw [fdK_lst.2 hn] at h; cases h
      obtain ⟨j, hj, hcj⟩ := Classical.not_not.1 h3
      exact ⟨j, hj, hcj.trans ((lnk_of hc (by omega)).1.good hc) h2⟩
  · exact .inl
/-- Labels, some moves being looked at. -/
structure PtI (o b l : Bool) (t g f : Int) (P : List Nat) (i0 m0 : Nat) : Prop where
  len : P.length = manyK t g f
  le : ∀ i, i < manyK t g f → P.getD i 0 ≤ i
  con : ∀ i, i < manyK t g f → Cn o l (lnk t g f (P.getD i 0)) (lnk t g f i)
  done : ∀ i, i < i0 → ∀ y ∈ nxR o b l (lnk t g f i), P.getD i 0 = P.getD (rkN y) 0
  cur : ∀ j y, j < m0 → (nxR o b l (lnk t g f i0))[j]? = some y → P.getD i0 0 = P.getD (rkN y) 0
theorem getD_range (n i : Nat) (h : i < n) : (List.range n).getD i 0 = i := by
  rw [List.getD_eq_getElem?_getD, List.getElem?_eq_getElem (by simpa using h)]
  simp
theorem PtI.start (o b l : Bool) (t g f : Int) : PtI o b l t g f (List.range (manyK t g f)) 0 0 := by
  refine ⟨by simp, fun i hi => ?_, fun i hi => ?_, fun i hi => by omega, fun j _ hj => by omega⟩
  · rw [getD_range _ _ hi]; exact Nat.le_refl _
  · rw [getD_range _ _ hi]; exact Cn.refl _ _ _
def mgF (a c p : Nat) : Nat := if p = max a c then min a c else p
theorem getD_map {F : Nat → Nat} {P : List Nat} {i : Nat} (h : i < P.length) : (P.map F).getD i 0 = F (P.getD i 0) := by
  rw [List.getD_eq_getElem?_getD, List.getD_eq_getElem?_getD, List.getElem?_map, List.getElem?_eq_getElem h]
  rfl
/-- One move more. -/
theorem PtI.merge {o b l : Bool} {t g f : Int} {P : List Nat} {i0 m0 : Nat} {y : List UInt8} (h : PtI o b l t g f P i0 m0) (hc : thrR t g f = true) (hi : i0 < manyK t g f) (hy : (nxR o b l (lnk t g f i0))[m0]? = some y) :
    PtI o b l t g f (P.map (mgF (P.getD i0 0) (P.getD (rkN y) 0))) i0 (m0 + 1) := by
  have hym : y ∈ nxR o b l (lnk t g f i0) := List.mem_of_getElem? hy
  have hL0 := (lnk_of hc hi).1
  have hLy := hL0.next hym
  obtain ⟨_, hr1, hr2⟩ := hLy.rank hc
  have hk := h.len
  have gd : ∀ i, i < manyK t g f → goodT (t + g + f).toNat (lnk t g f i) := fun i hi => (lnk_of hc hi).1.good hc
  have hle0 := h.le i0 hi
  have hley := h.le (rkN y) hr1
  have c0 := h.con i0 hi
  have cy := h.con (rkN y) hr1
  rw [hr2] at cy
  -- both labels hang together
  have hpc : Cn o l (lnk t g f (P.getD i0 0)) (lnk t g f (P.getD (rkN y) 0)) := by
    have g0 := gd (P.getD i0 0) (by omega)
    have g1 := gd (P.getD (rkN y) 0) (by omega)
    exact (c0.step g0 (nxR_more hym)).trans g0 (cy.symm g1)
  refine ⟨by rw [List.length_map]; exact hk, fun i hi => ?_, fun i hi => ?_, fun i hi2 z hz => ?_, fun j z hj hz => ?_⟩
  · rw [getD_map (by omega)]
    have := h.le i hi
    unfold mgF
    split <;> omega
  · rw [getD_map (by omega)]
    have hci := h.con i hi
    unfold mgF
    split
    · rename_i e
      generalize P.getD i0 0 = p at *
      generalize P.getD (rkN y) 0 = q at *
      have gp := gd p (by omega)
      have gq := gd q (by omega)
      rcases Nat.le_total p q with hpq | hpq
      · rw [Nat.min_eq_left hpq]
        rw [Nat.max_eq_right hpq] at e
        rw [e] at hci
        exact hpc.trans gp hci
      · rw [Nat.min_eq_right hpq]
        rw [Nat.max_eq_left hpq] at e
        rw [e] at hci
        exact (hpc.symm gp).trans gq hci
    · exact hci
  · have hLz := ((lnk_of hc (show i < manyK t g f by omega)).1.next hz).rank hc
    rw [getD_map (by omega), getD_map (by omega), h.done i hi2 z hz]
  · have hzm := List.mem_of_getElem? hz
    have hLz := (hL0.next hzm).rank hc
    rw [getD_map (by omega), getD_map (by omega)]
    by_cases e : j = m0
    · subst e
      rw [hy] at hz
      injection hz with hz
      subst hz
      unfold mgF
      split <;> split <;> omega
    · rw [h.cur j z (by omega) hz]
theorem PtI.row {o b l : Bool} {t g f : Int} {P : List Nat} {i0 m0 : Nat} (h : PtI o b l t g f P i0 m0) (hm : (nxR o b l (lnk t g f i0)).length ≤ m0) : PtI o b l t g f P (i0 + 1) 0 := by
  refine ⟨h.len, h.le, h.con, fun i hi y hy => ?_, fun j _ hj => by omega⟩
  by_cases e : i = i0
  · subst e
    obtain ⟨j, hj, e⟩ := List.getElem_of_mem hy
    exact h.cur j y (by omega) (by rw [List.getElem?_eq_getElem hj, e])
  · exact h.done i (by omega) y hy
/-- In the end, who bears his own number is the first of his part. -/
theorem PtI.fin {o b l : Bool} {t g f : Int} {P : List Nat} (h : PtI o b l t g f P (manyK t g f) 0) (hc : thrR t g f = true) {i : Nat} (hi : i < manyK t g f) : P.getD i 0 = i ↔ lstB o l t g f i = true := by
  rw [lstB_iff]
  constructor
  · intro e j hj hcn
    have hLj := (lnk_of hc (show j < manyK t g f by omega)).1
    have hall := bfs_all (nx := nxR o true l) (wl := lnk t g f j) (G := fun x => LnOf t g f x ∧ P.getD (rkN x) 0 = P.getD j 0) (fun x y hx hy => by
      have hLy := hx.1.next hy
      refine ⟨hLy, ?_⟩
      rw [← hx.2]
      obtain ⟨_, hx1, hx2⟩ := hx.1.rank hc
      obtain ⟨_, hy1, hy2⟩ := hLy.rank hc
      rcases nxR_either (b := b) hy with h2 | h2
      · exact (h.done (rkN x) hx1 y (by rw [hx2]; exact h2)).symm
      · exact h.done (rkN y) hy1 x (by rw [hy2]; exact h2)) ⟨hLj, by rw [(lnk_of hc (show j < manyK t g f by omega)).2]⟩ (lnk t g f i) hcn
    have h2 := hall.2
    rw [(lnk_of hc hi).2, e] at h2
    have := h.le j (by omega)
    omega
  · intro hall
    have h1 := h.le i hi
    have h2 := h.con i hi
    by_cases e : P.getD i 0 = i
    · exact e
    · exact absurd h2 (hall _ (by omega))
end Go.Proofs.Ytdcbjbmnkajjcaa
