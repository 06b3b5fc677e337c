/- The moves on a board, sorted, are those place by place (no walk). -/
import Derived.Test.YtjnidfleccbdbaaDoorBdEr
namespace Go.Proofs.YtjnidfleccbdbaaDoor
open Go.RowKit Go.Sort
variable {R : List (List UInt8)} {wd : Nat}

def ltP (p q : Int × Int) : Prop := p.1 < q.1 ∨ (p.1 = q.1 ∧ p.2 < q.2)
theorem bmS_pw (R : List (List UInt8)) (wd n k : Nat) : (bmS R wd n k).Pairwise ltP := by
  unfold bmS
  rw [List.pairwise_flatMap]
  refine ⟨fun f _ => ?_, (List.pairwise_lt_range (n := k)).imp_of_mem fun {a b} _ _ hab x hx y hy => ?_⟩
  · unfold rowB
    rw [List.pairwise_map]
    refine (List.Pairwise.filter _ (List.pairwise_lt_range (n := n))).imp fun {a b} h => ?_
    exact .inr ⟨rfl, by show (a : Int) < (b : Int); omega⟩
  · obtain ⟨_, _, _, rfl⟩ := (mem_rowB _ _ _ _ _).1 hx
    obtain ⟨_, _, _, rfl⟩ := (mem_rowB _ _ _ _ _).1 hy
    exact .inl (by show (a : Int) < (b : Int); omega)
theorem mvsTo_pw (g : Int → Int → Bool) (s : ByteArray) : ∀ n, (mvsTo g s n).Pairwise fun p q => p.1 < q.1
  | 0 => by simp [mvsTo]
  | n + 1 => by
    rw [mvsTo, List.pairwise_append]
    refine ⟨mvsTo_pw g s n, by split <;> simp, fun p hp q hq => ?_⟩
    obtain ⟨k, hk, rfl, _⟩ := (mem_mvsB _ _ _ _).1 hp
    split at hq
    · simp at hq
      subst hq
      show (k : Int) < (n : Int)
      omega
    · simp at hq
theorem alM_pw {r : List UInt8} (hg : goodL (str r) = true) (C : List Int) (hC : ∀ a b : Nat, a < b → b < r.length → C.getD a 0 < C.getD b 0) : (alM r C).Pairwise fun p q => p.1 < q.1 := by
  unfold alM mvsOr
  rw [if_pos hg, List.pairwise_map]
  refine (mvsTo_pw _ _ _).imp_of_mem fun {p q} hp hq h => ?_
  obtain ⟨k, hk, rfl, _⟩ := (mem_mvsB _ _ _ _).1 hp
  obtain ⟨j, hj, rfl, _⟩ := (mem_mvsB _ _ _ _).1 hq
  have h2 : (k : Int) < (j : Int) := h
  rw [str_size] at hj
  exact hC k j (by omega) hj
theorem rows_pw (G : GoodR R wd) : (alP R (rowN wd R.length) R.length).Pairwise fun p q => p.1 < q.1 := by
  unfold alP
  rw [List.pairwise_flatMap]
  refine ⟨fun y hy => ?_, (List.pairwise_lt_range (n := R.length)).imp_of_mem fun {y z} hy hz h p hp q hq => ?_⟩
  · have hy := List.mem_range.1 hy
    refine alM_pw (row_good G hy) _ fun a b hab hb => ?_
    rw [row_len G hy] at hb
    rw [rowN_at _ _ _ _ hy (by omega), rowN_at _ _ _ _ hy hb]
    omega
  · have hy := List.mem_range.1 hy
    have hz := List.mem_range.1 hz
    obtain ⟨a, b, ha, hb, _, _, rfl⟩ := (mem_alM (row_good G hy) _ _).1 hp
    obtain ⟨c, d, hc, hd, _, _, rfl⟩ := (mem_alM (row_good G hz) _ _).1 hq
    rw [row_len G hy] at ha
    rw [row_len G hz] at hc
    show (rowN wd R.length y).getD a 0 < (rowN wd R.length z).getD c 0
    rw [rowN_at _ _ _ _ hy ha, rowN_at _ _ _ _ hz hc]
    have := in_board (wd := wd) h ha
    omega
theorem cols_pw (G : GoodR R wd) : (alP (colsR R wd) (colN wd R.length) wd).Pairwise fun p q => p ≠ q := by
  unfold alP
  rw [List.pairwise_flatMap]
  refine ⟨fun x hx => ?_, (List.pairwise_lt_range (n := wd)).imp_of_mem fun {x z} hx hz h p hp q hq e => ?_⟩
  · have hx := List.mem_range.1 hx
    refine (alM_pw (col_good G hx) _ fun a b hab hb => ?_).imp fun {p q} h e => by rw [e] at h; omega
    rw [col_len G hx] at hb
    rw [colN_at _ _ _ _ hx (by omega), colN_at _ _ _ _ hx hb]
    have : (a + 1) * wd ≤ b * wd := Nat.mul_le_mul_right wd hab
    rw [Nat.add_mul] at this
    have := G.hw.1
    omega
  · have hx := List.mem_range.1 hx
    have hz := List.mem_range.1 hz
    obtain ⟨a, b, ha, hb, _, _, rfl⟩ := (mem_alM (col_good G hx) _ _).1 hp
    obtain ⟨c, d, hc, hd, _, _, rfl⟩ := (mem_alM (col_good G hz) _ _).1 hq
    rw [col_len G hx] at ha
    rw [col_len G hz] at hc
    have e1 : (colN wd R.length x).getD a 0 = (colN wd R.length z).getD c 0 := congrArg Prod.fst e
    rw [colN_at _ _ _ _ hx ha, colN_at _ _ _ _ hz hc] at e1
    have e2 : a * wd + x = c * wd + z := by omega
    have e3 := (dm a hx).1
    rw [e2, (dm c hz).1] at e3
    omega
theorem ga_nodup (G : GoodR R wd) : (gaL R wd R.length).Nodup := by
  unfold gaL
  rw [List.nodup_append]
  refine ⟨(rows_pw G).imp fun {p q} h e => by rw [e] at h; omega, cols_pw G, fun p hp q hq e => ?_⟩
  obtain ⟨y, a, b, hy, ha, hb, hne, _, rfl⟩ := (mem_rows G _).1 hp
  obtain ⟨x, c, d, hx, hc, hd, _, _, rfl⟩ := (mem_cols G _).1 hq
  have e1 : y * wd + a = c * wd + x := by have := congrArg Prod.fst e; simp only at this; omega
  have e2 : y * wd + b = d * wd + x := by have := congrArg Prod.snd e; simp only at this; omega
  have f1 := (dm y ha).1
  have f2 := (dm y hb).1
  rw [e1, (dm c hx).1] at f1
  rw [e2, (dm d hx).1] at f2
  omega
theorem bm_same (G : GoodR R wd) : bmL R wd R.length = bmS R wd (R.length * wd) (R.length * wd) := by
  unfold bmL srtM
  have hc : ∀ a b : Int × Int, (!ltOf cmpM b a) = true ↔ ¬ ltP b a := fun a b => by
    rw [cmpM_lt, Bool.not_eq_true', decide_eq_false_iff_not]; exact Iff.rfl
  have tr : ∀ a b c : Int × Int, (!ltOf cmpM b a) = true → (!ltOf cmpM c b) = true → (!ltOf cmpM c a) = true := fun a b c h1 h2 => by
    rw [hc] at *; unfold ltP at *; omega
  have tot : ∀ a b : Int × Int, ((!ltOf cmpM b a) || (!ltOf cmpM a b)) = true := fun a b => by
    rw [Bool.or_eq_true, hc, hc]; unfold ltP; omega
  have hs := List.pairwise_mergeSort tr tot (gaL R wd R.length)
  have hp := List.mergeSort_perm (gaL R wd R.length) (fun x y => !ltOf cmpM y x)
  have hn := hp.nodup_iff.2 (ga_nodup G)
  have h1 : ((gaL R wd R.length).mergeSort fun x y => !ltOf cmpM y x).Pairwise ltP := by
    refine (hs.and hn).imp fun {a b} h => ?_
    have h2 := (hc a b).1 h.1
    have h3 : a ≠ b := h.2
    unfold ltP at *
    by_cases e1 : a.1 = b.1
    · by_cases e2 : a.2 = b.2
      · exact absurd (Prod.ext e1 e2) h3
      · omega
    · omega
  have hnd : (bmS R wd (R.length * wd) (R.length * wd)).Nodup := (bmS_pw R wd _ _).imp fun {a b} h e => by subst e; unfold ltP at h; omega
  have hpp := (List.perm_ext_iff_of_nodup hn hnd).2 fun p => (hp.mem_iff).trans (mem_same G p)
  exact List.Perm.eq_of_pairwise (le := ltP) (fun a b _ _ h1 h2 => by unfold ltP at h1 h2; omega) h1 (bmS_pw R wd _ _) hpp
end Go.Proofs.YtjnidfleccbdbaaDoor
