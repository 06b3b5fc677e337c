/- All words: how many; the model's contract. -/
import Derived.Test.YtoefeooldcbfiaaWoZ
import Derived.Test.YtoefeooldcbfiaaAft
namespace Go.Proofs.Ytoefeooldcbfiaa
open Go.RowKit Go.Maps

/-- Each line. -/
def allP (_ : List UInt8) : Bool := true
theorem step_ne {u y z : List UInt8} (hy : sgW 70 u = some y) (hz : sgW 84 u = some z) : y ≠ z := by
  obtain ⟨m, hm, rfl⟩ := sgW_mv hy
  obtain ⟨q, hq, rfl⟩ := sgW_mv hz
  obtain ⟨c1, s1⟩ := mvW_can hm
  obtain ⟨c2, s2⟩ := mvW_can hq
  intro e
  refine behind_ne c1 c2 (fun e2 => ?_) (congrArg (List.map dec) e)
  rw [e2, s2] at s1
  exact absurd s1 (by decide)
theorem step_sum (g : List UInt8 → Nat) (u : List UInt8) : ((stepW sgW u).map fun p => g p.2).sum ≤ ((nxL u).map g).sum := by
  have e : ((stepW sgW u).map fun p => g p.2) = ((stepW sgW u).map (·.2)).map g := by rw [List.map_map]; rfl
  rw [e]
  refine sum_sub g _ _ ?_ ?_
  · unfold stepW
    cases h1 : sgW 70 u <;> cases h2 : sgW 84 u <;> simp [h1, h2]
    exact step_ne h1 h2
  · intro v hv
    obtain ⟨⟨c, y⟩, hp, rfl⟩ := List.mem_map.1 hv
    exact sgW_nx (mem_stepW.1 hp).2
theorem count_up (g : List UInt8 → Nat) (L xs : List (List UInt8)) (hx : xs.Nodup) (hs : ∀ v ∈ xs, v ∈ L) : (xs.map g).sum ≤ (L.map fun v => xs.count v * g v).sum := by
  refine Nat.le_trans (sum_le_of g (fun v => xs.count v * g v) xs fun v hv => Nat.le_mul_of_pos_left _ (List.count_pos_iff.2 hv)) ?_
  exact sum_sub (fun v => xs.count v * g v) xs L hx hs
theorem it_sum (x : List UInt8) : ∀ (k : Nat) (g : List UInt8 → Nat), ((itB sgW allP x k).map fun b => g b.2).sum ≤ ((lay nxL x k).map fun v => pc nxL x k v * g v).sum
  | 0, g => by simp [itB, lay, pc]
  | k + 1, g => by
    have e : ((itB sgW allP x (k + 1)).map fun b => g b.2).sum = ((itB sgW allP x k).map fun b => (fun u => ((stepW sgW u).map fun p => g p.2).sum) b.2).sum := by
      show ((nxtB sgW allP (itB sgW allP x k)).map fun b => g b.2).sum = _
      unfold nxtB
      generalize itB sgW allP x k = B
      induction B with
      | nil => rfl
      | cons b B ih =>
        rw [List.flatMap_cons, List.map_append, List.sum_append, ih, List.map_cons, List.sum_cons, List.map_map]
        have : ((stepW sgW b.2).filter fun p => allP p.2) = stepW sgW b.2 := List.filter_eq_self.2 fun _ _ => rfl
        rw [this]
        rfl
    rw [e]
    refine Nat.le_trans (it_sum x k fun u => ((stepW sgW u).map fun p => g p.2).sum) ?_
    show _ ≤ ((lay nxL x (k + 1)).map fun v => ((lay nxL x k).map fun u => (nxL u).count v * pc nxL x k u).sum * g v).sum
    rw [sum_flip (fun u v => (nxL u).count v)]
    refine sum_le_of _ _ _ fun u hu => Nat.mul_le_mul_left _ ?_
    exact Nat.le_trans (step_sum g u) (count_up g _ _ (nxL_nodup u) fun v hv => (mem_lay_next k v).2 ⟨u, hu, hv⟩)
theorem all_words (x : List UInt8) (m : Nat) : (itB sgW allP x m).map (·.1) = wl sgW allP m x := it_words allP allP (fun y hy => by cases hy) x m (fun _ _ => rfl)
theorem all_le (x : List UInt8) (m : Nat) : (wl sgW allP m x).length ≤ cwN x m := by
  rw [← all_words, List.length_map]
  have h := it_sum x m fun _ => 1
  have e : ∀ l : List (List UInt8 × List UInt8), (l.map fun _ => 1).sum = l.length := fun l => by
    induction l with
    | nil => rfl
    | cons a l ih => simp [ih]; omega
  rw [e] at h
  simpa [cwN] using h
theorem cw_small {n : Nat} {x : List UInt8} (hx : goodT n x) (m : Nat) : cwN x m < 9223372036854775808 := by
  have h1 := pc_weight wt (steps_line n) hx (fun u hu => wt_step hu) m
  have h2 : cwN x m ≤ ((lay nxL x m).map fun v => pc nxL x m v * wt v).sum := sum_le_of _ _ _ fun v _ => Nat.le_mul_of_pos_right _ (wt_pos v)
  have := wt_lt x
  omega
/-- What leads to all lines after so many moves are all words. -/
theorem all_ends {n : Nat} {x : List UInt8} (hx : goodT n x) {d : Nat} (hd : IsDep nxL x d) (m : Nat) : (itB sgW (leadB (aftL x d (m : Int))) x m).map (·.1) = wl sgW allP m x := by
  have hin : ∀ y, y ∈ lay nxL x m → y ∈ aftL x d (m : Int) := fun y hy => by
    unfold aftL
    rw [Int.toNat_natCast]
    by_cases h : m < d
    · rw [if_pos h]; exact hy
    · rw [lay_nil hd.2.1 m (by omega)] at hy; cases hy
  rw [it_ends hx (aftL x d (m : Int)) m (fun e he => ?_) (fun h => hin x (by subst h; simp [lay]))]
  · refine wl_congr sgW_tf m x fun u y hu hr => ?_
    have h := run_lay u x y hr
    rw [hu] at h
    exact decide_eq_true (hin y h)
  · unfold aftL at he
    rw [Int.toNat_natCast] at he
    split at he
    · exact he
    · cases he
/-- What a kind adds. -/
def alW (c : UInt8) (m : Nat) (y : List UInt8) : List (List UInt8) := match sgW c y with | some z => (wl sgW allP m z).map (c :: ·) | none => []
theorem alW_none {c : UInt8} {m : Nat} {y : List UInt8} (h : sgW c y = none) : alW c m y = [] := by unfold alW; rw [h]
theorem alW_some {c : UInt8} {m : Nat} {y z : List UInt8} (h : sgW c y = some z) : alW c m y = (wl sgW allP m z).map (c :: ·) := by unfold alW; rw [h]
theorem alW_all (m : Nat) (y : List UInt8) : wl sgW allP (m + 1) y = alW 70 m y ++ alW 84 m y := wl_two allP m y
theorem alW_le (c : UInt8) {m : Nat} (hm : m ≤ 39) (y : List UInt8) : (alW c m y).length ≤ 549755813888 := by
  have hp : 2 ^ m ≤ 549755813888 := Nat.le_trans (Nat.pow_le_pow_right (by omega) hm) (by decide)
  unfold alW
  split
  · rw [List.length_map]
    exact Nat.le_trans (wl_le _ _ _) hp
  · simp
/-- A row that is read beside the one that grows. -/
def Apt (W : World) (A : Option Addr) (v : Value) : Prop := ∀ g0, A = some ⟨g0, 0, none⟩ → g0 < W.heap.size ∧ v.ownBlock ≠ some g0
theorem st_app {W W' : World} {A : Option Addr} {M : List (List UInt8)} {v : Value} (h : StAt W A M) (hn : Apt W A v) (hg : W.grownBy W' v.ownBlock) : StAt W' A M := fun q hq => by
  obtain ⟨g0, e, hl, hc⟩ := h q hq
  exact ⟨g0, e, Nat.lt_of_lt_of_le hl hg.size, hg.cell hc (fun e2 => (hn g0 e).2 e2.symm)⟩
theorem Apt.below {W W' : World} {A : Option Addr} {v : Value} (h : Apt W A v) (hb : W.heap.size ≤ W'.heap.size) : Apt W' A v := fun g0 e => ⟨Nat.lt_of_lt_of_le (h g0 e).1 hb, (h g0 e).2⟩
theorem Apt.app {W W' : World} {A : Option Addr} {v : Value} {g n cap : Nat} (h : Apt W A v) (hs : W.heap.size ≤ W'.heap.size) (hw : v.ownBlock = some g ∨ g = W.heap.size) : Apt W' A (.slice (some ⟨g, 0, none⟩) n cap) := fun g0 e => by
  refine ⟨Nat.lt_of_lt_of_le (h g0 e).1 hs, fun e2 => ?_⟩
  have e2 : g = g0 := by injection e2
  subst e2
  rcases hw with hw | hw
  · exact (h g e).2 hw
  · have := (h g e).1; omega
/-- What has been added. -/
def alI (m : Nat) (y : List UInt8) : Nat → List (List UInt8)
  | 0 => []
  | 1 => alW 70 m y
  | _ => alW 70 m y ++ alW 84 m y

set_option maxRecDepth 100000 in
set_option maxHeartbeats 8000000 in
theorem woAll_step (n m q : Nat) (y : List UInt8) (w : World) (hx : goodT n y) (hm : m ≤ 39) (hq1 : 1 ≤ q) (hq2 : q ≤ 40)
    (H : ∀ (x : List UInt8) (wx : World), goodT n x → Calls Try.prog 40 #[.string (str x), .int .i64 ((q : Int) - 1)] wx fun e w' => ∃ v, e = .returned v ∧ w'.ownsRow wx.heap.size 9 1 v (wl sgW allP m x).length (txs (wl sgW allP m x)) ∧ Below wx.heap.size wx w') :
    Calls Try.prog 40 #[.string (str y), .int .i64 q] w fun e w' => ∃ v, e = .returned v ∧ w'.ownsRow w.heap.size 9 1 v (wl sgW allP (m + 1) y).length (txs (wl sgW allP (m + 1) y)) ∧ Below w.heap.size w w' := by
  obtain ⟨j0, ji, jz0, jz1, jz2⟩ := info_parts Try.infoS
  have JI := Lib.hid ji
  have JZ0 := Lib.hid jz0
  have JZ1 := Lib.hid jz1
  have JZ2 := Lib.hid jz2
  have HG := Lib.hid hx
  have IH := Lib.hid H
  have HGL : Hid (goodL (str y) = true) := Lib.hid hx.1
  have hy1000 : (str y).size ≤ 1000 := by have h := hx.2; rw [str_size]; omega
  have HALL := Lib.hid (alW_all m y)
  have hL70 := alW_le 70 hm y
  have HLF : Hid (∀ z, ∀ u ∈ wl sgW allP m z, u.length = m) := Lib.hid fun z u hu => ((mem_wl sgW_tf _ _ _ _).1 hu).1
  have HML : Hid (∀ z, (wl sgW allP m z).length ≤ 549755813888) := Lib.hid fun z => Nat.le_trans (wl_le _ _ _) (Nat.le_trans (Nat.pow_le_pow_right (by omega) hm) (by decide))
  clear hx ji jz0 jz1 jz2 H
  have hz : ((q : Int) == 0) = false := by simp; omega
  have hw : IntKind.i64.wrap ((q : Int) - 1) = (q : Int) - 1 := by rw [IntKind.wrap_i64]; omega
  go_enter Try.func40, Try.ntmps40
  go_wp2
  go_loopw [5, 16] (fun o0 t wr => ∃ (i : Nat) (ov : Value), ov = o0 ∧ i ≤ 2 ∧ t = .int .i64 i ∧ Hid (wr.ownsRow (w.heap.size + 1) 9 1 ov (alI m y i).length (txs (alI m y i))) ∧ Below (w.heap.size + 1) (w.alloc (Obj.cells #[.string ⟨#[70]⟩, .string ⟨#[84]⟩] 9)) wr) (fun _ t _ => 2 - (intOf t).toNat)
  case atStart => exact ⟨0, _, rfl, by omega, rfl, Lib.hid (World.ownsRow_nil _ _ _ _), Below.refl _ _⟩
  case round =>
    obtain ⟨i, ov, rfl, hi, rfl, HO, hB⟩ := hrel
    have cF := (hB.cell (p := ⟨w.heap.size, 0, none⟩) (Nat.lt_succ_self _)).trans (show _ = some (Value.string ⟨#[70]⟩) by rw [World.cell?_alloc_new]; rfl)
    have cT := (hB.cell (p := ⟨w.heap.size, 1, none⟩) (Nat.lt_succ_self _)).trans (show _ = some (Value.string ⟨#[84]⟩) by rw [World.cell?_alloc_new]; rfl)
    rcases (show i = 0 ∨ i = 1 ∨ i = 2 by omega) with rfl | rfl | rfl
    · rw [show ((0 : Nat) : Int) = 0 from rfl]
      have HL0 : Hid (([] : List (List UInt8)).length ≤ 549755813888) := Lib.hid (by first | exact hL70 | simp)
      have HNO : Hid (sgW 70 y = none → (alW 70 m y) = ([] : List (List UInt8))) := Lib.hid fun h => by first | exact alW_none h | (show alW 70 m y ++ alW 84 m y = alW 70 m y; rw [alW_none h, List.append_nil])
      have HYES : Hid (∀ z, sgW 70 y = some z → (alW 70 m y) = ([] : List (List UInt8)) ++ (wl sgW allP m z).map (70 :: ·)) := Lib.hid fun z h => by first | (show alW 70 m y = [] ++ _; rw [alW_some h, List.nil_append]) | (show alW 70 m y ++ alW 84 m y = alW 70 m y ++ _; rw [alW_some h])
      replace HO : Hid (wr.ownsRow (w.heap.size + 1) 9 1 ov ([] : List (List UInt8)).length (txs ([] : List (List UInt8)))) := HO
      obtain ⟨L0, hL0⟩ : ∃ L, L = ([] : List (List UInt8)) := ⟨_, rfl⟩
      obtain ⟨L1, hL1⟩ : ∃ L, L = (alW 70 m y) := ⟨_, rfl⟩
      rw [← hL1] at HNO HYES
      rw [← hL0] at HL0 HO HNO HYES
      have HL1 : Hid (L1 = (alW 70 m y)) := Lib.hid hL1
      clear hL0 hL1
      go_wp2_with fail
      refine (liMoves_frog (str y) _ HGL.out).mono ?_
      rintro e w5 ⟨v5, rfl, ho5, hb5⟩
      have HH := Lib.hid (head_F y)
      generalize mvsTo (kindM false true (str y)) (str y) (str y).size = Mv at ho5 HH
      obtain ⟨A5, cap5, rfl, at5⟩ := at_of_own ho5
      have HB5 := Lib.hid (hB.trans (hb5.mono (le_one hB)))
      have HO5 := Lib.hid (own_below HO.out hb5)
      have AT5 := Lib.hid at5
      clear ho5 at5 hb5 hB
      cases Mv with
      | nil =>
        have hmv : mvW 70 y = none := HH.out.symm
        have HSG : Hid (L1 = L0) := Lib.hid (HNO.out (by unfold sgW; rw [hmv]; simp))
        clear hmv
        go_wp2
        go_roundw
        case rel => exact ⟨1, _, rfl, by omega, rfl, Lib.hid (by have h := HO5.out; rw [← HSG.out, HL1.out] at h; exact h), HB5.out⟩
        case measure => simp [intOf]
      | cons m0 Mr =>
        obtain ⟨p, r⟩ := m0
        have hmv : mvW 70 y = some (p, r) := HH.out.symm
        obtain ⟨hcan, hsgn⟩ := mvW_can hmv
        obtain ⟨a, b, ea, eb, ha, hb, hne⟩ := canM_in hcan
        have ea : p = a := ea
        have eb : r = b := eb
        subst ea; subst eb
        have HZ : Hid (sgW 70 y = some (putL (str y) a b)) := Lib.hid (by unfold sgW; rw [hmv]; rfl)
        have HZG : Hid (goodT n (putL (str y) a b)) := Lib.hid ((steps_line n).keeps _ _ HG.out (sgW_nx HZ.out))
        obtain ⟨g5, e5, hg5, m0, m1⟩ := AT5.out 0 (by simp)
        have m0 : w5.cell? ⟨g5, 0, none⟩ = some (.int .i64 (a : Int)) := m0
        have m1 : w5.cell? ⟨g5, 1, none⟩ = some (.int .i64 (b : Int)) := m1
        have hlen0 : (((((a : Int), (b : Int)) :: Mr).length : Int) == 0) = false := by simp; omega
        have hlen1 : (0 : Int) < (((((a : Int), (b : Int)) :: Mr).length : Nat) : Int) := by rw [List.length_cons]; omega
        subst e5
        clear hmv hcan hsgn
        generalize (((a : Int), (b : Int)) :: Mr).length = lenM at hlen0 hlen1
        go_wp2_with fail
        refine (liMake_any (str y) a b _ hy1000 ha hb hne).mono ?_
        rintro e w6 ⟨rfl, hb6⟩
        have HB6 := Lib.hid (HB5.out.trans (hb6.mono (le_one HB5.out)))
        have HO6 := Lib.hid (own_below HO5.out hb6)
        have m0 := (hb6.cell (p := ⟨g5, 0, none⟩) hg5).trans m0
        have m1 := (hb6.cell (p := ⟨g5, 1, none⟩) hg5).trans m1
        have hg6 : g5 < w6.heap.size := Nat.lt_of_lt_of_le hg5 hb6.size
        clear hb6
        generalize putL (str y) a b = z at HZ HZG
        have HY := Lib.hid (HYES.out z HZ.out)
        have HUL := Lib.hid (HLF.out z)
        have hML := HML.out z
        go_wp2_with fail
        refine (IH.out z _ HZG.out).mono ?_
        rintro e w7 ⟨v7, rfl, ho7, hb7⟩
        generalize wl sgW allP m z = M at ho7 HY HUL hML
        have HB7 := Lib.hid (HB6.out.trans (hb7.mono (le_one HB6.out)))
        have HO7 := Lib.hid (own_below HO6.out hb7)
        have hlt7 := fun q hq => ho7.lt q hq
        obtain ⟨A7, cap7, rfl, hcap7, _, at7, _⟩ := st_own ho7
        have AT7 := Lib.hid at7
        have HAP : Hid (Apt w7 A7 ov) := Lib.hid fun g0 e => by
          subst e
          have h := hlt7 g0 rfl
          exact ⟨h.2, fun e2 => by have h2 := (HO6.out.lt g0 e2).2; omega⟩
        clear ho7 at7 hb7 m0 m1 hlt7
        go_wp2
        go_loopw [5, 38] (fun v t wr => ∃ k : Nat, k ≤ M.length ∧ t = .int .i64 k ∧ Hid (wr.ownsRow (w.heap.size + 1) 9 1 v (L0 ++ (M.take k).map (70 :: ·)).length (txs (L0 ++ (M.take k).map (70 :: ·)))) ∧ Hid (StAt wr A7 M) ∧ Hid (Apt wr A7 v) ∧ Below (w.heap.size + 1) (w.alloc (Obj.cells #[.string ⟨#[70]⟩, .string ⟨#[84]⟩] 9)) wr) (fun _ t _ => M.length - (intOf t).toNat)
        case atStart => exact ⟨0, Nat.zero_le _, rfl, Lib.hid (by simpa using HO7.out), AT7, HAP, HB7.out⟩
        case round =>
          obtain ⟨k, hk, rfl, HOR, HAT, HAR, hBr⟩ := hrel
          by_cases hltk : k < M.length
          · obtain ⟨g8, e8, hg8, c8⟩ := HAT.out k hltk
            have HTK : Hid (L0 ++ (M.take (k + 1)).map (70 :: ·) = (L0 ++ (M.take k).map (70 :: ·)) ++ [70 :: M[k]]) := Lib.hid (by rw [List.take_succ_eq_append_getElem hltk, List.map_append, List.append_assoc]; rfl)
            have hul := HUL.out M[k] (List.getElem_mem hltk)
            have hlen : (L0 ++ (M.take k).map (70 :: ·)).length ≤ 1099511627776 := by have h := HL0.out; rw [List.length_append, List.length_map, List.length_take]; omega
            generalize L0 ++ (M.take k).map (70 :: ·) = N at HOR HTK hlen
            generalize M[k] = u at c8 HTK hul
            subst e8
            have hus : (str u).size ≤ 1000 := by rw [str_size]; omega
            have hcat : Hid ((⟨#[70]⟩ : ByteArray) ++ str u = str (70 :: u)) := Lib.hid (by show _ = str ([70] ++ u); rw [← str_app]; rfl)
            have i1 : (0 : Int) ≤ (k : Int) := by omega
            have i2 : (k : Int) < (M.length : Int) := by omega
            have H3 : N.length + 1 ≤ maxLen := by unfold maxLen; omega
            have H4 : (N.length + 1) * 16 ≤ 140737488355328 := by omega
            have hsz := le_one hBr
            have HBr := Lib.hid hBr
            clear hBr
            go_wp2_with (first | (at_builtin; refine wpList_append_lies _ rfl _ _ 30 rfl (w.heap.size + 1) 9 j0 (.string ByteArray.empty) 1 16 Try.underlying30 JI.out JZ0.out JZ1.out JZ2.out rfl (by decide) _ _ _ rfl (HOR.out.alloc _) ⟨wr.heap.size, 0, none⟩ 1 1 [.string ((⟨#[70]⟩ : ByteArray) ++ str u)] rfl rfl (cell_one_new _ _ _) (fun u hu => by simp at hu; subst hu; rfl) (by decide) H3 H4 (by simp; omega) _ rfl ?_; rotate_right; intro g7 cap7 w8 ho8 hg8' hw8 hl8; have HO8 := Lib.hid ho8; have HG8 := Lib.hid hg8'; have HL8 := Lib.hid hw8; clear ho8 hg8' hw8))
            · go_roundw
              case rel =>
                have hbA : Below wr.heap.size wr (wr.alloc (Obj.cells #[.string ((⟨#[70]⟩ : ByteArray) ++ str u)] 9)) := (Below.refl _ _).alloc (Nat.le_refl _) _
                have hAA := HAR.out.below hbA.size
                refine ⟨k + 1, by omega, by go_num, Lib.hid ?_, Lib.hid (st_app (HAT.out.below hbA) hAA HG8.out), Lib.hid (hAA.app HG8.out.size HL8.out), ?_⟩
                · rw [HTK.out, txs_app, List.length_append]
                  have h := HO8.out
                  rw [hcat.out] at h
                  exact h
                · exact (HBr.out.alloc hsz _).grown HG8.out (by simp; omega) (fun q hq => (HOR.out.lt q hq).1)
              case measure => simp [intOf]; omega
          · obtain rfl : k = M.length := by omega
            rw [List.take_length, ← HY.out] at HOR
            go_wp2
            go_roundw
            case rel => exact ⟨1, _, rfl, by omega, rfl, Lib.hid (by have h := HOR.out; rw [HL1.out] at h; exact h), hBr⟩
            case measure => simp [intOf]
    · rw [show ((1 : Nat) : Int) = 1 from rfl]
      have HL0 : Hid ((alW 70 m y).length ≤ 549755813888) := Lib.hid (by first | exact hL70 | simp)
      have HNO : Hid (sgW 84 y = none → (alW 70 m y ++ alW 84 m y) = (alW 70 m y)) := Lib.hid fun h => by first | exact alW_none h | (show alW 70 m y ++ alW 84 m y = alW 70 m y; rw [alW_none h, List.append_nil])
      have HYES : Hid (∀ z, sgW 84 y = some z → (alW 70 m y ++ alW 84 m y) = (alW 70 m y) ++ (wl sgW allP m z).map (84 :: ·)) := Lib.hid fun z h => by first | (show alW 70 m y = [] ++ _; rw [alW_some h, List.nil_append]) | (show alW 70 m y ++ alW 84 m y = alW 70 m y ++ _; rw [alW_some h])
      replace HO : Hid (wr.ownsRow (w.heap.size + 1) 9 1 ov (alW 70 m y).length (txs (alW 70 m y))) := HO
      obtain ⟨L0, hL0⟩ : ∃ L, L = (alW 70 m y) := ⟨_, rfl⟩
      obtain ⟨L1, hL1⟩ : ∃ L, L = (alW 70 m y ++ alW 84 m y) := ⟨_, rfl⟩
      rw [← hL1] at HNO HYES
      rw [← hL0] at HL0 HO HNO HYES
      have HL1 : Hid (L1 = (alW 70 m y ++ alW 84 m y)) := Lib.hid hL1
      clear hL0 hL1
      go_wp2_with fail
      refine (liMoves_toad (str y) _ HGL.out).mono ?_
      rintro e w5 ⟨v5, rfl, ho5, hb5⟩
      have HH := Lib.hid (head_T y)
      generalize mvsTo (kindM true false (str y)) (str y) (str y).size = Mv at ho5 HH
      obtain ⟨A5, cap5, rfl, at5⟩ := at_of_own ho5
      have HB5 := Lib.hid (hB.trans (hb5.mono (le_one hB)))
      have HO5 := Lib.hid (own_below HO.out hb5)
      have AT5 := Lib.hid at5
      clear ho5 at5 hb5 hB
      cases Mv with
      | nil =>
        have hmv : mvW 84 y = none := HH.out.symm
        have HSG : Hid (L1 = L0) := Lib.hid (HNO.out (by unfold sgW; rw [hmv]; simp))
        clear hmv
        go_wp2
        go_roundw
        case rel => exact ⟨2, _, rfl, by omega, rfl, Lib.hid (by have h := HO5.out; rw [← HSG.out, HL1.out] at h; exact h), HB5.out⟩
        case measure => simp [intOf]
      | cons m0 Mr =>
        obtain ⟨p, r⟩ := m0
        have hmv : mvW 84 y = some (p, r) := HH.out.symm
        obtain ⟨hcan, hsgn⟩ := mvW_can hmv
        obtain ⟨a, b, ea, eb, ha, hb, hne⟩ := canM_in hcan
        have ea : p = a := ea
        have eb : r = b := eb
        subst ea; subst eb
        have HZ : Hid (sgW 84 y = some (putL (str y) a b)) := Lib.hid (by unfold sgW; rw [hmv]; rfl)
        have HZG : Hid (goodT n (putL (str y) a b)) := Lib.hid ((steps_line n).keeps _ _ HG.out (sgW_nx HZ.out))
        obtain ⟨g5, e5, hg5, m0, m1⟩ := AT5.out 0 (by simp)
        have m0 : w5.cell? ⟨g5, 0, none⟩ = some (.int .i64 (a : Int)) := m0
        have m1 : w5.cell? ⟨g5, 1, none⟩ = some (.int .i64 (b : Int)) := m1
        have hlen0 : (((((a : Int), (b : Int)) :: Mr).length : Int) == 0) = false := by simp; omega
        have hlen1 : (0 : Int) < (((((a : Int), (b : Int)) :: Mr).length : Nat) : Int) := by rw [List.length_cons]; omega
        subst e5
        clear hmv hcan hsgn
        generalize (((a : Int), (b : Int)) :: Mr).length = lenM at hlen0 hlen1
        go_wp2_with fail
        refine (liMake_any (str y) a b _ hy1000 ha hb hne).mono ?_
        rintro e w6 ⟨rfl, hb6⟩
        have HB6 := Lib.hid (HB5.out.trans (hb6.mono (le_one HB5.out)))
        have HO6 := Lib.hid (own_below HO5.out hb6)
        have m0 := (hb6.cell (p := ⟨g5, 0, none⟩) hg5).trans m0
        have m1 := (hb6.cell (p := ⟨g5, 1, none⟩) hg5).trans m1
        have hg6 : g5 < w6.heap.size := Nat.lt_of_lt_of_le hg5 hb6.size
        clear hb6
        generalize putL (str y) a b = z at HZ HZG
        have HY := Lib.hid (HYES.out z HZ.out)
        have HUL := Lib.hid (HLF.out z)
        have hML := HML.out z
        go_wp2_with fail
        refine (IH.out z _ HZG.out).mono ?_
        rintro e w7 ⟨v7, rfl, ho7, hb7⟩
        generalize wl sgW allP m z = M at ho7 HY HUL hML
        have HB7 := Lib.hid (HB6.out.trans (hb7.mono (le_one HB6.out)))
        have HO7 := Lib.hid (own_below HO6.out hb7)
        have hlt7 := fun q hq => ho7.lt q hq
        obtain ⟨A7, cap7, rfl, hcap7, _, at7, _⟩ := st_own ho7
        have AT7 := Lib.hid at7
        have HAP : Hid (Apt w7 A7 ov) := Lib.hid fun g0 e => by
          subst e
          have h := hlt7 g0 rfl
          exact ⟨h.2, fun e2 => by have h2 := (HO6.out.lt g0 e2).2; omega⟩
        clear ho7 at7 hb7 m0 m1 hlt7
        go_wp2
        go_loopw [5, 38] (fun v t wr => ∃ k : Nat, k ≤ M.length ∧ t = .int .i64 k ∧ Hid (wr.ownsRow (w.heap.size + 1) 9 1 v (L0 ++ (M.take k).map (84 :: ·)).length (txs (L0 ++ (M.take k).map (84 :: ·)))) ∧ Hid (StAt wr A7 M) ∧ Hid (Apt wr A7 v) ∧ Below (w.heap.size + 1) (w.alloc (Obj.cells #[.string ⟨#[70]⟩, .string ⟨#[84]⟩] 9)) wr) (fun _ t _ => M.length - (intOf t).toNat)
        case atStart => exact ⟨0, Nat.zero_le _, rfl, Lib.hid (by simpa using HO7.out), AT7, HAP, HB7.out⟩
        case round =>
          obtain ⟨k, hk, rfl, HOR, HAT, HAR, hBr⟩ := hrel
          by_cases hltk : k < M.length
          · obtain ⟨g8, e8, hg8, c8⟩ := HAT.out k hltk
            have HTK : Hid (L0 ++ (M.take (k + 1)).map (84 :: ·) = (L0 ++ (M.take k).map (84 :: ·)) ++ [84 :: M[k]]) := Lib.hid (by rw [List.take_succ_eq_append_getElem hltk, List.map_append, List.append_assoc]; rfl)
            have hul := HUL.out M[k] (List.getElem_mem hltk)
            have hlen : (L0 ++ (M.take k).map (84 :: ·)).length ≤ 1099511627776 := by have h := HL0.out; rw [List.length_append, List.length_map, List.length_take]; omega
            generalize L0 ++ (M.take k).map (84 :: ·) = N at HOR HTK hlen
            generalize M[k] = u at c8 HTK hul
            subst e8
            have hus : (str u).size ≤ 1000 := by rw [str_size]; omega
            have hcat : Hid ((⟨#[84]⟩ : ByteArray) ++ str u = str (84 :: u)) := Lib.hid (by show _ = str ([84] ++ u); rw [← str_app]; rfl)
            have i1 : (0 : Int) ≤ (k : Int) := by omega
            have i2 : (k : Int) < (M.length : Int) := by omega
            have H3 : N.length + 1 ≤ maxLen := by unfold maxLen; omega
            have H4 : (N.length + 1) * 16 ≤ 140737488355328 := by omega
            have hsz := le_one hBr
            have HBr := Lib.hid hBr
            clear hBr
            go_wp2_with (first | (at_builtin; refine wpList_append_lies _ rfl _ _ 30 rfl (w.heap.size + 1) 9 j0 (.string ByteArray.empty) 1 16 Try.underlying30 JI.out JZ0.out JZ1.out JZ2.out rfl (by decide) _ _ _ rfl (HOR.out.alloc _) ⟨wr.heap.size, 0, none⟩ 1 1 [.string ((⟨#[84]⟩ : ByteArray) ++ str u)] rfl rfl (cell_one_new _ _ _) (fun u hu => by simp at hu; subst hu; rfl) (by decide) H3 H4 (by simp; omega) _ rfl ?_; rotate_right; intro g7 cap7 w8 ho8 hg8' hw8 hl8; have HO8 := Lib.hid ho8; have HG8 := Lib.hid hg8'; have HL8 := Lib.hid hw8; clear ho8 hg8' hw8))
            · go_roundw
              case rel =>
                have hbA : Below wr.heap.size wr (wr.alloc (Obj.cells #[.string ((⟨#[84]⟩ : ByteArray) ++ str u)] 9)) := (Below.refl _ _).alloc (Nat.le_refl _) _
                have hAA := HAR.out.below hbA.size
                refine ⟨k + 1, by omega, by go_num, Lib.hid ?_, Lib.hid (st_app (HAT.out.below hbA) hAA HG8.out), Lib.hid (hAA.app HG8.out.size HL8.out), ?_⟩
                · rw [HTK.out, txs_app, List.length_append]
                  have h := HO8.out
                  rw [hcat.out] at h
                  exact h
                · exact (HBr.out.alloc hsz _).grown HG8.out (by simp; omega) (fun q hq => (HOR.out.lt q hq).1)
              case measure => simp [intOf]; omega
          · obtain rfl : k = M.length := by omega
            rw [List.take_length, ← HY.out] at HOR
            go_wp2
            go_roundw
            case rel => exact ⟨2, _, rfl, by omega, rfl, Lib.hid (by have h := HOR.out; rw [HL1.out] at h; exact h), hBr⟩
            case measure => simp [intOf]
    · rw [show ((2 : Nat) : Int) = 2 from rfl]
      have HO2 : Hid (wr.ownsRow (w.heap.size + 1) 9 1 ov (wl sgW allP (m + 1) y).length (txs (wl sgW allP (m + 1) y))) := Lib.hid (by rw [HALL.out]; exact HO.out)
      go_wp2
      go_ret
      exact ⟨_, rfl, own_base HO2.out (by omega), (Below.alloc (Below.refl _ _) (Nat.le_refl _) _).trans (hB.mono (by simp))⟩
end Go.Proofs.Ytoefeooldcbfiaa
