/- Contract: all plays from a live line, the model's recursion: the loop. -/
import Derived.Test.YtfiifjcjmnhbnaaDoorSwAi
import Derived.Test.YtfiifjcjmnhbnaaDoorSwLm
namespace Go.Proofs.YtfiifjcjmnhbnaaDoor
open Go.RowKit Go.Shelf Go.Maps

/-- The plays that begin with one of the first j moves. -/
def alM (k : Nat) (l : List UInt8) (j : Nat) : List (List (Int × Int)) := (ftk l j).flatMap fun m => (allF k (behind (str l) m.1 m.2)).map (m :: ·)
theorem alM_zero (k : Nat) (l : List UInt8) : alM k l 0 = [] := by unfold alM; rw [ftk_zero]; rfl
theorem alM_all (k : Nat) (l : List UInt8) : alM k l (mvL l).length = allF (k + 1) l := by unfold alM; rw [ftk_all]; rfl
theorem alM_next (k : Nat) (l : List UInt8) (j : Nat) (h : j < (mvL l).length) : alM k l (j + 1) = if lvM l (mvL l)[j] then alM k l j ++ (allF k (behind (str l) (mvL l)[j].1 (mvL l)[j].2)).map ((mvL l)[j] :: ·) else alM k l j := by
  unfold alM
  rw [ftk_next l j h]
  split
  · rw [List.flatMap_append]; simp
  · rfl
theorem alM_le (k : Nat) (l : List UInt8) : ∀ d j, j + d = (mvL l).length → (alM k l j).length ≤ (allF (k + 1) l).length
  | 0, j, e => by rw [← alM_all, show j = (mvL l).length by omega]; exact Nat.le_refl _
  | d + 1, j, e => by
    have ih := alM_le k l d (j + 1) (by omega)
    rw [alM_next k l j (by omega)] at ih
    split at ih
    · rw [List.length_append] at ih; omega
    · exact ih
theorem step_append_ownS {P : Program} (w : World) {ops : Array Oper} {o : Oper} {a : Act} {K : Act → World → Prop} {Q : Exit → Act → World → Prop} {E : Prop} (hgd : o.guard = none) (s x : Operand) (t : TypeId)
    (ho : o.op = .call { callee := .builtin .append, args := #[s, x], argTypes := #[t, t] })
    (base : Nat) (e : TypeId) (i : TypeInfo) (z : Value) (size bytes : Nat) (ht : P.underlying t = some (.slice e)) (hi : P.info? e = some i) (hz : i.zero = some z)
    (hsize : i.size = size) (hby : i.bytes = bytes) (hzs : z.cells.size = size) (hsz : 0 < size)
    (v : Value) (n : Nat) (xs : List Value) (hs : a.eval s = v) (hown : w.ownsRow base e size v n xs)
    (ad : Addr) (m c : Nat) (news : List Value) (hx : a.eval x = .slice (some ad) m c) (hl : news.length = m * size) (hnews : ∀ j u, news[j]? = some u → w.cell? (ad.add j) = some u) (h1 : ∀ u ∈ news, u.oneCell' = true)
    (h63 : n + m ≤ maxLen) (hbytes : (n + m) * bytes ≤ 140737488355328) (hbase : base ≤ w.heap.size)
    (h : ∀ v' w', w'.ownsRow base e size v' (n + m) (xs ++ news) → w.grownBy w' v.ownBlock → K (a.put o.dst v') w') :
    if Region.wanted o (yielded ops a.tmps) = true then Oper.wp P o a w K Q else E := by
  have hw : Region.wanted o (yielded ops a.tmps) = true := by simp [Region.wanted, hgd]
  rw [if_pos hw]
  exact wp_append_own w s x t ho base e i z size bytes ht hi hz hsize hby hzs hsz v n xs hs hown ad m c news hx hl hnews h1 h63 hbytes hbase fun v' w' h2 h3 _ => h v' w' h2 h3
theorem own_noneB (X : World) (b lo : Nat) (hb : b = X.heap.size) (hlo : lo ≤ b) : (X.alloc (Obj.cells #[] 55)).ownsRow lo 55 2 (.slice (some ⟨b, 0, none⟩) 0 0) 0 [] := by
  subst hb
  exact own_lowA (own_noneM X) hlo
set_option maxRecDepth 100000 in
set_option maxHeartbeats 8000000 in
theorem swList_more (n k : Nat) (ih : MoAll n k) : MoAll n (k + 1) := by
  intro base B O l vp vs PS gv cv F w hg h0 hk hS hvm hap hbw hPS hF
  obtain ⟨i0, hi, hz0, hz1, hz2⟩ := info_parts Tryd.infoM
  have HI := Lib.hid hi
  have HZ0 := Lib.hid hz0
  have HZ1 := Lib.hid hz1
  have HZ2 := Lib.hid hz2
  clear hi hz0 hz1 hz2
  have hs12 : (str l).size ≤ 12 := ((goodL_iff _).1 hg.1).2.1
  have HLL := Lib.hid (fun wx => liLast_any (str l) wx (by omega))
  rw [byt_str] at HLL
  have hne : l ≠ lastL l := fun e => by
    have := (live_ms _ l hg (Nat.le_refl _) h0).2.2 e
    omega
  have hb : ((str l).toList == (str (lastL l)).toList) = false := by rw [same_str]; simpa using hne
  have HMV := Lib.hid (fun wx => liMoves_all (str l) wx hg.1)
  rw [sw_kinds, show mvsTo (canM (str l)) (str l) (str l).size = mvL l from rfl] at HMV
  have HFR := Lib.hid (fun x W ks (hx : goodT n x) hk => from_any _ B n x W ks rfl hx hk)
  have HAT : Hid (∀ j (h : j < (mvL l).length), ∃ a c : Nat, (mvL l)[j] = ((a : Int), (c : Int)) ∧ a < (str l).size ∧ c < (str l).size ∧ a ≠ c ∧ goodT n (putL (str l) a c) ∧ (0 < swN (putL (str l) a c) → msL (putL (str l) a c) = (k : Int))) := Lib.hid fun j h => by
    obtain ⟨a, c, e1, e2, ha, hc, hne, _⟩ := mvL_at l j h
    have hyx := mv_nx (List.getElem_mem h)
    rw [e1, e2, show behind (str l) (a : Int) (c : Int) = putL (str l) a c from rfl] at hyx
    exact ⟨a, c, Prod.ext e1 e2, ha, hc, hne, nx_good hg hyx, fun h0 => by have := (steps_line n).one l _ hg hyx; omega⟩
  have HTL := Lib.hid (allF_len (k + 1) l hg h0 hk)
  have HTA := Lib.hid (alM_all k l)
  have HT0 := Lib.hid (alM_zero k l)
  have HTN : Hid (∀ j (h : j < (mvL l).length), alM k l (j + 1) = if lvM l (mvL l)[j] then alM k l j ++ (allF k (behind (str l) (mvL l)[j].1 (mvL l)[j].2)).map ((mvL l)[j] :: ·) else alM k l j) := Lib.hid (alM_next k l)
  have HTLE : Hid (∀ j, j ≤ (mvL l).length → (alM k l j).length ≤ (allF (k + 1) l).length) := Lib.hid fun j h => alM_le k l ((mvL l).length - j) j (by omega)
  have HALL := Lib.hid (fun y (hy : goodT n y) (hy0 : 0 < swN y) (hyk : msL y = (k : Int)) => allF_len k y hy hy0 hyk)
  have HS := Lib.hid hS
  have HVM := Lib.hid hvm
  have HAP := Lib.hid hap
  have HIH := Lib.hid ih
  have hMle : (mvL l).length ≤ 12 := by have := mvL_le l; rw [str_size] at hs12; omega
  clear hS hvm hap hg hne ih h0 hk
  generalize hAF : allF (k + 1) l = AF at HTL HTA HTLE ⊢
  clear hAF
  generalize hTT : alM k l = TT at HT0 HTA HTN HTLE
  clear hTT
  go_enter Tryd.func12, Tryd.ntmps12
  go_wp2_with fail
  refine (HLL.out _).mono ?_
  rintro e w' ⟨rfl, rfl⟩
  go_wp2_with fail
  refine (HMV.out _).mono ?_
  rintro e w2 ⟨v2, rfl, ho2, hb2⟩
  obtain ⟨A2, cap2, rfl, at2⟩ := at_of_own ho2
  have HB2 := Lib.hid hb2
  have HG2 : Hid (∀ g, A2 = some ⟨g, 0, none⟩ → w.heap.size ≤ g) := Lib.hid fun g e => (ho2.lt g (by rw [e]; rfl)).1
  have AT2 := Lib.hid at2
  have hw2 : w.heap.size ≤ w2.heap.size := hb2.size
  have HR2 : Hid (MoR base B n O vp vs w2 (PS ++ (TT 0).map (F ++ ·)) w2) := Lib.hid (by
    rw [HT0.out]
    simp only [List.map_nil, List.append_nil]
    exact MoR.start (HS.out.below hb2))
  clear ho2 hb2 at2 HLL HMV hb
  generalize hMe : mvL l = M at *
  clear hMe
  go_wp2_with fail
  go_loopw [26] (fun t wr => ∃ j : Nat, j ≤ M.length ∧ t = .int .i64 j ∧ MoR base B n O vp vs w2 (PS ++ (TT j).map (F ++ ·)) wr) (fun t _ => M.length - (intOf t).toNat)
  case atStart => exact ⟨0, Nat.zero_le _, rfl, HR2.out⟩
  case round =>
    obtain ⟨j, hj, rfl, hR⟩ := hrel
    obtain ⟨U, hU⟩ : ∃ U : World, U = wr := ⟨_, rfl⟩
    subst hU
    have HR := Lib.hid hR
    clear HR2
    by_cases hlt : j < M.length
    · obtain ⟨a, c, hMj, ha, hc', hne, hgy, hyk⟩ := HAT.out j hlt
      obtain ⟨gm, rfl, hgm, m0, m1⟩ := AT2.out j hlt
      have hgw := HG2.out gm rfl
      have hblk : ∀ g, w.heap.size ≤ g → g < w2.heap.size → U.heap[g]? = w2.heap[g]? := fun g h1 h2 => hR.fr.keep g h2 (fun he => by
        obtain ⟨ks, hks⟩ := HS.out.kn
        have := hks.ex_old HB2.out he
        omega) (fun e => by have := HS.out.ltO; omega) (fun e => by have := (HS.out.pl.out.lt g e.symm).2; omega)
      replace m0 := (World.cell?_of_block (a := ⟨gm, j * 2, none⟩) (hblk gm hgw hgm)).trans m0
      replace m1 := (World.cell?_of_block (a := ⟨gm, j * 2 + 1, none⟩) (hblk gm hgw hgm)).trans m1
      rw [hMj] at m0 m1
      have m0 : U.cell? ⟨gm, j * 2, none⟩ = some (.int .i64 (a : Int)) := m0
      have m1 : U.cell? ⟨gm, j * 2 + 1, none⟩ = some (.int .i64 (c : Int)) := m1
      have j1 : (0 : Int) ≤ (j : Int) := by omega
      have j2 : (j : Int) < (M.length : Int) := by omega
      go_upto_block 1 with fail
      go_cut [9, 10] from 28 to 46 (fun s9 s10 wz => Hid (MoR base B n O vp vs w2 (PS ++ (TT (j + 1)).map (F ++ ·)) wz))
      case first =>
        obtain ⟨y, hy⟩ : ∃ y, y = putL (str l) a c := ⟨_, rfl⟩
        have hnext := HTN.out j hlt
        rw [hMj] at hnext
        have hlv : lvM l ((a : Int), (c : Int)) = decide (0 < swN (putL (str l) a c)) := rfl
        have hbe : behind (str l) (a : Int) (c : Int) = putL (str l) a c := rfl
        rw [hlv] at hnext
        rw [show behind (str l) ((a : Int), (c : Int)).1 ((a : Int), (c : Int)).2 = putL (str l) a c from rfl, ← hy] at hnext
        rw [← hy] at hgy hyk
        have HMK := Lib.hid (fun wx => liMake_any (str l) a c wx (by omega) ha hc' hne)
        rw [← hy] at HMK
        have HY := Lib.hid hgy
        have HYK := Lib.hid hyk
        have HNX := Lib.hid hnext
        clear hbe hlv hgy hyk hnext hy hMj hblk hne
        go_upto_region 5 with fail
        generalize hV1 : U.alloc (Obj.cells #[Value.int IntKind.i64 ↑a, Value.int IntKind.i64 ↑c] 55) = V1
        have hbv : Below U.heap.size U V1 := by rw [← hV1]; exact (Below.refl _ _).alloc (Nat.le_refl _) _
        have p0 : V1.cell? ⟨U.heap.size, 0, none⟩ = some (.int .i64 a) := by rw [← hV1, World.cell?_alloc_new]; rfl
        have p1 : V1.cell? ⟨U.heap.size, 1, none⟩ = some (.int .i64 c) := by rw [← hV1, World.cell?_alloc_new]; rfl
        have zv1 : U.heap.size < V1.heap.size := by rw [← hV1]; simp
        have HR1 := Lib.hid (HR.out.below hbv)
        have HBV := Lib.hid hbv
        clear hV1 hbv m0 m1 hR
        go_wp2_with fail
        refine (HMK.out _).mono ?_
        rintro e w3 ⟨rfl, hb3⟩
        have HR3 := Lib.hid (HR1.out.below hb3)
        have zv3 : U.heap.size < w3.heap.size := Nat.lt_of_lt_of_le zv1 hb3.size
        replace p0 := (hb3.cell (p := ⟨U.heap.size, 0, none⟩) zv1).trans p0
        replace p1 := (hb3.cell (p := ⟨U.heap.size, 1, none⟩) zv1).trans p1
        have HNE3 : Hid (¬ Ex B w3 U.heap.size) := Lib.hid fun he => by
          obtain ⟨⟨vpU, vsU, hmU, _⟩, _⟩ := HR.out
          obtain ⟨ksU, hkU⟩ := hmU.kn
          have := hkU.ex_old (HBV.out.trans (hb3.mono (Nat.le_of_lt zv1))) he
          omega
        have hkn3 : ∃ ks, EnW w3 B n ks := by
          obtain ⟨⟨vpU, vsU, hmU, _⟩, _⟩ := HR3.out
          exact hmU.kn
        obtain ⟨ks3, hk3⟩ := hkn3
        have HFY := Lib.hid (HFR.out y w3 ks3 HY.out hk3)
        clear hk3 hb3 HR1 HBV
        go_wp2_with fail
        refine HFY.out.mono ?_
        rintro e w4 ⟨rfl, ks4, hk4, _, hkp⟩
        have HR4 := Lib.hid (HR3.out.known hkp hk4)
        have zv4 : U.heap.size < w4.heap.size := Nat.lt_of_lt_of_le zv3 hkp.size
        have hbk := hkp.keep U.heap.size zv3 HNE3.out
        replace p0 := (World.cell?_of_block (a := ⟨U.heap.size, 0, none⟩) hbk).trans p0
        replace p1 := (World.cell?_of_block (a := ⟨U.heap.size, 1, none⟩) hbk).trans p1
        clear hk4 hkp hbk HFY HR3 HNE3 HR
        by_cases hpos : 0 < swN y
        · have hpi : (0 : Int) < (swN y : Int) := by omega
          have hNX := HNX.out
          rw [if_pos (by simpa using hpos)] at hNX
          obtain ⟨vp1, vs1, hM4, hnew, hold⟩ := HR4.out.st
          have hfr4 := HR4.out.fr
          have hw4 : base ≤ w4.heap.size := by have := hfr4.size; omega
          have hcnt : (PS ++ (TT j).map (F ++ ·)).length + swN y ≤ 1000 := by
            have h1 := HTLE.out (j + 1) (by omega)
            have h2 := HTL.out
            rw [hNX, List.length_append, List.length_map, HALL.out y HY.out hpos (HYK.out hpos)] at h1
            rw [List.length_append, List.length_map]
            omega
          have hvm2 := own_below HVM.out HB2.out
          have hS2 := HS.out.below HB2.out
          have hvm4 : w4.ownsRow base 55 2 (.slice (some ⟨gv, 0, none⟩) F.length cv) F.length (flat F) := own_blkS hvm2 fun g hg => hfr4.keep g (hvm2.lt g hg).2 (hS2.exM hvm2 g hg) (fun e => rows_apartS hvm2 hS2.out T_mo g hg (by rw [e]; rfl)) (fun e => rows_apartS hvm2 hS2.pl.out T_mm g hg e.symm)
          have HFIN : Hid (∀ (w6 : World) (g6 c6 : Nat), Below w4.heap.size w4 w6 → w6.ownsRow w4.heap.size 55 2 (.slice (some ⟨g6, 0, none⟩) (F.length + 1) c6) (F.length + 1) (flat F ++ [.int .i64 (a : Int), .int .i64 (c : Int)]) →
              Calls Tryd.prog 12 #[.pointer (some ⟨B, 0, none⟩), .string (str y), .slice (some ⟨g6, 0, none⟩) (F.length + 1) c6, .pointer (some ⟨O, 0, none⟩)] w6 fun e w7 => e = .returned (.tuple #[]) ∧ MoR base B n O vp vs w2 (PS ++ (TT (j + 1)).map (F ++ ·)) w7) := Lib.hid fun w6 g6 c6 hb6 hrow6 => by
            have hg6 := (hrow6.lt g6 rfl).1
            have e1 : flat (F ++ [((a : Int), (c : Int))]) = flat F ++ [.int .i64 (a : Int), .int .i64 (c : Int)] := by simp [flat]
            have e2 : (F ++ [((a : Int), (c : Int))]).length = F.length + 1 := by rw [List.length_append]; rfl
            have hcall := HIH.out base B O y vp1 vs1 (PS ++ (TT j).map (F ++ ·)) g6 c6 (F ++ [((a : Int), (c : Int))]) w6 HY.out hpos (HYK.out hpos) (hM4.below hb6) (by rw [e1, e2]; exact own_lowA hrow6 hw4) (fun x hx e => by
              obtain ⟨p, hp⟩ := hM4.pl.at hx
              have := (hp.lt g6 e).2
              omega) (by have := hb6.size; omega) hcnt (by rw [e2]; omega)
            rw [e2] at hcall
            refine hcall.mono fun e w7 h7 => ?_
            have := MoR.told (hfr4.then (row' := vp.ownBlock) (FrS.ofBelow hM4.lt hb6) (.inl rfl)) hnew hold (fun g e => by injection e with e; have e : g6 = g := e; have := hfr4.size; omega) h7
            rw [hNX, List.map_append, List.map_map, ← List.append_assoc]
            simpa [Function.comp_def] using this
          have HCV : Hid (∀ W', Below w4.heap.size w4 W' → ∀ j u, (flat F)[j]? = some u → W'.cell? ((⟨gv, 0, none⟩ : Addr).add j) = some u) := Lib.hid fun W' hb j u hu => by
            have h1 := hvm4.cells (g := gv) rfl j u hu
            rw [← h1]
            exact hb.cell (by have := (hvm4.lt gv rfl).2; simpa [addr_add] using this)
          have HFL : Hid ((flat F).length = F.length * 2) := Lib.hid hvm4.1
          have H1 : ∀ u ∈ [Value.int .i64 (a : Int), Value.int .i64 (c : Int)], u.oneCell' = true := fun u hu => by simp at hu; rcases hu with rfl | rfl <;> rfl
          have H3a : 0 + F.length ≤ maxLen := by unfold maxLen; omega
          have H4a : (0 + F.length) * 16 ≤ 140737488355328 := by omega
          have H3b : 0 + F.length + 1 ≤ maxLen := by unfold maxLen; omega
          have H4b : (0 + F.length + 1) * 16 ≤ 140737488355328 := by omega
          clear hfr4 hM4 hnew hold hcnt hvm2 hS2 hvm4 hNX hpos HR4
          generalize swN y = sy at hpi ⊢
          go_upto_region 7 with fail
          go_region_law (first
            | (refine step_append_ownS _ rfl _ _ 36 rfl w4.heap.size 55 i0 (.agg #[.int .i64 0, .int .i64 0]) 2 16 Tryd.underlying36 HI.out HZ0.out HZ1.out HZ2.out rfl (by decide) _ 0 [] rfl (own_noneB w4 _ _ rfl (Nat.le_refl _)) ⟨gv, 0, none⟩ F.length cv (flat F) rfl HFL.out (HCV.out _ (by repeat first | with_reducible exact Below.refl _ _ | with_reducible refine Below.drew ?_ | with_reducible refine Below.alloc ?_ (by simp) _)) (flat_oneM F) H3a H4a (by simp <;> omega) ?_; intro v1 w5 ho5 hg5; have hg5 : World.grownBy _ w5 (some (w4.heap.size)) := hg5; have hB5 : Below w4.heap.size w4 w5 := Below.grown (by repeat first | with_reducible exact Below.refl _ _ | with_reducible refine Below.drew ?_ | with_reducible refine Below.alloc ?_ (by simp) _) hg5 (by simp <;> omega) (fun j hj => by injection hj with hj; omega); have p0 := (hB5.cell (p := ⟨U.heap.size, 0, none⟩) zv4).trans p0; have p1 := (hB5.cell (p := ⟨U.heap.size, 1, none⟩) zv4).trans p1)
            | (refine step_append_ownS _ rfl _ _ 36 rfl w4.heap.size 55 i0 (.agg #[.int .i64 0, .int .i64 0]) 2 16 Tryd.underlying36 HI.out HZ0.out HZ1.out HZ2.out rfl (by decide) _ 0 [] rfl ((own_noneB w4 w4.heap.size _ rfl (Nat.le_refl _)).alloc _) ⟨gv, 0, none⟩ F.length cv (flat F) rfl HFL.out (HCV.out _ (by repeat first | with_reducible exact Below.refl _ _ | with_reducible refine Below.drew ?_ | with_reducible refine Below.alloc ?_ (by simp) _)) (flat_oneM F) H3a H4a (by simp <;> omega) ?_; intro v1 w5 ho5 hg5; have hg5 : World.grownBy _ w5 (some (w4.heap.size)) := hg5; have hB5 : Below w4.heap.size w4 w5 := Below.grown (by repeat first | with_reducible exact Below.refl _ _ | with_reducible refine Below.drew ?_ | with_reducible refine Below.alloc ?_ (by simp) _) hg5 (by simp <;> omega) (fun j hj => by injection hj with hj; omega); have p0 := (hB5.cell (p := ⟨U.heap.size, 0, none⟩) zv4).trans p0; have p1 := (hB5.cell (p := ⟨U.heap.size, 1, none⟩) zv4).trans p1; have hcM : ∀ j u, [Value.int .i64 (a : Int), Value.int .i64 (c : Int)][j]? = some u → w5.cell? ((⟨w4.heap.size + 1, 0, none⟩ : Addr).add j) = some u := fun j u hu => (hg5.cell_far _ (by simp [addr_add]) (by simp [addr_add])).trans (by have := cell_two_new (w4.alloc (Obj.cells #[] 55)) (.int .i64 (a : Int)) (.int .i64 (c : Int)) 55 j u hu; simpa using this))
            | (refine step_append_ownS _ rfl _ _ 36 rfl w4.heap.size 55 i0 (.agg #[.int .i64 0, .int .i64 0]) 2 16 Tryd.underlying36 HI.out HZ0.out HZ1.out HZ2.out rfl (by decide) _ 0 [] rfl (own_noneB (w4.alloc (Obj.cells #[.int .i64 (a : Int), .int .i64 (c : Int)] 55)) (w4.heap.size + 1) _ (by simp) (by omega)) ⟨gv, 0, none⟩ F.length cv (flat F) rfl HFL.out (HCV.out _ (by repeat first | with_reducible exact Below.refl _ _ | with_reducible refine Below.drew ?_ | with_reducible refine Below.alloc ?_ (by simp) _)) (flat_oneM F) H3a H4a (by simp <;> omega) ?_; intro v1 w5 ho5 hg5; have hg5 : World.grownBy _ w5 (some (w4.heap.size + 1)) := hg5; have hB5 : Below w4.heap.size w4 w5 := Below.grown (by repeat first | with_reducible exact Below.refl _ _ | with_reducible refine Below.drew ?_ | with_reducible refine Below.alloc ?_ (by simp) _) hg5 (by simp <;> omega) (fun j hj => by injection hj with hj; omega); have p0 := (hB5.cell (p := ⟨U.heap.size, 0, none⟩) zv4).trans p0; have p1 := (hB5.cell (p := ⟨U.heap.size, 1, none⟩) zv4).trans p1; have hcM : ∀ j u, [Value.int .i64 (a : Int), Value.int .i64 (c : Int)][j]? = some u → w5.cell? ((⟨w4.heap.size, 0, none⟩ : Addr).add j) = some u := fun j u hu => (hg5.cell_far _ (by simp [addr_add]; try omega) (by simp [addr_add])).trans ((((Below.refl (w4.heap.size + 1) (w4.alloc (Obj.cells #[.int .i64 (a : Int), .int .i64 (c : Int)] 55))).alloc (by simp) (Obj.cells #[] 55)).cell (by simp [addr_add])).trans (cell_two_new w4 (.int .i64 (a : Int)) (.int .i64 (c : Int)) 55 j u hu)))
            | (refine step_append_ownS _ rfl _ _ 36 rfl w4.heap.size 55 i0 (.agg #[.int .i64 0, .int .i64 0]) 2 16 Tryd.underlying36 HI.out HZ0.out HZ1.out HZ2.out rfl (by decide) _ (0 + F.length) _ rfl (ho5.alloc _) ⟨w5.heap.size, 0, none⟩ 1 1 [.int .i64 (a : Int), .int .i64 (c : Int)] rfl rfl (cell_two_new w5 _ _ _) H1 H3b H4b (by have := hB5.size; simp; omega) ?_; intro v2 w6 ho6 hg6; have hB6 : Below w4.heap.size w4 w6 := Below.grown (hB5.alloc hB5.size (Obj.cells #[.int .i64 (a : Int), .int .i64 (c : Int)] 55)) hg6 (by have := hB5.size; simp; omega) (fun j hj => (ho5.lt j hj).1); obtain ⟨g6, c6, rfl, _, _⟩ := ho6.form (by omega); rw [Nat.zero_add, List.nil_append] at ho6; have HO6 := Lib.hid ho6)
            | (refine step_append_ownS _ rfl _ _ 36 rfl w4.heap.size 55 i0 (.agg #[.int .i64 0, .int .i64 0]) 2 16 Tryd.underlying36 HI.out HZ0.out HZ1.out HZ2.out rfl (by decide) _ (0 + F.length) _ rfl ho5 ⟨w4.heap.size + 1, 0, none⟩ 1 1 [.int .i64 (a : Int), .int .i64 (c : Int)] rfl rfl hcM H1 H3b H4b (by have := hB5.size; omega) ?_; intro v2 w6 ho6 hg6; have hB6 : Below w4.heap.size w4 w6 := Below.grown hB5 hg6 (by have := hB5.size; omega) (fun j hj => (ho5.lt j hj).1); obtain ⟨g6, c6, rfl, _, _⟩ := ho6.form (by omega); rw [Nat.zero_add, List.nil_append] at ho6; have HO6 := Lib.hid ho6)
            | (refine step_append_ownS _ rfl _ _ 36 rfl w4.heap.size 55 i0 (.agg #[.int .i64 0, .int .i64 0]) 2 16 Tryd.underlying36 HI.out HZ0.out HZ1.out HZ2.out rfl (by decide) _ (0 + F.length) _ rfl ho5 ⟨w4.heap.size, 0, none⟩ 1 1 [.int .i64 (a : Int), .int .i64 (c : Int)] rfl rfl hcM H1 H3b H4b (by have := hB5.size; omega) ?_; intro v2 w6 ho6 hg6; have hB6 : Below w4.heap.size w4 w6 := Below.grown hB5 hg6 (by have := hB5.size; omega) (fun j hj => (ho5.lt j hj).1); obtain ⟨g6, c6, rfl, _, _⟩ := ho6.form (by omega); rw [Nat.zero_add, List.nil_append] at ho6; have HO6 := Lib.hid ho6)
            | (go_simp; go_at_call 12; refine (HFIN.out w6 g6 c6 hB6 HO6.out).mono ?_; rintro e w7 ⟨rfl, hr7⟩))
          all_goals (go_wp2_with fail; go_meet)
          all_goals exact Lib.hid hr7
        · have hpi : ¬ (0 : Int) < (swN y : Int) := by omega
          have hNX := HNX.out
          rw [if_neg (by simpa using hpos)] at hNX
          have HR9 := HR4.out
          rw [← hNX] at HR9
          have HRX := Lib.hid HR9
          clear HR9 hNX hpos HR4
          generalize swN y = sy at hpi ⊢
          go_wp2_with fail
          go_meet
          exact HRX
      case rest =>
        have HR9 := hcut
        go_wp2_with fail
        go_roundw
        case rel => exact ⟨j + 1, by omega, by go_num, HR9.out⟩
        case measure => simp [intOf]; omega
    · obtain rfl : j = M.length := by omega
      have hR2 := HR.out
      rw [HTA.out] at hR2
      have HRE := Lib.hid hR2
      clear hR2 HR hR
      go_wp2_with fail
      refine bodyPost_ret (results_none rfl _ _ _) rfl ?_
      obtain ⟨⟨vp1, vs1, a1, a2, a3⟩, a4⟩ := HRE.out
      exact ⟨rfl, vp1, vs1, a1, (FrS.ofBelow HS.out.lt HB2.out).then a4 (.inl rfl), a2.imp id fun h g e => Nat.le_trans hw2 (h g e), fun x hx => (a3 x hx).imp id fun h => .inr fun g e => Nat.le_trans hw2 (h g e)⟩
theorem swList_any (n : Nat) : ∀ k, MoAll n k
  | 0 => fun base B O l vp vs PS gv cv F w hg h0 hk hS hvm hap hbw hPS _ => by
    have := swList_end base B n O l vp vs PS _ F w hg ((live_ms _ l hg (Nat.le_refl _) h0).2.1 (by omega)) hS hvm (fun x hx g hg e => by
      injection e with e
      have e : gv = g := e
      subst e
      exact hap x hx hg) hbw (by omega)
    simpa [allF] using this
  | k + 1 => swList_more n k (swList_any n k)
end Go.Proofs.YtfiifjcjmnhbnaaDoor
