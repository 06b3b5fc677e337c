/- Contracts: the best moves: the predicate, and the library's deletion in a list of moves. -/
import Derived.Test.YtflpncdnneapmaaGmS
import Derived.Test.YtflpncdnneapmaaDelG
namespace Go.Proofs.Ytflpncdnneapmaa
open Go.RowKit Go.Maps Go.Shelf

set_option maxRecDepth 100000 in
set_option maxHeartbeats 4000000 in
theorem bestPred_any (L B Bt Br Bs : Nat) (tm : Bool) (s : List UInt8) (a b Bw Bu : Nat) (W : World) (ha : a < s.length) (hb : b < s.length) (hne : a ≠ b) (hx : putL (str s) a b ∈ nxG tm s) (hN : TellNext L B Bt Br Bs tm s) (hI : TellI W L B Bt Br Bs)
    (hw : W.cell? ⟨Bw, 0, none⟩ = some (telV Bt Br Bs)) (hu0 : W.cell? ⟨Bu, 0, none⟩ = some (.string (str s))) (hu1 : W.cell? ⟨Bu, 1, none⟩ = some (.int .u8 (kd tm).toNat)) (hlw : Bw < W.heap.size) (hlu : Bu < W.heap.size) (hwB : Bw ≠ B) (huB : Bu ≠ B) :
    Calls Try.prog 74 #[.agg #[.int .i64 a, .int .i64 b], .pointer (some ⟨Bw, 0, none⟩), .pointer (some ⟨Bu, 0, none⟩)] W fun e W' => e = .returned (.bool (Wn (!tm) (putL (str s) a b))) ∧ TellI W' L B Bt Br Bs ∧ KpM B W W' := by
  have HBH := Lib.hid (fun wx => tnBehind_any tm s a b wx ha hb hne)
  have HT := Lib.hid (fun wx => hN _ hx wx)
  have HI := Lib.hid hI
  have hBl := hI.map.lt
  clear hN hx hI
  generalize putL (str s) a b = y at HBH HT
  go_enter Try.func74, Try.ntmps74
  go_wp2
  obtain ⟨W1, hW1⟩ : ∃ W1, W1 = W.alloc (mvB a b) := ⟨_, rfl⟩
  rw [← hW1]
  have c0 : W1.cell? ⟨Bw, 0, none⟩ = some (telV Bt Br Bs) := by rw [hW1, cell_old _ _ _ _ hlw]; exact hw
  have c1 : W1.cell? ⟨Bu, 0, none⟩ = some (.string (str s)) := by rw [hW1, cell_old _ _ _ _ hlu]; exact hu0
  have c2 : W1.cell? ⟨Bu, 1, none⟩ = some (.int .u8 (kd tm).toNat) := by rw [hW1, cell_old _ _ _ _ hlu]; exact hu1
  have c3 : W1.cell? ⟨W.heap.size, 0, none⟩ = some (.int .i64 a) := by rw [hW1, World.cell?_alloc_new]; rfl
  have c4 : W1.cell? ⟨W.heap.size, 1, none⟩ = some (.int .i64 b) := by rw [hW1, World.cell?_alloc_new]; rfl
  have hz : W1.heap.size = W.heap.size + 1 := by rw [hW1]; simp
  have HB1 : Hid (Below W.heap.size W W1) := by rw [hW1]; exact Lib.hid ((Below.refl _ _).alloc (Nat.le_refl _) _)
  have z0 : Bw < W1.heap.size := by omega
  have z1 : Bu < W1.heap.size := by omega
  have z2 : W.heap.size < W1.heap.size := by omega
  have zB : W.heap.size ≠ B := by omega
  clear hW1 hw hu0 hu1
  go_region_held3 (fun w' => w'.cell? ⟨Bw, 0, none⟩ = some (telV Bt Br Bs) ∧ w'.cell? ⟨Bu, 0, none⟩ = some (.string (str s)) ∧ w'.cell? ⟨Bu, 1, none⟩ = some (.int .u8 (kd tm).toNat) ∧ w'.cell? ⟨W.heap.size, 0, none⟩ = some (.int .i64 a) ∧ w'.cell? ⟨W.heap.size, 1, none⟩ = some (.int .i64 b)) (first | exact ⟨c0, c1, c2, c3, c4⟩ | exact ⟨(hb2.cell z0).trans c0, (hb2.cell z1).trans c1, (hb2.cell z1).trans c2, (hb2.cell z2).trans c3, (hb2.cell z2).trans c4⟩ | exact ⟨(hk3.cell (Nat.lt_of_lt_of_le z0 hb2.size) hwB).trans ((hb2.cell z0).trans c0), (hk3.cell (Nat.lt_of_lt_of_le z1 hb2.size) huB).trans ((hb2.cell z1).trans c1), (hk3.cell (Nat.lt_of_lt_of_le z1 hb2.size) huB).trans ((hb2.cell z1).trans c2), (hk3.cell (Nat.lt_of_lt_of_le z2 hb2.size) zB).trans ((hb2.cell z2).trans c3), (hk3.cell (Nat.lt_of_lt_of_le z2 hb2.size) zB).trans ((hb2.cell z2).trans c4)⟩) (first | (go_at_call 42; refine (HBH.out _).mono ?_; rintro e w2 ⟨rfl, hb2⟩) | (go_at_call 99; refine (HT.out _ (by first | exact HI.out.below ((Below.drew HB1.out).trans (hb2.mono (by simp; omega))) | exact HI.out.below (HB1.out.trans (hb2.mono (by omega))))).mono ?_; rintro e w3 ⟨rfl, hI3, hk3⟩))
  go_wp2
  go_ret
  refine ⟨rfl, hI3, ?_⟩
  exact (KpM.below ((Below.drew HB1.out).trans (hb2.mono (by simp; omega)))).trans hk3

/-- The frame of a deletion: what lies below the list, but for one map. -/
structure KpN (B n : Nat) (W W' : World) : Prop where
  os : W'.os = W.os
  tape : W'.tape = W.tape
  output : W'.output = W.output
  size : W.heap.size ≤ W'.heap.size
  far : ∀ k, k ≠ B → k < n → k < W.heap.size → W'.heap[k]? = W.heap[k]?
theorem KpN.ofT {B g n : Nat} {W W' : World} (h : KpT B g W W') (hg : n ≤ g) : KpN B n W W' := ⟨h.os, h.tape, h.output, h.size, fun k h1 h2 h3 => h.far k h1 (by omega) h3⟩
theorem KpN.ofM {B n : Nat} {W W' : World} (h : KpM B W W') : KpN B n W W' := ⟨h.os, h.tape, h.output, h.size, fun k h1 _ h3 => h.far.2 k (fun e => h1 (by injection e)) h3⟩
theorem own_kpM {B : Nat} {W W' : World} (hk : KpM B W W') {base n size : Nat} {e : TypeId} {v : Value} {xs : List Value} (h : W.ownsRow base e size v n xs) (hne : ∀ k, v.ownBlock = some k → k ≠ B) : W'.ownsRow base e size v n xs := by
  refine ⟨h.1, ?_⟩
  rcases h.2 with h2 | ⟨g, cap, cur, rfl, hb, hg, r⟩
  · exact .inl h2
  · refine .inr ⟨g, cap, cur, rfl, hb, (hk.far.2 g (fun e => hne g rfl (by injection e)) (h.lt g rfl).2).trans hg, r⟩
theorem own_short {W : World} {base n k size g cap : Nat} {e : TypeId} {xs : List Value} (h : W.ownsRow base e size (.slice (some ⟨g, 0, none⟩) n cap) n xs) (hk : k ≤ n) : W.ownsRow base e size (.slice (some ⟨g, 0, none⟩) k cap) k (xs.take (k * size)) := by
  have hl := h.1
  have hle : k * size ≤ n * size := Nat.mul_le_mul_right _ hk
  refine ⟨by rw [List.length_take, hl]; omega, ?_⟩
  rcases h.2 with ⟨h', _⟩ | ⟨g', cap', cur, h', hb, hg, hnc, hcm, hcs, htake⟩
  · simp at h'
  · simp only [Value.slice.injEq, Option.some.injEq, Addr.mk.injEq, and_true, true_and] at h'
    obtain ⟨rfl, rfl⟩ := h'
    refine .inr ⟨g, cap, cur, rfl, hb, hg, by omega, hcm, hcs, ?_⟩
    rw [← htake, List.take_take, Nat.min_eq_left hle]
theorem own_setCells {base n size g cap m : Nat} {e : TypeId} : ∀ (vs : List Value) (o : Nat) (W : World) (xs : List Value), m ≤ o → W.ownsRow base e size (.slice (some ⟨g, 0, none⟩) n cap) n xs → ∃ xs', (W.setCells g o vs).ownsRow base e size (.slice (some ⟨g, 0, none⟩) n cap) n xs' ∧ xs'.take m = xs.take m
  | [], _, _, xs, _, h => ⟨xs, h, rfl⟩
  | u :: r, o, W, xs, hm, h => by
    rw [World.setCells]
    obtain ⟨xs', h1, h2⟩ := own_setCells (m := m) r (o + 1) _ _ (by omega) (h.stored o u).1
    exact ⟨xs', h1, by rw [h2, List.take_set_of_le hm]⟩
theorem flat_setD : ∀ (C : List (Int × Int)) (a : Nat) (m : Int × Int), ((flat C).set (a * 2) (.int .i64 m.1)).set (a * 2 + 1) (.int .i64 m.2) = flat (C.set a m)
  | [], _, _ => by simp [flat]
  | c :: C, 0, m => by simp [flat]
  | c :: C, a + 1, m => by
    have ih := flat_setD C a m
    have e1 : (a + 1) * 2 = a * 2 + 1 + 1 := by omega
    rw [e1]
    simp only [flat, List.flatMap_cons, List.set_cons_succ] at ih ⊢
    simp only [List.cons_append, List.nil_append, List.set_cons_succ]
    rw [ih]
theorem flat_take : ∀ (C : List (Int × Int)) (a : Nat), (flat C).take (a * 2) = flat (C.take a)
  | [], _ => by simp [flat]
  | c :: C, 0 => by simp [flat]
  | c :: C, a + 1 => by
    have ih := flat_take C a
    have e1 : (a + 1) * 2 = a * 2 + 1 + 1 := by omega
    rw [e1]
    simp only [flat, List.flatMap_cons, List.take_succ_cons] at ih ⊢
    simp only [List.cons_append, List.nil_append, List.take_succ_cons]
    rw [ih]
theorem mv_ownD {w : World} {base : Nat} {v : Value} {l : List (Int × Int)} (h : w.ownsRow base 31 2 v l.length (flat l)) : ∃ A cap, v = .slice A l.length cap ∧ MvAt w A l := by
  obtain ⟨A, cap, e, h⟩ := at_of_own h
  exact ⟨A, cap, e, h⟩
set_option maxRecDepth 100000 in
set_option maxHeartbeats 8000000 in
theorem deleteM_any (g : Nat) (lb : Array Value) (eg : ∀ args w, (callFunc g args).run Try.prog w = .ok (.enter g args) w) (B : Nat) (I : World → Prop) (L : List (Int × Int)) (p : Nat → Bool) (base : Nat) (v : Value) (w : World) (hown : w.ownsRow base 31 2 v L.length (flat L)) (hvB : ∀ k, v.ownBlock = some k → k ≠ B)
    (hp : ∀ j (h : j < L.length) W, I W → Calls Try.prog g (#[.agg #[.int .i64 L[j].1, .int .i64 L[j].2]] ++ lb) W fun e W' => e = .returned (.bool (p j)) ∧ I W' ∧ KpM B W W') (hI : I w) (hset : ∀ W k o x, v.ownBlock = some k → I W → I (W.setCell ⟨k, o, none⟩ x)) (halloc : ∀ W o, I W → I (W.alloc o)) (hBw : B < w.heap.size) (hn : L.length ≤ 1000) :
    Calls Try.prog 72 #[v, .func (.func g) #[] lb] w fun e w' => ∃ A c, e = .returned (.slice A (keepG p L L.length).length c) ∧ w'.ownsRow base 31 2 (.slice A (keepG p L L.length).length c) (keepG p L L.length).length (flat (keepG p L L.length)) ∧ I w' ∧ KpN B base w w' := by
  obtain ⟨A, cap, rfl, hat⟩ := mv_ownD hown
  have hAne : ∀ a, A = some a → a.block ≠ B := fun a e => hvB _ (by rw [e]; rfl)
  have HIX := Lib.hid (indexM_any g lb eg B I L p A cap w (fun j h W hI _ => hp j h W hI) hn hat hAne hI)
  have HP := Lib.hid hp
  have HSET := Lib.hid hset
  have HO := Lib.hid hown
  have HVB := Lib.hid hvB
  have HAL := Lib.hid halloc
  clear hown hat hAne hp hset hvB halloc
  go_enter Try.func72, Try.ntmps72
  go_wp2_with fail
  refine HIX.out.mono ?_
  rintro e w1 ⟨r, rfl, hr, hI1, hK1⟩
  have HO1 := Lib.hid (own_kpM hK1 HO.out HVB.out)
  have HI1 := Lib.hid hI1
  have HK1 := Lib.hid hK1
  clear hI1 hK1 HIX hI
  rcases hr with ⟨i, hi, rfl, hpi, hno⟩ | ⟨rfl, hno⟩
  · have hne' : ∃ gR, A = some ⟨gR, 0, none⟩ ∧ base ≤ gR := by
      rcases HO1.out.2 with ⟨hv, h0⟩ | ⟨g1, cap1, cur, hv, hb, _⟩
      · omega
      · injection hv with e1 _ _
        exact ⟨g1, e1, hb⟩
    obtain ⟨gR, rfl, hgb⟩ := hne'
    have hRB : gR ≠ B := HVB.out gR rfl
    have hRlt : gR < w.heap.size := (HO.out.lt gR rfl).2
    have HS := Lib.hid (DelG.start hi hpi hno)
    have hne : ((i : Int) == -1) = false := beq_eq_false_iff_ne.2 (by omega)
    have HT1 : Hid (KpT B gR w w1) := Lib.hid (KpT.ofM HK1.out)
    have HSE : Hid (∀ W o x, I W → I (W.setCell ⟨gR, o, none⟩ x)) := Lib.hid fun W o x => HSET.out W gR o x rfl
    clear hpi hno HK1 HO HVB HSET
    go_wp2
    go_loopw [5, 6, 7] (fun x y _ wr => ∃ (a b : Nat) (C : List (Int × Int)), x = .int .i64 a ∧ y = .int .i64 b ∧ Hid (DelG p L C a b) ∧ Hid (wr.ownsRow base 31 2 (.slice (some ⟨gR, 0, none⟩) L.length cap) L.length (flat C)) ∧ Hid (I wr) ∧ Hid (KpT B gR w wr)) (fun _ y _ _ => L.length - (intOf y).toNat)
    case atStart => exact ⟨i, i + 1, L, rfl, by go_num, HS, HO1, HI1, HT1⟩
    case round =>
      obtain ⟨a, b, C, rfl, rfl, HD, HO, HIW, HT⟩ := hrel
      have hab := HD.out.lt
      have hbl := HD.out.ble
      have hcl := HD.out.len
      have hzr := HT.out.size
      clear HT1 HO1 HI1 HS
      by_cases hlt : b < L.length
      · obtain ⟨hc, he⟩ := HD.out.at hlt
        have c0 := (HO.out.cellAt (b * 2) (by omega)).trans (flat_at C b hc).1
        have c1 := (HO.out.cellAt (b * 2 + 1) (by omega)).trans (flat_at C b hc).2
        rw [he] at c0 c1
        have i1 : (0 : Int) ≤ (b : Int) := by omega
        have i2 : (b : Int) < (L.length : Int) := by omega
        have HC := Lib.hid (HP.out b hlt)
        have HN := Lib.hid (fun h => HD.out.skip hlt h)
        have HPT := Lib.hid (fun h => HD.out.put hlt h)
        clear he hc
        generalize L[b] = m at c0 c1 HC HPT
        obtain ⟨mx, my⟩ := m
        cases hq : p b
        · have HQ := Lib.hid (HPT.out hq)
          rw [hq] at HC
          clear hq
          have j1 : (0 : Int) ≤ (a : Int) := by omega
          have j2 : (a : Int) < (L.length : Int) := by omega
          go_wp2_with (go_at_fn g; refine (HC.out _ (HAL.out _ _ HIW.out)).mono ?_; rintro e w' ⟨rfl, hI', hK'⟩; have HI' := Lib.hid hI'; have HK' := Lib.hid hK'; have HO' := Lib.hid (own_kpM hK' (HO.out.alloc _) (fun k hk => by injection hk with hk; rw [← hk]; exact hRB)); have d0 : w'.cell? ⟨wr.heap.size, 0, none⟩ = some (.int .i64 mx) := (hK'.cell (by simp) (by omega)).trans (by rw [World.cell?_alloc_new]; rfl); have d1 : w'.cell? ⟨wr.heap.size, 1, none⟩ = some (.int .i64 my) := (hK'.cell (by simp) (by omega)).trans (by rw [World.cell?_alloc_new]; rfl); have f0 := HO'.out.frozenAt (a * 2); have f1 := HO'.out.frozenAt (a * 2 + 1); have e0 := (HO'.out.cellAt (a * 2) (by omega)).trans (flat_at C a (by omega)).1; have e1 := (HO'.out.cellAt (a * 2 + 1) (by omega)).trans (flat_at C a (by omega)).2; clear hI' hK')
          go_roundw
          case rel =>
            refine ⟨a + 1, b + 1, _, by go_num, by go_num, HQ, Lib.hid ?_, Lib.hid (HSE.out _ _ _ (HSE.out _ _ _ HI'.out)), Lib.hid (((HT.out.trans (KpT.ofM (KpM.below ((Below.refl _ _).alloc (Nat.le_refl _) _)))).trans (KpT.ofM HK'.out)).set _ _ |>.set _ _)⟩
            rw [← flat_setD C a (mx, my)]
            exact ((HO'.out.stored (a * 2) _).1.stored (a * 2 + 1) _).1
          case measure => simp [intOf]; omega
        · have HQ := Lib.hid (HN.out hq)
          rw [hq] at HC
          clear hq
          go_wp2_with (go_at_fn g; refine (HC.out _ (HAL.out _ _ HIW.out)).mono ?_; rintro e w' ⟨rfl, hI', hK'⟩; have HI' := Lib.hid hI'; have HK' := Lib.hid hK'; have HO' := Lib.hid (own_kpM hK' (HO.out.alloc _) (fun k hk => by injection hk with hk; rw [← hk]; exact hRB)); clear hI' hK')
          go_roundw
          case rel =>
            exact ⟨a, b + 1, C, rfl, by go_num, HQ, HO', HI', Lib.hid ((HT.out.trans (KpT.ofM (KpM.below ((Below.refl _ _).alloc (Nat.le_refl _) _)))).trans (KpT.ofM HK'.out))⟩
          case measure => simp [intOf]; omega
      · obtain rfl : b = L.length := by omega
        have hal := HD.out.alen
        have hfr := HD.out.front
        have hzl : (Builtin.zeroCells (Value.agg #[.int .i64 0, .int .i64 0]).cells (L.length - a)).toList.length = (L.length - a) * 2 := by
          rw [Array.length_toList, size_zeroCells]; rfl
        have hcl2 := fun ty => run_clear_any (P := Try.prog) wr 22 31 ty (.agg #[.int .i64 0, .int .i64 0]) Try.underlying22 (fun w => by kernel_rfl) gR (a * 2) (L.length - a) (cap - a) (by omega)
          (fun j hj => by
            rw [hzl] at hj
            rw [HO.out.cellAt (a * 2 + j) (by omega), List.getElem?_eq_getElem (by rw [flat_len, hcl]; omega)]
            rfl)
          (fun j _ => HO.out.frozenAt (a * 2 + j))
          (fun v hv => by
            unfold Builtin.zeroCells at hv
            simp at hv
            obtain ⟨i, _, rfl⟩ := hv
            rcases (by omega : i % 2 = 0 ∨ i % 2 = 1) with h | h <;> simp [Value.cells, h] <;> rfl)
        clear hzl
        obtain ⟨xs', hx1, hx2⟩ := own_setCells (m := a * 2) (Builtin.zeroCells (Value.agg #[.int .i64 0, .int .i64 0]).cells (L.length - a)).toList (a * 2) wr (flat C) (Nat.le_refl _) HO.out
        have hx3 := own_short hx1 (k := a) (by omega)
        rw [hx2, flat_take, hfr] at hx3
        have HFIN := Lib.hid hx3
        have HKT := Lib.hid (KpT.setCells (Builtin.zeroCells (Value.agg #[.int .i64 0, .int .i64 0]).cells (L.length - a)).toList (a * 2) wr HT.out)
        have HIS : Hid (∀ (vs : List Value) (o : Nat) (W : World), I W → I (W.setCells gR o vs)) := Lib.hid (by
          intro vs
          induction vs with
          | nil => exact fun _ _ h => h
          | cons u r ih => exact fun o W h => by rw [World.setCells]; exact ih _ _ (HSE.out _ _ _ h))
        have HIF := Lib.hid (HIS.out (Builtin.zeroCells (Value.agg #[.int .i64 0, .int .i64 0]).cells (L.length - a)).toList (a * 2) wr HIW.out)
        have HALL := Lib.hid hal
        have j1 : (0 : Int) ≤ (a : Int) := by omega
        have j2 : (a : Int) ≤ (L.length : Int) := by omega
        have j3 : (L.length : Int) ≤ (cap : Int) := by
          rcases HO.out.2 with ⟨hv, _⟩ | ⟨g1, cap1, cur, hv, _, _, h1, _⟩
          · cases hv
          · injection hv with _ _ e3
            omega
        clear hal hfr hcl hx1 hx2 hx3 HD HT HO HIW
        generalize (Builtin.zeroCells (Value.agg #[.int .i64 0, .int .i64 0]).cells (L.length - a)).toList = ZC at *
        go_wp2
        go_ret
        exact ⟨some ⟨gR, 0, none⟩, cap, by rw [← HALL.out]; rfl, by rw [← HALL.out]; exact HFIN.out, HIF.out, KpN.ofT HKT.out hgb⟩
  · have HK := Lib.hid (keepG_none p L L.length (Nat.le_refl _) hno)
    rw [List.take_length] at HK
    clear hno
    go_wp2
    go_ret
    exact ⟨A, cap, by rw [HK.out]; rfl, by rw [HK.out]; exact HO1.out, HI1.out, KpN.ofM HK1.out⟩
end Go.Proofs.Ytflpncdnneapmaa
