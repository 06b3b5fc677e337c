/- LiveMoves: contracts of both sides and the law's walk. -/
import Derived.Test.YtjadnfnpbacfdaaDoorSwRc
import Derived.Test.YtjadnfnpbacfdaaDoorSwLm
namespace Go.Proofs.YtjadnfnpbacfdaaDoor
open Go.RowKit Go.Shelf Go.Maps

/-- copy of a string longer than what it is copied into. -/
theorem run_copy_take {P : Program} (w : World) (dT sT ty elem : TypeId) (b o dLen dCap : Nat) (t : ByteArray)
    (hu : P.underlying dT = some (.slice elem)) (hz : ∀ w, (Go.sizeOf elem).run P w = .ok 1 w) (hle : dLen ≤ t.size)
    (hc : ∀ j, j < dLen → (w.cell? ⟨b, o + j, none⟩).isSome = true) (hf : ∀ j, j < dLen → w.frozen? ⟨b, o + j, none⟩ = false) :
    (Builtin.copy_ #[dT, sT] ty #[.slice (some ⟨b, o, none⟩) dLen dCap, .string t]).run P w = .ok (goInt dLen) (w.setCells b o ((t.data.toList.map fun x => Value.int .u8 (x.toNat : Int)).take dLen)) := by
  have hmin : Nat.min t.size dLen = dLen := Nat.min_eq_right hle
  have hl0 : (t.data.toList.map fun x => Value.int .u8 (x.toNat : Int)).length = t.size := by rw [List.length_map, ← Lib.size_eq]
  have hl : ((t.data.toList.map fun x => Value.int .u8 (x.toNat : Int)).take dLen).length = dLen := by rw [List.length_take, hl0]; exact Nat.min_eq_left hle
  have hst := run_storeCells_cells (P := P) b o ((t.data.toList.map fun x => Value.int .u8 (x.toNat : Int)).take dLen) 0 w (by rw [hl]; simpa using hc) (by rw [hl]; simpa using hf) (by
    intro v hv
    obtain ⟨x, _, rfl⟩ := List.mem_map.1 (List.mem_of_mem_take hv)
    rfl)
  simp [Builtin.copy_, run_underlying hu, Builtin.lenOf, Builtin.firstCells, hz, hmin]
  rw [hst]
  rfl
set_option maxRecDepth 100000 in
set_option maxHeartbeats 1000000 in
theorem swpOf_long (s : ByteArray) (w : World) (hs : 8 ≤ s.size) :
    Calls Tryd.prog 62 #[.string s] w fun e w' => e = .returned (swpV ((byt s).take 8)) ∧ Below w.heap.size w w' := by
  obtain ⟨W2, hW2⟩ : ∃ W2, W2 = (w.alloc zwO).alloc zwO := ⟨_, rfl⟩
  have hb1 : W2.heap[w.heap.size + 1]? = some zwO := by rw [hW2]; show ((w.heap.push zwO).push zwO)[w.heap.size + 1]? = _; rw [Array.getElem?_push, Array.size_push, if_pos rfl]
  have hb0 : W2.heap[w.heap.size]? = some zwO := by rw [hW2]; show ((w.heap.push zwO).push zwO)[w.heap.size]? = _; simp [Array.getElem?_push]
  have HB : Hid (Below w.heap.size w W2) := Lib.hid (by rw [hW2]; exact ((Below.refl _ _).alloc (Nat.le_refl _) _).alloc (by simp) _)
  have th : ∀ b, W2.heap[b]? = some zwO → W2.there b 0 8 := fun b hb j hj => by
    unfold World.cell? World.frozen?
    rw [Nat.zero_add, hb]
    rcases (by omega : j = 0 ∨ j = 1 ∨ j = 2 ∨ j = 3 ∨ j = 4 ∨ j = 5 ∨ j = 6 ∨ j = 7) with rfl | rfl | rfl | rfl | rfl | rfl | rfl | rfl <;> exact ⟨rfl, rfl⟩
  have hT : ((byt s).take 8).length = 8 := by rw [List.length_take, byt_len]; omega
  have hcp := fun ty => run_copy_take (P := Tryd.prog) W2 117 9 ty 5 (w.heap.size + 1) 0 8 8 s Tryd.underlying117 Tryd.sizeOf5 hs (fun j hj => (th _ hb1 j (by omega)).1) (fun j hj => (th _ hb1 j (by omega)).2)
  have e8 : ((s.data.toList.map fun x => Value.int .u8 (x.toNat : Int)).take 8) = u8s ((byt s).take 8) := by unfold u8s byt; rw [List.map_take]
  rw [e8] at hcp
  obtain ⟨W3, hW3⟩ : ∃ W3, W3 = W2.setCells (w.heap.size + 1) 0 (u8s ((byt s).take 8)) := ⟨_, rfl⟩
  have hcp2 : ∀ ty, (Builtin.copy_ #[117, 9] ty #[.slice (some ⟨w.heap.size + 1, 0, none⟩) 8 8, .string s]).run Tryd.prog W2 = .ok (goInt 8) W3 := by rw [hW3]; exact hcp
  have hp8 : swpP ((byt s).take 8) = (byt s).take 8 := by unfold swpP; rw [hT]; simp
  have hl9 : (u8s (swpP ((byt s).take 8))).length = 8 := by rw [hp8, u8s_len]; exact hT
  have HRG : Hid (W3.rangeAt (w.heap.size + 1) 0 (u8s (swpP ((byt s).take 8)))) := Lib.hid (by
    rw [hW3, hp8]
    refine World.rangeAt_setCells_same _ _ _ _ ?_
    rw [u8s_len, hT]
    exact th _ hb1)
  have HTH : Hid (W3.there w.heap.size 0 (u8s (swpP ((byt s).take 8))).toArray.size) := Lib.hid (by
    have e9 : (u8s (swpP ((byt s).take 8))).toArray.size = 8 := by rw [List.size_toArray]; exact hl9
    rw [hW3, e9]
    exact World.there_setCells (th _ hb0) _ _ _)
  have HB3 : Hid (Below w.heap.size w W3) := Lib.hid (by rw [hW3]; exact below_setCells (by omega) _ _ _ HB.out)
  have hi1 : (Tryd.prog.info? 53).map (·.size) = some (u8s (swpP ((byt s).take 8))).length := by rw [Tryd.infoSwl, hl9]
  have hi2 : (Tryd.prog.info? 53).map (·.size) = some (u8s (swpP ((byt s).take 8))).toArray.size := by rw [List.size_toArray]; exact hi1
  have h1c := all_oneCell_toArray (u8s_one8 (swpP ((byt s).take 8)))
  have HI1 := Lib.hid hi1
  have HI2 := Lib.hid hi2
  have H1C := Lib.hid h1c
  have HL9 := Lib.hid hl9
  clear hcp hb0 hb1 th hi1 hi2 h1c hl9 HB hp8 hT e8
  unfold swpV
  generalize u8s (swpP ((byt s).take 8)) = cs at HRG HTH HI1 HI2 H1C HL9
  go_enter Tryd.func62, Tryd.ntmps62
  go_wp2
  rw [← hW2, hcp2]
  clear hW2 hcp2 hW3
  simp only [Result.andThen]
  rw [Oper.upon_value]
  go_wp2_with (first | (refine wpList_load_mid rfl 53 (.tmp 3) rfl (w.heap.size + 1) 0 rfl cs _ HRG.out Tryd.underlying53 rfl HI1.out ?_) | (refine wpList_store_mid rfl 53 (.tmp 2) (.tmp 7) rfl w.heap.size 0 cs.toArray rfl rfl HTH.out HI2.out H1C.out ?_))
  have hth : W3.there w.heap.size 0 cs.length := by have := HTH.out; rwa [List.size_toArray] at this
  exact bodyPost_ret (results_swp _ _ w.heap.size cs rfl (World.rangeAt_setCells_same _ _ _ _ hth) HL9.out) rfl ⟨rfl, below_setCells (Nat.le_refl _) _ _ _ HB3.out⟩
/-- Whatever text: some eight cells. -/
theorem swpOf_some (s : ByteArray) : ∃ c0 c1 c2 c3 c4 c5 c6 c7 : Int, ∀ w, Calls Tryd.prog 62 #[.string s] w fun e w' => e = .returned (.agg #[.int .u8 c0, .int .u8 c1, .int .u8 c2, .int .u8 c3, .int .u8 c4, .int .u8 c5, .int .u8 c6, .int .u8 c7]) ∧ Below w.heap.size w w' := by
  by_cases h : s.size ≤ 8
  · obtain ⟨c0, c1, c2, c3, c4, c5, c6, c7, hc⟩ := eight_of (l := byt s) (by rw [byt_len]; exact h)
    refine ⟨c0, c1, c2, c3, c4, c5, c6, c7, fun w => ?_⟩
    rw [← hc.val]
    exact swpOf_any s w h
  · obtain ⟨c0, c1, c2, c3, c4, c5, c6, c7, hc⟩ := eight_of (l := (byt s).take 8) (by rw [List.length_take]; omega)
    refine ⟨c0, c1, c2, c3, c4, c5, c6, c7, fun w => ?_⟩
    rw [← hc.val]
    exact swpOf_long s w (by omega)
/-- A live line's live moves. -/
def lmB (s : ByteArray) : Bool := lineB s && liveB (byt s)
def lmL (s : ByteArray) : List (Int × Int) := if lmB s then lvL (byt s) else []
def LmPost (s : ByteArray) (w : World) (e : Ending) (w' : World) : Prop :=
  ∃ v, e = .returned (.tuple #[v, .bool (lmB s)]) ∧ w'.ownsRow w.heap.size 64 2 v (lmL s).length (flat (lmL s)) ∧ Below w.heap.size w w'
theorem lm_yes {s : ByteArray} {w w' : World} {e : Ending} (h : lmB s = true) (hp : FxYes (lvL (byt s)) w e w') : LmPost s w e w' := by
  obtain ⟨v, he, ho, hb⟩ := hp
  exact ⟨v, by rw [h]; exact he, by unfold lmL; rw [if_pos h]; exact ho, hb⟩
theorem lm_no {s : ByteArray} {w w' : World} {e : Ending} (h : lmB s = false) (hp : FxNo w e w') : LmPost s w e w' := by
  obtain ⟨he, hb⟩ := hp
  refine ⟨_, by rw [h]; exact he, ?_, hb⟩
  unfold lmL
  rw [if_neg (by rw [h]; decide)]
  exact World.ownsRow_nil _ _ _ _
set_option maxRecDepth 100000 in
set_option maxHeartbeats 4000000 in
theorem liveMoves_no1 (s : ByteArray) (w : World) (hs : s.size ≤ maxLen) (h : lineB s = false) : Calls Tryd.prog 35 #[.string s] w (FxNo w) := by
  have HL := Lib.hid (fun wx => llOf_no s wx hs h)
  obtain ⟨c0, c1, c2, c3, c4, c5, c6, c7, ho⟩ := swpOf_some s
  have HO := Lib.hid ho
  clear h ho
  go_enter Tryd.func35, Tryd.ntmps35
  go_wp2_with fail
  refine (HL.out _).mono ?_
  rintro e w1 ⟨rfl, hb1⟩
  go_wp2_with fail
  refine (HO.out _).mono ?_
  rintro e w2 ⟨rfl, hb2⟩
  have HB := Lib.hid (hb1.trans (hb2.mono hb1.size))
  clear hb1 hb2
  go_wp2_with fail
  go_ret2
  exact ⟨rfl, HB.out.alloc HB.out.size _⟩
set_option maxRecDepth 100000 in
set_option maxHeartbeats 4000000 in
theorem liveMoves_line (l : List UInt8) (w : World) (h : lineB (str l) = true) : Calls Tryd.prog 35 #[.string (str l)] w (LmPost (str l) w) := by
  have HL := Lib.hid (fun wx => llOf_yes l wx h)
  obtain ⟨hg, ht, h8, hf⟩ := line_parts h
  have hgf := fs_good h
  have HO := Lib.hid (fun wx => swpOf_any (str l) wx (by rw [str_size]; exact h8))
  rw [byt_str] at HO
  have HLA := Lib.hid (fun x (hx : x ∈ swA (fsL l)) => G8.of (swA_good hgf x hx) h8)
  have HG8 := Lib.hid (G8.of ht h8)
  obtain ⟨c0, c1, c2, c3, c4, c5, c6, c7, hc⟩ := eight_of h8
  have HH := Lib.hid (fun b k D wx hm hv => liveHas_any l (swA (fsL l)) b k D wx HG8.out hm hv HLA.out)
  have HMO := Lib.hid (fun hin bm k D wx hm hv => movesOn_any _ (fsL l) l bm k D wx hgf h8 hin hm hv)
  rw [hc.val] at HO HH HMO
  unfold LlYes at HL
  have hin : liveB l = true → l ∈ swA (fsL l) := fun hl => by
    unfold liveB lvN at hl
    by_cases e : l ∈ swA (fsL l)
    · exact e
    · rw [if_neg e] at hl; cases hl
  have HIN := Lib.hid hin
  have HDE : Hid (decide (0 < lvN (swA (fsL l)) l) = liveB l) := Lib.hid rfl
  rw [HDE.out] at HH
  have hlm : lmB (str l) = liveB l := by unfold lmB; rw [h, byt_str, Bool.true_and]
  cases hb : liveB l
  · have HQ := Lib.hid (fun e w' => lm_no (s := str l) (w := w) (w' := w') (e := e) (by rw [hlm, hb]))
    rw [hb] at HH
    clear hc h hg ht h8 hf hgf HLA HG8 hin HIN HDE hlm hb HMO
    generalize swA (fsL l) = A at *
    generalize str l = s at *
    go_enter Tryd.func35, Tryd.ntmps35
    go_wp2_with fail
    refine (HL.out _).mono ?_
    rintro e w1 ⟨bm, D, rfl, hbm, hmap, hlv, hb1⟩
    have HM := Lib.hid hmap
    have HV := Lib.hid hlv
    have HB := Lib.hid hb1
    clear hmap hlv hb1
    go_wp2_with fail
    refine (HO.out _).mono ?_
    rintro e w2 ⟨rfl, hb2⟩
    have HM2 := Lib.hid (HM.out.kept (grown_of_below hb2) (by simp))
    have HB2 := Lib.hid (HB.out.trans (hb2.mono HB.out.size))
    have HM3 := Lib.hid (HM2.out.alloc (Obj.cells #[.int .u8 c0, .int .u8 c1, .int .u8 c2, .int .u8 c3, .int .u8 c4, .int .u8 c5, .int .u8 c6, .int .u8 c7] 53))
    have HB3 := Lib.hid (HB2.out.alloc HB2.out.size (Obj.cells #[.int .u8 c0, .int .u8 c1, .int .u8 c2, .int .u8 c3, .int .u8 c4, .int .u8 c5, .int .u8 c6, .int .u8 c7] 53))
    clear hb2
    go_wp2_with fail
    refine (HH.out _ _ _ _ HM3.out HV.out).mono ?_
    rintro e w4 ⟨rfl, hb4⟩
    have HB4 := Lib.hid (HB3.out.trans (hb4.mono HB3.out.size))
    clear hb4
    go_wp2_with fail
    go_ret2
    exact HQ.out _ _ ⟨rfl, HB4.out⟩
  · have HQ := Lib.hid (fun e w' => lm_yes (s := str l) (w := w) (w' := w') (e := e) (by rw [hlm, hb]))
    rw [byt_str] at HQ
    rw [hb] at HH
    have HMN := Lib.hid (HMO.out (hin hb))
    clear hc h hg ht h8 hf hgf HLA HG8 hin HIN HDE hlm hb HMO
    generalize swA (fsL l) = A at *
    generalize lvL l = L at *
    generalize str l = s at *
    go_enter Tryd.func35, Tryd.ntmps35
    go_wp2_with fail
    refine (HL.out _).mono ?_
    rintro e w1 ⟨bm, D, rfl, hbm, hmap, hlv, hb1⟩
    have HM := Lib.hid hmap
    have HV := Lib.hid hlv
    have HB := Lib.hid hb1
    clear hmap hlv hb1
    go_wp2_with fail
    refine (HO.out _).mono ?_
    rintro e w2 ⟨rfl, hb2⟩
    have HM2 := Lib.hid (HM.out.kept (grown_of_below hb2) (by simp))
    have HB2 := Lib.hid (HB.out.trans (hb2.mono HB.out.size))
    have hx := Box8.new w2 c0 c1 c2 c3 c4 c5 c6 c7
    have HX := Lib.hid hx
    have HM3 := Lib.hid (HM2.out.alloc (Obj.cells #[.int .u8 c0, .int .u8 c1, .int .u8 c2, .int .u8 c3, .int .u8 c4, .int .u8 c5, .int .u8 c6, .int .u8 c7] 53))
    have HB3 := Lib.hid (HB2.out.alloc HB2.out.size (Obj.cells #[.int .u8 c0, .int .u8 c1, .int .u8 c2, .int .u8 c3, .int .u8 c4, .int .u8 c5, .int .u8 c6, .int .u8 c7] 53))
    clear hb2 hx
    go_wp2_with fail
    refine (HH.out _ _ _ _ HM3.out HV.out).mono ?_
    rintro e w4 ⟨rfl, hb4⟩
    have HB4 := Lib.hid (HB3.out.trans (hb4.mono HB3.out.size))
    have HM4 := Lib.hid (HM3.out.kept (grown_of_below hb4) (by simp))
    have hx4 := HX.out.kept (grown_of_below hb4) (by simp)
    obtain ⟨q0, q1, q2, q3, q4, q5, q6, q7⟩ := hx4.cells.zero
    clear hb4 hx4
    go_wp2_with fail
    refine (HMN.out _ _ _ _ HM4.out HV.out).mono ?_
    rintro e w5 ⟨v, rfl, ho5, hb5⟩
    have HO5 := Lib.hid (own_lowerW ho5 HB4.out.size)
    have HB5 := Lib.hid (HB4.out.trans (hb5.mono HB4.out.size))
    clear ho5 hb5 q0 q1 q2 q3 q4 q5 q6 q7
    go_wp2_with fail
    go_ret2
    exact HQ.out _ _ ⟨v, rfl, HO5.out, HB5.out⟩
theorem liveMoves_any (s : ByteArray) (w : World) (hs : s.size ≤ maxLen) : Calls Tryd.prog 35 #[.string s] w (LmPost s w) := by
  cases h : lineB s
  · exact (liveMoves_no1 s w hs h).mono fun e w' hp => lm_no (by unfold lmB; rw [h]; rfl) hp
  · obtain ⟨l, rfl⟩ : ∃ l, s = str l := ⟨byt s, (str_byt s).symm⟩
    exact liveMoves_line l w h
set_option maxRecDepth 100000 in
set_option maxHeartbeats 4000000 in
theorem sLiveMoves_any (s : ByteArray) (w : World) (hs : s.size ≤ maxLen) : Calls Tryd.prog 34 #[.string s] w (LmPost s w) := by
  have HG := Lib.hid (fun wx => swLine_any s wx hs)
  cases h : lineB s
  · have HQ := Lib.hid (fun e w' => lm_no (s := s) (w := w) (w' := w') (e := e) (by unfold lmB; rw [h]; rfl))
    rw [h] at HG
    clear h
    go_enter Tryd.func34, Tryd.ntmps34
    go_wp2_with fail
    refine (HG.out _).mono ?_
    rintro e w1 ⟨rfl, rfl⟩
    go_wp2_with fail
    go_ret2
    exact HQ.out _ _ ⟨rfl, (Below.refl _ _).alloc (Nat.le_refl _) _⟩
  · obtain ⟨l, rfl⟩ : ∃ l, s = str l := ⟨byt s, (str_byt s).symm⟩
    have ht := (line_parts h).2.1
    have hlm : lmB (str l) = liveB l := by unfold lmB; rw [h, byt_str, Bool.true_and]
    rw [h] at HG
    have HL := Lib.hid (fun B W ks hk => swIsLive_any B l W ks h hk)
    have HLM := Lib.hid (fun B W ks hk => swLiveMoves_any B _ l W ks ht hk)
    cases hb : liveB l
    · have HQ := Lib.hid (fun e w' => lm_no (s := str l) (w := w) (w' := w') (e := e) (by rw [hlm, hb]))
      rw [hb] at HL
      clear hlm hb ht h HLM
      go_enter Tryd.func34, Tryd.ntmps34
      go_wp2_with fail
      refine (HG.out _).mono ?_
      rintro e w1 ⟨rfl, rfl⟩
      go_wp2_with fail
      refine (HL.out _ _ [] (EnW.new w _)).mono ?_
      rintro e w3 ⟨rfl, _, hkp⟩
      have hn := EnW.new w l.length
      have HB3 := Lib.hid (((Below.refl w.heap.size w).alloc (Nat.le_refl _) (.cells #[.slice none 0 0, .slice none 0 0] 69)).trans (hkp.to_below (by simp) (fun k he => (hn.ex_in k he).1)))
      clear hkp hn
      go_wp2_with fail
      go_ret2
      exact HQ.out _ _ ⟨rfl, HB3.out⟩
    · have HQ := Lib.hid (fun e w' => lm_yes (s := str l) (w := w) (w' := w') (e := e) (by rw [hlm, hb]))
      rw [byt_str] at HQ
      rw [hb] at HL
      clear hlm hb ht h
      go_enter Tryd.func34, Tryd.ntmps34
      go_wp2_with fail
      refine (HG.out _).mono ?_
      rintro e w1 ⟨rfl, rfl⟩
      go_wp2_with fail
      refine (HL.out _ _ [] (EnW.new w _)).mono ?_
      rintro e w3 ⟨rfl, ⟨ks3, hk3⟩, hkp3⟩
      have HK3 := Lib.hid hk3
      have HP3 := Lib.hid hkp3
      clear hk3 hkp3
      go_wp2_with fail
      refine (HLM.out _ _ _ HK3.out).mono ?_
      rintro e w4 ⟨v, rfl, ho4, _, hkp4⟩
      have hn := EnW.new w l.length
      have HB4 := Lib.hid (((Below.refl w.heap.size w).alloc (Nat.le_refl _) (.cells #[.slice none 0 0, .slice none 0 0] 69)).trans ((HP3.out.trans hkp4).to_below (by simp) (fun k he => (hn.ex_in k he).1)))
      have HO4 : Hid (∃ u, u = v ∧ w4.ownsRow w.heap.size 64 2 u (lvL l).length (flat (lvL l))) := Lib.hid ⟨v, rfl, own_lowerW ho4 (by have := HP3.out.size; simp at this; omega)⟩
      clear ho4 hkp4 hn
      go_wp2_with fail
      go_ret2
      obtain ⟨u, rfl, hu⟩ := HO4.out
      exact HQ.out _ _ ⟨u, rfl, hu, HB4.out⟩
theorem lmL_len (s : ByteArray) : (lmL s).length ≤ 200 := by
  unfold lmL
  split
  · rename_i h
    have h1 : lineB s = true := by unfold lmB at h; rw [Bool.and_eq_true] at h; exact h.1
    have h2 := (line_parts (l := byt s) (by rw [str_byt]; exact h1)).2.2.1
    have h3 : (lvL (byt s)).length ≤ (mvL (byt s)).length := List.length_filter_le _ _
    have := mvL_le (byt s)
    omega
  · simp
set_option maxRecDepth 100000 in
set_option maxHeartbeats 4000000 in
theorem walk_FnExactLiveMoves (s : ByteArray) (hs : s.size ≤ maxLen) (w : World) :
    Calls Tryd.prog 10 #[.string s] w fun e w' => e = .returned (.bool true) ∧ Below w.heap.size w w' := by
  by_cases hbig : (1048576 : Int) < (s.size : Int)
  · go_enter Tryd.func10, Tryd.ntmps10
    go_wp2
    go_ret
    exact ⟨rfl, Below.refl _ _⟩
  · have HS := Lib.hid (fun wx => sLiveMoves_any s wx hs)
    have HP := Lib.hid (fun wx => liveMoves_any s wx hs)
    have hL := lmL_len s
    unfold LmPost at HS HP
    generalize lmL s = L at *
    generalize lmB s = b at *
    go_enter Tryd.func10, Tryd.ntmps10
    go_wp2_with fail
    refine (HS.out _).mono ?_
    rintro e w2 ⟨v0, rfl, ho2, hb2⟩
    obtain ⟨A0, cap0, rfl, _⟩ := at_of_own ho2
    have L0 : Hid (∀ k, (Value.slice A0 L.length cap0).ownBlock = some k → k < w2.heap.size) := fun k e => (ho2.lt k e).2
    have O0 := Lib.hid ho2
    have hB2 := Lib.hid hb2
    have z2 := hb2.size
    clear ho2 hb2
    go_wp2_with fail
    refine (HP.out _).mono ?_
    rintro e w4 ⟨v4, rfl, ho4, hb4⟩
    obtain ⟨A4, cap4, rfl, _⟩ := at_of_own ho4
    have O4 := Lib.hid ho4
    have O0 := Lib.hid (own_below O0.out hb4)
    have hB4 := Lib.hid (hB2.out.trans (hb4.mono hB2.out.size))
    have z4 := hb4.size
    clear ho4 hb4 hB2
    go_wp2_with fail
    refine (eqMoveS_same L _ _ _ _ _ (at_ownF O4.out) (at_ownF O0.out) (by omega)).mono ?_
    rintro e w9 ⟨rfl, hb9⟩
    have O4 := Lib.hid (own_below O4.out hb9)
    have O0 := Lib.hid (own_below O0.out hb9)
    have hB9 := Lib.hid (hB4.out.trans (hb9.mono hB4.out.size))
    have z9 := hb9.size
    clear hb9 hB4
    have hz2 := hB9.out.size
    go_wp2_with fail
    refine (markMoveS_any L.length 1 w2.heap.size L _ _ rfl O4.out (by omega) (by omega)).mono ?_
    rintro e w10 ⟨rfl, ho10, hb10⟩
    have O4 := Lib.hid ho10
    have O0 : Hid (w10.ownsRow w.heap.size 64 2 (.slice A0 L.length cap0) L.length (flat L)) := by
      refine ⟨O0.out.1, ?_⟩
      rcases O0.out.2 with h2 | ⟨gg, cap, cur, e, hb, hg, r⟩
      · exact .inl h2
      · refine .inr ⟨gg, cap, cur, e, hb, (hb10.block gg ?_).trans hg, r⟩
        have := L0.out gg (by rw [e]; rfl)
        omega
    have hB10 := Lib.hid (hB9.out.trans (hb10.mono (by omega)))
    clear ho10 hb10 hB9
    go_wp2_with fail
    refine (heldMoveS_any L.length 1 w2.heap.size _ _ O4.out (by omega) (by omega)).mono ?_
    rintro e wz ⟨rfl, rfl⟩
    go_wp2_with fail
    refine (HP.out _).mono ?_
    rintro e w12 ⟨v12, rfl, ho12, hb12⟩
    obtain ⟨A12, cap12, rfl, _⟩ := at_of_own ho12
    have AT12 := Lib.hid (at_ownF ho12)
    have O4 := Lib.hid (own_below O4.out hb12)
    have O0 := Lib.hid (own_below O0.out hb12)
    have hB12 := Lib.hid (hB10.out.trans (hb12.mono hB10.out.size))
    clear ho12 hb12 hB10
    go_wp2_with fail
    refine (eqMoveS_same L _ _ _ _ _ AT12.out (at_ownF O0.out) (by omega)).mono ?_
    rintro e w13 ⟨rfl, hb13⟩
    have O4 := Lib.hid (own_below O4.out hb13)
    have hB13 := Lib.hid (hB12.out.trans (hb13.mono hB12.out.size))
    clear hb13 hB12 O0 AT12
    go_wp2_with fail
    refine (heldMoveS_any L.length 1 w2.heap.size _ _ O4.out (by omega) (by omega)).mono ?_
    rintro e wz ⟨rfl, rfl⟩
    go_wp2
    go_ret
    exact ⟨rfl, hB13.out⟩
end Go.Proofs.YtjadnfnpbacfdaaDoor
