/- Contract: the first shortest play between two rings, the program's. -/
import Derived.Test.YtdcbjbmnkajjcaaDoorCiZ
import Derived.Test.YtdcbjbmnkajjcaaDoorREq
namespace Go.Proofs.YtdcbjbmnkajjcaaDoor
open Go.RowKit Go.Maps Go.Conc

/-- The moves of a play told by places. -/
def mvP : ByteArray → List Nat → List (Int × Int)
  | _, [] => []
  | u, i :: q => (rgTo u u.size).getD i (0, 0) :: mvP ((nxC u).getD i u) q
theorem mvP_len : ∀ (q : List Nat) (u : ByteArray), (mvP u q).length = q.length
  | [], _ => rfl
  | i :: q, u => by rw [mvP, List.length_cons, mvP_len q, List.length_cons]
theorem mvP_snoc : ∀ (p : List Nat) (u x : ByteArray) (i : Nat), runP nxC u p = some x → mvP u (p ++ [i]) = mvP u p ++ [(rgTo x x.size).getD i (0, 0)]
  | [], u, x, i, h => by
    have h : some u = some x := h
    injection h with h
    rw [h]
    rfl
  | j :: p, u, x, i, h => by
    rw [runP_cons] at h
    cases hy : (nxC u)[j]? with
    | none => rw [hy] at h; cases h
    | some y =>
      rw [hy] at h
      have h : runP nxC y p = some x := h
      have e : (nxC u).getD j u = y := by rw [List.getD_eq_getElem?_getD, hy]; rfl
      rw [List.cons_append, mvP, mvP, e, mvP_snoc p y x i h, List.cons_append]
theorem ent_one {s : ByteArray} {L : List (EntP ByteArray)} {k j : Nat} (h : BfP nxC s L k j) {v : ByteArray} {q q' : List Nat} (h1 : (v, q) ∈ L) (h2 : (v, q') ∈ L) : q = q' := by
  obtain ⟨a, ha, ea⟩ := List.getElem_of_mem h1
  obtain ⟨b, hb, eb⟩ := List.getElem_of_mem h2
  have hka : (kP L)[a]? = some v := by unfold kP; rw [List.getElem?_map, List.getElem?_eq_getElem ha, ea]; rfl
  have hkb : (kP L)[b]? = some v := by unfold kP; rw [List.getElem?_map, List.getElem?_eq_getElem hb, eb]; rfl
  have hla := List.getElem?_eq_some_iff.1 hka
  have hlb := List.getElem?_eq_some_iff.1 hkb
  have := (List.getElem_inj h.nodup (i := a) (j := b) (h₀ := hla.1) (h₁ := hlb.1)).1 (hla.2.trans hlb.2.symm)
  subst this
  rw [ea] at eb
  injection eb
/-- A step from the first ring itself begins the play. -/
theorem first_nil {s : ByteArray} {L : List (EntP ByteArray)} (h : BfP nxC s L (L.length + 1) 0) {v : ByteArray} {p : List Nat} {i : Nat} (h1 : (v, p ++ [i]) ∈ L) (h2 : (s, p) ∈ qP s L) : p = [] := by
  have hv := h.val _ h1
  have hp : runP nxC s p = some s := by
    obtain ⟨a, ha, ea⟩ := List.getElem_of_mem h2
    exact h.valQ (a := a) (u := (s, p)) (by rw [List.getElem?_eq_getElem ha, ea])
  rw [runP_snoc, hp] at hv
  have hv : (nxC s)[i]? = some v := hv
  obtain ⟨e, he, e1, e2⟩ := h.done 0 (s, []) i v (by omega) rfl hv
  obtain ⟨e0, q⟩ := e
  have e1 : e0 = v := e1
  subst e1
  have := ent_one h he h1
  rw [this] at e2
  have := e2.len
  simp at this
  exact this
theorem fnd_pos {s : ByteArray} {D : DataW Unit} {L : List (EntP ByteArray)} (h : FndC s D L) (hL : ∀ e ∈ L, ringB e.1 = true) (hs : ringB s = true) {x : ByteArray} (hx : x ∈ kP L) :
    ∃ (u : ByteArray) (p : List Nat) (i : Nat) (f t : Int), (x, p ++ [i]) ∈ L ∧ (u, p) ∈ qP s L ∧ (rgTo u u.size)[i]? = some (f, t) ∧ ringB u = true ∧ ∀ z, D.atKey (.string (kbR (byt x))) z = stD f t (byt u) := by
  obtain ⟨⟨x, q⟩, he, rfl⟩ := List.mem_map.1 hx
  obtain ⟨u, p, i, f, t, h1, h2, h3, h4, h5⟩ := h.val _ he
  have h1 : q = p ++ [i] := h1
  subst h1
  refine ⟨u, p, i, f, t, he, h3, h4, ?_, h5.2⟩
  rcases List.mem_cons.1 h2 with rfl | h2
  · exact hs
  · obtain ⟨e', he', rfl⟩ := List.mem_map.1 h2
    exact hL e' he'
theorem fnd_case {s : ByteArray} {D : DataW Unit} {L : List (EntP ByteArray)} (h : FndC s D L) (hL : ∀ e ∈ L, ringB e.1 = true) (hs : ringB s = true) (x : ByteArray) :
    ∃ (f t : Int) (l : List UInt8), l.length ≤ 9 ∧ D.atKey (.string (kbR (byt x))) (stD 0 0 []) = stD f t l ∧ (x ∉ kP L ∨ ∃ (u : ByteArray) (p : List Nat) (i : Nat), (x, p ++ [i]) ∈ L ∧ (u, p) ∈ qP s L ∧ (rgTo u u.size)[i]? = some (f, t) ∧ ringB u = true ∧ l = byt u) := by
  by_cases hx : x ∈ kP L
  · obtain ⟨u, p, i, f, t, h1, h2, h3, h4, h5⟩ := fnd_pos h hL hs hx
    exact ⟨f, t, byt u, ring_len h4, h5 _, .inr ⟨u, p, i, h1, h2, h3, h4, rfl⟩⟩
  · obtain ⟨f, t, l, h1, h2⟩ := fndC_at hL h hs (kbR (byt x))
    exact ⟨f, t, l, h1, h2, .inl hx⟩
theorem stC_cells {w : World} {b : Nat} {f t : Int} {l : List UInt8} (h : w.rangeAt b 0 (stC f t l)) : w.cell? ⟨b, 0, none⟩ = some (.int .i64 f) ∧ w.cell? ⟨b, 1, none⟩ = some (.int .i64 t) ∧ w.rangeAt b 2 (u8s (ringP l)) := by
  refine ⟨?_, ?_, fun j v hv => ?_⟩
  · have := h 0 (.int .i64 f) rfl
    rwa [Nat.zero_add] at this
  · have := h 1 (.int .i64 t) rfl
    rwa [Nat.zero_add] at this
  · have := h (j + 2) v hv
    rwa [show 0 + (j + 2) = 2 + j by omega] at this
theorem thr_grown {w w' : World} {row : Option Nat} {b o n : Nat} (h : w.there b o n) (hg : w.grownBy w' row) (hb : b < w.heap.size) (hne : some b ≠ row) : w'.there b o n := fun j hj => by
  have e := hg.block b hb hne
  have := h j hj
  unfold World.cell? World.frozen? at this ⊢
  rw [e]
  exact this
theorem grown_cells (g : Nat) : ∀ (vs : List Value) (o : Nat) (w : World), w.grownBy (w.setCells g o vs) (some g)
  | [], _, w => ⟨rfl, rfl, rfl, Nat.le_refl _, fun _ _ _ => rfl⟩
  | v :: r, o, w => by
    have h1 : w.grownBy (w.setCell ⟨g, o, none⟩ v) (some g) := ⟨rfl, rfl, rfl, by simp, fun k _ hk => Below.heap_setCell _ _ _ _ (fun e => hk (by rw [e]))⟩
    exact h1.trans (grown_cells g r (o + 1) _)
theorem sub_len : ∀ (n : Nat) (K : List Nat), (∀ j, j < n → j ∈ K) → n ≤ K.length
  | 0, _, _ => Nat.zero_le _
  | n + 1, K, h => by
    have h1 := sub_len n (K.filter (· ≠ n)) fun j hj => List.mem_filter.2 ⟨h j (by omega), by simp; omega⟩
    have h2 := flt_len n K
    have h3 : 0 < (K.filter (· == n)).length := List.length_pos_of_mem (List.mem_filter.2 ⟨h n (by omega), by simp⟩)
    omega
theorem pre_in {s : ByteArray} {L : List (EntP ByteArray)} {k j : Nat} (h : BfP nxC s L k j) : ∀ (n : Nat) (e : EntP ByteArray), e ∈ qP s L → e.2.length = n → ∀ m, m ≤ n → ∃ e' ∈ qP s L, e'.2.length = m := by
  intro n
  induction n with
  | zero =>
    intro e he hn m hm
    exact ⟨e, he, by omega⟩
  | succ n ih =>
    intro e he hn m hm
    by_cases hmn : m = n + 1
    · exact ⟨e, he, by omega⟩
    · rcases List.mem_cons.1 he with rfl | he
      · simp at hn
      · obtain ⟨a, u, i, _, hu, h2, _⟩ := h.src e he
        exact ih u (List.mem_of_getElem? hu) (by rw [h2] at hn; simpa using hn) m (by omega)
theorem play_len {s : ByteArray} {L : List (EntP ByteArray)} {k j : Nat} (h : BfP nxC s L k j) {e : EntP ByteArray} (he : e ∈ L) : e.2.length ≤ L.length := by
  have := sub_len (e.2.length + 1) ((qP s L).map fun x => x.2.length) fun m hm => by
    obtain ⟨e', h1, h2⟩ := pre_in h _ e (List.mem_cons_of_mem _ he) rfl m (by omega)
    exact List.mem_map.2 ⟨e', h1, h2⟩
  rw [List.length_map] at this
  simp [qP] at this
  exact this
theorem own_low {w : World} {b b' : Nat} {e : TypeId} {size n : Nat} {v : Value} {xs : List Value} (h : w.ownsRow b e size v n xs) (hle : b' ≤ b) : w.ownsRow b' e size v n xs :=
  ⟨h.1, h.2.imp id fun ⟨g, cap, cur, a1, a2, r⟩ => ⟨g, cap, cur, a1, Nat.le_trans hle a2, r⟩⟩
/-- A look at a key, at the operation. -/
theorem wpList_look {P : Program} (w : World) {ops : Array Oper} {rest : List Oper} {o : Oper} {a : Act} {Q : Exit → Act → World → Prop}
    (hg : o.guard = none) (m x : Operand) (t : TypeId) (hop : o.op = Op.lookup t m x false)
    (k e : TypeId) (K : Keyed P k) (ht : P.underlying t = some (.map k e)) {z : Value} (hz : (zeroValue e).run P w = .ok z w) (R : Value → Option (DataW Unit × List MemPlace)) (b n : Nat) (D : DataW Unit)
    (hm : a.eval m = .map (some b)) (hown : w.ownsMap P k R b n D) {zd : DataW Unit} {zp : List MemPlace} (hR : R z = some (zd, zp)) (key : Value) (kl : Lit) (hx : a.eval x = key) (hkey : keyOf P k key = some kl)
    (hK : ∀ v ps, R v = some (D.atKey kl zd, ps) → wpList P ops Q rest (a.put o.dst v) w) :
    wpList P ops Q (o :: rest) a w := by
  refine wpList_plain hg fun K' hK' => ?_
  obtain ⟨v, ps, hrun, hv⟩ := hown.lookup K ht hz hR hkey
  unfold Oper.wp
  simp [execOp, hop, hm, hx, hrun, Result.andThen]
  exact hK' _ _ (hK v ps hv)
def lnOf : Value → Nat
  | .slice _ n _ => n
  | _ => 0
def PbPost (s v : ByteArray) (w : World) (e : Ending) (w' : World) : Prop :=
  ∃ L, BfP nxC s L (L.length + 1) 0 ∧ ((v ∉ kP L ∧ e = .returned (.tuple #[.slice none 0 0, .bool false])) ∨
    ∃ q x, (v, q) ∈ L ∧ e = .returned (.tuple #[x, .bool true]) ∧ w'.ownsRow w.heap.size 58 2 x q.length (flat (mvP s q))) ∧ Below w.heap.size w w'

set_option maxRecDepth 100000 in
set_option maxHeartbeats 4000000 in
theorem between_any (t g f : Nat) (s v : ByteArray) (w : World) (h : SameC t g f s) (hv : ringB v = true) :
    Calls Tryd.prog 35 #[ringV (byt s), ringV (byt v)] w (PbPost s v w) := by
  have HST := Lib.hid (fun wx => steps_any t g f s wx h)
  have HS := Lib.hid h
  have HV := Lib.hid hv
  have HKV := Lib.hid (keyR (ring_len hv))
  have hls : (u8s (ringP (byt s))).length = 9 := by rw [u8s_len, ringP_len (ring_len h.ring)]
  have hlv : (u8s (ringP (byt v))).length = 9 := by rw [u8s_len, ringP_len (ring_len hv)]
  have e1 : ringV (byt s) = .agg (u8s (ringP (byt s))).toArray := rfl
  have e2 : ringV (byt v) = .agg (u8s (ringP (byt v))).toArray := rfl
  have HIS : Hid ((Tryd.prog.info? 46).map (·.size) = some (u8s (ringP (byt s))).length) := Lib.hid (by rw [Tryd.infoR, hls])
  have HIV : Hid ((Tryd.prog.info? 46).map (·.size) = some (u8s (ringP (byt v))).length) := Lib.hid (by rw [Tryd.infoR, hlv])
  rw [e1] at HST ⊢
  rw [e2] at HKV ⊢
  unfold PbPost
  have hES : Hid (u8s (ringP (byt s)) = u8s (ringP (byt s))) := Lib.hid rfl
  generalize u8s (ringP (byt v)) = cv at HKV hlv HIV ⊢
  clear e1 e2 h hv
  obtain ⟨y0, y1, y2, y3, y4, y5, y6, y7, y8, rfl⟩ := list_nine hlv
  generalize hcs : u8s (ringP (byt s)) = cs at HST hls HIS ⊢
  have HCS := Lib.hid hcs
  clear hcs hES
  obtain ⟨x0, x1, x2, x3, x4, x5, x6, x7, x8, rfl⟩ := list_nine hls
  have HRW : Hid (∀ wx : World, ((wx.alloc (Obj.cells #[x0, x1, x2, x3, x4, x5, x6, x7, x8] 46)).alloc (Obj.cells #[y0, y1, y2, y3, y4, y5, y6, y7, y8] 46)).rangeAt wx.heap.size 0 [x0, x1, x2, x3, x4, x5, x6, x7, x8] ∧ ((wx.alloc (Obj.cells #[x0, x1, x2, x3, x4, x5, x6, x7, x8] 46)).alloc (Obj.cells #[y0, y1, y2, y3, y4, y5, y6, y7, y8] 46)).rangeAt (wx.heap.size + 1) 0 [y0, y1, y2, y3, y4, y5, y6, y7, y8]) := Lib.hid fun wx => by
    refine ⟨rng_grown (rng_alloc wx _ _) (grown_alloc _ _) (by simp) (by simp), ?_⟩
    have := rng_alloc (wx.alloc (Obj.cells #[x0, x1, x2, x3, x4, x5, x6, x7, x8] 46)) [y0, y1, y2, y3, y4, y5, y6, y7, y8] 46
    simpa using this
  clear hls hlv
  obtain ⟨im, hi, hi0, hi1, hi2⟩ := info_parts Tryd.infoM
  have HIM := Lib.hid hi
  have HI0 := Lib.hid hi0
  have HI1 := Lib.hid hi1
  have HI2 := Lib.hid hi2
  clear hi hi0 hi1 hi2
  go_enter Tryd.func35, Tryd.ntmps35
  go_wp2_with fail
  refine (HST.out _).mono ?_
  obtain ⟨r0, r1⟩ := HRW.out w
  obtain ⟨W0, hW0⟩ : ∃ W0, W0 = (w.alloc (Obj.cells #[x0, x1, x2, x3, x4, x5, x6, x7, x8] 46)).alloc (Obj.cells #[y0, y1, y2, y3, y4, y5, y6, y7, y8] 46) := ⟨_, rfl⟩
  have hz0 : W0.heap.size = w.heap.size + 2 := by rw [hW0]; simp
  have hB0 : Below w.heap.size w W0 := by rw [hW0]; exact ((Below.refl _ _).alloc (Nat.le_refl _) _).alloc (by simp) _
  rw [← hW0] at r0 r1 ⊢
  rintro e w1 ⟨bm, D, L, rfl, hbm, hM, hF, hB, hb1⟩
  have hg1 := grown_of_below hb1
  have hsz1 := hb1.size
  have HR0 := Lib.hid (rng_grown r0 hg1 (by omega) (by simp))
  have HR1 := Lib.hid (rng_grown r1 hg1 (by omega) (by simp))
  have HB1 := Lib.hid (hB0.trans (hb1.mono (by omega)))
  have HM := Lib.hid hM
  have HF := Lib.hid hF
  have HB := Lib.hid hB
  have hL : ∀ e ∈ L, ringB e.1 = true := fun e he => (bfp_same HS.out hB e he).ring
  have HL := Lib.hid hL
  have HFEW : Hid (L.length ≤ 100000) := Lib.hid (by
    have h1 := bfp_few HS.out hB
    have h2 : thrC t g f = true := (thrC_iff _ _ _).2 (by have := HS.out.sum; have := ring_sz HS.out.ring; omega)
    have := many9 h2
    have := manyK_eq HS.out.three
    omega)
  have hz1 : w.heap.size + 2 ≤ w1.heap.size := by omega
  have hbm1 : bm < w1.heap.size := HM.out.lt
  obtain ⟨f9, t9, l9, hl9, hat, hcase⟩ := fnd_case hF hL HS.out.ring v
  have HAT := Lib.hid hat
  have hST : ∀ v ps, stR v = some (stD f9 t9 l9, ps) → v = .agg (stC f9 t9 l9).toArray := fun v ps h => stR_inv h
  have HST := Lib.hid hST
  have h11 := stC_len f9 t9 hl9
  have H1S := Lib.hid (all_oneCell_toArray (stC_one f9 t9 l9))
  have HIS2 : Hid ((Tryd.prog.info? 73).map (·.size) = some (stC f9 t9 l9).toArray.size) := Lib.hid (by rw [Tryd.infoSt, List.size_toArray, h11])
  obtain ⟨W2, hW2⟩ : ∃ W2, W2 = (w1.alloc zsO).setCells w1.heap.size 0 (stC f9 t9 l9) := ⟨_, rfl⟩
  have hth2 : (w1.alloc zsO).there w1.heap.size 0 (stC f9 t9 l9).length := there_zs w1 h11
  have HTH2 : Hid ((w1.alloc zsO).there w1.heap.size 0 (stC f9 t9 l9).toArray.size) := Lib.hid (by rw [List.size_toArray]; exact hth2)
  have hb2 : Below w1.heap.size w1 W2 := by rw [hW2]; exact below_setCells (Nat.le_refl _) _ _ _ ((Below.refl _ _).alloc (Nat.le_refl _) _)
  have HZ2 : Hid (w1.heap.size < W2.heap.size) := Lib.hid (by rw [hW2]; exact set_growsS w1 _)
  have HX2 : Hid (W2.rangeAt w1.heap.size 0 (stC f9 t9 l9)) := Lib.hid (by rw [hW2]; exact World.rangeAt_setCells_same _ _ _ _ hth2)
  have HTB : Hid (W2.there w1.heap.size 0 11) := Lib.hid (by rw [hW2, ← h11]; exact World.there_setCells hth2 _ _ _)
  have hg2 := grown_of_below hb2
  have HR02 := Lib.hid (rng_grown HR0.out hg2 (by omega) (by simp))
  have HM2 := Lib.hid (HM.out.kept hg2 (by simp))
  have HB2 := Lib.hid (HB1.out.trans (hb2.mono HB1.out.size))
  clear r0 r1 hW0 hz0 hB0 hb1 hg1 hM hF hB hL hat hST hth2 hb2 hg2 hsz1
  rcases hcase with hvk | ⟨u, p0, i0, hvL, huq, hmi, hru, rfl⟩
  · have hhas := fndC_no HF.out HL.out HV.out hvk
    have HHAS := Lib.hid hhas
    have HVK := Lib.hid hvk
    clear hhas hvk
    go_wp2_with (first
      | (refine wpList_load_mid rfl 46 (.tmp 3) rfl (w.heap.size + 1) 0 rfl _ _ HR1.out Tryd.underlying46 rfl HIV.out ?_)
      | (at_lookup; refine wpList_look_ok _ rfl _ _ 50 rfl 46 73 Tryd.keysR Tryd.underlying50 (zeroSt w1) stR bm L.length D rfl HM.out (stR_mk 0 0 []) _ (.string (kbR (byt v))) rfl HKV.out ?_; intro v9 ps9 hv9; rw [HAT.out] at hv9; obtain rfl := HST.out v9 ps9 hv9; rw [HHAS.out]; clear hv9)
      | (refine wpList_store_mid rfl 73 (.tmp 7) (.tmp 16) rfl w1.heap.size 0 (stC f9 t9 l9).toArray rfl rfl HTH2.out HIS2.out H1S.out ?_; rw [← hW2]; clear hW2))
    go_ret2
    exact ⟨L, HB.out, .inl ⟨HVK.out, rfl⟩, HB2.out⟩
  · have hhas := fndC_yes HF.out (List.mem_map_of_mem (f := (·.1)) hvL)
    have hhas : Maps.has D (.string (kbR (byt v))) = true := hhas
    have HHAS := Lib.hid hhas
    obtain ⟨d0, d1, d2⟩ := stC_cells HX2.out
    have HD2 := Lib.hid d2
    have HVL := Lib.hid hvL
    have HUQ := Lib.hid huq
    have HMI := Lib.hid hmi
    have HRU := Lib.hid hru
    clear hhas hvL huq hmi hru d2
    obtain ⟨W3, hW3⟩ : ∃ W3, W3 = W2.alloc (Obj.cells #[.int .i64 f9, .int .i64 t9] 58) := ⟨_, rfl⟩
    go_wp2_with (first
      | (refine wpList_load_mid rfl 46 (.tmp 3) rfl (w.heap.size + 1) 0 rfl _ _ HR1.out Tryd.underlying46 rfl HIV.out ?_)
      | (at_lookup; refine wpList_look_ok _ rfl _ _ 50 rfl 46 73 Tryd.keysR Tryd.underlying50 (zeroSt w1) stR bm L.length D rfl HM.out (stR_mk 0 0 []) _ (.string (kbR (byt v))) rfl HKV.out ?_; intro v9 ps9 hv9; rw [HAT.out] at hv9; obtain rfl := HST.out v9 ps9 hv9; rw [HHAS.out]; clear hv9)
      | (refine wpList_store_mid rfl 73 (.tmp 7) (.tmp 16) rfl w1.heap.size 0 (stC f9 t9 (byt u)).toArray rfl rfl HTH2.out HIS2.out H1S.out ?_; rw [← hW2]; clear hW2))
    have HO3 : Hid (W3.ownsRow (w1.heap.size + 1) 58 2 (.slice (some ⟨W2.heap.size, 0, none⟩) 1 1) 1 (flat ([] ++ [(f9, t9)]))) := Lib.hid (by
      rw [hW3]
      exact ⟨rfl, .inr ⟨W2.heap.size, 1, #[.int .i64 f9, .int .i64 t9], rfl, HZ2.out, heap_alloc_new W2 _, Nat.le_refl _, by decide, rfl, rfl⟩⟩)
    have hb3 : Below W2.heap.size W2 W3 := by rw [hW3]; exact (Below.refl _ _).alloc (Nat.le_refl _) _
    have hg3 := grown_of_below hb3
    have HX3 := Lib.hid (rng_grown HX2.out hg3 HZ2.out (by simp))
    have HT3 := Lib.hid (thr_grown HTB.out hg3 HZ2.out (by simp))
    have HR3 := Lib.hid (rng_grown HR02.out hg3 (by have := HZ2.out; omega) (by simp))
    have HM3 := Lib.hid (HM2.out.kept hg3 (by simp))
    have HB3 := Lib.hid (HB2.out.trans (hb3.mono HB2.out.size))
    have hZW : W2.heap.size < W3.heap.size := by rw [hW3]; simp
    rw [← hW3]
    clear hW3 hb3 hg3 HX2 HTB HR02 HM2 HB2 HR0 HR1 HB1 HM HTH2 HIS2 H1S HST HAT HHAS h11 d0 d1 HD2 HKV HIV
    have hqv : runP nxC s (p0 ++ [i0]) = some v := HB.out.val _ HVL.out
    have hpu : runP nxC s p0 = some u := by
      obtain ⟨a, ha, ea⟩ := List.getElem_of_mem HUQ.out
      exact HB.out.valQ (a := a) (u := (u, p0)) (by rw [List.getElem?_eq_getElem ha, ea])
    have HMV : Hid (mvP s (p0 ++ [i0]) = mvP s p0 ++ ([] ++ [(f9, t9)]).reverse) := Lib.hid (by
      rw [mvP_snoc p0 s u i0 hpu, List.getD_eq_getElem?_getD, HMI.out]
      rfl)
    obtain ⟨q, hq⟩ : ∃ q, q = p0 ++ [i0] := ⟨_, rfl⟩
    rw [← hq] at HMV
    have HQ := Lib.hid hq
    clear hqv hpu hq
    have HZ13 : Hid (w1.heap.size < W3.heap.size) := Lib.hid (by have := HZ2.out; omega)
    clear HZ2 hl9
    generalize W2.heap.size = g2 at HO3 hZW ⊢
    go_loopw [9] (fun v9 wr => ∃ (x : ByteArray) (p : List Nat) (i : Nat) (u : ByteArray) (f t : Int) (tl : List (Int × Int)) (g cap : Nat), v9 = .slice (some ⟨g, 0, none⟩) (tl.length + 1) cap ∧ (x, p ++ [i]) ∈ L ∧ (u, p) ∈ qP s L ∧ (rgTo u u.size)[i]? = some (f, t) ∧ ringB u = true ∧ wr.rangeAt w1.heap.size 0 (stC f t (byt u)) ∧ wr.there w1.heap.size 0 11 ∧ wr.rangeAt w.heap.size 0 [x0, x1, x2, x3, x4, x5, x6, x7, x8] ∧ wr.ownsMap Tryd.prog 46 stR bm L.length D ∧ wr.ownsRow (w1.heap.size + 1) 58 2 v9 (tl.length + 1) (flat (tl ++ [(f, t)])) ∧ mvP s q = mvP s p ++ (tl ++ [(f, t)]).reverse ∧ Below w.heap.size w wr ∧ w1.heap.size < wr.heap.size) (fun v9 _ => q.length - lnOf v9)
    case atStart => exact ⟨v, p0, i0, u, f9, t9, [], g2, 1, rfl, HVL.out, HUQ.out, HMI.out, HRU.out, HX3.out, HT3.out, HR3.out, HM3.out, HO3.out, HMV.out, HB3.out, HZ13.out⟩
    case round =>
      clear HX3 HT3 HR3 HM3 HO3 HMV HB3 HUQ HMI HRU HZ13
      generalize stC f9 t9 (byt u) = c9
      obtain ⟨x, p, i, u, f, t, tl, g, cap, rfl, hx, hu, hm, hr, hX, hT, hR, hM, hO, hV, hB, hz⟩ := hrel
      obtain ⟨d0, d1, d2⟩ := stC_cells hX
      have HD2 := Lib.hid d2
      have HR := Lib.hid hR
      have HIU : Hid ((Tryd.prog.info? 46).map (·.size) = some (u8s (ringP (byt u))).length) := Lib.hid (by rw [Tryd.infoR, u8s_len, ringP_len (ring_len hr)])
      have HX := Lib.hid hX
      have HT := Lib.hid hT
      have HM := Lib.hid hM
      have HO := Lib.hid hO
      have HVV := Lib.hid hV
      have HBB := Lib.hid hB
      have HXL := Lib.hid hx
      have HUU := Lib.hid hu
      have HMM := Lib.hid hm
      clear d2 hR hX hT hM hO hV hB hx hu hm
      have hlu : (ringP (byt u)).length = 9 := ringP_len (ring_len hr)
      have heqr : ∀ wx : World, (Op.equalIn 10000 46 (.agg (u8s (ringP (byt u))).toArray) (.agg #[x0, x1, x2, x3, x4, x5, x6, x7, x8])).run Tryd.prog wx = .ok (decide (ringP (byt u) = ringP (byt s))) wx := fun wx => by
        have := ring_eql hlu (ringP_len (l := byt s) (ring_len HS.out.ring)) wx
        rwa [HCS.out] at this
      have hlen : p.length + (tl.length + 1) = q.length := by
        have := congrArg List.length HVV.out
        rw [List.length_append, mvP_len, mvP_len, List.length_reverse, List.length_append] at this
        simpa using this.symm
      by_cases hus : u = s
      · rw [decide_eq_true (by rw [hus])] at heqr
        have HNIL : Hid (p = []) := Lib.hid (by
          have h2 := HUU.out
          rw [hus] at h2
          exact first_nil HB.out HXL.out h2)
        have HGB : Hid (w1.heap.size + 1 ≤ g) := Lib.hid (HO.out.lt g rfl).1
        clear hus
        go_wp2_with (first
          | (refine wpList_load_mid rfl 46 (.tmp 23) rfl w1.heap.size 2 rfl _ _ HD2.out Tryd.underlying46 rfl HIU.out ?_)
          | (refine wpList_load_mid rfl 46 (.tmp 2) rfl w.heap.size 0 rfl _ _ HR.out Tryd.underlying46 rfl HIS.out ?_))
        have hrv := reverseM_any (tl ++ [(f, t)]) g (w1.heap.size + 1) cap wr (by simp) (by have h1 : (p0 ++ [i0]).length ≤ L.length := play_len HB.out HVL.out; rw [← HQ.out] at h1; have h2 := HFEW.out; simp; omega) HGB.out (by have := HO.out; rw [List.length_append]; exact this)
        rw [List.length_append] at hrv
        refine hrv.mono ?_
        rintro e w5 ⟨rfl, ho5, hb5⟩
        have hq5 : mvP s q = (tl ++ [(f, t)]).reverse := by have := HVV.out; rw [HNIL.out] at this; exact this
        have HO5 : Hid (w5.ownsRow w.heap.size 58 2 (.slice (some ⟨g, 0, none⟩) (tl.length + 1) cap) q.length (flat (mvP s q))) := Lib.hid (by
          have e1 : q.length = tl.length + 1 := by rw [← hlen, HNIL.out]; simp
          rw [hq5, e1]
          exact own_low ho5 (by omega))
        have HB5 := Lib.hid (HBB.out.trans (hb5.mono (by omega)))
        go_wp2
        go_ret2
        exact ⟨L, HB.out, .inr ⟨q, _, by rw [HQ.out]; exact HVL.out, rfl, HO5.out⟩, HB5.out⟩
      · have hne : ringP (byt u) ≠ ringP (byt s) := fun e => hus (byt_inj (ringP_inj (ring_nz hr) (ring_nz HS.out.ring) e))
        rw [decide_eq_false hne] at heqr
        have huL : (u, p) ∈ L := by
          rcases List.mem_cons.1 HUU.out with h | h
          · injection h with h _
            exact absurd h hus
          · exact h
        obtain ⟨u', p', i', f', t', h1, h2, h3, h4, h5⟩ := fnd_pos HF.out HL.out HS.out.ring (List.mem_map_of_mem (f := (·.1)) huL)
        have h5 : ∀ z, D.atKey (.string (kbR (byt u))) z = stD f' t' (byt u') := h5
        have hp : p = p' ++ [i'] := ent_one HB.out huL h1
        have hpu : runP nxC s p' = some u' := by
          obtain ⟨a, ha, ea⟩ := List.getElem_of_mem h2
          exact HB.out.valQ (a := a) (u := (u', p')) (by rw [List.getElem?_eq_getElem ha, ea])
        have hmv : mvP s p = mvP s p' ++ [(f', t')] := by
          rw [hp, mvP_snoc p' s u' i' hpu, List.getD_eq_getElem?_getD, h3]
          rfl
        have HMV2 : Hid (mvP s q = mvP s p' ++ ((tl ++ [(f, t)]) ++ [(f', t')]).reverse) := Lib.hid (by
          rw [HVV.out, hmv]
          simp)
        have hql : q.length ≤ 100000 := by
          have h1 : (p0 ++ [i0]).length ≤ L.length := play_len HB.out HVL.out
          rw [← HQ.out] at h1
          have := HFEW.out
          omega
        have hpl : 0 < p.length := by rw [hp]; simp
        have HA1 : Hid ((u, p' ++ [i']) ∈ L) := Lib.hid h1
        have HA2 : Hid ((u', p') ∈ qP s L) := Lib.hid h2
        have HA3 : Hid ((rgTo u' u'.size)[i']? = some (f', t')) := Lib.hid h3
        have HA4 : Hid (ringB u' = true) := Lib.hid h4
        have HAT := Lib.hid (h5 (stD 0 0 []))
        have HKU := Lib.hid (keyR (ring_len hr))
        have hST : ∀ v ps, stR v = some (stD f' t' (byt u'), ps) → v = .agg (stC f' t' (byt u')).toArray := fun v ps h => stR_inv h
        have HST := Lib.hid hST
        have h11 := stC_len f' t' (ring_len h4)
        have H1S := Lib.hid (all_oneCell_toArray (stC_one f' t' (byt u')))
        have HIS2 : Hid ((Tryd.prog.info? 73).map (·.size) = some (stC f' t' (byt u')).toArray.size) := Lib.hid (by rw [Tryd.infoSt, List.size_toArray, h11])
        have HTT : Hid (wr.there w1.heap.size 0 (stC f' t' (byt u')).toArray.size) := Lib.hid (by
          have e : (stC f' t' (byt u')).toArray.size = 11 := by rw [List.size_toArray, h11]
          rw [e]
          exact HT.out)
        have hgb : w1.heap.size + 1 ≤ g := (HO.out.lt g rfl).1
        obtain ⟨W4, hW4⟩ : ∃ W4, W4 = wr.setCells w1.heap.size 0 (stC f' t' (byt u')) := ⟨_, rfl⟩
        have hg4 : wr.grownBy W4 (some w1.heap.size) := by rw [hW4]; exact grown_cells _ _ _ _
        have HX4 : Hid (W4.rangeAt w1.heap.size 0 (stC f' t' (byt u'))) := Lib.hid (by rw [hW4]; exact World.rangeAt_setCells_same _ _ _ _ (by rw [h11]; exact HT.out))
        have HT4 : Hid (W4.there w1.heap.size 0 11) := Lib.hid (by rw [hW4]; exact World.there_setCells HT.out _ _ _)
        have HR4 := Lib.hid (rng_grown HR.out hg4 (by omega) (by simp; omega))
        have HM4 := Lib.hid (HM.out.kept hg4 (by simp; omega))
        have HO4 := Lib.hid (HO.out.kept hg4 (.inr (by show some g ≠ some w1.heap.size; simp; omega)))
        have HB4 : Hid (Below w.heap.size w W4) := Lib.hid (by rw [hW4]; exact below_setCells (by omega) _ _ _ HBB.out)
        have hz4 : w1.heap.size < W4.heap.size := Nat.lt_of_lt_of_le hz hg4.size
        obtain ⟨k0, k1, _⟩ := stC_cells HX4.out
        have H2 : ∀ x ∈ [Value.int .i64 f', Value.int .i64 t'], x.oneCell' = true := fun x hx => by simp at hx; rcases hx with rfl | rfl <;> rfl
        have H3 : tl.length + 1 + 1 ≤ maxLen := by unfold maxLen; omega
        have H4 : (tl.length + 1 + 1) * 16 ≤ 140737488355328 := by omega
        have H5 : w1.heap.size + 1 ≤ (W4.alloc (Obj.cells #[.int .i64 f', .int .i64 t'] 58)).heap.size := by simp; omega
        have H6 : ∀ j u, [Value.int .i64 f', Value.int .i64 t'][j]? = some u → (W4.alloc (Obj.cells #[.int .i64 f', .int .i64 t'] 58)).cell? ((⟨W4.heap.size, 0, none⟩ : Addr).add j) = some u := cell_two_new W4 (.int .i64 f') (.int .i64 t') 58
        clear hus hne huL h1 h2 h3 h4 h5 hp hpu hmv hST h11 hg4
        generalize hc7 : stC f' t' (byt u') = c7 at HST H1S HIS2 HTT hW4 HX4
        have HC7 := Lib.hid hc7
        clear hc7
        go_wp2_with (first
          | (refine wpList_load_mid rfl 46 (.tmp 23) rfl w1.heap.size 2 rfl _ _ HD2.out Tryd.underlying46 rfl HIU.out ?_)
          | (refine wpList_load_mid rfl 46 (.tmp 28) rfl w1.heap.size 2 rfl _ _ HD2.out Tryd.underlying46 rfl HIU.out ?_)
          | (refine wpList_load_mid rfl 46 (.tmp 2) rfl w.heap.size 0 rfl _ _ HR.out Tryd.underlying46 rfl HIS.out ?_)
          | (at_lookup; refine wpList_look _ rfl _ _ 50 rfl 46 73 Tryd.keysR Tryd.underlying50 (zeroSt wr) stR bm L.length D rfl HM.out (stR_mk 0 0 []) _ (.string (kbR (byt u))) rfl HKU.out ?_; intro v9 ps9 hv9; rw [HAT.out] at hv9; obtain rfl := HST.out v9 ps9 hv9; clear hv9)
          | (refine wpList_store_mid rfl 73 (.tmp 7) (.tmp 30) rfl w1.heap.size 0 c7.toArray rfl rfl HTT.out HIS2.out H1S.out ?_; rw [← hW4]; clear hW4)
          | (at_builtin; refine wpList_append_own _ rfl _ _ 33 rfl (w1.heap.size + 1) 58 im (.agg #[.int .i64 0, .int .i64 0]) 2 16 Tryd.underlying33 HIM.out HI0.out HI1.out HI2.out rfl (by decide) _ _ _ rfl (HO4.out.alloc (Obj.cells #[.int .i64 f', .int .i64 t'] 58)) ⟨W4.heap.size, 0, none⟩ 1 1 [.int .i64 f', .int .i64 t'] rfl rfl H6 H2 H3 H4 H5 ?_; intro v' w5 hown' hgrow _))
        obtain ⟨g', cap', rfl⟩ : ∃ g' cap', v' = .slice (some ⟨g', 0, none⟩) (tl.length + 1 + 1) cap' := by
          rcases hown'.2 with ⟨_, h0⟩ | ⟨g', cap', _, hv, _⟩
          · omega
          · exact ⟨g', cap', hv⟩
        have hgA : W4.grownBy (W4.alloc (Obj.cells #[.int .i64 f', .int .i64 t'] 58)) none := grown_alloc _ _
        have hsA : W4.heap.size < (W4.alloc (Obj.cells #[.int .i64 f', .int .i64 t'] 58)).heap.size := by simp
        have hgs := hgrow.size
        have hgW : (W4.alloc (Obj.cells #[.int .i64 f', .int .i64 t'] 58)).grownBy w5 (some g) := hgrow
        have hBA : Below w.heap.size w (W4.alloc (Obj.cells #[.int .i64 f', .int .i64 t'] 58)) := HB4.out.alloc HB4.out.size _
        have hH4 := HB4.out.size
        have hl1 : (tl ++ [(f, t)]).length = tl.length + 1 := by simp
        refine ⟨⟨u, p', i', u', f', t', tl ++ [(f, t)], g', cap', by rw [hl1], HA1.out, HA2.out, HA3.out, HA4.out, (by rw [HC7.out]; exact rng_grown (rng_grown HX4.out hgA hz4 (by simp)) hgW (by omega) (by simp; omega)), thr_grown (thr_grown HT4.out hgA hz4 (by simp)) hgW (by omega) (by simp; omega), rng_grown (rng_grown HR4.out hgA (by omega) (by simp)) hgW (by omega) (by simp; omega), (HM4.out.kept hgA (by simp)).kept hgW (by simp; omega), ?_, HMV2.out, hBA.grown hgW hBA.size (fun j hj => by injection hj with hj; omega), by omega⟩, ?_⟩
        · rw [hl1, flat_app]
          exact hown'
        · show q.length - (tl.length + 1 + 1) < q.length - (tl.length + 1)
          omega
end Go.Proofs.YtdcbjbmnkajjcaaDoor
namespace Go.Proofs.YtdcbjbmnkajjcaaDoor
open Go.RowKit Go.Maps Go.Conc

/-- The first shortest play, or none. -/
def PathIs (s v : ByteArray) : Option (List Nat) → Prop
  | none => ∀ q, runP nxC s q ≠ some v
  | some q => runP nxC s q = some v ∧ ∀ q', runP nxC s q' = some v → slP q q'
theorem path_one {s v : ByteArray} : ∀ {o o' : Option (List Nat)}, PathIs s v o → PathIs s v o' → o = o'
  | none, none, _, _ => rfl
  | none, some q, h, h' => absurd h'.1 (h q)
  | some q, none, h, h' => absurd h.1 (h' q)
  | some q, some q', h, h' => by rw [(h.2 q' h'.1).one (h'.2 q h.1)]
/-- The first shortest play of at least one move, or none. -/
def RoundIs (s v : ByteArray) : Option (List Nat) → Prop
  | none => ∀ q, q ≠ [] → runP nxC s q ≠ some v
  | some q => (q ≠ [] ∧ runP nxC s q = some v) ∧ ∀ q', q' ≠ [] → runP nxC s q' = some v → slP q q'
theorem round_path {s v : ByteArray} (hne : s ≠ v) : ∀ {o : Option (List Nat)}, RoundIs s v o → PathIs s v o
  | none, h => fun q e => by
    by_cases hq : q = []
    · rw [hq] at e
      injection e with e
      exact hne e
    · exact h q hq e
  | some q, h => ⟨h.1.2, fun q' e => by
    by_cases hq : q' = []
    · rw [hq] at e
      injection e with e
      exact absurd e hne
    · exact h.2 q' hq e⟩
theorem kept_round {s v : ByteArray} {L : List (EntP ByteArray)} (hB : BfP nxC s L (L.length + 1) 0) {q : List Nat} (h : (v, q) ∈ L) : RoundIs s v (some q) := by
  refine ⟨⟨hB.ne h, hB.val _ h⟩, fun q' hq e => ?_⟩
  obtain ⟨n, hn⟩ : ∃ n, q'.length = n + 1 := ⟨q'.length - 1, by have := List.length_pos_iff.2 hq; omega⟩
  obtain ⟨⟨v', q0⟩, h1, h2, h3⟩ := hB.all (by simp [qP]) n q' v hn e
  have h2 : v' = v := h2
  subst h2
  rwa [ent_one hB h1 h] at h3
theorem kept_none {s v : ByteArray} {L : List (EntP ByteArray)} (hB : BfP nxC s L (L.length + 1) 0) (h : v ∉ kP L) : RoundIs s v none := fun q hq e => by
  obtain ⟨n, hn⟩ : ∃ n, q.length = n + 1 := ⟨q.length - 1, by have := List.length_pos_iff.2 hq; omega⟩
  obtain ⟨e0, h1, h2, _⟩ := hB.all (by simp [qP]) n q v hn e
  exact h (h2 ▸ List.mem_map_of_mem h1)
/-- The answer on a play. -/
def AnsP (s : ByteArray) (o : Option (List Nat)) (w : World) (e : Ending) (w' : World) : Prop :=
  (o = none ∧ e = .returned (.tuple #[.slice none 0 0, .bool false])) ∨ ∃ q x, o = some q ∧ e = .returned (.tuple #[x, .bool true]) ∧ w'.ownsRow w.heap.size 58 2 x q.length (flat (mvP s q))
theorem same_of {s : ByteArray} (h : ringB s = true) : SameC (cnt 84 (byt s)) (cnt 46 (byt s)) (cnt 70 (byt s)) s := ⟨h, rfl, rfl, rfl⟩
theorem roundI_any (s v : ByteArray) (w : World) (hs : ringB s = true) (hv : ringB v = true) :
    Calls Tryd.prog 35 #[ringV (byt s), ringV (byt v)] w fun e w' => ∃ o, RoundIs s v o ∧ AnsP s o w e w' ∧ Below w.heap.size w w' := by
  refine (between_any _ _ _ s v w (same_of hs) hv).mono ?_
  rintro e w' ⟨L, hB, h | ⟨q, x, h1, h2, h3⟩, hb⟩
  · exact ⟨none, kept_none hB h.1, .inl ⟨rfl, h.2⟩, hb⟩
  · exact ⟨some q, kept_round hB h1, .inr ⟨q, x, rfl, h2, h3⟩, hb⟩
def PaPost (s v : ByteArray) (w : World) (e : Ending) (w' : World) : Prop := ∃ o, PathIs s v o ∧ AnsP s o w e w' ∧ Below w.heap.size w w'

set_option maxRecDepth 100000 in
set_option maxHeartbeats 2000000 in
theorem pathI_any (s v : ByteArray) (w : World) (hs : ringB s = true) (hv : ringB v = true) :
    Calls Tryd.prog 18 #[.string s, .string v] w (PaPost s v w) := by
  have hsz : ∀ x, ringB x = true → x.size ≤ maxLen := fun x h => by have := (ring_sz h).2; unfold maxLen; omega
  have HIS : Hid (∀ wx, Calls Tryd.prog 27 #[.string s] wx fun e w' => e = .returned (.bool true) ∧ wx = w') := Lib.hid fun wx => by
    have := isRing_any s wx (hsz s hs)
    rwa [hs] at this
  have HIV : Hid (∀ wx, Calls Tryd.prog 27 #[.string v] wx fun e w' => e = .returned (.bool true) ∧ wx = w') := Lib.hid fun wx => by
    have := isRing_any v wx (hsz v hv)
    rwa [hv] at this
  have HRS := Lib.hid (fun wx => ringOf_any s wx (ring_sz hs).2)
  have HRV := Lib.hid (fun wx => ringOf_any v wx (ring_sz hv).2)
  have HPB := Lib.hid (fun wx => roundI_any s v wx hs hv)
  unfold PaPost
  by_cases hsv : s = v
  · subst hsv
    go_enter Tryd.func18, Tryd.ntmps18
    go_wp2_with (go_at_call 27; refine (HIS.out _).mono ?_; rintro e w' ⟨rfl, rfl⟩)
    go_ret2
    exact ⟨some [], ⟨rfl, fun q' _ => by cases q' with | nil => exact slP.refl _ | cons a b => exact .inl (by simp)⟩, .inr ⟨[], _, rfl, rfl, World.ownsRow_nil _ _ _ _⟩, Below.refl _ _⟩
  · have HNE := Lib.hid hsv
    have heq : (s.toList == v.toList) = false := by
      rw [← str_byt s, ← str_byt v, same_str]
      simp
      exact fun e => hsv (byt_inj e)
    clear hsv
    go_enter Tryd.func18, Tryd.ntmps18
    go_wp2_with fail
    refine (HIS.out _).mono ?_
    rintro e w' ⟨rfl, rfl⟩
    go_wp2_with fail
    refine (HIV.out _).mono ?_
    rintro e w' ⟨rfl, rfl⟩
    go_wp2_with fail
    refine (HRS.out _).mono ?_
    rintro e w1 ⟨rfl, hb1⟩
    go_wp2_with fail
    refine (HRV.out _).mono ?_
    rintro e w2 ⟨rfl, hb2⟩
    go_wp2_with fail
    refine (HPB.out _).mono ?_
    have HB2 := Lib.hid (hb1.trans (hb2.mono hb1.size))
    clear hb1 hb2
    rintro e w3 ⟨o, ho, ⟨rfl, rfl⟩ | ⟨q, x, rfl, rfl, hown⟩, hb3⟩
    · have HO := Lib.hid ho
      have HB3 := Lib.hid (HB2.out.trans (hb3.mono HB2.out.size))
      clear ho hb3
      go_wp2
      go_ret2
      exact ⟨none, round_path HNE.out HO.out, .inl ⟨rfl, rfl⟩, HB3.out⟩
    · have HO := Lib.hid ho
      have HW := Lib.hid (own_low hown HB2.out.size)
      have HB3 := Lib.hid (HB2.out.trans (hb3.mono HB2.out.size))
      clear ho hb3 hown
      go_wp2
      go_ret2
      exact ⟨some q, round_path HNE.out HO.out, .inr ⟨q, x, rfl, rfl, HW.out⟩, HB3.out⟩

set_option maxRecDepth 100000 in
set_option maxHeartbeats 1000000 in
/-- No ring: no play. -/
theorem pathI_no (s v : ByteArray) (w : World) (hs : s.size ≤ maxLen) (hv : v.size ≤ maxLen) (h : (ringB s && ringB v) = false) :
    Calls Tryd.prog 18 #[.string s, .string v] w fun e w' => e = .returned (.tuple #[.slice none 0 0, .bool false]) ∧ w = w' := by
  have HIS := Lib.hid (fun wx => isRing_any s wx hs)
  have HIV := Lib.hid (fun wx => isRing_any v wx hv)
  cases hs' : ringB s
  · rw [hs'] at HIS
    go_enter Tryd.func18, Tryd.ntmps18
    go_wp2_with fail
    refine (HIS.out _).mono ?_
    rintro e w' ⟨rfl, rfl⟩
    go_wp2
    go_ret2
    exact ⟨rfl, rfl⟩
  · rw [hs', Bool.true_and] at h
    rw [hs'] at HIS
    rw [h] at HIV
    go_enter Tryd.func18, Tryd.ntmps18
    go_wp2_with fail
    refine (HIS.out _).mono ?_
    rintro e w' ⟨rfl, rfl⟩
    go_wp2_with fail
    refine (HIV.out _).mono ?_
    rintro e w' ⟨rfl, rfl⟩
    go_wp2
    go_ret2
    exact ⟨rfl, rfl⟩
/-- The length of a play that is there. -/
def lenP : Option (List Nat) → Value
  | none => .tuple #[.int .i64 0, .bool false]
  | some q => .tuple #[.int .i64 (q.length : Nat), .bool true]
theorem own_form {w : World} {b : Nat} {e : TypeId} {m n : Nat} {v : Value} {xs : List Value} (h : w.ownsRow b e m v n xs) : ∃ A cap, v = .slice A n cap := by
  rcases h.2 with ⟨h1, h2⟩ | ⟨g, cap, _, h1, _⟩
  · exact ⟨none, 0, by rw [h1, h2]⟩
  · exact ⟨_, cap, h1⟩

set_option maxRecDepth 100000 in
set_option maxHeartbeats 1000000 in
theorem shortI_any (s v : ByteArray) (w : World) (hs : ringB s = true) (hv : ringB v = true) :
    Calls Tryd.prog 16 #[.string s, .string v] w fun e w' => ∃ o, PathIs s v o ∧ e = .returned (lenP o) ∧ Below w.heap.size w w' := by
  have HP := Lib.hid (fun wx => pathI_any s v wx hs hv)
  go_enter Tryd.func16, Tryd.ntmps16
  go_wp2_with fail
  refine (HP.out _).mono ?_
  rintro e w1 ⟨o, ho, ⟨rfl, rfl⟩ | ⟨q, x, rfl, rfl, hown⟩, hb⟩
  · have HO := Lib.hid ho
    have HB := Lib.hid hb
    clear ho hb
    go_wp2
    go_ret2
    exact ⟨none, HO.out, rfl, HB.out⟩
  · obtain ⟨A, cap, rfl⟩ := own_form hown
    have HO := Lib.hid ho
    have HB := Lib.hid hb
    clear ho hb hown
    go_wp2
    go_ret2
    exact ⟨some q, HO.out, rfl, HB.out⟩
set_option maxRecDepth 100000 in
set_option maxHeartbeats 1000000 in
theorem shortI_no (s v : ByteArray) (w : World) (hs : s.size ≤ maxLen) (hv : v.size ≤ maxLen) (h : (ringB s && ringB v) = false) :
    Calls Tryd.prog 16 #[.string s, .string v] w fun e w' => e = .returned (lenP none) ∧ w = w' := by
  have HP := Lib.hid (fun wx => pathI_no s v wx hs hv h)
  clear h
  go_enter Tryd.func16, Tryd.ntmps16
  go_wp2_with fail
  refine (HP.out _).mono ?_
  rintro e w1 ⟨rfl, rfl⟩
  go_wp2
  go_ret2
  exact ⟨rfl, rfl⟩
end Go.Proofs.YtdcbjbmnkajjcaaDoor
namespace Go.Proofs.YtdcbjbmnkajjcaaDoor
open Go.RowKit Go.Maps Go.Conc

set_option maxRecDepth 100000 in
set_option maxHeartbeats 1000000 in
theorem reachI_any (s v : ByteArray) (w : World) (hs : ringB s = true) (hv : ringB v = true) :
    Calls Tryd.prog 14 #[.string s, .string v] w fun e w' => ∃ o, PathIs s v o ∧ e = .returned (.tuple #[.bool o.isSome, .bool true]) ∧ Below w.heap.size w w' := by
  have hsz : ∀ x, ringB x = true → x.size ≤ maxLen := fun x h => by have := (ring_sz h).2; unfold maxLen; omega
  have HIS : Hid (∀ wx, Calls Tryd.prog 27 #[.string s] wx fun e w' => e = .returned (.bool true) ∧ wx = w') := Lib.hid fun wx => by
    have := isRing_any s wx (hsz s hs)
    rwa [hs] at this
  have HIV : Hid (∀ wx, Calls Tryd.prog 27 #[.string v] wx fun e w' => e = .returned (.bool true) ∧ wx = w') := Lib.hid fun wx => by
    have := isRing_any v wx (hsz v hv)
    rwa [hv] at this
  have HP := Lib.hid (fun wx => pathI_any s v wx hs hv)
  go_enter Tryd.func14, Tryd.ntmps14
  go_wp2_with fail
  refine (HP.out _).mono ?_
  rintro e w1 ⟨o, ho, ⟨rfl, rfl⟩ | ⟨q, x, rfl, rfl, hown⟩, hb⟩
  · have HO := Lib.hid ho
    have HB := Lib.hid hb
    clear ho hb
    go_wp2_with fail
    refine (HIS.out _).mono ?_
    rintro e w' ⟨rfl, rfl⟩
    go_wp2_with fail
    refine (HIV.out _).mono ?_
    rintro e w' ⟨rfl, rfl⟩
    go_wp2
    go_ret2
    exact ⟨none, HO.out, rfl, HB.out⟩
  · have HO := Lib.hid ho
    have HB := Lib.hid hb
    clear ho hb hown
    go_wp2_with fail
    refine (HIS.out _).mono ?_
    rintro e w' ⟨rfl, rfl⟩
    go_wp2_with fail
    refine (HIV.out _).mono ?_
    rintro e w' ⟨rfl, rfl⟩
    go_wp2
    go_ret2
    exact ⟨some q, HO.out, rfl, HB.out⟩
set_option maxRecDepth 100000 in
set_option maxHeartbeats 1000000 in
theorem reachI_no (s v : ByteArray) (w : World) (hs : s.size ≤ maxLen) (hv : v.size ≤ maxLen) (h : (ringB s && ringB v) = false) :
    Calls Tryd.prog 14 #[.string s, .string v] w fun e w' => e = .returned (.tuple #[.bool false, .bool false]) ∧ w = w' := by
  have HP := Lib.hid (fun wx => pathI_no s v wx hs hv h)
  have HIS := Lib.hid (fun wx => isRing_any s wx hs)
  have HIV := Lib.hid (fun wx => isRing_any v wx hv)
  cases hs' : ringB s
  · rw [hs'] at HIS
    clear h hs'
    go_enter Tryd.func14, Tryd.ntmps14
    go_wp2_with fail
    refine (HP.out _).mono ?_
    rintro e w1 ⟨rfl, rfl⟩
    go_wp2_with fail
    refine (HIS.out _).mono ?_
    rintro e w' ⟨rfl, rfl⟩
    go_wp2
    go_ret2
    exact ⟨rfl, rfl⟩
  · rw [hs', Bool.true_and] at h
    rw [hs'] at HIS
    rw [h] at HIV
    clear h hs'
    go_enter Tryd.func14, Tryd.ntmps14
    go_wp2_with fail
    refine (HP.out _).mono ?_
    rintro e w1 ⟨rfl, rfl⟩
    go_wp2_with fail
    refine (HIS.out _).mono ?_
    rintro e w' ⟨rfl, rfl⟩
    go_wp2_with fail
    refine (HIV.out _).mono ?_
    rintro e w' ⟨rfl, rfl⟩
    go_wp2
    go_ret2
    exact ⟨rfl, rfl⟩
set_option maxRecDepth 100000 in
set_option maxHeartbeats 1000000 in
theorem aroundI_any (s : ByteArray) (w : World) (hs : ringB s = true) :
    Calls Tryd.prog 23 #[.string s] w fun e w' => ∃ o, RoundIs s s o ∧ e = .returned (lenP o) ∧ Below w.heap.size w w' := by
  have HIS : Hid (∀ wx, Calls Tryd.prog 27 #[.string s] wx fun e w' => e = .returned (.bool true) ∧ wx = w') := Lib.hid fun wx => by
    have := isRing_any s wx (by have := (ring_sz hs).2; unfold maxLen; omega)
    rwa [hs] at this
  have HRS := Lib.hid (fun wx => ringOf_any s wx (ring_sz hs).2)
  have HPB := Lib.hid (fun wx => roundI_any s s wx hs hs)
  go_enter Tryd.func23, Tryd.ntmps23
  go_wp2_with fail
  refine (HIS.out _).mono ?_
  rintro e w' ⟨rfl, rfl⟩
  go_wp2_with fail
  refine (HRS.out _).mono ?_
  rintro e w1 ⟨rfl, hb1⟩
  go_wp2_with fail
  refine (HRS.out _).mono ?_
  rintro e w2 ⟨rfl, hb2⟩
  go_wp2_with fail
  refine (HPB.out _).mono ?_
  have HB2 := Lib.hid (hb1.trans (hb2.mono hb1.size))
  clear hb1 hb2
  rintro e w3 ⟨o, ho, ⟨rfl, rfl⟩ | ⟨q, x, rfl, rfl, hown⟩, hb3⟩
  · have HO := Lib.hid ho
    have HB3 := Lib.hid (HB2.out.trans (hb3.mono HB2.out.size))
    clear ho hb3
    go_wp2
    go_ret2
    exact ⟨none, HO.out, rfl, HB3.out⟩
  · obtain ⟨A, cap, rfl⟩ := own_form hown
    have HO := Lib.hid ho
    have HB3 := Lib.hid (HB2.out.trans (hb3.mono HB2.out.size))
    clear ho hb3 hown
    go_wp2
    go_ret2
    exact ⟨some q, HO.out, rfl, HB3.out⟩
set_option maxRecDepth 100000 in
set_option maxHeartbeats 1000000 in
theorem aroundI_no (s : ByteArray) (w : World) (hs : s.size ≤ maxLen) (h : ringB s = false) :
    Calls Tryd.prog 23 #[.string s] w fun e w' => e = .returned (lenP none) ∧ w = w' := by
  have HIS := Lib.hid (fun wx => isRing_any s wx hs)
  rw [h] at HIS
  clear h
  go_enter Tryd.func23, Tryd.ntmps23
  go_wp2_with fail
  refine (HIS.out _).mono ?_
  rintro e w' ⟨rfl, rfl⟩
  go_wp2
  go_ret2
  exact ⟨rfl, rfl⟩
end Go.Proofs.YtdcbjbmnkajjcaaDoor
