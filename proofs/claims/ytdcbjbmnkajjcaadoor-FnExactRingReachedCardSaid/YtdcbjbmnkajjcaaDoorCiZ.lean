/- Contract: the program's search on rings, over a channel. -/
import Derived.Test.YtdcbjbmnkajjcaaDoorCiK
import Derived.Test.YtdcbjbmnkajjcaaDoorChn
import Derived.Test.YtdcbjbmnkajjcaaDoorCiQ
namespace Go.Proofs.YtdcbjbmnkajjcaaDoor
open Go.RowKit Go.Maps Go.Conc

set_option maxRecDepth 100000 in
set_option maxHeartbeats 1000000 in
theorem rings_any (t g f : Nat) (s : ByteArray) (w : World) (h : SameC t g f s) :
    Calls Tryd.prog 45 #[ringV (byt s)] w fun e w' => e = .returned (.int .i64 (manyK t g f)) ∧ Below w.heap.size w w' := by
  have h9 := (ring_sz h.ring).2
  have hbl := byt_len s
  have HTX : Hid (∀ wx, Calls Tryd.prog 29 #[ringV (byt s)] wx fun e w' => e = .returned (.string s) ∧ Below wx.heap.size wx w') := Lib.hid fun wx => by
    have := ringText_any (byt s) wx (by omega) (ring_nz h.ring)
    rw [str_byt] at this
    exact this
  have HCO : Hid (∀ wx, Calls Tryd.prog 55 #[.string s] wx fun e w' => e = .returned (.tuple #[.int .i64 t, .int .i64 g, .int .i64 f, .bool true]) ∧ wx = w') := Lib.hid fun wx => by
    have := countOf_any s wx (by unfold maxLen; omega)
    unfold countsOr at this
    rw [ring_good h.ring, if_pos rfl, h.ct, h.cg, h.cf] at this
    exact this
  have HCL : Hid (∀ wx, Calls Tryd.prog 56 #[.int .i64 t, .int .i64 g, .int .i64 f] wx fun e w' => e = .returned (.tuple #[.int .i64 (manyK t g f), .bool true]) ∧ Below wx.heap.size wx w') := Lib.hid fun wx => by
    have := countLines_any t g f wx
    rw [h.three, manyK_eq h.three] at this
    exact this
  obtain ⟨c0, c1, c2, c3, c4, c5, c6, c7, c8, hp9⟩ := ring_nine (ringP_len (l := byt s) (by omega))
  have hv : ringV (byt s) = .agg #[.int .u8 c0.toNat, .int .u8 c1.toNat, .int .u8 c2.toNat, .int .u8 c3.toNat, .int .u8 c4.toNat, .int .u8 c5.toNat, .int .u8 c6.toNat, .int .u8 c7.toNat, .int .u8 c8.toNat] := by unfold ringV; rw [hp9]; rfl
  rw [hv] at HTX ⊢
  generalize (manyK t g f) = N at *
  clear hv hp9 h hbl
  go_enter Tryd.func45, Tryd.ntmps45
  go_wp2_with fail
  refine (HTX.out _).mono ?_
  rintro e w1 ⟨rfl, hb1⟩
  have HB1 := Lib.hid (((Below.refl w.heap.size w).alloc (Nat.le_refl _) (Obj.cells #[.int .u8 c0.toNat, .int .u8 c1.toNat, .int .u8 c2.toNat, .int .u8 c3.toNat, .int .u8 c4.toNat, .int .u8 c5.toNat, .int .u8 c6.toNat, .int .u8 c7.toNat, .int .u8 c8.toNat] 46)).trans (hb1.mono (by simp)))
  clear hb1
  go_wp2_with fail
  refine (HCO.out _).mono ?_
  rintro e w2 ⟨rfl, rfl⟩
  go_wp2_with fail
  refine (HCL.out _).mono ?_
  rintro e w2 ⟨rfl, hb2⟩
  have HB2 := Lib.hid (HB1.out.trans (hb2.mono HB1.out.size))
  go_wp2
  go_ret
  exact ⟨rfl, HB2.out⟩

/-! ### the search -/
open Lean Elab Tactic in
elab "peek_" : tactic => withMainContext do
  let t := (← instantiateMVars (← getMainTarget)).consumeMData
  let s := (toString (← Meta.ppExpr t)).take 150
  IO.eprintln s!"PEEK {s}"
theorem Tryd.infoRb : (Tryd.prog.info? 46).map (·.bytes) = some 9 := by kernel_rfl
theorem mkChan_run (N : Nat) (h : N ≤ 100000) (w : World) : (Instr.makeChan 68 (.int .i64 N)).run Tryd.prog w = .ok (.chan (some w.heap.size)) (w.alloc (.chan N #[] false 0 0 false)) := by
  have hb := Tryd.infoRb
  cases hi : Tryd.prog.info? 46 with
  | none => rw [hi] at hb; cases hb
  | some i =>
    rw [hi] at hb
    have hb : i.bytes = 9 := by simpa using hb
    exact run_makeChan (P := Tryd.prog) (w := w) Tryd.underlying68 hi .i64 N (by omega) (by rw [hb]; omega)
theorem list_nine {l : List Value} (h : l.length = 9) : ∃ c0 c1 c2 c3 c4 c5 c6 c7 c8, l = [c0, c1, c2, c3, c4, c5, c6, c7, c8] := by
  match l, h with
  | [c0, c1, c2, c3, c4, c5, c6, c7, c8], _ => exact ⟨_, _, _, _, _, _, _, _, _, rfl⟩
theorem rng_alloc (w : World) (cs : List Value) (ty : TypeId) : (w.alloc (.cells cs.toArray ty)).rangeAt w.heap.size 0 cs := fun j v hv => by
  rw [World.cell?_alloc_new, Nat.zero_add]
  simpa using hv
theorem grown_alloc (w : World) (o : Obj) : w.grownBy (w.alloc o) none := grown_of_below ((Below.refl _ _).alloc (Nat.le_refl _) _)
/-- The rings that wait. -/
def chQ (s : ByteArray) (L : List (EntP ByteArray)) (k : Nat) : Array Value := (((qP s L).drop k).map fun e => ringV (byt e.1)).toArray
theorem chQ_none (s : ByteArray) (L : List (EntP ByteArray)) : chQ s L (L.length + 1) = #[] := by
  unfold chQ qP
  rw [List.drop_of_length_le (by simp)]
  rfl
theorem chQ_some (s : ByteArray) (L : List (EntP ByteArray)) (k : Nat) {U : ByteArray} {p : List Nat} (h : (qP s L)[k]? = some (U, p)) : 0 < (chQ s L k).size ∧ (chQ s L k).getD 0 undef = ringV (byt U) ∧ (chQ s L k).extract 1 (chQ s L k).size = chQ s L (k + 1) := by
  obtain ⟨hk, he⟩ := List.getElem?_eq_some_iff.1 h
  have hd : (qP s L).drop k = (U, p) :: (qP s L).drop (k + 1) := by rw [List.drop_eq_getElem_cons hk, he]
  unfold chQ
  rw [hd]
  refine ⟨by simp, by simp, ?_⟩
  simp
  rw [List.take_of_length_le (by simp)]
theorem chQ_size (s : ByteArray) (L : List (EntP ByteArray)) (k : Nat) : (chQ s L k).size = L.length + 1 - k := by
  unfold chQ qP
  simp
theorem chQ_push (s : ByteArray) (L : List (EntP ByteArray)) (k : Nat) (x : ByteArray) (q : List Nat) (h : k ≤ L.length + 1) : chQ s (L ++ [(x, q)]) k = (chQ s L k).push (ringV (byt x)) := by
  unfold chQ qP
  rw [← List.cons_append, List.drop_append_of_le_length (by simpa using h)]
  simp
theorem bfp_sameQ {t g f : Nat} {s : ByteArray} (h : SameC t g f s) {L : List (EntP ByteArray)} (hL : ∀ e ∈ L, SameC t g f e.1) {U : ByteArray} {p : List Nat} (hu : (U, p) ∈ qP s L) : SameC t g f U := by
  unfold qP at hu
  rcases List.mem_cons.1 hu with hu | hu
  · injection hu with hu; rw [hu]; exact h
  · exact hL _ hu
theorem there_zr (W : World) {cs : List Value} (h : cs.length = 9) : (W.alloc zrO).there W.heap.size 0 cs.length := by
  have hb : (W.alloc zrO).heap[W.heap.size]? = some zrO := heap_alloc_new W _
  rw [h]
  intro j hj
  unfold World.cell? World.frozen?
  rw [Nat.zero_add, hb]
  rcases (by omega : j = 0 ∨ j = 1 ∨ j = 2 ∨ j = 3 ∨ j = 4 ∨ j = 5 ∨ j = 6 ∨ j = 7 ∨ j = 8) with rfl | rfl | rfl | rfl | rfl | rfl | rfl | rfl | rfl <;> exact ⟨rfl, rfl⟩
theorem set_grows (W : World) (cs : List Value) : W.heap.size < ((W.alloc zrO).setCells W.heap.size 0 cs).heap.size := by
  have h0 : Below W.heap.size (W.alloc zrO) ((W.alloc zrO).setCells W.heap.size 0 cs) := below_setCells (Nat.le_refl _) _ _ _ (Below.refl _ _)
  have h1 := h0.size
  have h2 : (W.alloc zrO).heap.size = W.heap.size + 1 := by simp
  omega
abbrev zsO : Obj := .cells #[.int .i64 0, .int .i64 0, .int .u8 0, .int .u8 0, .int .u8 0, .int .u8 0, .int .u8 0, .int .u8 0, .int .u8 0, .int .u8 0, .int .u8 0] 73
theorem set_growsS (W : World) (cs : List Value) : W.heap.size < ((W.alloc zsO).setCells W.heap.size 0 cs).heap.size := by
  have h0 : Below W.heap.size (W.alloc zsO) ((W.alloc zsO).setCells W.heap.size 0 cs) := below_setCells (Nat.le_refl _) _ _ _ (Below.refl _ _)
  have h1 := h0.size
  have h2 : (W.alloc zsO).heap.size = W.heap.size + 1 := by simp
  omega
theorem there_zs (W : World) {cs : List Value} (h : cs.length = 11) : (W.alloc zsO).there W.heap.size 0 cs.length := by
  have hb : (W.alloc zsO).heap[W.heap.size]? = some zsO := heap_alloc_new W _
  rw [h]
  intro j hj
  unfold World.cell? World.frozen?
  rw [Nat.zero_add, hb]
  rcases (by omega : j = 0 ∨ j = 1 ∨ j = 2 ∨ j = 3 ∨ j = 4 ∨ j = 5 ∨ j = 6 ∨ j = 7 ∨ j = 8 ∨ j = 9 ∨ j = 10) with rfl | rfl | rfl | rfl | rfl | rfl | rfl | rfl | rfl | rfl | rfl <;> exact ⟨rfl, rfl⟩
theorem Tryd.infoSt : (Tryd.prog.info? 73).map (·.size) = some 11 := by kernel_rfl
theorem zeroSt (w : World) : (zeroValue 73).run Tryd.prog w = .ok (stV 0 0 []) w := by kernel_rfl
theorem stC_len (f t : Int) {l : List UInt8} (h : l.length ≤ 9) : (stC f t l).length = 11 := by
  unfold stC
  rw [List.length_cons, List.length_cons, u8s_len, ringP_len h]
theorem stC_one (f t : Int) (l : List UInt8) : ∀ v ∈ stC f t l, v.oneCell' = true := fun v hv => by
  unfold stC at hv
  rw [List.mem_cons, List.mem_cons] at hv
  rcases hv with rfl | rfl | hv
  · rfl
  · rfl
  · exact u8s_one _ v hv
theorem fold_eleven (x y : Value) {cs : List Value} (h : cs.length = 9) : List.foldl (fun (cs : Array Value) (x : Value × Nat) => cs.setIfInBounds (2 + x.snd) x.fst) #[x, y, .int .u8 0, .int .u8 0, .int .u8 0, .int .u8 0, .int .u8 0, .int .u8 0, .int .u8 0, .int .u8 0, .int .u8 0] cs.zipIdx = (x :: y :: cs).toArray := by
  obtain ⟨c0, c1, c2, c3, c4, c5, c6, c7, c8, rfl⟩ := list_nine h
  simp [List.zipIdx]
/-- A look at a key, with whether it is there, at the operation. -/
theorem wpList_look_ok {P : Program} (w : World) {ops : Array Oper} {rest : List Oper} {o : Oper} {a : Act} {Q : Exit → Act → World → Prop}
    (hg : o.guard = none) (m x : Operand) (t : TypeId) (hop : o.op = Op.lookup t m x true)
    (k e : TypeId) (K : Keyed P k) (ht : P.underlying t = some (.map k e)) {z : Value} (hz : (zeroValue e).run P w = .ok z w) (R : Value → Option (DataW Unit × List MemPlace)) (b n : Nat) (D : DataW Unit)
    (hm : a.eval m = .map (some b)) (hown : w.ownsMap P k R b n D) {zd : DataW Unit} {zp : List MemPlace} (hR : R z = some (zd, zp)) (key : Value) (kl : Lit) (hx : a.eval x = key) (hkey : keyOf P k key = some kl)
    (hK : ∀ v ps, R v = some (D.atKey kl zd, ps) → wpList P ops Q rest (a.put o.dst (.tuple #[v, .bool (Maps.has D kl)])) w) :
    wpList P ops Q (o :: rest) a w := by
  refine wpList_plain hg fun K' hK' => ?_
  obtain ⟨v, ps, hrun, hv⟩ := hown.look_ok K ht hz hR hkey
  unfold Oper.wp
  simp [execOp, hop, hm, hx, hrun, Result.andThen]
  exact hK' _ _ (hK v ps hv)
theorem fndC_at {s : ByteArray} {D : DataW Unit} {L : List (EntP ByteArray)} (hL : ∀ e ∈ L, ringB e.1 = true) (h : FndC s D L) (hs : ringB s = true) (x : List UInt8) : ∃ f t l, l.length ≤ 9 ∧ D.atKey (.string x) (stD 0 0 []) = stD f t l := by
  cases hh : Maps.has D (.string x)
  · exact ⟨0, 0, [], by simp, atKey_of_not_has hh _⟩
  · obtain ⟨e, he, rfl⟩ := h.key x hh
    obtain ⟨u, p, i, f, t, _, hu, _, _, h4⟩ := h.val e he
    refine ⟨f, t, byt u, ?_, h4.2 _⟩
    rcases List.mem_cons.1 hu with rfl | hu
    · exact ring_len hs
    · obtain ⟨e', he', rfl⟩ := List.mem_map.1 hu
      exact ring_len (hL e' he')
/-- Where the run stands within one ring's moves. -/
structure RgW (s : ByteArray) (bm ch N B k : Nat) (U : ByteArray) (p : List Nat) (cs : List Value) (A : Option Addr) (M : List (Int × Int)) (W : World) (D : DataW Unit) (L : List (EntP ByteArray)) (i : Nat) : Prop where
  map : W.ownsMap Tryd.prog 46 stR bm L.length D
  fv : FndC s D L
  bf : BfP nxC s L k i
  qu : (qP s L)[k]? = some (U, p)
  chn : W.heap[ch]? = some (.chan N (chQ s L (k + 1)) false (L.length + 1) (k + 1) false)
  rng : W.rangeAt B 0 cs
  mv : MvAt W A M
  lt : B < W.heap.size
theorem mvAt_kept {W W' : World} {A : Option Addr} {l : List (Int × Int)} {row : Option Nat} (h : MvAt W A l) (hg : W.grownBy W' row) (hne : ∀ a, A = some a → some a.block ≠ row) : MvAt W' A l := by
  intro k hk
  obtain ⟨g, a, b, c, d⟩ := h k hk
  have hb := hg.block g b (hne _ a)
  exact ⟨g, a, Nat.lt_of_lt_of_le b hg.size, (World.cell?_of_block (a := ⟨g, k * 2, none⟩) hb).trans c, (World.cell?_of_block (a := ⟨g, k * 2 + 1, none⟩) hb).trans d⟩
section
variable {s : ByteArray} {bm ch N B k : Nat} {U : ByteArray} {p : List Nat} {cs : List Value} {A : Option Addr} {M : List (Int × Int)} {W : World} {D : DataW Unit} {L : List (EntP ByteArray)} {i : Nat}
theorem RgW.chl (h : RgW s bm ch N B k U p cs A M W D L i) : ch < W.heap.size := (Array.getElem?_eq_some_iff.1 h.chn).1
theorem RgW.below {W' : World} (h : RgW s bm ch N B k U p cs A M W D L i) (hb : Below W.heap.size W W') : RgW s bm ch N B k U p cs A M W' D L i :=
  have hg := grown_of_below hb
  ⟨h.map.kept hg (by simp), h.fv, h.bf, h.qu, (hb.block ch h.chl).trans h.chn, rng_grown h.rng hg h.lt (by simp), mvAt_kept h.mv hg (by simp), Nat.lt_of_lt_of_le h.lt hb.size⟩
end
def StPost (s : ByteArray) (w : World) (e : Ending) (w' : World) : Prop :=
  ∃ bm D L, e = .returned (.map (some bm)) ∧ w.heap.size ≤ bm ∧ w'.ownsMap Tryd.prog 46 stR bm L.length D ∧ FndC s D L ∧ BfP nxC s L (L.length + 1) 0 ∧ Below w.heap.size w w'

set_option maxRecDepth 100000 in
set_option maxHeartbeats 4000000 in
theorem steps_any (t g f : Nat) (s : ByteArray) (w : World) (h : SameC t g f s) :
    Calls Tryd.prog 30 #[ringV (byt s)] w (StPost s w) := by
  have h9 := (ring_sz h.ring).2
  have hbl := byt_len s
  have HRI := Lib.hid (fun wx => rings_any t g f s wx h)
  have hN0 : 0 < manyK t g f := by
    have := same_few [s] (by simp) (fun x hx => by rw [List.mem_singleton.1 hx]; exact h)
    have : 1 ≤ manyK t g f := by simpa using this
    omega
  have hN1 : manyK t g f ≤ 100000 := by
    have h1 : thrC t g f = true := (thrC_iff _ _ _).2 (by have := h.sum; have := ring_sz h.ring; omega)
    have := many9 h1
    have := manyK_eq h.three
    omega
  have HFEW := Lib.hid (fun L k j (hB : BfP nxC s L k j) => bfp_few h hB)
  have HSAME := Lib.hid (fun L k j (hB : BfP nxC s L k j) => bfp_same h hB)
  have HS := Lib.hid h
  have hl9 : (u8s (ringP (byt s))).length = 9 := by rw [u8s_len, ringP_len (by omega)]
  have HI1 : Hid ((Tryd.prog.info? 46).map (·.size) = some (u8s (ringP (byt s))).length) := Lib.hid (by rw [Tryd.infoR, hl9])
  have hv : ringV (byt s) = .agg (u8s (ringP (byt s))).toArray := rfl
  have hcq : chQ s [] 0 = #[ringV (byt s)] := rfl
  rw [hv] at hcq
  have hmm := @run_makeMap Tryd.prog
  rw [hv] at HRI ⊢
  generalize u8s (ringP (byt s)) = cs at HRI HI1 hl9 hcq ⊢
  generalize manyK t g f = N at HRI hN0 hN1 HFEW
  have hmc := mkChan_run N hN1
  clear hbl h9 hv h
  unfold StPost
  obtain ⟨x0, x1, x2, x3, x4, x5, x6, x7, x8, rfl⟩ := list_nine hl9
  have HCQ : Hid (chQ s [] 0 = #[Value.agg #[x0, x1, x2, x3, x4, x5, x6, x7, x8]]) := Lib.hid hcq
  clear hcq
  go_enter Tryd.func30, Tryd.ntmps30
  refine wp_seq_stop ?_
  go_wp2
  refine stop_go (wp_seq_stop ?_)
  go_wp2
  refine stop_go (wp_seq_stop ?_)
  go_wp2_with fail
  refine (HRI.out _).mono ?_
  rintro e w1 ⟨rfl, hb1⟩
  obtain ⟨W0, hW0⟩ : ∃ W0, W0 = (w.alloc (Obj.cells #[x0, x1, x2, x3, x4, x5, x6, x7, x8] 46)).alloc (Obj.map #[] 0) := ⟨_, rfl⟩
  rw [← hW0] at hb1
  have hz0 : W0.heap.size = w.heap.size + 2 := by rw [hW0]; simp
  have hB0 : Below w.heap.size w W0 := by rw [hW0]; exact ((Below.refl _ _).alloc (Nat.le_refl _) _).alloc (by simp) _
  have hR0 : W0.rangeAt w.heap.size 0 [x0, x1, x2, x3, x4, x5, x6, x7, x8] := by
    rw [hW0]
    exact rng_grown (rng_alloc w _ _) (grown_alloc _ _) (by simp) (by simp)
  have hM0 : W0.ownsMap Tryd.prog 46 stR (w.heap.size + 1) 0 (DataW.map []) := by
    have := World.ownsMap_made (H := Unit) (w.alloc (Obj.cells #[x0, x1, x2, x3, x4, x5, x6, x7, x8] 46)) Tryd.prog 46 stR
    rw [hW0]
    simpa using this
  have hg1 := grown_of_below hb1
  have HR1 := Lib.hid ((rng_grown hR0 hg1 (by omega) (by simp)))
  have HM1 := Lib.hid (hM0.kept hg1 (by simp))
  have HB1 := Lib.hid (hB0.trans (hb1.mono (by omega)))
  have hz1 : w.heap.size + 2 ≤ w1.heap.size := by have := hb1.size; omega
  clear hb1 hW0 hz0 hB0 hR0 hM0 hg1 HRI
  obtain ⟨W2, hW2⟩ : ∃ W2, W2 = w1.alloc (.chan N #[] false 0 0 false) := ⟨_, rfl⟩
  have HR2 : Hid (W2.rangeAt w.heap.size 0 [x0, x1, x2, x3, x4, x5, x6, x7, x8]) := Lib.hid (by rw [hW2]; exact rng_grown HR1.out (grown_alloc _ _) (by omega) (by simp))
  have HC2 : Hid (W2.heap[w1.heap.size]? = some (.chan N #[] false 0 0 false)) := Lib.hid (by rw [hW2]; exact heap_alloc_new w1 _)
  have HM2 : Hid (W2.ownsMap Tryd.prog 46 stR (w.heap.size + 1) 0 (DataW.map [])) := Lib.hid (by rw [hW2]; exact HM1.out.alloc _)
  have HB2 : Hid (Below w.heap.size w W2) := Lib.hid (by rw [hW2]; exact HB1.out.alloc HB1.out.size _)
  have HZ2 : Hid (w1.heap.size < W2.heap.size) := Lib.hid (by rw [hW2]; simp)
  go_wp2
  refine stop_go (wp_seq_stop ?_)
  rw [← hW2]
  clear hW2 HR1 HM1 HB1
  refine wp_send_row rfl rfl rfl rfl rfl rfl (c := w1.heap.size) (b := w.heap.size) (cs := [x0, x1, x2, x3, x4, x5, x6, x7, x8]) rfl rfl HR2.out Tryd.underlying46 rfl HI1.out rfl rfl HC2.out hN0 ?_
  go_wp2
  obtain ⟨W3, hW3⟩ : ∃ W3, W3 = W2.setChan w1.heap.size N #[Value.agg #[x0, x1, x2, x3, x4, x5, x6, x7, x8]] false 1 0 false := ⟨_, rfl⟩
  have HC3 : Hid (W3.heap[w1.heap.size]? = some (.chan N (chQ s [] 0) false 1 0 false)) := Lib.hid (by rw [hW3, heap_setChan _ _ _ _ _ _ _ _ HZ2.out, HCQ.out])
  have hg3 : W2.grownBy W3 (some w1.heap.size) := by rw [hW3]; exact grown_setChan _ _ _ _ _ _ _ _
  have HM3 := Lib.hid (HM2.out.kept hg3 (by simp; omega))
  have HB3 : Hid (Below w.heap.size w W3) := Lib.hid (by rw [hW3]; exact below_setChan HB2.out (by omega) _ _ _ _ _ _)
  have HZ3 : Hid (w1.heap.size < W3.heap.size) := Lib.hid (by have := hg3.size; have := HZ2.out; omega)
  refine stop_go ?_
  simp only [Act.put, List.push_toArray, List.nil_append, Nat.zero_add, List.setIfInBounds_toArray, List.set_cons_succ, List.set_cons_zero]
  rw [← hW3]
  clear hW3 hg3 HC2 HM2 HB2 HZ2 HR2 W0 hmm hmc
  generalize w1.heap.size = ch at HC3 HZ3 hz1 ⊢
  clear hl9 HI1
  go_wp2
  go_loopw [26] (fun _ wr => ∃ (D : DataW Unit) (L : List (EntP ByteArray)) (k : Nat), k ≤ L.length + 1 ∧ wr.ownsMap Tryd.prog 46 stR (w.heap.size + 1) L.length D ∧ FndC s D L ∧ BfP nxC s L k 0 ∧ wr.heap[ch]? = some (.chan N (chQ s L k) false (L.length + 1) k false) ∧ Below w.heap.size w wr) (fun _ wr => N + 2 - rcvN wr ch)
  case atStart => exact ⟨_, [], 0, by simp, HM3.out, fndC_nil s (fun x => by simp [Maps.has]), BfP.start, HC3.out, HB3.out⟩
  case round =>
    obtain ⟨D, L, k, hk, hM, hF, hB, hC, hb⟩ := hrel
    clear HM3 HB3 HC3 HZ3 HCQ
    have HRC := Lib.hid (rcv_at hC)
    have hkN : k ≤ N + 1 := by have := HFEW.out L k 0 hB; omega
    by_cases hlt : k < L.length + 1
    · obtain ⟨U, p, hu⟩ : ∃ U p, (qP s L)[k]? = some (U, p) := ⟨((qP s L)[k]'(by simpa [qP] using hlt)).1, ((qP s L)[k]'(by simpa [qP] using hlt)).2, List.getElem?_eq_getElem _⟩
      obtain ⟨q1, q2, q3⟩ := chQ_some s L k hu
      have hsu := bfp_sameQ HS.out (HSAME.out L k 0 hB) (List.mem_of_getElem? hu)
      have hHU := Lib.hid hsu
      have hMV : ∀ wx, Calls Tryd.prog 46 #[ringV (byt U)] wx (SpPost wx (rgTo U U.size)) := fun wx => ringMovesOf_any U wx hsu.ring
      have hBH : ∀ a c wx, a < U.size → c < U.size → a ≠ c → Calls Tryd.prog 47 #[ringV (byt U), .agg #[.int .i64 (a : Nat), .int .i64 (c : Nat)]] wx fun e w' => e = .returned (ringV (putL U a c)) ∧ Below wx.heap.size wx w' := fun a c wx ha hc hne => by
        have hbl := byt_len U
        exact ringBehind_any (byt U) a c wx (by rw [hbl]; exact (ring_sz hsu.ring).2) (by omega) (by omega) hne
      have hl9 : (u8s (ringP (byt U))).length = 9 := by rw [u8s_len, ringP_len (ring_len hsu.ring)]
      have h1c := all_oneCell_toArray (u8s_one (ringP (byt U)))
      have hv : ringV (byt U) = .agg (u8s (ringP (byt U))).toArray := rfl
      have hsd : ∀ a c : Nat, stV a c (byt U) = .agg (.int .i64 (a : Int) :: .int .i64 (c : Int) :: u8s (ringP (byt U))).toArray := fun _ _ => rfl
      rw [hv] at hMV hBH q2
      clear hv
      generalize u8s (ringP (byt U)) = cs at hMV hBH q2 hl9 h1c hsd
      have HMV := Lib.hid hMV
      have HBH := Lib.hid hBH
      have HSD := Lib.hid hsd
      have HI1 : Hid ((Tryd.prog.info? 46).map (·.size) = some cs.length) := Lib.hid (by rw [Tryd.infoR, hl9])
      have HI2 : Hid ((Tryd.prog.info? 46).map (·.size) = some cs.toArray.size) := Lib.hid (by rw [Tryd.infoR, List.size_toArray, hl9])
      have H1C := Lib.hid h1c
      clear hMV hBH h1c hsd
      have hhs : w.heap.size ≤ wr.heap.size := hb.size
      have hcs : ch < wr.heap.size := (Array.getElem?_eq_some_iff.1 hC).1
      obtain ⟨W1, hW1⟩ : ∃ W1, W1 = wr.setChan ch N (chQ s L (k + 1)) false (L.length + 1) (k + 1) false := ⟨_, rfl⟩
      have hg1 : wr.grownBy W1 (some ch) := by rw [hW1]; exact grown_setChan _ _ _ _ _ _ _ _
      have HM1 := Lib.hid (hM.kept hg1 (by simp; omega))
      have HC1 : Hid (W1.heap[ch]? = some (.chan N (chQ s L (k + 1)) false (L.length + 1) (k + 1) false)) := Lib.hid (by rw [hW1, heap_setChan _ _ _ _ _ _ _ _ hcs])
      have HB1 : Hid (Below w.heap.size w W1) := Lib.hid (by rw [hW1]; exact below_setChan hb (by omega) _ _ _ _ _ _)
      have HS1 : Hid (W1.heap.size = wr.heap.size) := Lib.hid (by rw [hW1]; exact size_setChan _ _ _ _ _ _ _ _)
      have hcs : ch < W1.heap.size := by rw [HS1.out]; exact hcs
      have HF := Lib.hid hF
      have HB := Lib.hid hB
      have HU := Lib.hid hu
      refine wp_block ?_
      refine wp_seq_stop ?_
      go_wp2
      refine stop_go (wp_seq_stop ?_)
      refine wp_select_recv rfl rfl (c := ch) rfl (Tryd.zeroR wr) hC q1 q2 q3 ?_
      rw [← hW1]
      clear hM hF hB hu hb hg1 q1 q2 q3 hC hW1 hsu
      go_wp2
      refine stop_go ?_
      obtain ⟨W2, hW2⟩ : ∃ W2, W2 = (W1.alloc zrO).setCells W1.heap.size 0 cs := ⟨_, rfl⟩
      have hth : (W1.alloc zrO).there W1.heap.size 0 cs.length := there_zr W1 hl9
      have HTH : Hid ((W1.alloc zrO).there W1.heap.size 0 cs.toArray.size) := Lib.hid (by rw [List.size_toArray]; exact hth)
      have HR2 : Hid (W2.rangeAt W1.heap.size 0 cs) := Lib.hid (by rw [hW2]; exact World.rangeAt_setCells_same _ _ _ _ hth)
      have hb2 : Below W1.heap.size W1 W2 := by rw [hW2]; exact below_setCells (Nat.le_refl _) _ _ _ ((Below.refl _ _).alloc (Nat.le_refl _) _)
      have HZ2 : Hid (W1.heap.size < W2.heap.size) := Lib.hid (by rw [hW2]; exact set_grows W1 cs)
      have hg2 := grown_of_below hb2
      have HM2 := Lib.hid (HM1.out.kept hg2 (by simp))
      have HC2 := Lib.hid ((hb2.block ch hcs).trans HC1.out)
      have HB2 := Lib.hid (HB1.out.trans (hb2.mono HB1.out.size))
      clear hth hb2 hg2 HM1 HC1 HB1
      go_wp2_with (first | (refine wpList_store_mid rfl 46 (.tmp 5) (.tmp 22) rfl W1.heap.size 0 cs.toArray rfl rfl HTH.out HI2.out H1C.out ?_; rw [← hW2]; clear hW2) | (refine wpList_load_mid rfl 46 (.tmp 5) rfl W1.heap.size 0 rfl cs _ HR2.out Tryd.underlying46 rfl HI1.out ?_))
      refine (HMV.out _).mono ?_
      rintro e w3 ⟨v, rfl, ho3, hb3⟩
      obtain ⟨A, cap, rfl, at3⟩ := at_of_own ho3
      have hg3 := grown_of_below hb3
      have hMle : (rgTo U U.size).length ≤ 1000 := by
        have h1 := rgTo_le U U.size
        have h2 := (ring_sz hHU.out.ring).2
        have : U.size * U.size ≤ 9 * 9 := Nat.mul_le_mul h2 h2
        omega
      have HM3 := Lib.hid (HM2.out.kept hg3 (by simp))
      have HC3 := Lib.hid ((hb3.block ch (by have := HZ2.out; omega)).trans HC2.out)
      have HR3 := Lib.hid (rng_grown HR2.out hg3 HZ2.out (by simp))
      have HB3 := Lib.hid (HB2.out.trans (hb3.mono HB2.out.size))
      have HA3 : Hid (∀ a, A = some a → W2.heap.size ≤ a.block) := Lib.hid fun a e => (ho3.lt a.block (by rw [e]; rfl)).1
      have HZ3 : Hid (W1.heap.size < w3.heap.size) := Lib.hid (by have := HZ2.out; have := hb3.size; omega)
      have AT3 := Lib.hid at3
      have HIN : Hid (∀ i (h : i < (rgTo U U.size).length), ∃ a c : Nat, (rgTo U U.size)[i] = ((a : Int), (c : Int)) ∧ a < U.size ∧ c < U.size ∧ a ≠ c ∧ (nxC U)[i]? = some (str (putL U a c)) ∧ SameC t g f (str (putL U a c))) := Lib.hid fun i h => by
        have hm := List.getElem_mem h
        obtain ⟨a, c, e1, h1, h2, h3, h4⟩ := rg_in hm
        have e3 : (nxC U)[i]? = some (str (putL U a c)) := by
          unfold nxC
          rw [List.getElem?_map, List.getElem?_eq_getElem h, e1]
          rfl
        exact ⟨a, c, e1, h1, h2, h3, e3, same_next hHU.out (List.mem_of_getElem? e3)⟩
      have HRG : Hid (∀ i a c, (h : i < (rgTo U U.size).length) → (rgTo U U.size)[i] = (a, c) → (rgTo U U.size)[i]? = some (a, c)) := Lib.hid fun i a c h e => by rw [List.getElem?_eq_getElem h, e]
      clear at3 ho3 hb3 hg3 HM2 HC2 HR2 HB2 HMV HTH
      obtain ⟨M, hM⟩ : ∃ M, M = rgTo U U.size := ⟨_, rfl⟩
      have HMe := Lib.hid hM
      rw [← hM] at AT3 HIN HRG hMle ⊢
      clear hM
      generalize W1.heap.size = B at HR3 HZ3 hcs HZ2 ⊢
      clear HS1
      go_wp2
      go_loopw [26] (fun t wr => ∃ (i : Nat) (D : DataW Unit) (L : List (EntP ByteArray)), i ≤ M.length ∧ t = .int .i64 i ∧ RgW s (w.heap.size + 1) ch N B k U p cs A M wr D L i ∧ Below w.heap.size w wr) (fun t _ => M.length - (intOf t).toNat)
      case atStart => exact ⟨0, D, L, Nat.zero_le _, rfl, ⟨HM3.out, HF.out, HB.out, HU.out, HC3.out, HR3.out, AT3.out, HZ3.out⟩, HB3.out⟩
      case round =>
        clear HM3 HF HB HU HC3 HR3 AT3 HZ3 HB3
        obtain ⟨i, D, L, hi, rfl, hr, hb⟩ := hrel
        obtain ⟨V, hV⟩ : ∃ V : World, V = wr := ⟨_, rfl⟩
        subst hV
        have HR := Lib.hid hr
        have HB := Lib.hid hb
        by_cases hlti : i < M.length
        · obtain ⟨a, c, hac, ha, hc, hne, hy, hsx⟩ := HIN.out i hlti
          obtain ⟨gA, hgA, hml, m0, m1⟩ := hr.mv i hlti
          have HMI := Lib.hid (HRG.out i a c hlti hac)
          rw [hac] at m0 m1
          have HY := Lib.hid hy
          have hxl := ring_len hsx.ring
          have hkey := keyR hxl
          rw [byt_str] at hkey hxl
          have HKX : Hid (kbR (byt (str (putL U a c))) = kbR (putL U a c)) := Lib.hid (by rw [byt_str])
          have HSX := Lib.hid hsx
          subst hgA
          obtain ⟨V1, hV1⟩ : ∃ V1, V1 = V.alloc (mvB a c) := ⟨_, rfl⟩
          have hbV : Below V.heap.size V V1 := by rw [hV1]; exact (Below.refl _ _).alloc (Nat.le_refl _) _
          have HR1 := Lib.hid (HR.out.below hbV)
          have HD0 : Hid (V1.cell? ⟨V.heap.size, 0, none⟩ = some (.int .i64 a)) := Lib.hid (by rw [hV1, World.cell?_alloc_new]; rfl)
          have HD1 : Hid (V1.cell? ⟨V.heap.size, 1, none⟩ = some (.int .i64 c)) := Lib.hid (by rw [hV1, World.cell?_alloc_new]; rfl)
          have HZV : Hid (V.heap.size < V1.heap.size) := Lib.hid (by rw [hV1]; simp)
          have HBV := Lib.hid (HB.out.trans (hbV.mono HB.out.size))
          have HRV : Hid ((V.alloc (mvB a c)).rangeAt B 0 cs) := Lib.hid (by rw [← hV1]; exact HR1.out.rng)
          have HHB : Hid (V1 = V.alloc (mvB a c)) := Lib.hid hV1
          clear hr hb hac hy hsx hV1 hbV
          go_wp2_with (refine wpList_load_mid rfl 46 (.tmp 5) rfl B 0 rfl cs _ HRV.out Tryd.underlying46 rfl HI1.out ?_)
          refine (HBH.out a c _ ha hc hne).mono ?_
          rw [← HHB.out]
          rintro e w4 ⟨rfl, hb4⟩
          have HR4 := Lib.hid (HR1.out.below hb4)
          have HE0 := Lib.hid ((hb4.cell HZV.out).trans HD0.out)
          have HE1 := Lib.hid ((hb4.cell HZV.out).trans HD1.out)
          have HB4 := Lib.hid (HBV.out.trans (hb4.mono HBV.out.size))
          have HZ4 : Hid (V.heap.size < w4.heap.size) := Lib.hid (Nat.lt_of_lt_of_le HZV.out hb4.size)
          have hlx : (u8s (ringP (putL U a c))).length = 9 := by rw [u8s_len, ringP_len hxl]
          have H1X := Lib.hid (all_oneCell_toArray (u8s_one (ringP (putL U a c))))
          have hvx : ringV (putL U a c) = .agg (u8s (ringP (putL U a c))).toArray := rfl
          have HVX : Hid (ringV (byt (str (putL U a c))) = .agg (u8s (ringP (putL U a c))).toArray) := Lib.hid (by rw [byt_str]; rfl)
          rw [hvx] at hkey ⊢
          generalize u8s (ringP (putL U a c)) = cx at hkey hlx H1X HVX ⊢
          have HKEY := Lib.hid hkey
          have HIX1 : Hid ((Tryd.prog.info? 46).map (·.size) = some cx.length) := Lib.hid (by rw [Tryd.infoR, hlx])
          have HIX2 : Hid ((Tryd.prog.info? 46).map (·.size) = some cx.toArray.size) := Lib.hid (by rw [Tryd.infoR, List.size_toArray, hlx])
          obtain ⟨W5, hW5⟩ : ∃ W5, W5 = (w4.alloc zrO).setCells w4.heap.size 0 cx := ⟨_, rfl⟩
          have hth5 : (w4.alloc zrO).there w4.heap.size 0 cx.length := there_zr w4 hlx
          have HTH5 : Hid ((w4.alloc zrO).there w4.heap.size 0 cx.toArray.size) := Lib.hid (by rw [List.size_toArray]; exact hth5)
          have hb5 : Below w4.heap.size w4 W5 := by rw [hW5]; exact below_setCells (Nat.le_refl _) _ _ _ ((Below.refl _ _).alloc (Nat.le_refl _) _)
          have HX5 : Hid (W5.rangeAt w4.heap.size 0 cx) := Lib.hid (by rw [hW5]; exact World.rangeAt_setCells_same _ _ _ _ hth5)
          have HZ5 : Hid (w4.heap.size < W5.heap.size) := Lib.hid (by rw [hW5]; exact set_grows w4 cx)
          have HR5 := Lib.hid (HR4.out.below hb5)
          have HE05 := Lib.hid ((hb5.cell HZ4.out).trans HE0.out)
          have HE15 := Lib.hid ((hb5.cell HZ4.out).trans HE1.out)
          have HB5 := Lib.hid (HB4.out.trans (hb5.mono HB4.out.size))
          have HZ45 : Hid (V.heap.size < W5.heap.size) := Lib.hid (Nat.lt_trans HZ4.out HZ5.out)
          obtain ⟨f9, t9, l9, hl99, hat⟩ := fndC_at (fun e he => (bfp_sameQ HS.out (HSAME.out L k i HR.out.bf) (List.mem_cons_of_mem _ he : (e.1, e.2) ∈ qP s L)).ring) HR.out.fv HS.out.ring (kbR (putL U a c))
          have HAT := Lib.hid hat
          have hST : ∀ v ps, stR v = some (stD f9 t9 l9, ps) → v = .agg (stC f9 t9 l9).toArray := fun v ps h => stR_inv h
          have HST := Lib.hid hST
          have h11 := stC_len f9 t9 hl99
          have H1S := Lib.hid (all_oneCell_toArray (stC_one f9 t9 l9))
          clear hST hat hb4 hb5 hth5 hvx
          generalize stC f9 t9 l9 = c11 at HST h11 H1S
          have HIS2 : Hid ((Tryd.prog.info? 73).map (·.size) = some c11.toArray.size) := Lib.hid (by rw [Tryd.infoSt, List.size_toArray, h11])
          obtain ⟨W6, hW6⟩ : ∃ W6, W6 = (W5.alloc zsO).setCells W5.heap.size 0 c11 := ⟨_, rfl⟩
          have hth6 : (W5.alloc zsO).there W5.heap.size 0 c11.length := there_zs W5 h11
          have HTH6 : Hid ((W5.alloc zsO).there W5.heap.size 0 c11.toArray.size) := Lib.hid (by rw [List.size_toArray]; exact hth6)
          have hb6 : Below W5.heap.size W5 W6 := by rw [hW6]; exact below_setCells (Nat.le_refl _) _ _ _ ((Below.refl _ _).alloc (Nat.le_refl _) _)
          have HZ6 : Hid (W5.heap.size < W6.heap.size) := Lib.hid (by rw [hW6]; exact set_growsS W5 c11)
          have HX6 := Lib.hid (rng_grown HX5.out (grown_of_below hb6) HZ5.out (by simp))
          have HR6 := Lib.hid (HR5.out.below hb6)
          have HE06 := (hb6.cell HZ45.out).trans HE05.out
          have HE16 := (hb6.cell HZ45.out).trans HE15.out
          have HB6 := Lib.hid (HB5.out.trans (hb6.mono HB5.out.size))
          clear hth6 hb6 h11 hl99 hkey hlx
          by_cases hxk : str (putL U a c) ∈ kP L
          · have hhas := fndC_yes HR.out.fv hxk
            rw [HKX.out] at hhas
            have HHAS := Lib.hid hhas
            have HBF := Lib.hid (bfp_known HR.out.bf HR.out.qu HY.out hxk)
            clear hhas hxk
            go_wp2_with (first
              | (refine wpList_store_mid rfl 46 (.tmp 8) (.tmp 32) rfl w4.heap.size 0 cx.toArray rfl rfl HTH5.out HIX2.out H1X.out ?_; rw [← hW5]; clear hW5)
              | (refine wpList_load_mid rfl 46 (.tmp 8) rfl w4.heap.size 0 rfl cx _ HX5.out Tryd.underlying46 rfl HIX1.out ?_)
              | (at_lookup; refine wpList_look_ok _ rfl _ _ 50 rfl 46 73 Tryd.keysR Tryd.underlying50 (zeroSt W5) stR (w.heap.size + 1) L.length D rfl HR5.out.map (stR_mk 0 0 []) _ (.string (kbR (putL U a c))) rfl HKEY.out ?_; intro v9 ps9 hv9; rw [HAT.out] at hv9; obtain rfl := HST.out v9 ps9 hv9; rw [HHAS.out]; clear hv9)
              | (refine wpList_store_mid rfl 73 (.tmp 9) (.tmp 37) rfl W5.heap.size 0 c11.toArray rfl rfl HTH6.out HIS2.out H1S.out ?_; rw [← hW6]; clear hW6))
            go_roundw
            case rel => exact ⟨i + 1, D, L, by omega, by go_num, { HR6.out with bf := HBF.out }, HB6.out⟩
            case measure => simp [intOf]; omega
          · have hhas := fndC_no HR.out.fv (fun e he => (bfp_sameQ HS.out (HSAME.out L k i HR.out.bf) (List.mem_cons_of_mem _ he : (e.1, e.2) ∈ qP s L)).ring) HSX.out.ring hxk
            rw [HKX.out] at hhas
            have HHAS := Lib.hid hhas
            have hbf := bfp_new HR.out.bf HR.out.qu HY.out hxk
            have hroom : (chQ s L (k + 1)).size < N := by
              have h1 := HFEW.out _ _ _ hbf
              rw [List.length_append] at h1
              have h1 : L.length + 1 ≤ N := h1
              have h2 := chQ_size s L (k + 1)
              omega
            have HBF := Lib.hid hbf
            have HXK := Lib.hid hxk
            have hval := stR_mk a c (byt U)
            rw [HSD.out a c] at hval
            have hval : stR (.agg (List.foldl (fun (cs : Array Value) (x : Value × Nat) => cs.setIfInBounds (2 + x.snd) x.fst) #[.int .i64 (a : Int), .int .i64 (c : Int), .int .u8 0, .int .u8 0, .int .u8 0, .int .u8 0, .int .u8 0, .int .u8 0, .int .u8 0, .int .u8 0, .int .u8 0] cs.zipIdx)) = some (stD a c (byt U), []) := by rw [fold_eleven _ _ hl9]; exact hval
            have HVAL := Lib.hid hval
            have hbm : w.heap.size + 1 < W6.heap.size := HR6.out.map.lt
            have hch6 : ch < W6.heap.size := HR6.out.chl
            have hx6 : w4.heap.size < W6.heap.size := Nat.lt_trans HZ5.out HZ6.out
            have hw4 : w.heap.size + 1 < w4.heap.size := HR4.out.map.lt
            have hln : L.length < maxLen := by
              have h1 := HFEW.out _ _ _ HBF.out
              rw [List.length_append] at h1
              have h1 : L.length + 1 ≤ N := h1
              unfold maxLen
              omega
            clear hhas hxk hbf hval
            go_wp2_with (first
              | (refine wpList_store_mid rfl 46 (.tmp 8) (.tmp 32) rfl w4.heap.size 0 cx.toArray rfl rfl HTH5.out HIX2.out H1X.out ?_; rw [← hW5]; clear hW5)
              | (refine wpList_load_mid rfl 46 (.tmp 8) rfl w4.heap.size 0 rfl cx _ HX5.out Tryd.underlying46 rfl HIX1.out ?_)
              | (refine wpList_load_mid rfl 46 (.tmp 8) rfl w4.heap.size 0 rfl cx _ HX6.out Tryd.underlying46 rfl HIX1.out ?_)
              | (refine wpList_load_mid rfl 46 (.tmp 5) rfl B 0 rfl cs _ HR6.out.rng Tryd.underlying46 rfl HI1.out ?_)
              | (at_lookup; refine wpList_look_ok _ rfl _ _ 50 rfl 46 73 Tryd.keysR Tryd.underlying50 (zeroSt W5) stR (w.heap.size + 1) L.length D rfl HR5.out.map (stR_mk 0 0 []) _ (.string (kbR (putL U a c))) rfl HKEY.out ?_; intro v9 ps9 hv9; rw [HAT.out] at hv9; obtain rfl := HST.out v9 ps9 hv9; rw [HHAS.out]; clear hv9)
              | (refine wpList_store_mid rfl 73 (.tmp 9) (.tmp 37) rfl W5.heap.size 0 c11.toArray rfl rfl HTH6.out HIS2.out H1S.out ?_; rw [← hW6]; clear hW6)
              | (at_mapUpdate; refine wpList_mapUpdate_own _ rfl _ _ _ 50 rfl 46 73 Tryd.keysR Tryd.underlying50 stR (w.heap.size + 1) L.length D rfl HR6.out.map hln _ _ (.string (kbR (putL U a c))) rfl rfl HKEY.out _ [] HVAL.out ?_; intro w7 hmap7 hg7; have hx7 := rng_grown HX6.out hg7 hx6 (by simp; omega); have hc7 := (hg7.block ch hch6 (by simp; omega)).trans HR6.out.chn; refine wpList_nil ?_; simp only [Exit.then]; go_next_; refine wp_send_row rfl rfl rfl rfl rfl rfl (c := ch) (b := w4.heap.size) (cs := cx) rfl rfl hx7 Tryd.underlying46 rfl HIX1.out rfl rfl hc7 hroom ?_))
            have hga := HA3.out _ rfl
            have hga : W2.heap.size ≤ gA := hga
            have hz2 := HZ2.out
            have hg8 : w7.grownBy (w7.setChan ch N ((chQ s L (k + 1)).push (Value.agg cx.toArray)) false (L.length + 1 + 1) (k + 1) false) (some ch) := grown_setChan _ _ _ _ _ _ _ _
            have hch7 : ch < w7.heap.size := Nat.lt_of_lt_of_le hch6 hg7.size
            have hs8 := size_setChan w7 ch N ((chQ s L (k + 1)).push (Value.agg cx.toArray)) false (L.length + 1 + 1) (k + 1) false
            have hhc := heap_setChan w7 ch N ((chQ s L (k + 1)).push (Value.agg cx.toArray)) false (L.length + 1 + 1) (k + 1) false hch7
            have hbw8 : Below w.heap.size w (w7.setChan ch N ((chQ s L (k + 1)).push (Value.agg cx.toArray)) false (L.length + 1 + 1) (k + 1) false) := below_setChan (HB6.out.grown hg7 HB6.out.size (fun j hj => by injection hj with hj; omega)) (by omega) _ _ _ _ _ _
            obtain ⟨W8, hW8⟩ : ∃ W8, W8 = w7.setChan ch N ((chQ s L (k + 1)).push (Value.agg cx.toArray)) false (L.length + 1 + 1) (k + 1) false := ⟨_, rfl⟩
            rw [← hW8] at hg8 hs8 hhc hbw8 ⊢
            clear hW8
            have hlt6 := HR6.out.lt
            have hlt7 := hg7.size
            go_roundw
            case rel =>
              refine ⟨i + 1, _, L ++ [(str (putL U a c), p ++ [i])], by omega, by go_num, ⟨?_, fndC_put (x := str (putL U a c)) (u := U) HR6.out.map.isMap HR.out.fv (fun e he => (bfp_sameQ HS.out (HSAME.out L k i HR.out.bf) (List.mem_cons_of_mem _ he : (e.1, e.2) ∈ qP s L)).ring) HSX.out.ring HXK.out (List.mem_of_getElem? HR.out.qu) (by rw [← HMe.out]; exact HMI.out), HBF.out, qP_pre HR.out.qu, ?_, rng_grown (rng_grown HR6.out.rng hg7 hlt6 (by simp; omega)) hg8 (by omega) (by simp; omega), mvAt_kept (mvAt_kept HR6.out.mv hg7 ?_) hg8 ?_, by omega⟩, hbw8⟩
              · rw [HKX.out, List.length_append]
                exact hmap7.kept hg8 (by simp; omega)
              · rw [chQ_push _ _ _ _ _ (by have := (List.getElem?_eq_some_iff.1 HR.out.qu).1; simp [qP] at this; omega), HVX.out, List.length_append]
                exact hhc
              · intro a0 e0
                injection e0 with e0
                subst e0
                simp
                omega
              · intro a0 e0
                injection e0 with e0
                subst e0
                simp
                omega
            case measure => simp [intOf]; omega
        · clear hr hb
          go_wp2
          go_roundw
          case rel => exact ⟨D, L, k + 1, by have := (List.getElem?_eq_some_iff.1 HR.out.qu).1; simp [qP] at this; omega, HR.out.map, HR.out.fv, HR.out.bf.over HR.out.qu (by show (nxC U).length ≤ i; rw [nxC, List.length_map, ← HMe.out]; omega), HR.out.chn, HB.out⟩
          case measure =>
            have := rcv_at HR.out.chn
            have := HRC.out
            omega
    · obtain rfl : k = L.length + 1 := by omega
      rw [chQ_none] at hC
      have HM := Lib.hid hM
      have HF := Lib.hid hF
      have HB := Lib.hid hB
      have Hb := Lib.hid hb
      clear hM hF hB hb hlt hk
      refine wp_block ?_
      refine wp_seq_stop ?_
      go_wp2
      refine stop_go (wp_seq_stop ?_)
      refine wp_select_default rfl rfl (c := ch) rfl (Tryd.zeroR wr) hC ?_
      go_wp2
      refine stop_go ?_
      go_wp2
      go_ret
      exact ⟨_, D, L, rfl, by omega, HM.out, HF.out, HB.out, Hb.out⟩
end Go.Proofs.YtdcbjbmnkajjcaaDoor
