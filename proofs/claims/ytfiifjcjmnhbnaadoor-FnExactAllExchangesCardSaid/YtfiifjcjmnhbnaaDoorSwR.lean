/- Contract: all lines that are reached, in turn. -/
import Derived.Test.YtfiifjcjmnhbnaaDoorSwK
import Derived.Deep.RegionLaw
import Derived.Deep.RegionHeld3
import Derived.Deep.AppendLies
import Derived.Deep.CutRange
import Derived.WalkMore
namespace Go.Proofs.YtfiifjcjmnhbnaaDoor
open Go.RowKit Go.Maps

theorem Tryd.infoW8 : (Tryd.prog.info? 39).map (fun i => (i.zero, i.size, i.bytes)) = some (some (.agg #[.int .u8 0, .int .u8 0, .int .u8 0, .int .u8 0, .int .u8 0, .int .u8 0, .int .u8 0, .int .u8 0]), 8, 8) := by kernel_rfl
theorem zeroBw (w : World) : (zeroValue 4).run Tryd.prog w = .ok (.bool false) w := by kernel_rfl
/-- A new array in memory. -/
structure Z8 (W : World) (B : Nat) : Prop where
  lt : B < W.heap.size
  c : ∀ j, j < 8 → W.cell? ⟨B, j, none⟩ = some (.int .u8 0)
  f : ∀ j, j < 8 → W.frozen? ⟨B, j, none⟩ = false
theorem Z8.new (W : World) : Z8 (W.alloc zwO) W.heap.size := by
  have hb : (W.alloc zwO).heap[W.heap.size]? = some zwO := heap_alloc_new W _
  refine ⟨by simp, fun j hj => ?_, fun j hj => ?_⟩
  · unfold World.cell?
    rw [hb]
    rcases (by omega : j = 0 ∨ j = 1 ∨ j = 2 ∨ j = 3 ∨ j = 4 ∨ j = 5 ∨ j = 6 ∨ j = 7) with rfl | rfl | rfl | rfl | rfl | rfl | rfl | rfl <;> rfl
  · unfold World.frozen?
    rw [hb]
    rcases (by omega : j = 0 ∨ j = 1 ∨ j = 2 ∨ j = 3 ∨ j = 4 ∨ j = 5 ∨ j = 6 ∨ j = 7) with rfl | rfl | rfl | rfl | rfl | rfl | rfl | rfl <;> rfl
theorem Z8.drew {W : World} {B : Nat} (h : Z8 W B) : Z8 W.drew B := ⟨h.lt, h.c, h.f⟩
theorem Z8.step {W W' : World} {B : Nat} (h : Z8 W B) (hb : Below W.heap.size W W') : Z8 W' B :=
  ⟨Nat.lt_of_lt_of_le h.lt hb.size, fun j hj => (hb.cell (p := ⟨B, j, none⟩) h.lt).trans (h.c j hj), fun j hj => (hb.frozen (p := ⟨B, j, none⟩) h.lt).trans (h.f j hj)⟩
theorem Z8.fill {W : World} {B : Nat} (h : Z8 W B) (e0 e1 e2 e3 e4 e5 e6 e7 : Int) : Cells8 ((((((((W.setCell ⟨B, 0, none⟩ (.int .u8 e0)).setCell ⟨B, 1, none⟩ (.int .u8 e1)).setCell ⟨B, 2, none⟩ (.int .u8 e2)).setCell ⟨B, 3, none⟩ (.int .u8 e3)).setCell ⟨B, 4, none⟩ (.int .u8 e4)).setCell ⟨B, 5, none⟩ (.int .u8 e5)).setCell ⟨B, 6, none⟩ (.int .u8 e6)).setCell ⟨B, 7, none⟩ (.int .u8 e7)) B 0 e0 e1 e2 e3 e4 e5 e6 e7 := by
  have hb : W.there B 0 [Value.int .u8 e0, .int .u8 e1, .int .u8 e2, .int .u8 e3, .int .u8 e4, .int .u8 e5, .int .u8 e6, .int .u8 e7].length := fun j hj => by
    rw [Nat.zero_add, h.c j hj, h.f j hj]
    exact ⟨rfl, rfl⟩
  have hr : (W.setCells B 0 [Value.int .u8 e0, .int .u8 e1, .int .u8 e2, .int .u8 e3, .int .u8 e4, .int .u8 e5, .int .u8 e6, .int .u8 e7]).rangeAt B 0 [Value.int .u8 e0, .int .u8 e1, .int .u8 e2, .int .u8 e3, .int .u8 e4, .int .u8 e5, .int .u8 e6, .int .u8 e7] := World.rangeAt_setCells_same _ _ _ _ hb
  have e : W.setCells B 0 [Value.int .u8 e0, .int .u8 e1, .int .u8 e2, .int .u8 e3, .int .u8 e4, .int .u8 e5, .int .u8 e6, .int .u8 e7] = ((((((((W.setCell ⟨B, 0, none⟩ (.int .u8 e0)).setCell ⟨B, 1, none⟩ (.int .u8 e1)).setCell ⟨B, 2, none⟩ (.int .u8 e2)).setCell ⟨B, 3, none⟩ (.int .u8 e3)).setCell ⟨B, 4, none⟩ (.int .u8 e4)).setCell ⟨B, 5, none⟩ (.int .u8 e5)).setCell ⟨B, 6, none⟩ (.int .u8 e6)).setCell ⟨B, 7, none⟩ (.int .u8 e7)) := by simp [World.setCells]
  rw [e] at hr
  generalize ((((((((W.setCell ⟨B, 0, none⟩ (.int .u8 e0)).setCell ⟨B, 1, none⟩ (.int .u8 e1)).setCell ⟨B, 2, none⟩ (.int .u8 e2)).setCell ⟨B, 3, none⟩ (.int .u8 e3)).setCell ⟨B, 4, none⟩ (.int .u8 e4)).setCell ⟨B, 5, none⟩ (.int .u8 e5)).setCell ⟨B, 6, none⟩ (.int .u8 e6)).setCell ⟨B, 7, none⟩ (.int .u8 e7)) = Y at hr ⊢
  exact ⟨hr 0 _ rfl, hr 1 _ rfl, hr 2 _ rfl, hr 3 _ rfl, hr 4 _ rfl, hr 5 _ rfl, hr 6 _ rfl, hr 7 _ rfl⟩
theorem Cells8.grown {W W' : World} {g o : Nat} {row : Option Nat} {c0 c1 c2 c3 c4 c5 c6 c7 : Int} (h : Cells8 W g o c0 c1 c2 c3 c4 c5 c6 c7) (hg : W.grownBy W' row) (hl : g < W.heap.size) (hne : some g ≠ row) : Cells8 W' g o c0 c1 c2 c3 c4 c5 c6 c7 := by
  obtain ⟨h0, h1, h2, h3, h4, h5, h6, h7⟩ := h
  have e : ∀ j, W'.cell? ⟨g, j, none⟩ = W.cell? ⟨g, j, none⟩ := fun j => World.cell?_of_block (a := ⟨g, j, none⟩) (hg.block g hl hne)
  exact ⟨(e _).trans h0, (e _).trans h1, (e _).trans h2, (e _).trans h3, (e _).trans h4, (e _).trans h5, (e _).trans h6, (e _).trans h7⟩
theorem Cells8.zero {W : World} {B : Nat} {c0 c1 c2 c3 c4 c5 c6 c7 : Int} (h : Cells8 W B 0 c0 c1 c2 c3 c4 c5 c6 c7) : W.cell? ⟨B, 0, none⟩ = some (.int .u8 c0) ∧ W.cell? ⟨B, 1, none⟩ = some (.int .u8 c1) ∧ W.cell? ⟨B, 2, none⟩ = some (.int .u8 c2) ∧ W.cell? ⟨B, 3, none⟩ = some (.int .u8 c3) ∧ W.cell? ⟨B, 4, none⟩ = some (.int .u8 c4) ∧ W.cell? ⟨B, 5, none⟩ = some (.int .u8 c5) ∧ W.cell? ⟨B, 6, none⟩ = some (.int .u8 c6) ∧ W.cell? ⟨B, 7, none⟩ = some (.int .u8 c7) := h
/-- One more line found. -/
theorem TnW.more {W w5 w6 : World} {R0 bm n : Nat} {L : List (List UInt8)} {D : DataW Unit} {v v' : Value} {y : List UInt8} {c0 c1 c2 c3 c4 c5 c6 c7 : Int} (h : TnW W R0 bm n L D v) (h8 : n ≤ 8) (hy : y ∉ L) (hgy : goodT n y) (hc : Eight y c0 c1 c2 c3 c4 c5 c6 c7)
    (h5 : w5.ownsMap Tryd.prog 39 bRw bm (L.length + 1) (D.put (.string (kbW y)) (.lit (.bool true)))) (o : Obj) (hg6 : (w5.alloc o).grownBy w6 v.ownBlock)
    (h6 : w6.ownsRow R0 39 8 v' (L.length + 1) (fl8 L ++ [Value.int .u8 c0, .int .u8 c1, .int .u8 c2, .int .u8 c3, .int .u8 c4, .int .u8 c5, .int .u8 c6, .int .u8 c7])) : TnW w6 R0 bm n (L ++ [y]) (D.put (.string (kbW y)) (.lit (.bool true))) v' := by
  refine ⟨?_, h.low, h.sv.put h.map.isMap (h.g8 h8) (G8.of hgy h8) hy, ?_, fun x hx => ?_⟩
  · rw [List.length_append]
    exact (h5.alloc o).kept hg6 (fun e => h.ne_map e.symm)
  · rw [List.length_append, fl8_app, fl8_one, hc.cells]
    exact h6
  · rcases List.mem_append.1 hx with hx | hx
    · exact h.gd x hx
    · obtain rfl : x = y := by simpa using hx
      exact hgy
/-- An entry of a map's literal, at the operation. -/
theorem wpList_insert_w {P : Program} (w : World) {ops : Array Oper} {rest : List Oper} {o : Oper} {a : Act} {Q : Exit → Act → World → Prop}
    (hg : o.guard = none) (m x v : Operand) (t : TypeId) (hop : o.op = Op.insert t m x v)
    (k e : TypeId) (K : Keyed P k) (ht : P.underlying t = some (.map k e)) (R : Value → Option (DataW Unit × List MemPlace)) (b n : Nat) (D : DataW Unit)
    (hm : a.eval m = .map (some b)) (hown : w.ownsMap P k R b n D) (hn : n < maxLen) (key val : Value) (kl : Lit) (hx : a.eval x = key) (hv : a.eval v = val) (hkey : keyOf P k key = some kl)
    (d : DataW Unit) (ps : List MemPlace) (hval : R val = some (d, ps))
    (hK : ∀ w', w'.ownsMap P k R b (n + 1) (D.put kl d) → w.grownBy w' (some b) → wpList P ops Q rest (a.put o.dst undef) w') :
    wpList P ops Q (o :: rest) a w := by
  refine wpList_plain hg fun K' hK' => ?_
  obtain ⟨w', hrun, r1, r2⟩ := hown.update K ht hn hkey hval
  unfold Oper.wp
  simp [execOp, hop, hm, hx, hv, hrun, Result.andThen]
  exact hK' _ _ (hK w' r1 r2)
theorem own_eight (W : World) (b : Nat) (e : TypeId) (c0 c1 c2 c3 c4 c5 c6 c7 : Int) (hb : b ≤ W.heap.size) : (W.alloc (.cells #[Value.int .u8 c0, .int .u8 c1, .int .u8 c2, .int .u8 c3, .int .u8 c4, .int .u8 c5, .int .u8 c6, .int .u8 c7] e)).ownsRow b e 8 (.slice (some ⟨W.heap.size, 0, none⟩) 1 1) 1 [Value.int .u8 c0, .int .u8 c1, .int .u8 c2, .int .u8 c3, .int .u8 c4, .int .u8 c5, .int .u8 c6, .int .u8 c7] :=
  ⟨rfl, .inr ⟨W.heap.size, 1, #[Value.int .u8 c0, .int .u8 c1, .int .u8 c2, .int .u8 c3, .int .u8 c4, .int .u8 c5, .int .u8 c6, .int .u8 c7], rfl, hb, heap_alloc_new W _, Nat.le_refl _, by decide, rfl, rfl⟩⟩
theorem cells_new8 (W : World) (c0 c1 c2 c3 c4 c5 c6 c7 : Int) (t : TypeId) : ∀ j u, [Value.int .u8 c0, .int .u8 c1, .int .u8 c2, .int .u8 c3, .int .u8 c4, .int .u8 c5, .int .u8 c6, .int .u8 c7][j]? = some u → (W.alloc (.cells #[Value.int .u8 c0, .int .u8 c1, .int .u8 c2, .int .u8 c3, .int .u8 c4, .int .u8 c5, .int .u8 c6, .int .u8 c7] t)).cell? ((⟨W.heap.size, 0, none⟩ : Addr).add j) = some u := by
  intro j u h
  rw [addr_add, World.cell?_alloc_new]
  simpa using h
theorem one_cell8 (c0 c1 c2 c3 c4 c5 c6 c7 : Int) : ∀ u ∈ [Value.int .u8 c0, .int .u8 c1, .int .u8 c2, .int .u8 c3, .int .u8 c4, .int .u8 c5, .int .u8 c6, .int .u8 c7], u.oneCell' = true := fun u hu => by
  simp only [List.mem_cons, List.not_mem_nil, or_false] at hu
  rcases hu with rfl | rfl | rfl | rfl | rfl | rfl | rfl | rfl <;> rfl
/-- All lines that are reached lie in a row of the call's own. -/
def TnPost (l : List UInt8) (w : World) (e : Ending) (w' : World) : Prop :=
  ∃ A cap, e = .returned (.slice A (swA l).length cap) ∧ w'.ownsRow w.heap.size 39 8 (.slice A (swA l).length cap) (swA l).length (fl8 (swA l)) ∧ Below w.heap.size w w'
theorem tnW_start {n : Nat} {l : List UInt8} {w w1 : World} {c0 c1 c2 c3 c4 c5 c6 c7 : Int} (hg : goodT n l) (h8 : n ≤ 8) (hc : Eight l c0 c1 c2 c3 c4 c5 c6 c7) (t : TypeId)
    (hown : w1.ownsMap Tryd.prog 39 bRw (w.heap.size + 2) (0 + 1) (DataW.put (.map []) (.string (kbW l)) (.lit (.bool true))))
    (hgr : (((w.alloc (Obj.cells #[Value.int .u8 c0, .int .u8 c1, .int .u8 c2, .int .u8 c3, .int .u8 c4, .int .u8 c5, .int .u8 c6, .int .u8 c7] t)).alloc (Obj.cells #[Value.int .u8 c0, .int .u8 c1, .int .u8 c2, .int .u8 c3, .int .u8 c4, .int .u8 c5, .int .u8 c6, .int .u8 c7] 39)).alloc (Obj.map #[] 0)).grownBy w1 (some (w.heap.size + 2))) :
    TnW w1 (w.heap.size + 1) (w.heap.size + 2) n [l] (DataW.put (.map []) (.string (kbW l)) (.lit (.bool true))) (.slice (some ⟨w.heap.size + 1, 0, none⟩) 1 1) := by
  have hsz : (w.alloc (Obj.cells #[Value.int .u8 c0, .int .u8 c1, .int .u8 c2, .int .u8 c3, .int .u8 c4, .int .u8 c5, .int .u8 c6, .int .u8 c7] t)).heap.size = w.heap.size + 1 := by simp
  have hrow := own_eight (w.alloc (Obj.cells #[Value.int .u8 c0, .int .u8 c1, .int .u8 c2, .int .u8 c3, .int .u8 c4, .int .u8 c5, .int .u8 c6, .int .u8 c7] t)) (w.heap.size + 1) 39 c0 c1 c2 c3 c4 c5 c6 c7 (by omega)
  rw [hsz] at hrow
  have hrow2 := (hrow.alloc (Obj.map #[] 0)).kept hgr (.inr (by intro e; injection e with e; have e : w.heap.size + 1 = w.heap.size + 2 := e; omega))
  refine ⟨hown, by omega, ?_, ?_, fun x hx => by simp at hx; subst hx; exact hg⟩
  · have := SeenV.put (L := []) (D := .map []) (x := l) ⟨[], rfl⟩ (SeenV.nil fun x => by simp [Maps.has]) (fun y hy => by simp at hy) (G8.of hg h8) (by simp)
    simpa using this
  · rw [fl8_one, hc.cells]
    exact hrow2

set_option maxRecDepth 100000 in
set_option maxHeartbeats 16000000 in
theorem linesInTurn_any (n : Nat) (l : List UInt8) (w : World) (hg : goodT n l) (h8 : n ≤ 8) :
    Calls Tryd.prog 45 #[swpV l] w (TnPost l w) := by
  obtain ⟨i0, hi, hz0, hz1, hz2⟩ := info_parts Tryd.infoW8
  have HI := Lib.hid hi
  have HZ0 := Lib.hid hz0
  have HZ1 := Lib.hid hz1
  have HZ2 := Lib.hid hz2
  clear hi hz0 hz1 hz2
  have HEND := Lib.hid (fun k (h : (swK l k).length ≤ k) => swK_end hg h)
  have HNX := Lib.hid (fun k (h : k < (swK l k).length) => swK_next h)
  have HFEW := Lib.hid (fun k => swK_few hg k)
  have hl8 := (G8.of hg h8).len
  obtain ⟨c0, c1, c2, c3, c4, c5, c6, c7, hc⟩ := eight_of hl8
  have hkl := keyW hl8
  rw [hc.val] at hkl ⊢
  have hb1 : bRw (.bool true) = some (.lit (.bool true), []) := rfl
  have hmm := @run_makeMap Tryd.prog
  have HG := Lib.hid hg
  have HC := Lib.hid hc
  clear hg hc hl8
  go_enter Tryd.func45, Tryd.ntmps45
  go_wp2_with (first
    | (refine wpList_insert_w _ rfl _ _ _ 101 rfl 39 4 Tryd.keysW Tryd.underlying101 bRw (w.heap.size + 2) 0 (.map []) rfl ?_ (by decide) _ _ (.string (kbW l)) rfl rfl hkl _ [] hb1 ?_; rotate_right; intro w1 hown1 hg1))
  · have hz1 : w.heap.size + 3 ≤ w1.heap.size := by have := hg1.size; simp at this; omega
    have HB1 : Hid (Below w.heap.size w w1) := Lib.hid (((((Below.refl w.heap.size w).alloc (Nat.le_refl _) _).alloc (by simp) _).alloc (by simp; omega) (Obj.map #[] 0)).grown hg1 (by simp; omega) (fun j hj => by injection hj with hj; omega))
    have HT1 := Lib.hid (tnW_start HG.out h8 HC.out _ hown1 hg1)
    clear hown1 hg1 hkl hb1
    go_loopw [3, 5] (fun v t wr => ∃ (k : Nat) (D : DataW Unit), k ≤ (swK l k).length ∧ t = .int .i64 k ∧ Hid (TnW wr (w.heap.size + 1) (w.heap.size + 2) n (swK l k) D v) ∧ Hid (Below w.heap.size w wr)) (fun _ t _ => 60000 - (intOf t).toNat)
    case atStart => exact ⟨0, _, Nat.zero_le _, rfl, HT1, HB1⟩
    case round =>
      obtain ⟨k, D, hk, rfl, HT, HB⟩ := hrel
      obtain ⟨W, hW⟩ : ∃ W : World, W = wr := ⟨_, rfl⟩
      subst hW
      clear HT1 HB1
      have hlen := HFEW.out k
      have HE := Lib.hid (HEND.out k)
      have HN := Lib.hid (HNX.out k)
      obtain ⟨L1, hL1⟩ : ∃ L1, swK l (k + 1) = L1 := ⟨_, rfl⟩
      have HL1 := Lib.hid hL1
      rw [hL1] at HN
      clear hL1
      obtain ⟨L, hL⟩ : ∃ L, swK l k = L := ⟨_, rfl⟩
      have HFIN : Hid (k = L.length → L = swA l) := Lib.hid (fun e => by have := HE.out (by rw [hL, e]; exact Nat.le_refl _); rwa [hL] at this)
      rw [hL] at hlen HN HT hk
      clear hL HE
      have G8L := Lib.hid (HT.out.g8 h8)
      have LL8 := Lib.hid (HT.out.l8 h8)
      by_cases hlt : k < L.length
      · have HN := Lib.hid (HN.out hlt)
        obtain ⟨g, cap, rfl, hc1, hc2, hc3, hc4, hrg⟩ := row_arr HT.out.row LL8.out hlt
        have hgx := HT.out.gd L[k] (List.getElem_mem hlt)
        have HLK : Hid (L[k]? = some L[k]) := Lib.hid (List.getElem?_eq_getElem hlt)
        generalize L[k] = x at hrg hgx HN HLK
        have hx8 := (G8.of hgx h8).len
        obtain ⟨d0, d1, d2, d3, d4, d5, d6, d7, hd⟩ := eight_of hx8
        have hcx := hd.at hrg
        have HD := Lib.hid hd
        have HMV := Lib.hid (fun wx => swpMoves_any n x wx hgx h8)
        have HBH := Lib.hid (fun a c wx ha hc hne => swBehind_any n x a c wx hgx h8 ha hc hne)
        rw [hd.val] at HMV HBH
        have HAT := Lib.hid (fun i (h : i < (mvL x).length) => mvL_at x i h)
        have HNG : Hid (∀ i (h : i < (mvL x).length), (nxL x)[i]? = some (behind (str x) (mvL x)[i].1 (mvL x)[i].2)) := Lib.hid (fun i h => by rw [List.getElem?_eq_getElem (by rw [nxL_mlen]; exact h), nxL_mget x i h])
        have HNLN := Lib.hid (nxL_mlen x)
        have HGX := Lib.hid hgx
        have hMle : (mvL x).length ≤ 8 := Nat.le_trans (mvL_le x) hx8
        have HC4 := Lib.hid hc4
        have HT0 : Hid (w.heap.size + 2 < W.heap.size) := Lib.hid HT.out.map.lt
        have HC3 := Lib.hid hc3
        have HCX := Lib.hid hcx
        have hl1 : (k : Int) < (L.length : Int) := by omega
        obtain ⟨q0, q1, q2, q3, q4, q5, q6, q7⟩ := hcx
        clear hd hrg hgx hx8 hc1 hc2 hc3 hc4
        go_wp2_with fail
        refine (HMV.out _).mono ?_
        rintro e w2 ⟨v2, rfl, ho2, hb2⟩
        obtain ⟨A2, cap2, rfl, at2⟩ := at_of_own ho2
        have HT2 := Lib.hid (HT.out.below hb2)
        have HB2 := Lib.hid (HB.out.trans (hb2.mono HB.out.size))
        have AT2 := Lib.hid at2
        have HA2 : Hid (∀ a, A2 = some a → W.heap.size ≤ a.block) := Lib.hid fun a e => (ho2.lt a.block (by rw [e]; rfl)).1
        clear at2 ho2 hb2 q0 q1 q2 q3 q4 q5 q6 q7 HMV HT
        generalize hMM : mvL x = M at AT2 HAT HNG HNLN hMle ⊢
        clear hMM
        go_wp2_with fail
        go_loopw [3, 26] (fun v t wr => ∃ (i : Nat) (D : DataW Unit), i ≤ M.length ∧ t = .int .i64 i ∧ Hid (TnW wr (w.heap.size + 1) (w.heap.size + 2) n (swIn L ((nxL x).take i)) D v) ∧ Hid (MvAt wr A2 M) ∧ Hid (∀ a, A2 = some a → v.ownBlock ≠ some a.block) ∧ Hid (Below w.heap.size w wr)) (fun _ t _ => M.length - (intOf t).toNat)
        case atStart =>
          refine ⟨0, D, Nat.zero_le _, rfl, ?_, AT2, Lib.hid fun a e e2 => ?_, HB2⟩
          · rw [List.take_zero]; exact HT2
          · have h1 := HA2.out a e
            injection e2 with e2
            have e2 : g = a.block := e2
            have := HC4.out
            omega
        case round =>
          obtain ⟨i, Di, hi, rfl, HTI, HMA, HAP, HBI⟩ := hrel
          obtain ⟨V, hV⟩ : ∃ V : World, V = wr := ⟨_, rfl⟩
          subst hV
          clear HT2 HB2 AT2
          by_cases hlti : i < M.length
          · obtain ⟨a, c, e1, e2, ha, hc', hne, _⟩ := HAT.out i hlti
            have HY := HNG.out i hlti
            rw [e1, e2] at HY
            obtain ⟨gm, rfl, hgm, m0, m1⟩ := HMA.out i hlti
            rw [e1] at m0
            rw [e2] at m1
            have hyx := List.mem_of_getElem? HY
            have hgy := nx_good HGX.out hyx
            have hHBH := fun wx => HBH.out a c wx ha hc' hne
            have HST : Hid (swIn L ((nxL x).take (i + 1)) = if behind (str x) (a : Int) (c : Int) ∈ swIn L ((nxL x).take i) then swIn L ((nxL x).take i) else swIn L ((nxL x).take i) ++ [behind (str x) (a : Int) (c : Int)]) := Lib.hid (by
              obtain ⟨hl, he⟩ := List.getElem?_eq_some_iff.1 HY
              rw [swIn_take L _ i hl, he])
            obtain ⟨Mx, hpre⟩ := swIn_pre ((nxL x).take i) L
            have hLlen : (swIn L ((nxL x).take i)).length ≤ 59049 := by
              obtain ⟨M2, hp2⟩ := swIn_pre ((nxL x).drop i) (swIn L ((nxL x).take i))
              have h1 : swIn (swIn L ((nxL x).take i)) ((nxL x).drop i) = L1 := by
                rw [HN.out]
                unfold swIn
                rw [← List.foldl_append, List.take_append_drop]
              have h2 := HFEW.out (k + 1)
              rw [HL1.out, ← h1, hp2, List.length_append] at h2
              omega
            have hLx : (swIn L ((nxL x).take i))[k]? = some x := by rw [hpre, List.getElem?_append_left hlt]; exact HLK.out
            generalize behind (str x) (a : Int) (c : Int) = y at hyx hgy hHBH HST
            generalize swIn L ((nxL x).take i) = L' at HST hpre hLx HTI hLlen
            have G8L' := Lib.hid (HTI.out.g8 h8)
            have LL8' := Lib.hid (HTI.out.l8 h8)
            obtain ⟨hlx, hex⟩ := List.getElem?_eq_some_iff.1 hLx
            obtain ⟨g6, cap6, rfl, hk1, hk2, hk3, hk4, hrg⟩ := row_arr HTI.out.row LL8'.out hlx
            rw [hex] at hrg
            have hcx := HD.out.at hrg
            have hy8 := G8.of hgy h8
            obtain ⟨e0, e1', e2', e3, e4, e5, e6, e7, he⟩ := eight_of hy8.len
            rw [he.val] at hHBH
            have HBH2 := Lib.hid hHBH
            have HEY := Lib.hid he
            have HKY := Lib.hid (keyW hy8.len)
            rw [he.val] at HKY
            have HGY := Lib.hid hgy
            have HY8 := Lib.hid hy8
            have hl1' : (k : Int) < (L'.length : Int) := by omega
            clear hpre hLx hex hyx hgy hHBH e1 e2 HY hrg he hy8 hk1 hk2
            go_wp2_with fail
            obtain ⟨V1, hV1⟩ : ∃ V1, V1 = V.alloc (mvB a c) := ⟨_, rfl⟩
            have hbv : Below V.heap.size V V1 := by rw [hV1]; exact (Below.refl _ _).alloc (Nat.le_refl _) _
            have HBV := Lib.hid hbv
            have p0 : V1.cell? ⟨V.heap.size, 0, none⟩ = some (.int .i64 a) := by rw [hV1, World.cell?_alloc_new]; rfl
            have p1 : V1.cell? ⟨V.heap.size, 1, none⟩ = some (.int .i64 c) := by rw [hV1, World.cell?_alloc_new]; rfl
            have z1 : V.heap.size < V1.heap.size := by rw [hV1]; simp
            have z2 : g6 < V1.heap.size := by omega
            have hcx1 := hcx.kept hbv hk4
            rw [← hV1]
            clear hV1 hcx m0 m1
            have HK : Hid (∀ w', Below V1.heap.size V1 w' → (w'.cell? ⟨V.heap.size, 0, none⟩ = some (.int .i64 a) ∧ w'.cell? ⟨V.heap.size, 1, none⟩ = some (.int .i64 c) ∧ Cells8 w' g6 (k * 8) d0 d1 d2 d3 d4 d5 d6 d7)) := Lib.hid fun w' hb => ⟨((bcell hb).1 _ 0 z1).trans p0, ((bcell hb).1 _ 1 z1).trans p1, hcx1.kept hb z2⟩
            go_upto_region 9 with fail
            go_cut [8] from 36 to 46 (fun s8 wz => ∃ B, s8 = Value.pointer (some ⟨B, 0, none⟩) ∧ Hid (V1.heap.size ≤ B ∧ B < wz.heap.size) ∧ Hid (Cells8 wz B 0 e0 e1' e2' e3 e4 e5 e6 e7) ∧ Hid (Below V1.heap.size V1 wz))
            case first =>
              go_region_held3 (fun w' => w'.cell? ⟨V.heap.size, 0, none⟩ = some (.int .i64 a) ∧ w'.cell? ⟨V.heap.size, 1, none⟩ = some (.int .i64 c) ∧ w'.cell? ⟨g6, k * 8, none⟩ = some (.int .u8 d0) ∧ w'.cell? ⟨g6, k * 8 + 1, none⟩ = some (.int .u8 d1) ∧ w'.cell? ⟨g6, k * 8 + 2, none⟩ = some (.int .u8 d2) ∧ w'.cell? ⟨g6, k * 8 + 3, none⟩ = some (.int .u8 d3) ∧ w'.cell? ⟨g6, k * 8 + 4, none⟩ = some (.int .u8 d4) ∧ w'.cell? ⟨g6, k * 8 + 5, none⟩ = some (.int .u8 d5) ∧ w'.cell? ⟨g6, k * 8 + 6, none⟩ = some (.int .u8 d6) ∧ w'.cell? ⟨g6, k * 8 + 7, none⟩ = some (.int .u8 d7)) (exact HK.out _ (by repeat first | with_reducible exact hB | with_reducible exact Below.refl _ _ | with_reducible refine Below.setCell ?_ (by first | omega | (simp <;> omega)) _ | with_reducible refine Below.alloc ?_ (by first | omega | (simp <;> omega)) _ | with_reducible refine Below.drew ?_)) (first | (go_at_call 33; refine (HBH2.out _).mono ?_; rintro e wb ⟨rfl, hb2⟩; have hB : Below V1.heap.size V1 wb := Below.trans (by repeat first | with_reducible exact hB | with_reducible exact Below.refl _ _ | with_reducible refine Below.setCell ?_ (by first | omega | (simp <;> omega)) _ | with_reducible refine Below.alloc ?_ (by first | omega | (simp <;> omega)) _ | with_reducible refine Below.drew ?_) (hb2.mono (Below.size (B := V1.heap.size) (w := V1) (by repeat first | with_reducible exact hB | with_reducible exact Below.refl _ _ | with_reducible refine Below.setCell ?_ (by first | omega | (simp <;> omega)) _ | with_reducible refine Below.alloc ?_ (by first | omega | (simp <;> omega)) _ | with_reducible refine Below.drew ?_))); have szb := hB.size; (first | (have zb := Z8.step (Z8.drew (Z8.new _)) hb2; have y0 := zb.c 0 (by decide); have x0 := zb.f 0 (by decide); have y1 := zb.c 1 (by decide); have x1 := zb.f 1 (by decide); have y2 := zb.c 2 (by decide); have x2 := zb.f 2 (by decide); have y3 := zb.c 3 (by decide); have x3 := zb.f 3 (by decide); have y4 := zb.c 4 (by decide); have x4 := zb.f 4 (by decide); have y5 := zb.c 5 (by decide); have x5 := zb.f 5 (by decide); have y6 := zb.c 6 (by decide); have x6 := zb.f 6 (by decide); have y7 := zb.c 7 (by decide); have x7 := zb.f 7 (by decide)) | (have zb := Z8.step (Z8.new _) hb2; have y0 := zb.c 0 (by decide); have x0 := zb.f 0 (by decide); have y1 := zb.c 1 (by decide); have x1 := zb.f 1 (by decide); have y2 := zb.c 2 (by decide); have x2 := zb.f 2 (by decide); have y3 := zb.c 3 (by decide); have x3 := zb.f 3 (by decide); have y4 := zb.c 4 (by decide); have x4 := zb.f 4 (by decide); have y5 := zb.c 5 (by decide); have x5 := zb.f 5 (by decide); have y6 := zb.c 6 (by decide); have x6 := zb.f 6 (by decide); have y7 := zb.c 7 (by decide); have x7 := zb.f 7 (by decide)) | skip); clear hb2))
              all_goals (go_wp2_with fail; go_meet)
              all_goals first
                | exact ⟨_, rfl, Lib.hid ⟨szb, by simp⟩, Lib.hid (Cells8.new _ _ _ _ _ _ _ _ _ _), Lib.hid (hB.alloc hB.size _)⟩
                | exact ⟨_, rfl, Lib.hid ⟨Nat.le_refl _, by simpa using zb.lt⟩, Lib.hid (zb.fill _ _ _ _ _ _ _ _), Lib.hid (by repeat first | with_reducible exact hB | with_reducible exact Below.refl _ _ | with_reducible refine Below.setCell ?_ (by first | omega | (simp <;> omega)) _ | with_reducible refine Below.alloc ?_ (by first | omega | (simp <;> omega)) _ | with_reducible refine Below.drew ?_)⟩
            case rest =>
              obtain ⟨B, rfl, HBZ, HRC, HBC⟩ := hcut
              obtain ⟨w4, rfl⟩ : ∃ w4, w4 = wc := ⟨_, rfl⟩
              obtain ⟨hBz, hBl⟩ := HBZ.out
              have hbV := HBV.out.trans (HBC.out.mono HBV.out.size)
              have HTC := Lib.hid (HTI.out.below hbV)
              have HMC := Lib.hid (HMA.out.below hbV)
              have HBW := Lib.hid (HBI.out.trans (hbV.mono HBI.out.size))
              have hVB : V.heap.size < B := Nat.lt_of_lt_of_le z1 hBz
              have hVm : w.heap.size + 2 < V.heap.size := HTI.out.map.lt
              have hBm : some B ≠ some (w.heap.size + 2) := by intro e; injection e with e; omega
              have hz4 := hbV.size
              have HATK0 := HTC.out.sv.at (HTC.out.g8 h8) HY8.out
              obtain ⟨r0, r1, r2, r3, r4, r5, r6, r7⟩ := HRC.out.zero
              clear HK p0 p1 hcx1 hbv hbV
              by_cases hyk : y ∈ L'
              · rw [decide_eq_true hyk] at HATK0
                have HATK := Lib.hid HATK0
                have HR : Hid (swIn L ((nxL x).take (i + 1)) = L') := Lib.hid (by rw [HST.out, if_pos hyk])
                clear hyk HATK0
                go_wp2_with (first
                  | (at_lookup; refine wpList_look _ rfl _ _ 101 rfl 39 4 Tryd.keysW Tryd.underlying101 (zeroBw _) bRw (w.heap.size + 2) L'.length Di rfl HTC.out.map rfl _ (.string (kbW y)) rfl HKY.out ?_; intro v9 ps9 hv9; rw [HATK.out] at hv9; obtain rfl := bRw_inv hv9; clear hv9))
                go_roundw
                case rel => exact ⟨i + 1, Di, by omega, by go_num, by rw [HR.out]; exact HTC, HMC, HAP, HBW⟩
                case measure => simp [intOf]; omega
              · rw [decide_eq_false hyk] at HATK0
                have HATK := Lib.hid HATK0
                have HR : Hid (swIn L ((nxL x).take (i + 1)) = L' ++ [y]) := Lib.hid (by rw [HST.out, if_neg hyk])
                have HYK := Lib.hid hyk
                have hrow := HTC.out.row
                have hnm := HTC.out.ne_map
                have hln : L'.length < maxLen := by unfold maxLen; omega
                clear hyk HATK0
                go_wp2_with (first
                  | (at_lookup; refine wpList_look _ rfl _ _ 101 rfl 39 4 Tryd.keysW Tryd.underlying101 (zeroBw _) bRw (w.heap.size + 2) L'.length Di rfl HTC.out.map rfl _ (.string (kbW y)) rfl HKY.out ?_; intro v9 ps9 hv9; rw [HATK.out] at hv9; obtain rfl := bRw_inv hv9; clear hv9)
                  | (at_mapUpdate; refine wpList_mapUpdate_own _ rfl _ _ _ 101 rfl 39 4 Tryd.keysW Tryd.underlying101 bRw (w.heap.size + 2) L'.length Di rfl HTC.out.map hln _ _ (.string (kbW y)) rfl rfl HKY.out _ [] rfl ?_; intro w5 hmap5 hg5; obtain ⟨s0, s1, s2, s3, s4, s5, s6, s7⟩ := (HRC.out.grown hg5 hBl hBm).zero; have hrow5 := hrow.kept hg5 (.inr hnm))
                  | (at_builtin; refine wpList_append_lies _ rfl _ _ 79 rfl (w.heap.size + 1) 39 i0 (.agg #[.int .u8 0, .int .u8 0, .int .u8 0, .int .u8 0, .int .u8 0, .int .u8 0, .int .u8 0, .int .u8 0]) 8 8 Tryd.underlying79 HI.out HZ0.out HZ1.out HZ2.out rfl (by decide) _ L'.length _ rfl (hrow5.alloc _) ⟨w5.heap.size, 0, none⟩ 1 1 [.int .u8 e0, .int .u8 e1', .int .u8 e2', .int .u8 e3, .int .u8 e4, .int .u8 e5, .int .u8 e6, .int .u8 e7] rfl rfl (cells_new8 _ _ _ _ _ _ _ _ _ _) (one_cell8 _ _ _ _ _ _ _ _) (by decide) (by unfold maxLen; omega) (by omega) (by have := hg5.size; have := HTC.out.map.lt; simp; omega) _ rfl ?_; intro g7 cap7 w6 hrow6 hg6 hat6 hlt6))
                have HT6 := Lib.hid (HTC.out.more h8 HYK.out HGY.out HEY.out hmap5 _ hg6 hrow6)
                have hz5 := hg5.size
                have hnb : ∀ a0 : Addr, some (⟨gm, 0, none⟩ : Addr) = some a0 → some a0.block ≠ some (w.heap.size + 2) := fun a0 e e2 => by
                  have h1 := HA2.out a0 e
                  injection e2 with e2
                  have := HT0.out
                  omega
                have hmv5 := mvAt_kept8 (mvAt_kept8 HMC.out hg5 hnb) (World.grownBy_alloc w5 (Obj.cells #[.int .u8 e0, .int .u8 e1', .int .u8 e2', .int .u8 e3, .int .u8 e4, .int .u8 e5, .int .u8 e6, .int .u8 e7] 39) none) (fun a0 _ => by simp)
                have HMV6 := Lib.hid (mvAt_kept8 hmv5 hg6 (fun a0 e e2 => HAP.out a0 e e2.symm))
                have HB6 : Hid (Below w.heap.size w w6) := Lib.hid (((HBW.out.grown hg5 HBW.out.size (fun j hj => by injection hj with hj; omega)).alloc (by have := HBW.out.size; omega) _).grown hg6 (by have := HBW.out.size; simp; omega) (fun j hj => by have := (hrow5.lt j hj).1; omega))
                have HAP6 : Hid (∀ a0 : Addr, some (⟨gm, 0, none⟩ : Addr) = some a0 → Value.ownBlock (.slice (some ⟨g7, 0, none⟩) (L'.length + 1) cap7) ≠ some a0.block) := Lib.hid (fun a0 e e2 => by
                  injection e2 with e2
                  have e2 : g7 = a0.block := e2
                  rcases hat6 with h | h
                  · exact HAP.out a0 e (by rw [← e2]; exact h)
                  · injection e with e
                    subst e
                    have e2 : g7 = gm := e2
                    simp at h
                    omega)
                clear hmap5 hg5 hg6 hrow hrow5 hrow6 hat6 hmv5
                go_roundw
                case rel =>
                  refine ⟨i + 1, _, by omega, by go_num, by rw [HR.out]; exact HT6, HMV6, HAP6, HB6⟩
                case measure => simp [intOf]; omega
          · have hE : swIn L ((nxL x).take i) = L1 := by rw [HN.out, List.take_of_length_le (by rw [HNLN.out]; omega)]
            rw [hE] at HTI
            have hk1 : k + 1 ≤ L1.length := by
              obtain ⟨Mx, e⟩ := swIn_pre (nxL x) L
              rw [HN.out, e, List.length_append]
              omega
            clear HMA HAP hE
            go_wp2_with fail
            go_roundw
            case rel => exact ⟨k + 1, Di, by rw [HL1.out]; exact hk1, by go_num, by rw [HL1.out]; exact HTI, HBI⟩
            case measure => simp [intOf]; omega
      · have e : k = L.length := by omega
        have HFIN := Lib.hid (HFIN.out e)
        have hnl : ¬ ((k : Int) < (L.length : Int)) := by omega
        obtain ⟨A6, cap6, rfl⟩ : ∃ A cap, u3 = Value.slice A L.length cap := by
          rcases HT.out.row.2 with ⟨hv, h0⟩ | ⟨g, cap, cur, hv, _⟩
          · exact ⟨none, 0, by rw [hv, h0]⟩
          · exact ⟨_, cap, hv⟩
        go_wp2_with fail
        go_ret
        unfold TnPost
        rw [← HFIN.out]
        exact ⟨A6, cap6, rfl, own_lowerW HT.out.row (by omega), HB.out⟩
  · have := World.ownsMap_made (H := Unit) ((w.alloc (Obj.cells #[Value.int .u8 c0, .int .u8 c1, .int .u8 c2, .int .u8 c3, .int .u8 c4, .int .u8 c5, .int .u8 c6, .int .u8 c7] 39)).alloc (Obj.cells #[Value.int .u8 c0, .int .u8 c1, .int .u8 c2, .int .u8 c3, .int .u8 c4, .int .u8 c5, .int .u8 c6, .int .u8 c7] 39)) Tryd.prog 39 bRw
    simpa using this
end Go.Proofs.YtfiifjcjmnhbnaaDoor
