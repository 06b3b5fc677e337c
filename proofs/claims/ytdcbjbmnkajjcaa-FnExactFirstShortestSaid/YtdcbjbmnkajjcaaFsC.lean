/- FirstShortest: the program's loop. -/
import Derived.Test.YtdcbjbmnkajjcaaFsB
import Derived.Test.YtdcbjbmnkajjcaaRuM
import Derived.Deep.RegionLaw
import Derived.Deep.LoopGhost
namespace Go.Proofs.Ytdcbjbmnkajjcaa
open Go.RowKit Go.Maps Go.Shelf

/-- A list of moves of the call's own, and a flag. -/
def FsPost (L : List (Int × Int)) (b : Bool) (w : World) (e : Ending) (w' : World) : Prop :=
  ∃ v, e = .returned (.tuple #[v, .bool b]) ∧ w'.ownsRow w.heap.size 44 2 v L.length (flat L) ∧ Below w.heap.size w w'
theorem at_ownS {w : World} {base : Nat} {A : Option Addr} {cap : Nat} {l : List (Int × Int)} (h : w.ownsRow base 44 2 (.slice A l.length cap) l.length (flat l)) : MvAt w A l := by
  obtain ⟨A', cap', e, h⟩ := at_of_own h
  injection e with e1 _ e2
  subst e1
  exact h
theorem own_lowS {w : World} {b b' : Nat} {e : TypeId} {size n : Nat} {v : Value} {xs : List Value} (h : w.ownsRow b e size v n xs) (hle : b' ≤ b) : w.ownsRow b' e size v n xs := by
  refine ⟨h.1, ?_⟩
  rcases h.2 with h2 | ⟨g, cap, cur, e1, hb, r⟩
  · exact .inl h2
  · exact .inr ⟨g, cap, cur, e1, Nat.le_trans hle hb, r⟩
/-- What lies in memory all the while: the rule, the map of depths, how many moves are left. -/
structure FsM (W : World) (o b l : Bool) (B8 bm B9 B10 : Nat) (D : DataW Unit) (d : Nat) : Prop where
  bx : RuBx W B8 o b l
  map : W.ownsMap Try.prog 9 intR bm 59049 D
  c9 : W.cell? ⟨B9, 0, none⟩ = some (.map (some bm))
  c10 : W.cell? ⟨B10, 0, none⟩ = some (.int .i64 (d : Int))
  f10 : W.frozen? ⟨B10, 0, none⟩ = false
  lt : B10 < W.heap.size
  o1 : B8 < bm
  o2 : bm < B9
  o3 : B9 < B10
theorem frz_blockS {w w' : World} {B o : Nat} (h : w'.heap[B]? = w.heap[B]?) (hf : w.frozen? ⟨B, o, none⟩ = false) : w'.frozen? ⟨B, o, none⟩ = false := by
  unfold World.frozen? at hf ⊢
  rw [h]
  exact hf
theorem FsM.keep {W W' : World} {o b l : Bool} {B8 bm B9 B10 d : Nat} {D : DataW Unit} (h : FsM W o b l B8 bm B9 B10 D d) (hs : W.heap.size ≤ W'.heap.size) (hb : ∀ k, k ≤ B10 → W'.heap[k]? = W.heap[k]?) : FsM W' o b l B8 bm B9 B10 D d := by
  have h1 := h.o1
  have h2 := h.o2
  have h3 := h.o3
  have h4 := h.lt
  have c : ∀ (k i : Nat), k ≤ B10 → W'.cell? ⟨k, i, none⟩ = W.cell? ⟨k, i, none⟩ := fun k i hk => World.cell?_of_block (a := ⟨k, i, none⟩) (hb k hk)
  exact ⟨⟨by have := h.bx.lt; omega, (c _ _ (by omega)).trans h.bx.c0, (c _ _ (by omega)).trans h.bx.c1, (c _ _ (by omega)).trans h.bx.c2⟩, map_blk h.map (hb _ (by omega)), (c _ _ (by omega)).trans h.c9, (c _ _ (Nat.le_refl _)).trans h.c10, frz_blockS (hb _ (Nat.le_refl _)) h.f10, by omega, h1, h2, h3⟩
theorem FsM.below {W W' : World} {o b l : Bool} {B8 bm B9 B10 d : Nat} {D : DataW Unit} (h : FsM W o b l B8 bm B9 B10 D d) {n : Nat} (hn : B10 < n) (hb : Below n W W') : FsM W' o b l B8 bm B9 B10 D d :=
  h.keep hb.size fun k hk => hb.block k (by omega)
theorem FsM.dec {W : World} {o b l : Bool} {B8 bm B9 B10 d e : Nat} {D : DataW Unit} (h : FsM W o b l B8 bm B9 B10 D d) : FsM (W.setCell ⟨B10, 0, none⟩ (.int .i64 (e : Int))) o b l B8 bm B9 B10 D e := by
  have h1 := h.o1
  have h2 := h.o2
  have h3 := h.o3
  have hb : ∀ k, k ≠ B10 → (W.setCell ⟨B10, 0, none⟩ (.int .i64 (e : Int))).heap[k]? = W.heap[k]? := fun k hk => Below.heap_setCell _ _ _ _ hk
  have c : ∀ (k i : Nat), k ≠ B10 → (W.setCell ⟨B10, 0, none⟩ (.int .i64 (e : Int))).cell? ⟨k, i, none⟩ = W.cell? ⟨k, i, none⟩ := fun k i hk => World.cell?_of_block (a := ⟨k, i, none⟩) (hb k hk)
  exact ⟨⟨by have := h.bx.lt; simpa using this, (c _ _ (by omega)).trans h.bx.c0, (c _ _ (by omega)).trans h.bx.c1, (c _ _ (by omega)).trans h.bx.c2⟩, map_blk h.map (hb _ (by omega)), (c _ _ (by omega)).trans h.c9, World.cell?_setCell_same _ _ _ h.c10, by have := h.f10; simpa using this, by have := h.lt; simpa using this, h1, h2, h3⟩
def slN : Value → Nat
  | .slice _ n _ => n
  | _ => 0
theorem own_slN {w : World} {base : Nat} {v : Value} {l : List (Int × Int)} (h : w.ownsRow base 44 2 v l.length (flat l)) : slN v = l.length := by
  rcases h.2 with ⟨hv, h0⟩ | ⟨g, cap, cur, hv, _⟩
  · have h2 : l.length = 0 := by have h3 := flat_len l; have h4 := h.1; omega
    subst hv
    exact h2.symm
  · subst hv; rfl
/-- A box with a number. -/
structure IBox (W : World) (B : Nat) (v : Int) : Prop where
  box : W.heap[B]? = some (.cells #[.int .i64 v] 3 (0, 0))
theorem IBox.new (W : World) (v : Int) : IBox (W.alloc (.cells #[.int .i64 v] 3)) W.heap.size v := ⟨heap_alloc_new W _⟩
theorem IBox.drew {W : World} {B : Nat} {v : Int} (h : IBox W B v) : IBox W.drew B v := ⟨h.box⟩
theorem IBox.lt {W : World} {B : Nat} {v : Int} (h : IBox W B v) : B < W.heap.size := (Array.getElem?_eq_some_iff.1 h.box).1
theorem IBox.step {W W' : World} {B : Nat} {v : Int} (h : IBox W B v) (hb : Below W.heap.size W W') : IBox W' B v := ⟨(hb.block B h.lt).trans h.box⟩
theorem IBox.set {W : World} {B : Nat} {v : Int} (h : IBox W B v) (u : Int) : IBox (W.setCell ⟨B, 0, none⟩ (.int .i64 u)) B u := ⟨by
  have := heap_setCell_same W B 0 #[.int .i64 v] 3 (.int .i64 u) h.box
  simpa using this⟩
theorem IBox.cell {W : World} {B : Nat} {v : Int} (h : IBox W B v) : W.cell? ⟨B, 0, none⟩ = some (.int .i64 v) ∧ W.frozen? ⟨B, 0, none⟩ = false := by
  unfold World.cell? World.frozen?
  rw [h.box]
  exact ⟨rfl, rfl⟩
set_option maxRecDepth 100000 in
set_option maxHeartbeats 8000000 in
theorem firstShort_yes {o b l : Bool} {wl vl : List UInt8} {d0 : Nat} (w : World) (hr : rchB (str wl) = true) (hv : rchB (str vl) = true) (hd : dstB o b l vl wl = some d0) :
    Calls Try.prog 7 #[.string (str wl), .string (str vl), ruV o b l] w (FsPost (fsL o b l vl d0 wl) true w) := by
  have hg := rch_T hr
  have hgv := rch_T hv
  have hs : (str wl).size ≤ maxLen := by have := hg.2; rw [str_size]; unfold maxLen; omega
  have hs2 : (str vl).size ≤ maxLen := by have := hgv.2; rw [str_size]; unfold maxLen; omega
  have hw1 := (goodL_iff _).1 hg.1
  rw [str_size] at hw1
  have hR := Lib.hid hr
  have hV := Lib.hid hv
  have HDT := Lib.hid (fun wx => depthsTo_any _ o b l vl wx hgv)
  have HBK := Lib.hid (fun wx => backwards_any wl wx hw1.1 (by have := hg.2; omega))
  have hFL := found_L o b l (good_revF hgv)
  have HND := Lib.hid hFL.nodup
  have HDP := Lib.hid hFL.deep
  have HDR := Lib.hid (fun x => dst_rev (o := o) (b := b) (l := l) hgv x)
  have hqe := HDR.out wl
  rw [hd] at hqe
  have HQE := Lib.hid hqe
  have HD := Lib.hid hd
  have HG := Lib.hid hg
  have HGV := Lib.hid hgv
  have hd6 : d0 ≤ 60000 := by
    rcases stF_cases _ HND.out wl.reverse with ⟨d2, h1, _, h3⟩ | ⟨_, h3⟩
    · rw [hqe] at h3
      have h3 := Option.some.inj h3
      have := HDP.out _ h1
      rw [h3]; exact this
    · rw [hqe] at h3; cases h3
  unfold DfPost at HDT
  unfold FsPost
  have HFI := Lib.hid (FsI.start (n := wl.length) (v := vl) hg hd)
  clear hr hv hg hgv hd hFL hqe hw1
  generalize bfsL (nxR o b l) vl.reverse = L at HDT HND HDP HDR HQE
  go_enter Try.func7, Try.ntmps7
  go_wp2_with fail
  refine (isRch_any _ _ hs).mono ?_; rintro e w' ⟨rfl, rfl⟩; rw [hR.out]
  go_wp2_with fail
  refine (isRch_any _ _ hs2).mono ?_; rintro e w' ⟨rfl, rfl⟩; rw [hV.out]
  go_wp2_with fail
  refine (partsOf_any o b l _).mono ?_; rintro e w1 ⟨rfl, hb1⟩
  have HB1 := Lib.hid (((Below.refl w.heap.size w).alloc (Nat.le_refl _) (ruO o b l)).trans (hb1.mono (by simp)))
  clear hb1
  go_wp2_with fail
  refine (HDT.out _).mono ?_
  rintro e w2 ⟨bm, D, rfl, hbm, hmap, hfv, hb2⟩
  have hbm8 : w1.heap.size < bm := by have := hbm; simp at this; omega
  have HBX2 := Lib.hid ((RuBx.new w1 o b l 48).below hb2)
  have HB2 := Lib.hid ((HB1.out.alloc HB1.out.size (paO o b l)).trans (hb2.mono (by have := HB1.out.size; simp; omega)))
  have hmlt := hmap.lt
  have HMP := Lib.hid hmap
  have HFV := Lib.hid hfv
  clear hbm hmap hfv hb2 HB1
  go_upto_region 5 with fail
  obtain ⟨V, hV3⟩ : ∃ V, V = w2.alloc (.cells #[.map (some bm)] 51) := ⟨_, rfl⟩
  have hBV : Below w2.heap.size w2 V := by rw [hV3]; exact (Below.refl _ _).alloc (Nat.le_refl _) _
  have hzV : V.heap.size = w2.heap.size + 1 := by rw [hV3]; simp
  have c9 : V.cell? ⟨w2.heap.size, 0, none⟩ = some (.map (some bm)) := by rw [hV3, World.cell?_alloc_new]; rfl
  rw [← hV3]
  clear hV3
  have HMV : Hid (V.ownsMap Try.prog 9 intR bm 59049 D) := Lib.hid (map_blk HMP.out (hBV.block bm hmlt))
  have HK : Hid (∀ w', Below V.heap.size V w' → (w'.cell? ⟨w2.heap.size, 0, none⟩ = some (.map (some bm)) ∧ (Instr.lookup 51 (.map (some bm)) (.string (str wl.reverse)) true).run Try.prog w' = .ok (.tuple #[.int .i64 (d0 : Int), .bool true]) w')) := Lib.hid fun w' hb => by
    refine ⟨(hb.cell (p := ⟨w2.heap.size, 0, none⟩) (show w2.heap.size < _ by omega)).trans c9, ?_⟩
    have := fnd_look (map_blk HMV.out (hb.block bm (by omega))) HFV.out HND.out wl.reverse (by rw [List.length_reverse]; have := HG.out.2; omega)
    rw [HQE.out] at this
    exact this
  have HBX3 := Lib.hid (HBX2.out.below hBV)
  have HB3 := Lib.hid (HB2.out.trans (hBV.mono HB2.out.size))
  have HC9 := Lib.hid c9
  have HZV := Lib.hid hzV
  clear c9 hBV HB2 HBX2 HMP hzV
  go_cut [10, 11] from 16 (fun s10 s11 wz => ∃ B10, s10 = Value.pointer (some ⟨B10, 0, none⟩) ∧ s11 = Value.bool true ∧ V.heap.size ≤ B10 ∧ Hid (IBox wz B10 (d0 : Int)) ∧ Hid (Below V.heap.size V wz))
  case first =>
    go_region_held3 (fun w' => w'.cell? ⟨w2.heap.size, 0, none⟩ = some (.map (some bm)) ∧ (Instr.lookup 51 (.map (some bm)) (.string (str wl.reverse)) true).run Try.prog w' = .ok (.tuple #[.int .i64 (d0 : Int), .bool true]) w') (exact HK.out _ (by repeat first | with_reducible exact hB | with_reducible exact Below.refl _ _ | with_reducible refine Below.drew ?_ | with_reducible refine Below.alloc ?_ (by first | omega | (simp <;> omega)) _ | with_reducible refine Below.setCell ?_ (by first | omega | (simp <;> omega)) _)) (first | (go_at_call 21; refine (HBK.out _).mono ?_; rintro e wb ⟨rfl, hb2⟩; have hB : Below V.heap.size V wb := Below.trans (by repeat first | with_reducible exact hB | with_reducible exact Below.refl _ _ | with_reducible refine Below.drew ?_ | with_reducible refine Below.alloc ?_ (by first | omega | (simp <;> omega)) _ | with_reducible refine Below.setCell ?_ (by first | omega | (simp <;> omega)) _) (hb2.mono (Below.size (B := V.heap.size) (w := V) (by repeat first | with_reducible exact hB | with_reducible exact Below.refl _ _ | with_reducible refine Below.drew ?_ | with_reducible refine Below.alloc ?_ (by first | omega | (simp <;> omega)) _ | with_reducible refine Below.setCell ?_ (by first | omega | (simp <;> omega)) _))); have szb := hB.size; (first | (have zb := IBox.step (IBox.drew (IBox.new _ _)) hb2; have y0 := zb.cell.1; have y1 := zb.cell.2) | (have zb := IBox.step (IBox.new _ _) hb2; have y0 := zb.cell.1; have y1 := zb.cell.2) | skip); clear hb2))
    all_goals (go_wp2_with fail; go_meet)
    all_goals first | exact ⟨_, rfl, rfl, szb, Lib.hid (IBox.new wb d0), Lib.hid (hB.alloc szb _)⟩ | exact ⟨_, rfl, rfl, Nat.le_refl _, Lib.hid (zb.set d0), Lib.hid (hB.setCell (Nat.le_refl _) _)⟩
  case rest =>
  obtain ⟨B10, rfl, rfl, hB10, HI10, HBz⟩ := hcut
  obtain ⟨w3, rfl⟩ : ∃ w3, w3 = wc := ⟨_, rfl⟩
  have hz10 := HI10.out.lt
  have hVz := HZV.out
  have hz9 : w2.heap.size < B10 := by omega
  have HFM : Hid (FsM w3 o b l w1.heap.size bm w2.heap.size B10 D d0) := Lib.hid ⟨HBX3.out.below HBz.out, map_blk HMV.out (HBz.out.block bm (by omega)), (HBz.out.cell (p := ⟨w2.heap.size, 0, none⟩) (show w2.heap.size < _ by omega)).trans HC9.out, HI10.out.cell.1, HI10.out.cell.2, hz10, hbm8, hmlt, hz9⟩
  have HB4 := Lib.hid (HB3.out.trans (HBz.out.mono HB3.out.size))
  have hwB : w.heap.size ≤ B10 := by have := HB3.out.size; omega
  have HZ10 := Lib.hid hz10
  clear hVz HI10 HBz HBX3 HMV HC9 HB3 HK HZV hB10 hz10 hmlt hbm8 HBK HDT HQE
  obtain ⟨i0, hi, hz0, hz1, hz2⟩ := info_parts Try.infoM
  have HI := Lib.hid hi
  have HZ0 := Lib.hid hz0
  have HZ1 := Lib.hid hz1
  have HZ2 := Lib.hid hz2
  clear hi hz0 hz1 hz2
  go_wp2_with fail
  go_loopw [12, 13] (fun v t wr => ∃ (d : Nat) (x : List UInt8) (made : List (Int × Int)) (Bl : Nat), t = .pointer (some ⟨Bl, 0, none⟩) ∧ B10 < Bl ∧ Hid (FsI o b l wl.length vl wl d0 x d made) ∧ Hid (FsM wr o b l w1.heap.size bm w2.heap.size B10 D d) ∧ Hid (wr.heap[Bl]? = some (.cells #[.string (str x)] 9 (0, 0))) ∧ Hid (wr.ownsRow (B10 + 1) 44 2 v made.length (flat made)) ∧ Hid (Below w.heap.size w wr)) (fun v _ _ => 60001 - slN v)
  case atStart => exact ⟨d0, wl, [], w3.heap.size, rfl, HZ10.out, HFI, Lib.hid (HFM.out.below (n := w3.heap.size) HZ10.out ((Below.refl _ _).alloc (Nat.le_refl _) _)), Lib.hid (heap_alloc_new _ _), Lib.hid (World.ownsRow_nil _ _ _ _), Lib.hid (HB4.out.alloc HB4.out.size _)⟩
  case round =>
    obtain ⟨d, x, made, Bl, rfl, hBl, HFX, HFY, HBX, HOW, HB⟩ := hrel
    obtain ⟨W, hW⟩ : ∃ W : World, W = wr := ⟨_, rfl⟩
    subst hW
    clear HFM HB4 HZ10
    cases d with
    | zero =>
      have c10 : W.cell? ⟨B10, 0, none⟩ = some (.int .i64 0) := HFY.out.c10
      have HE := Lib.hid HFX.out.fin
      go_wp2_with fail
      go_ret2
      exact ⟨_, rfl, by rw [← HE.out]; exact own_lowS HOW.out (by omega), HB.out⟩
    | succ d =>
      have c10 : W.cell? ⟨B10, 0, none⟩ = some (.int .i64 ((d : Int) + 1)) := by
        have := HFY.out.c10
        rwa [show ((d + 1 : Nat) : Int) = (d : Int) + 1 by omega] at this
      have IB := HBX.out
      have cx : W.cell? ⟨Bl, 0, none⟩ = some (.string (str x)) := by unfold World.cell?; rw [IB]; rfl
      have hgx := HFX.out.good
      have hdst := HFX.out.dst
      have hx1 := (goodL_iff _).1 hgx.1
      rw [str_size] at hx1
      have hx10 : x.length ≤ 10 := by have := hgx.2; omega
      have hln := HFX.out.len
      have hBlz : Bl < W.heap.size := (Array.getElem?_eq_some_iff.1 IB).1
      have HMV : Hid (∀ wx, Calls Try.prog 22 #[ruV o b l, .string (str x)] wx (SpPost wx (ruM o b l x))) := Lib.hid (fun wx => rmoves_any (str x) o b l wx hgx.1)
      have HEX := Lib.hid (lead_ex HGV.out hdst)
      have HLT := Lib.hid (fun j (hj : j < (ruM o b l x).length) => lead_lt (j := j) HGV.out hdst hj)
      have HAC : Hid (∀ j (hj : j < (ruM o b l x).length), ∃ a c : Nat, (ruM o b l x)[j] = ((a : Int), (c : Int)) ∧ a < (str x).size ∧ c < (str x).size ∧ a ≠ c) := Lib.hid fun j hj => by
        obtain ⟨a, c, e1, e2, h1, h2, h3⟩ := ru_at hj
        exact ⟨a, c, Prod.ext e1 e2, h1, h2, h3⟩
      have hML : (ruM o b l x).length ≤ 1000 := by
        have h1 : (ruM o b l x).length ≤ (str x).size * (str x).size := ruTo_le (str x) o b l (str x).size
        have h2 : (str x).size ≤ 10 := by rw [str_size]; exact hx10
        have : (str x).size * (str x).size ≤ 10 * 10 := Nat.mul_le_mul h2 h2
        omega
      have HNX := Lib.hid (fun j (hj : j < (ruM o b l x).length) => HFX.out.next (j := j) hj)
      obtain ⟨z8, q0, q1, q2⟩ := HFY.out.bx
      have i0' : (0 : Int) ≤ (d : Int) := by omega
      have i1' : (d : Int) ≤ 60000 := by omega
      have hx11 := hx1.1
      have HLN := Lib.hid hln
      have hmade : made.length ≤ 60000 := by omega
      clear hgx hdst hx1 IB hln
      generalize ruM o b l x = M at HMV HEX HLT HAC HNX hML
      go_wp2_with fail
      refine (HMV.out _).mono ?_
      rintro e w4 ⟨v4, rfl, ho4, hb4⟩
      obtain ⟨A4, cap4, rfl, at4⟩ := at_of_own ho4
      have hz4 := hb4.size
      have HFY4 := Lib.hid (HFY.out.below HFY.out.lt hb4)
      have hb4x : w4.heap[Bl]? = some (.cells #[.string (str x)] 9 (0, 0)) := (hb4.block Bl hBlz).trans HBX.out
      have HOW4 := Lib.hid (own_below HOW.out hb4)
      have HB4 := Lib.hid (HB.out.trans (hb4.mono HB.out.size))
      have HLT4 : Hid (∀ a, A4 = some a → W.heap.size ≤ a.block ∧ a.block < w4.heap.size) := Lib.hid fun a e => ho4.lt a.block (by rw [e]; rfl)
      have HX4 := Lib.hid hb4x
      have HIX := Lib.hid (indexM_any 24 #[.pointer (some ⟨w2.heap.size, 0, none⟩), .pointer (some ⟨Bl, 0, none⟩), .pointer (some ⟨B10, 0, none⟩)] (enters_of Try.func24 (by kernel_rfl) rfl) w4.heap.size
        (fun w' => FsM w' o b l w1.heap.size bm w2.heap.size B10 D (d + 1) ∧ w'.heap[Bl]? = some (.cells #[.string (str x)] 9 (0, 0))) M (leadB o b l vl x d) A4 cap4 w4 (fun j hj w' hI hK => by
          obtain ⟨hm, hbx'⟩ := hI
          obtain ⟨a, c, e1, ha, hc, hne⟩ := HAC.out j hj
          have h1 := HLT.out j hj
          rw [e1] at h1
          rw [e1]
          have hbl := (Array.getElem?_eq_some_iff.1 hbx').1
          have h9 := hm.o3
          have hl := hm.lt
          have cx' : w'.cell? ⟨Bl, 0, none⟩ = some (.string (str x)) := by unfold World.cell?; rw [hbx']; rfl
          have c10' : w'.cell? ⟨B10, 0, none⟩ = some (.int .i64 ((d : Int) + 1)) := by
            have := hm.c10
            rwa [show ((d + 1 : Nat) : Int) = (d : Int) + 1 by omega] at this
          refine (fsPred_any L x a c d bm w2.heap.size Bl B10 D w' hx11 hx10 ha hc hne hm.map HFV.out HND.out HDP.out hm.c9 (by omega) cx' hbl c10' hl).mono ?_
          rintro e w'' ⟨rfl, hb⟩
          rw [HDR.out]
          exact ⟨by rw [← h1]; rfl, ⟨hm.below hl hb, (hb.block Bl hbl).trans hbx'⟩, KpM.below hb⟩) hML at4 (fun a e => by have := (HLT4.out a e).2; omega) ⟨HFY4.out, hb4x⟩)
      have HAT := Lib.hid at4
      clear ho4 at4 hb4 hb4x q0 q1 q2 z8 cx c10
      go_wp2_with fail
      refine HIX.out.mono ?_
      rintro e w5 ⟨r, rfl, hr, hI5, hK5⟩
      rcases hr with ⟨j, hj, rfl, hp, hno⟩ | ⟨rfl, hno⟩
      · have HJ := Lib.hid (HNX.out j hj hp hno)
        have hB5 : Below w4.heap.size w4 w5 := hK5.to_below (Nat.le_refl _) (Nat.le_refl _)
        obtain ⟨gm, rfl, zg, p0, p1⟩ := (HAT.out.below hB5) j hj
        obtain ⟨a, c, hac, ha, hc, hne⟩ := HAC.out j hj
        rw [hac] at HJ p0 p1
        have j1 : (0 : Int) ≤ (j : Int) := by omega
        have j2 : (j : Int) < (M.length : Int) := by omega
        have HOW5 := Lib.hid (own_below HOW4.out hB5)
        have HY5 := Lib.hid hI5.1
        have HX5 := Lib.hid hI5.2
        have HB5 := Lib.hid (HB4.out.trans (hB5.mono HB4.out.size))
        have hz5 : B10 + 1 ≤ (w5.alloc (Obj.cells #[.int .i64 (a : Int), .int .i64 (c : Int)] 44)).heap.size := by have := hI5.1.lt; simp; omega
        have H2' : ∀ u ∈ [Value.int .i64 (a : Int), Value.int .i64 (c : Int)], u.oneCell' = true := fun u hu => by simp at hu; rcases hu with rfl | rfl <;> rfl
        have H3' : made.length + 1 ≤ maxLen := by unfold maxLen; omega
        have H4' : (made.length + 1) * 16 ≤ 140737488355328 := by omega
        have hgW : W.heap.size ≤ gm := (HLT4.out _ rfl).1
        have HOL : Hid (∀ k, u12.ownBlock = some k → k < W.heap.size) := Lib.hid fun k e => (HOW.out.lt k e).2
        have HLB := Lib.hid (fun wx => lineBehind_any (str x) a c wx ha hc hne)
        have hyy : behind (str x) (a : Int) (c : Int) = putL (str x) a c := rfl
        rw [hyy] at HJ
        generalize putL (str x) a c = y at HJ HLB
        clear hI5 hK5 hB5 hp hno hac ha hc hne HEX HLT HAC HNX HMV HIX HAT HOW4 HX4 HB4 HFY4 hyy
        go_wp2_with (first | (at_builtin; refine wpList_append_own _ rfl _ _ 24 rfl (B10 + 1) 44 i0 (.agg #[.int .i64 0, .int .i64 0]) 2 16 Try.underlying24 HI.out HZ0.out HZ1.out HZ2.out rfl (by decide) _ _ _ rfl (HOW5.out.alloc _) ⟨w5.heap.size, 0, none⟩ 1 1 [.int .i64 (a : Int), .int .i64 (c : Int)] rfl rfl (cell_two_new _ _ _ _) H2' H3' H4' hz5 ?_; intro v' w6 hown' hgrow _))
        have hs6 := hgrow.size
        have hnB : u12.ownBlock ≠ some Bl := own_ne_cells HOW5.out HX5.out (by decide)
        have hl5 : Bl < w5.heap.size := (Array.getElem?_eq_some_iff.1 HX5.out).1
        have hblk : ∀ k, k < w5.heap.size → u12.ownBlock ≠ some k → w6.heap[k]? = w5.heap[k]? := fun k hk hne => (hgrow.block k (by simp; omega) (fun e => hne e.symm)).trans (Below.heap_alloc _ _ _ hk)
        have hX6 : w6.heap[Bl]? = some (.cells #[.string (str x)] 9 (0, 0)) := (hblk Bl hl5 hnB).trans HX5.out
        have hl6 : Bl < w6.heap.size := (Array.getElem?_eq_some_iff.1 hX6).1
        have k6 : w6.cell? ⟨Bl, 0, none⟩ = some (.string (str x)) := by unfold World.cell?; rw [hX6]; rfl
        have hgne : u12.ownBlock ≠ some gm := fun e => by have := HOL.out gm e; omega
        have hg5 : gm < w5.heap.size := zg
        have p06 : w6.cell? ⟨gm, j * 2, none⟩ = some (.int .i64 (a : Int)) := (World.cell?_of_block (a := ⟨gm, j * 2, none⟩) (hblk gm hg5 hgne)).trans p0
        have p16 : w6.cell? ⟨gm, j * 2 + 1, none⟩ = some (.int .i64 (c : Int)) := (World.cell?_of_block (a := ⟨gm, j * 2 + 1, none⟩) (hblk gm hg5 hgne)).trans p1
        have hs56 : w5.heap.size ≤ w6.heap.size := by simp at hs6; omega
        have HY6 := Lib.hid (HY5.out.keep hs56 fun k hk => hblk k (by have := HY5.out.lt; omega) (fun e => by have := (HOW5.out.lt k e).1; omega))
        have HX6 := Lib.hid hX6
        have HOW6 : Hid (w6.ownsRow (B10 + 1) 44 2 v' (made ++ [((a : Int), (c : Int))]).length (flat (made ++ [((a : Int), (c : Int))]))) := Lib.hid (by
          have e1 : flat (made ++ [((a : Int), (c : Int))]) = flat made ++ [.int .i64 (a : Int), .int .i64 (c : Int)] := by simp [flat]
          rw [e1, List.length_append]
          exact hown')
        have HB6 := Lib.hid ((HB5.out.alloc HB5.out.size (Obj.cells #[.int .i64 (a : Int), .int .i64 (c : Int)] 44)).grown hgrow (by have := HB5.out.size; simp; omega) (fun k e => by have := (HOW5.out.lt k e).1; omega))
        have HSL := Lib.hid (own_slN HOW.out)
        have hwBl : w.heap.size ≤ Bl := by omega
        have hk9 : ∀ k, k ≤ B10 → k ≠ Bl := fun k hk => by omega
        clear hown' hgrow hs6 hnB hl5 hblk hX6 hgne hg5 zg p0 p1 HOW5 HX5 HY5 HB5 hz5 H2' H3' H4' hs56 HOL
        go_region_law (first | (go_simp; go_at_call 25; refine (HLB.out _).mono ?_; rintro e wx ⟨rfl, hbx⟩; have hX7 : wx.heap[Bl]? = some (.cells #[.string (str x)] 9 (0, 0)) := (hbx.block Bl hl6).trans HX6.out; have y0 : wx.cell? ⟨Bl, 0, none⟩ = some (.string (str x)) := (by unfold World.cell?; rw [hX7]; rfl); have y1 : wx.frozen? ⟨Bl, 0, none⟩ = false := (by unfold World.frozen?; rw [hX7]; rfl); have HX7 := Lib.hid hX7; have HBX7 : Hid (Below w6.heap.size w6 wx) := Lib.hid (Below.trans (by repeat first | with_reducible exact Below.refl _ _ | with_reducible refine Below.drew ?_) hbx); clear hX7 hbx))
        all_goals
          obtain ⟨W7, hW7⟩ : ∃ W7, W7 = wx.setCell ⟨Bl, 0, none⟩ (.string (str y)) := ⟨_, rfl⟩
          have hX8 : W7.heap[Bl]? = some (.cells #[.string (str y)] 9 (0, 0)) := by
            have := heap_setCell_same wx Bl 0 #[.string (str x)] 9 (.string (str y)) HX7.out
            rw [hW7]
            simpa using this
          have k7 : W7.cell? ⟨Bl, 0, none⟩ = some (.string (str y)) := by unfold World.cell?; rw [hX8]; rfl
          have hk7 : ∀ k, k < w6.heap.size → k ≠ Bl → W7.heap[k]? = w6.heap[k]? := fun k hk hne => by
            rw [hW7, Below.heap_setCell _ _ _ _ hne]
            exact HBX7.out.block k hk
          have hs7 : w6.heap.size ≤ W7.heap.size := by rw [hW7]; have := HBX7.out.size; simpa using this
          have HY7 := Lib.hid (HY6.out.keep hs7 fun k hk => hk7 k (Nat.lt_of_le_of_lt hk HY6.out.lt) (hk9 k hk))
          have HOW7 : Hid (W7.ownsRow (B10 + 1) 44 2 v' (made ++ [((a : Int), (c : Int))]).length (flat (made ++ [((a : Int), (c : Int))]))) := Lib.hid (by
            rw [hW7]
            exact own_setB (own_below HOW6.out HBX7.out) (own_ne_cells (own_below HOW6.out HBX7.out) HX7.out (by decide)) 0 _)
          have HB7 : Hid (Below w.heap.size w W7) := Lib.hid (by rw [hW7]; exact (HB6.out.trans (HBX7.out.mono HB6.out.size)).setCell hwBl _)
          have c7 : (W7.alloc (.cells #[.string (str y)] 9)).cell? ⟨B10, 0, none⟩ = some (.int .i64 ((d : Int) + 1)) := by
            have := (HY7.out.keep (W' := W7.alloc (.cells #[.string (str y)] 9)) (by simp) fun k hk => Below.heap_alloc _ _ _ (Nat.lt_of_le_of_lt hk HY7.out.lt)).c10
            rwa [show ((d + 1 : Nat) : Int) = (d : Int) + 1 by omega] at this
          have f7 : (W7.alloc (.cells #[.string (str y)] 9)).frozen? ⟨B10, 0, none⟩ = false := (HY7.out.keep (W' := W7.alloc (.cells #[.string (str y)] 9)) (by simp) fun k hk => Below.heap_alloc _ _ _ (Nat.lt_of_le_of_lt hk HY7.out.lt)).f10
          have hB7 : B10 < W7.heap.size := HY7.out.lt
          have HFY9 : Hid (FsM ((W7.setCell ⟨B10, 0, none⟩ (.int .i64 (d : Int))).alloc (.cells #[.string (str y)] 9)) o b l w1.heap.size bm w2.heap.size B10 D d) := Lib.hid (HY7.out.dec.keep (by simp) fun k hk => Below.heap_alloc _ _ _ (by simp; omega))
          have HBX9 : Hid (((W7.setCell ⟨B10, 0, none⟩ (.int .i64 (d : Int))).alloc (.cells #[.string (str y)] 9)).heap[W7.heap.size]? = some (.cells #[.string (str y)] 9 (0, 0))) := Lib.hid (by
            have := heap_alloc_new (W7.setCell ⟨B10, 0, none⟩ (.int .i64 (d : Int))) (.cells #[.string (str y)] 9)
            rwa [World.size_setCell] at this)
          have HOW9 : Hid (((W7.setCell ⟨B10, 0, none⟩ (.int .i64 (d : Int))).alloc (.cells #[.string (str y)] 9)).ownsRow (B10 + 1) 44 2 v' (made ++ [((a : Int), (c : Int))]).length (flat (made ++ [((a : Int), (c : Int))]))) := Lib.hid ((own_setB HOW7.out (fun e => by have := (HOW7.out.lt B10 e).1; omega) 0 _).alloc _)
          have HB9 : Hid (Below w.heap.size w ((W7.setCell ⟨B10, 0, none⟩ (.int .i64 (d : Int))).alloc (.cells #[.string (str y)] 9))) := Lib.hid ((HB7.out.setCell hwB _).alloc (by have := HB7.out.size; simp; omega) _)
          rw [← hW7]
          clear hW7 hX8 hk7 hs7 HY7 HB7 HY6 HB6 HX6 HX7 HBX7 y0 y1 k6 p06 p16
          go_wp2_with fail
          go_roundw
          case rel => exact ⟨d, y, made ++ [((a : Int), (c : Int))], W7.heap.size, rfl, hB7, HJ, HFY9, HBX9, HOW9, HB9⟩
          case measure =>
            have h1 := own_slN HOW9.out
            have h2 := HSL.out
            rw [List.length_append] at h1
            simp at h1
            omega
      · exfalso
        obtain ⟨j, hj, h⟩ := HEX.out
        rw [hno j hj] at h
        cases h
end Go.Proofs.Ytdcbjbmnkajjcaa
