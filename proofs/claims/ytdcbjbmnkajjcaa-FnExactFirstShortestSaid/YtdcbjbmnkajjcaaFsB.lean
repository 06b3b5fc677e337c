/- FirstShortest: the program's closure, and the lines from which one is reached. -/
import Derived.Test.YtdcbjbmnkajjcaaFsA
import Derived.Test.YtdcbjbmnkajjcaaGmQ
import Derived.Test.YtdcbjbmnkajjcaaBack
import Derived.Test.YtdcbjbmnkajjcaaRuK
import Derived.Deep.RegionHeld3
import Derived.Deep.Cut
import Derived.Maps.OwnSet
namespace Go.Proofs.Ytdcbjbmnkajjcaa
open Go.RowKit Go.Maps

def oN (q : Option Nat) : Int := ((q.getD 0 : Nat) : Int)
/-- A look at the map of lines found. -/
theorem fnd_look {W : World} {bm : Nat} {D : DataW Unit} {L : Fnd} (h : W.ownsMap Try.prog 9 intR bm 59049 D) (hf : FndV D L) (hn : (keysF L).Nodup) (y : List UInt8) (hy : y.length ≤ 1000) :
    (Instr.lookup 51 (.map (some bm)) (.string (str y)) true).run Try.prog W = .ok (.tuple #[.int .i64 (oN (stF L y)), .bool (stF L y).isSome]) W := by
  have hw0 : intR (.int .i64 0) = some (.lit (.int .i64 0), []) := intR_n 0 (by decide)
  obtain ⟨v, ps, hrun, hv⟩ := h.look_ok Try.keysS Try.underlying51 (zeroIn W) hw0 (keyS (x := y) (by unfold maxLen; omega))
  obtain ⟨c, rfl, hc, _⟩ := plainElem_int_inv Try.underlying3 hv
  simp only [Prod.mk.injEq] at hc
  rw [fndV_has hf y] at hrun
  rcases stF_cases L hn y with ⟨d, h1, h2, h3⟩ | ⟨h2, h3⟩
  · have h4 := (hf.1 _ h1).2 (.lit (.int .i64 0))
    obtain rfl : c = (d : Int) := atKey_one h4 hc.1
    rw [decide_eq_true h2] at hrun
    rw [h3]
    exact hrun
  · have h4 := hc.1
    rw [atKey_of_not_has (by rw [fndV_has hf]; exact decide_eq_false h2)] at h4
    injection h4 with h4
    injection h4 with _ h4
    subst h4
    rw [decide_eq_false h2] at hrun
    rw [h3]
    exact hrun
theorem map_blk {W W' : World} {bm n : Nat} {D : DataW Unit} (h : W.ownsMap Try.prog 9 intR bm n D) (he : W'.heap[bm]? = W.heap[bm]?) : W'.ownsMap Try.prog 9 intR bm n D := by
  obtain ⟨es, clock, hb, F, hs, hD⟩ := h
  exact ⟨es, clock, he.trans hb, F, hs, hD⟩
set_option maxRecDepth 100000 in
set_option maxHeartbeats 2000000 in
theorem depthsTo_any (n : Nat) (o b l : Bool) (v : List UInt8) (w : World) (hg : goodT n v) :
    Calls Try.prog 20 #[ruV o b l, .string (str v)] w (DfPost o b l v.reverse w) := by
  have hl := (goodL_iff _).1 hg.1
  rw [str_size] at hl
  have HBK := Lib.hid (fun wx => backwards_any v wx hl.1 (by have := hg.2; omega))
  have HDF := Lib.hid (fun wx => depthsFrom_any n o b l v.reverse wx (good_revF hg))
  unfold DfPost at HDF
  unfold DfPost
  clear hg hl
  go_enter Try.func20, Try.ntmps20
  go_upto_region 1 with fail
  obtain ⟨V, hV⟩ : ∃ V, V = w.alloc (paO o b l) := ⟨_, rfl⟩
  have hBV : Below w.heap.size w V := by rw [hV]; exact (Below.refl _ _).alloc (Nat.le_refl _) _
  obtain ⟨zV, q0, q1, q2⟩ : RuBx V w.heap.size o b l := by rw [hV]; exact RuBx.new w o b l 48
  have hK : ∀ w', Below V.heap.size V w' → (w'.cell? ⟨w.heap.size, 0, none⟩ = some (.bool o) ∧ w'.cell? ⟨w.heap.size, 1, none⟩ = some (.bool b) ∧ w'.cell? ⟨w.heap.size, 2, none⟩ = some (.bool l)) := fun w' hb => ⟨(hb.cell (p := ⟨w.heap.size, 0, none⟩) zV).trans q0, (hb.cell (p := ⟨w.heap.size, 1, none⟩) zV).trans q1, (hb.cell (p := ⟨w.heap.size, 2, none⟩) zV).trans q2⟩
  have HK := Lib.hid hK
  have HBV := Lib.hid hBV
  rw [← hV]
  clear hK hBV hV zV q0 q1 q2
  go_region_held3 (fun w' => w'.cell? ⟨w.heap.size, 0, none⟩ = some (.bool o) ∧ w'.cell? ⟨w.heap.size, 1, none⟩ = some (.bool b) ∧ w'.cell? ⟨w.heap.size, 2, none⟩ = some (.bool l)) (exact HK.out _ (by repeat first | with_reducible exact hB | with_reducible exact Below.refl _ _ | with_reducible refine Below.drew ?_)) (first | (go_at_call 21; refine (HBK.out _).mono ?_; rintro e wa ⟨rfl, hb2⟩; have hB : Below V.heap.size V wa := Below.trans (by repeat first | with_reducible exact hB | with_reducible exact Below.refl _ _ | with_reducible refine Below.drew ?_) (hb2.mono (Below.size (B := V.heap.size) (w := V) (by repeat first | with_reducible exact hB | with_reducible exact Below.refl _ _ | with_reducible refine Below.drew ?_))); clear hb2) | (go_at_call 35; refine (HDF.out _).mono ?_; rintro e wb ⟨bm, D, rfl, hbm, hmap, hfv, hb2⟩; have hbm2 := Nat.le_trans (Below.size (B := V.heap.size) (w := V) (by repeat first | with_reducible exact hB | with_reducible exact Below.refl _ _ | with_reducible refine Below.drew ?_)) hbm; have hB : Below V.heap.size V wb := Below.trans (by repeat first | with_reducible exact hB | with_reducible exact Below.refl _ _ | with_reducible refine Below.drew ?_) (hb2.mono (Below.size (B := V.heap.size) (w := V) (by repeat first | with_reducible exact hB | with_reducible exact Below.refl _ _ | with_reducible refine Below.drew ?_))); clear hb2))
  all_goals go_wp2_with fail
  all_goals go_ret
  all_goals exact ⟨bm, D, rfl, Nat.le_trans HBV.out.size hbm2, hmap, hfv, HBV.out.trans (hB.mono HBV.out.size)⟩
set_option maxRecDepth 100000 in
set_option maxHeartbeats 4000000 in
theorem fsPred_any (L : Fnd) (x : List UInt8) (a c d bm Bt Bl Bn : Nat) (D : DataW Unit) (W : World) (hx1 : 1 ≤ x.length) (hx : x.length ≤ 10) (ha : a < (str x).size) (hc : c < (str x).size) (hne : a ≠ c) (hm : W.ownsMap Try.prog 9 intR bm 59049 D) (hf : FndV D L) (hn : (keysF L).Nodup)
    (hdp : ∀ p ∈ L, p.2 ≤ 60000) (c0 : W.cell? ⟨Bt, 0, none⟩ = some (.map (some bm))) (z0 : Bt < W.heap.size) (c1 : W.cell? ⟨Bl, 0, none⟩ = some (.string (str x))) (z1 : Bl < W.heap.size) (c2 : W.cell? ⟨Bn, 0, none⟩ = some (.int .i64 ((d : Int) + 1))) (z2 : Bn < W.heap.size) :
    Calls Try.prog 24 #[.agg #[.int .i64 a, .int .i64 c], .pointer (some ⟨Bt, 0, none⟩), .pointer (some ⟨Bl, 0, none⟩), .pointer (some ⟨Bn, 0, none⟩)] W fun e W' => e = .returned (.bool (ltO (stF L (putL (str x) a c).reverse) d)) ∧ Below W.heap.size W W' := by
  have hyl : (putL (str x) a c).length = x.length := by rw [putL_len, str_size]
  have HLB := Lib.hid (fun wx => lineBehind_any (str x) a c wx ha hc hne)
  have HBK := Lib.hid (fun wx => backwards_any (putL (str x) a c) wx (by omega) (by omega))
  have hle : ∀ e, stF L (putL (str x) a c).reverse = some e → e ≤ 60000 := fun e h => by
    rcases stF_cases L hn (putL (str x) a c).reverse with ⟨d2, h1, _, h3⟩ | ⟨_, h3⟩
    · rw [h3] at h
      have h := Option.some.inj h
      have := hdp _ h1
      rw [← h]; exact this
    · rw [h3] at h; cases h
  have HLK := Lib.hid (fun (w' : World) (hm' : w'.ownsMap Try.prog 9 intR bm 59049 D) => fnd_look hm' hf hn (putL (str x) a c).reverse (by rw [List.length_reverse]; omega))
  have HM := Lib.hid hm
  generalize putL (str x) a c = y at HLB HBK HLK hle ⊢
  have hz := hm.lt
  clear hm hf hdp ha hc hne hyl hn
  generalize stF L y.reverse = q at HLK hle ⊢
  go_enter Try.func24, Try.ntmps24
  go_upto_region 1 with fail
  obtain ⟨V, hV⟩ : ∃ V, V = W.alloc (.cells #[.int .i64 (a : Int), .int .i64 (c : Int)] 44) := ⟨_, rfl⟩
  have hBV : Below W.heap.size W V := by rw [hV]; exact (Below.refl _ _).alloc (Nat.le_refl _) _
  have hzV : V.heap.size = W.heap.size + 1 := by rw [hV]; simp
  have p0 : V.cell? ⟨W.heap.size, 0, none⟩ = some (.int .i64 (a : Int)) := by rw [hV, World.cell?_alloc_new]; rfl
  have p1 : V.cell? ⟨W.heap.size, 1, none⟩ = some (.int .i64 (c : Int)) := by rw [hV, World.cell?_alloc_new]; rfl
  have k0 := (hBV.cell (p := ⟨Bt, 0, none⟩) z0).trans c0
  have k1 := (hBV.cell (p := ⟨Bl, 0, none⟩) z1).trans c1
  have k2 := (hBV.cell (p := ⟨Bn, 0, none⟩) z2).trans c2
  have hK : ∀ w', Below V.heap.size V w' → (w'.cell? ⟨Bt, 0, none⟩ = some (.map (some bm)) ∧ w'.cell? ⟨W.heap.size, 0, none⟩ = some (.int .i64 (a : Int)) ∧ w'.cell? ⟨W.heap.size, 1, none⟩ = some (.int .i64 (c : Int)) ∧ w'.cell? ⟨Bl, 0, none⟩ = some (.string (str x)) ∧ (Instr.lookup 51 (.map (some bm)) (.string (str y.reverse)) true).run Try.prog w' = .ok (.tuple #[.int .i64 (oN q), .bool q.isSome]) w') := fun w' hb =>
    ⟨(hb.cell (p := ⟨Bt, 0, none⟩) (show Bt < _ by omega)).trans k0, (hb.cell (p := ⟨W.heap.size, 0, none⟩) (show W.heap.size < _ by omega)).trans p0, (hb.cell (p := ⟨W.heap.size, 1, none⟩) (show W.heap.size < _ by omega)).trans p1, (hb.cell (p := ⟨Bl, 0, none⟩) (show Bl < _ by omega)).trans k1, HLK.out w' (map_blk HM.out ((hb.block bm (by omega)).trans (hBV.block bm hz)))⟩
  have HK := Lib.hid hK
  have HBV := Lib.hid hBV
  have HK2 : Hid (∀ w', Below V.heap.size V w' → w'.cell? ⟨Bn, 0, none⟩ = some (.int .i64 ((d : Int) + 1))) := Lib.hid fun w' hb => (hb.cell (p := ⟨Bn, 0, none⟩) (show Bn < _ by omega)).trans k2
  rw [← hV]
  clear hK hBV hV p0 p1 k0 k1 k2 c0 c1 c2 hzV HLK HM
  go_region_held3 (fun w' => w'.cell? ⟨Bt, 0, none⟩ = some (.map (some bm)) ∧ w'.cell? ⟨W.heap.size, 0, none⟩ = some (.int .i64 (a : Int)) ∧ w'.cell? ⟨W.heap.size, 1, none⟩ = some (.int .i64 (c : Int)) ∧ w'.cell? ⟨Bl, 0, none⟩ = some (.string (str x)) ∧ (Instr.lookup 51 (.map (some bm)) (.string (str y.reverse)) true).run Try.prog w' = .ok (.tuple #[.int .i64 (oN q), .bool q.isSome]) w') (exact HK.out _ (by repeat first | with_reducible exact hB | with_reducible exact Below.refl _ _ | with_reducible refine Below.drew ?_)) (first | (go_at_call 25; refine (HLB.out _).mono ?_; rintro e wa ⟨rfl, hb2⟩; have hB : Below V.heap.size V wa := Below.trans (by repeat first | with_reducible exact hB | with_reducible exact Below.refl _ _ | with_reducible refine Below.drew ?_) (hb2.mono (Below.size (B := V.heap.size) (w := V) (by repeat first | with_reducible exact hB | with_reducible exact Below.refl _ _ | with_reducible refine Below.drew ?_))); clear hb2) | (go_at_call 21; refine (HBK.out _).mono ?_; rintro e wb ⟨rfl, hb2⟩; have hB : Below V.heap.size V wb := Below.trans (by repeat first | with_reducible exact hB | with_reducible exact Below.refl _ _ | with_reducible refine Below.drew ?_) (hb2.mono (Below.size (B := V.heap.size) (w := V) (by repeat first | with_reducible exact hB | with_reducible exact Below.refl _ _ | with_reducible refine Below.drew ?_))); clear hb2))
  rename_i hHeld
  have k2 := HK2.out wb hB
  have HB := Lib.hid (HBV.out.trans (hB.mono HBV.out.size))
  clear hHeld hB HK HK2 HBV
  cases q with
  | none =>
    have e0 : (Option.isSome (none : Option Nat)) = false := rfl
    rw [e0]
    clear e0
    go_wp2_with fail
    go_ret
    exact ⟨rfl, HB.out⟩
  | some e =>
    have e0 : (Option.isSome (some e)) = true := rfl
    have e1 : oN (some e) = (e : Int) := rfl
    have he := hle e rfl
    rw [e0, e1]
    have HV : Hid (decide ((e : Int) < (d : Int) + 1) = ltO (some e) d) := Lib.hid (by
      show _ = decide (e < d + 1)
      rw [decide_eq_decide]
      omega)
    clear e0 e1 hle
    go_wp2_with fail
    go_ret
    exact ⟨by (try rw [HV.out]); rfl, HB.out⟩
end Go.Proofs.Ytdcbjbmnkajjcaa
