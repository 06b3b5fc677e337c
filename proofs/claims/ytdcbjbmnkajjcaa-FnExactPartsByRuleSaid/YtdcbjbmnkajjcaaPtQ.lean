/- PartsByRule: maps copied; the program's side. -/
import Derived.Test.YtdcbjbmnkajjcaaPtP
import Derived.Test.YtdcbjbmnkajjcaaRuK
import Derived.Test.YtdcbjbmnkajjcaaRuM
import Derived.Maps.RangeWalk
namespace Go.Proofs.Ytdcbjbmnkajjcaa
open Go.RowKit Go.Maps

/-- The map has just these keys. -/
def KySet (D : DataW Unit) (P : List UInt8 → Prop) : Prop := ∀ v, Maps.has D (.string v) = true ↔ P v
theorem map_blkP {W W' : World} {bm n : Nat} {D : DataW Unit} (h : W.ownsMap Try.prog 9 intR bm n D) (he : W'.heap[bm]? = W.heap[bm]?) : W'.ownsMap Try.prog 9 intR bm n D := by
  obtain ⟨es, clock, hb, F, hs, hD⟩ := h
  exact ⟨es, clock, he.trans hb, F, hs, hD⟩
set_option maxRecDepth 100000 in
set_option maxHeartbeats 4000000 in
theorem copyMap_any (c bd bs : Nat) (P : List UInt8 → Prop) (Dd Ds : DataW Unit) (w : World) (hd : w.ownsMap Try.prog 9 intR bd 59049 Dd) (hs : w.ownsMap Try.prog 9 intR bs 59049 Ds) (hne : bd ≠ bs) (hP : KySet Dd P)
    (hg : ∀ v, P v → goodT c v) (hg2 : ∀ v, Maps.has Ds (.string v) = true → goodT c v) :
    Calls Try.prog 34 #[.map (some bd), .map (some bs)] w fun e w' => e = .returned (.tuple #[]) ∧ (∃ D, w'.ownsMap Try.prog 9 intR bd 59049 D ∧ KySet D fun v => P v ∨ Maps.has Ds (.string v) = true) ∧ w.grownBy w' (some bd) := by
  have HD0 := Lib.hid hd
  have hbd := hd.lt
  have hbs := hs.lt
  have HP := Lib.hid hP
  have HG := Lib.hid hg
  have HG2 := Lib.hid hg2
  have hne2 : bs ≠ bd := fun e => hne e.symm
  have hmm := @run_makeMap Try.prog
  clear hd hP hg hg2
  go_enter Try.func34, Try.ntmps34
  go_wp2_with (first
    | (at_range; refine wpList_range_own _ rfl _ 51 rfl 9 3 Try.keysS Try.underlying51 _ bs _ _ rfl hs ?_; intro w2 hrg0 hg0 hs0)
    | go_in)
  try go_frame
  go_loopw [4, 5] (fun _ _ wq => ∃ (us : List (List UInt8)) (left : Lit → Bool) (cnt : Nat) (Dx : DataW Unit), wq.ranges Try.prog 9 intR bs w.heap.size 59049 Ds left cnt ∧ Collected Ds left us ∧ Hid (wq.ownsMap Try.prog 9 intR bd 59049 Dx) ∧ Hid (KySet Dx fun v => P v ∨ v ∈ us) ∧ Hid (w.heap.size ≤ wq.heap.size ∧ (∀ k, k < w.heap.size → k ≠ bd → wq.heap[k]? = w.heap[k]?) ∧ wq.os = w.os ∧ wq.tape = w.tape ∧ wq.output = w.output))
    (fun _ _ wq => wq.rangeLeft bs w.heap.size)
  case atStart => exact ⟨[], _, _, Dd, hrg0, Collected.start Ds, Lib.hid (HD0.out.kept hg0 (by simp)), Lib.hid (fun v => by have := HP.out v; simpa using this), Lib.hid ⟨by omega, fun k hk _ => hg0.block k hk (by simp), hg0.os, hg0.tape, hg0.output⟩⟩
  case round =>
    obtain ⟨us, left, cnt, Dx, hrg, hC, HDX, HKX, HKP⟩ := hrel
    obtain ⟨wq, hwq⟩ : ∃ wq : World, wq = wr := ⟨_, rfl⟩
    subst hwq
    have hrg00 := hrg
    go_wp2_with (first
      | (at_next; refine wpList_next_ranges _ rfl _ rfl 9 Try.keysS intR (fun l : List UInt8 => Value.string (str l)) (Value.int .i64) (fun key kl hk => by obtain ⟨x, hx, _⟩ := Maps.keyOf_str Try.underlying9 hk; exact ⟨x, hx⟩) (fun v y hv => by obtain ⟨c, rfl, _⟩ := plainElem_int_inv Try.underlying3 hv; exact ⟨c, rfl⟩) bs w.heap.size 59049 _ _ _ rfl hrg ?_ ?_)
      | go_in)
    · intro hc0 hl0
      have HKE : Hid (KySet Dx fun v => P v ∨ Maps.has Ds (.string v) = true) := Lib.hid fun v => by
        refine (HKX.out v).trans ?_
        constructor
        · rintro (h | h)
          · exact .inl h
          · exact .inr ((hC.2 v).1 h).1
        · rintro (h | h)
          · exact .inl h
          · exact .inr ((hC.2 v).2 ⟨h, hl0 _⟩)
      clear hrg hrg00 hC
      go_wp2
      go_end0
      exact ⟨rfl, ⟨Dx, HDX.out, HKE.out⟩, ⟨HKP.out.2.2.1, HKP.out.2.2.2.1, HKP.out.2.2.2.2, HKP.out.1, fun k hk hne => HKP.out.2.1 k hk (fun e => hne (by rw [e]))⟩⟩
    · intro x c0 kl yd yp w2' cnt2 hkey hlk hv hat hrg2 hlt2 hg2 hs2 hen
      obtain ⟨x', ex, rfl, hxl⟩ := Maps.keyOf_str Try.underlying9 hkey
      obtain rfl : x = x' := by
        have : str x = str x' := by injection ex
        exact str_inj.1 this
      clear ex
      have hhas : Maps.has Ds (.string x) = true := has_true_of_atKey hat
      have HC2 := Lib.hid (hC.step hlk hat)
      have hz := HKP.out.1
      have hmap := HDX.out.kept hg2 (by simp; omega)
      have HK2 := Lib.hid hkey
      have HGX := Lib.hid (HG2.out x hhas)
      have HUS : Hid (∀ v ∈ us, goodT c v) := Lib.hid fun v hv => HG2.out v ((hC.2 v).1 hv).1
      have hz3 := hg2.size
      have HB2 : Hid (w.heap.size ≤ w2'.heap.size ∧ (∀ k, k < w.heap.size → k ≠ bd → w2'.heap[k]? = w.heap[k]?) ∧ w2'.os = w.os ∧ w2'.tape = w.tape ∧ w2'.output = w.output) := Lib.hid ⟨by omega, fun k hk hne => (hg2.block k (by omega) (fun e => by injection e with e; omega)).trans (HKP.out.2.1 k hk hne), hg2.os.trans HKP.out.2.2.1, hg2.tape.trans HKP.out.2.2.2.1, hg2.output.trans HKP.out.2.2.2.2⟩
      have HR2 := Lib.hid hrg2
      have HL := Lib.hid (show cnt2 < wq.rangeLeft bs w.heap.size by rw [hrg00.left_eq]; exact hlt2)
      clear hC hrg hrg00 hs2 hhas hlk hat hg2 hrg2 hlt2 hz3
      go_wp2_with (first
        | (at_mapUpdate; refine wpList_mapUpdate_own _ rfl _ _ _ 51 rfl 9 3 Try.keysS Try.underlying51 intR bd 59049 Dx rfl hmap (by decide) _ _ (.string x) rfl rfl HK2.out yd yp hv ?_; intro w5 hmap5 hg5))
      have HKY5 : Hid (KySet (Dx.put (.string x) yd) fun v => P v ∨ v ∈ us ++ [x]) := Lib.hid fun v => by
        by_cases e : v = x
        · subst e
          rw [has_put_same hmap.isMap (by trivial)]
          simp
        · rw [has_put_other (by intro e2; injection e2 with e2; exact e e2)]
          refine (HKX.out v).trans ?_
          simp [e]
      have HM5 : Hid (w5.ownsMap Try.prog 9 intR bd 59049 (Dx.put (.string x) yd)) := Lib.hid (own_few (c := c) hmap5 Try.keysS Try.underlying9 fun v hv => by
        rcases (HKY5.out v).1 hv with h | h
        · exact HG.out v h
        · rcases List.mem_append.1 h with h | h
          · exact HUS.out v h
          · obtain rfl : v = x := by simpa using h
            exact HGX.out)
      have hrg5 := HR2.out.kept hg5 (by simp; omega) (by simp; omega)
      go_roundw
      case rel => exact ⟨_, _, _, _, _, _, _, _, _, _, ⟨us ++ [x], _, cnt2, _, hrg5, HC2.out, HM5, HKY5, Lib.hid ⟨Nat.le_trans HB2.out.1 hg5.size, fun k hk hne => (hg5.block k (Nat.lt_of_lt_of_le hk HB2.out.1) (fun e => by injection e with e; omega)).trans (HB2.out.2.1 k hk hne), hg5.os.trans HB2.out.2.2.1, hg5.tape.trans HB2.out.2.2.2.1, hg5.output.trans HB2.out.2.2.2.2⟩⟩, rfl⟩
      case measure => rw [hrg5.left_eq]; exact HL.out
/-- The answer of PartsByRule. -/
def ptV (t g f : Int) (o l : Bool) : Value := if thrR t g f then .tuple #[.int .i64 (ptN o l t g f (manyK t g f)), .bool true] else .tuple #[.int .i64 0, .bool false]
theorem ptV_open (t g f : Int) (o l : Bool) : ∃ x y, ptV t g f o l = .tuple #[.int .i64 x, .bool y] := by
  unfold ptV
  split
  · exact ⟨_, _, rfl⟩
  · exact ⟨_, _, rfl⟩
theorem lnsFormP {W : World} {R0 N : Nat} {v : Value} {xs : List Value} (h : W.ownsRow R0 9 1 v N xs) : ∃ A cap, v = .slice A N cap := by
  rcases h.2 with ⟨hv, h0⟩ | ⟨g, cap, cur, hv, _⟩
  · exact ⟨none, 0, by rw [hv]; congr 1; omega⟩
  · exact ⟨_, cap, hv⟩
theorem lnsRowP {W : World} {R0 N cap : Nat} {A : Option Addr} {xs : List Value} (h : W.ownsRow R0 9 1 (.slice A N cap) N xs) {k : Nat} (hk : k < N) : ∃ gs, A = some ⟨gs, 0, none⟩ ∧ R0 ≤ gs ∧ gs < W.heap.size ∧ W.cell? ⟨gs, k, none⟩ = xs[k]? := by
  rcases h.2 with ⟨_, h0⟩ | ⟨g, cap', cur, hv, hb, hg, hn, hm, _⟩
  · omega
  · injection hv with h1 _ _
    subst h1
    exact ⟨g, rfl, hb, (Array.getElem?_eq_some_iff.1 hg).1, h.cellAt k (by omega)⟩
theorem lnk_good {t g f : Int} (hc : thrR t g f = true) {k : Nat} (hk : k < manyK t g f) : goodT (t + g + f).toNat (lnk t g f k) := (lnk_of hc hk).1.good hc
set_option maxRecDepth 100000 in
set_option maxHeartbeats 4000000 in
theorem partsBy_any (t g f : Int) (o b l : Bool) (w : World) :
    Calls Try.prog 12 #[.int .i64 t, .int .i64 g, .int .i64 f, ruV o b l] w fun e w' => e = .returned (ptV t g f o l) ∧ Below w.heap.size w w' := by
  cases hc : thrR t g f
  · have hV : Hid (ptV t g f o l = .tuple #[.int .i64 0, .bool false]) := Lib.hid (by unfold ptV; rw [hc]; rfl)
    have hC := Lib.hid hc
    clear hc
    go_enter Try.func12, Try.ntmps12
    go_wp2_with fail
    refine (areRuleCounts_any _ _ _ _).mono ?_; rintro e w' ⟨rfl, rfl⟩; rw [hC.out]
    go_wp2
    go_ret2
    exact ⟨by rw [hV.out]; rfl, (Below.refl _ _).alloc (Nat.le_refl _) _⟩
  · have hV : Hid (ptV t g f o l = .tuple #[.int .i64 (ptN o l t g f (manyK t g f)), .bool true]) := Lib.hid (by unfold ptV; rw [if_pos hc])
    have HL := Lib.hid (fun wx => allLines_any t g f wx hc)
    have hN1 := (many8 hc).2
    have HGK : Hid (∀ k, k < manyK t g f → goodT (t + g + f).toNat (lnk t g f k)) := Lib.hid fun k hk => lnk_good hc hk
    have HFS : Hid (∀ k v, k < manyK t g f → lstB o l t g f k = false → (FdK o l t g f (k + 1) v ↔ FdK o l t g f k v)) := Lib.hid fun k v hk h => fdK_same hc hk h
    have HFG : Hid (∀ k v, k ≤ manyK t g f → FdK o l t g f k v → goodT (t + g + f).toNat v) := Lib.hid fun k v hk ⟨j, hj, h⟩ => Cn.good (lnk_good hc (by omega)) h
    have HAT := Lib.hid (fun (k : Nat) (h : k < manyK t g f) => lns_at t g f h)
    have HPS := Lib.hid (fun k => ptN_succ o l t g f k)
    have HPL := Lib.hid (fun k => ptN_le o l t g f k)
    have h8 : (t + g + f).toNat ≤ 8 := by have := (thrR_iff t g f).1 hc; omega
    have hC := Lib.hid hc
    clear hc
    unfold LnPost at HL
    generalize manyK t g f = N at HL hN1 HGK HAT hV HFS HFG
    generalize (t + g + f).toNat = n at HGK HFG h8
    have hmm := @run_makeMap Try.prog
    go_enter Try.func12, Try.ntmps12
    go_wp2_with fail
    refine (areRuleCounts_any _ _ _ _).mono ?_; rintro e w' ⟨rfl, rfl⟩; rw [hC.out]
    go_wp2_with fail
    refine (partsOf_any _ _ _ _).mono ?_; rintro e w1 ⟨rfl, hb1⟩
    have HB0 : Hid (Below w.heap.size w (w1.alloc (paO o true l))) := Lib.hid ((((Below.refl w.heap.size w).alloc (Nat.le_refl _) (ruO o b l)).trans (hb1.mono (by simp))).alloc (by have := hb1.size; simp at this; omega) _)
    clear hb1
    go_wp2_with fail
    obtain ⟨W3, hW3⟩ : ∃ W3, W3 = w1.alloc (paO o true l) := ⟨_, rfl⟩
    have hX3 : RuBx W3 w1.heap.size o true l := by rw [hW3]; exact RuBx.new w1 o true l 48
    have hw3 : Hid (Below w.heap.size w W3) := Lib.hid (by rw [hW3]; exact HB0.out)
    have hmd : (W3.alloc (.map #[] 0)).ownsMap Try.prog 9 intR W3.heap.size 59049 (.map []) := (World.ownsMap_made (H := Unit) W3 Try.prog 9 intR).mono (by decide)
    have hzW : W3.heap.size = w1.heap.size + 1 := by rw [hW3]; simp
    rw [← hW3, ← hzW]
    clear hW3 HB0 hzW
    refine (HL.out _).mono ?_
    rintro e w2 ⟨v, rfl, ho, hb2⟩
    obtain ⟨A, cap, rfl⟩ := lnsFormP ho
    have hz3 : W3.heap.size < (W3.alloc (.map #[] 0)).heap.size := by simp
    have hb32 : Below W3.heap.size W3 w2 := ((Below.refl W3.heap.size W3).alloc (Nat.le_refl _) (.map #[] 0)).trans (hb2.mono (by simp))
    have HX3 := Lib.hid hX3
    have HB32 := Lib.hid hb32
    have HMP := Lib.hid (map_blkP hmd (hb2.block W3.heap.size hz3))
    have HO := Lib.hid (own_base ho (show W3.heap.size ≤ _ by omega))
    have hxz := hX3.lt
    have HK0 : Hid (KySet (.map []) (FdK o l t g f 0)) := Lib.hid fun v => by
      constructor
      · intro h; simp [Maps.has] at h
      · rintro ⟨j, hj, _⟩; omega
    clear ho hb2 hb32 hmd hX3 HL hz3
    go_wp2_with fail
    go_loopw [11, 31] (fun p i wr => ∃ (k : Nat) (D : DataW Unit), k ≤ N ∧ i = .int .i64 k ∧ p = .int .i64 (ptN o l t g f k) ∧ Hid (wr.ownsMap Try.prog 9 intR W3.heap.size 59049 D) ∧ Hid (KySet D (FdK o l t g f k)) ∧ Hid (wr.ownsRow W3.heap.size 9 1 (.slice A N cap) N (txs (lnsTo t g f N))) ∧ Hid (Below W3.heap.size W3 wr)) (fun _ i _ => N - (intOf i).toNat)
    case atStart => exact ⟨0, _, Nat.zero_le _, rfl, rfl, HMP, HK0, HO, HB32⟩
    case round =>
      obtain ⟨k, D, hk, rfl, rfl, HM, HK, HOW, HB⟩ := hrel
      obtain ⟨W, hW⟩ : ∃ W : World, W = wr := ⟨_, rfl⟩
      subst hW
      clear HMP HK0 HO HB32
      by_cases hlt : k < N
      · have i1 : (0 : Int) ≤ (k : Int) := by omega
        have i2 : (k : Int) < (N : Int) := by omega
        obtain ⟨gs, hA, hgs0, hgs, hcl⟩ := lnsRowP HOW.out hlt
        rw [HAT.out k hlt] at hcl
        subst hA
        have hgd := HGK.out k hlt
        have hps := HPS.out k
        have hpl := HPL.out k
        have HF1 := Lib.hid (fun v => HFS.out k v hlt)
        have HF2 : Hid (lstB o l t g f k = true ↔ ¬ FdK o l t g f k (lnk t g f k)) := Lib.hid fdK_lst
        have HF3 : Hid (∀ v, FdK o l t g f (k + 1) v ↔ FdK o l t g f k v ∨ v ∈ keysF (bfsL (nxR o true l) (lnk t g f k))) := Lib.hid fun v => fdK_next
        have HG1 := Lib.hid (fun v => HFG.out k v hk)
        generalize lnk t g f k = x at hcl hgd HF2 HF3
        generalize ptN o l t g f k = q at hps hpl
        generalize lstB o l t g f k = lb at hps HF1 HF2
        have i3 : (0 : Int) ≤ (q : Int) := by omega
        have i4 : (q : Int) ≤ 1000 := by omega
        have hkx := keyS (x := x) (by have := hgd.2; unfold maxLen; omega)
        have hmap := HM.out
        have hhas := HK.out x
        have HPS2 := Lib.hid hps
        clear hps
        cases hb : lb with
        | false =>
          subst hb
          have hfx : FdK o l t g f k x := by
            have h := HF2.out
            exact Classical.not_not.1 fun hn => by have := h.2 hn; cases this
          have hhas : Maps.has D (.string x) = true := hhas.2 hfx
          have HE : Hid (ptN o l t g f (k + 1) = q) := Lib.hid (by rw [HPS2.out]; rfl)
          have HKN : Hid (KySet D (FdK o l t g f (k + 1))) := Lib.hid fun v => (HK.out v).trans (HF1.out v rfl).symm
          clear hfx
          go_wp2_with (first
            | (at_lookup; refine wpList_lookup_own_ok_int _ rfl _ _ 51 rfl 9 3 .i64 Try.keysS Try.underlying51 Try.underlying3 (zeroIn _) W3.heap.size 59049 D rfl hmap _ (.string x) rfl hkx ?_; intro cc _ _; rw [hhas]))
          go_roundw
          case rel => exact ⟨k + 1, D, by omega, by go_num, by rw [HE.out], HM, HKN, HOW, HB⟩
          case measure => simp [intOf]; omega
        | true =>
          subst hb
          have hnf : ¬ FdK o l t g f k x := HF2.out.1 rfl
          have hhas : Maps.has D (.string x) = false := by
            cases h : Maps.has D (.string x) with
            | false => rfl
            | true => exact absurd (hhas.1 h) hnf
          have HE : Hid (ptN o l t g f (k + 1) = q + 1) := Lib.hid (by rw [HPS2.out]; rfl)
          have HDF := Lib.hid (fun wx => depthsFrom_any n o true l x wx hgd)
          unfold DfPost at HDF
          have HFL := Lib.hid (found_L o true l hgd)
          obtain ⟨z8, q0, q1, q2⟩ := HX3.out
          have q0 := (HB.out.cell (p := ⟨w1.heap.size, 0, none⟩) hxz).trans q0
          have q1 := (HB.out.cell (p := ⟨w1.heap.size, 1, none⟩) hxz).trans q1
          have q2 := (HB.out.cell (p := ⟨w1.heap.size, 2, none⟩) hxz).trans q2
          generalize bfsL (nxR o true l) x = L at HF3 HDF HFL
          clear hnf
          go_wp2_with (first
            | (at_lookup; refine wpList_lookup_own_ok_int _ rfl _ _ 51 rfl 9 3 .i64 Try.keysS Try.underlying51 Try.underlying3 (zeroIn _) W3.heap.size 59049 D rfl hmap _ (.string x) rfl hkx ?_; intro cc _ _; rw [hhas]))
          refine (HDF.out _).mono ?_
          rintro e w4 ⟨bm, D2, rfl, hbm, hmap2, hfv, hb4⟩
          have hml := hmap.lt
          have HM4 := Lib.hid (map_blkP hmap (hb4.block W3.heap.size hml))
          have HOW4 := Lib.hid (own_below HOW.out hb4)
          have HB4 := Lib.hid (HB.out.trans (hb4.mono HB.out.size))
          have HCP := Lib.hid (copyMap_any n W3.heap.size bm (FdK o l t g f k) D D2 w4 HM4.out hmap2 (by omega) HK.out HG1.out (fun v hv => HFL.out.good v (hfv.2 v hv)))
          have HHS : Hid (∀ v, Maps.has D2 (.string v) = true ↔ v ∈ keysF L) := Lib.hid fun v => by rw [fndV_has hfv v, decide_eq_true_iff]
          clear hmap2 hfv hb4 q0 q1 q2 z8 hbm
          go_wp2_with fail
          refine HCP.out.mono ?_
          rintro e w5 ⟨rfl, ⟨D5, hm5, hk5⟩, hg5⟩
          have HM5 := Lib.hid hm5
          have HK5 : Hid (KySet D5 (FdK o l t g f (k + 1))) := Lib.hid fun v => by
            rw [HF3.out v, ← HHS.out v]
            exact hk5 v
          have HOW5 := Lib.hid (HOW4.out.kept hg5 (.inr (own_ne_map HOW4.out HM4.out)))
          have HB5 := Lib.hid (HB4.out.grown hg5 HB4.out.size (fun j hj => by injection hj with hj; omega))
          clear hm5 hk5 hg5
          go_wp2_with fail
          go_roundw
          case rel => exact ⟨k + 1, D5, by omega, by go_num, by rw [HE.out]; go_num, HM5, HK5, HOW5, HB5⟩
          case measure => simp [intOf]; omega
      · obtain rfl : k = N := by omega
        go_wp2_with fail
        go_ret2
        exact ⟨by rw [hV.out]; rfl, hw3.out.trans (HB.out.mono hw3.out.size)⟩
end Go.Proofs.Ytdcbjbmnkajjcaa
