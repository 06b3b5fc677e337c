/- The model's search backwards. -/
import Derived.Test.YtdcbjbmnkajjcaaRuX
namespace Go.Proofs.Ytdcbjbmnkajjcaa
open Go.RowKit

def doneB (o b l : Bool) (u : List UInt8) (i j : Nat) : List (List UInt8) := ((List.range i).flatMap fun i' => bkRow o b l u i' u.length) ++ bkRow o b l u i j
theorem doneB_start (o b l : Bool) (u : List UInt8) : doneB o b l u 0 0 = [] := by simp [doneB, bkRow]
theorem doneB_next (o b l : Bool) (u : List UInt8) (i : Nat) : doneB o b l u (i + 1) 0 = doneB o b l u i u.length := by
  simp [doneB, bkRow, List.range_succ]
theorem doneB_one (o b l : Bool) (u : List UInt8) (i j : Nat) : doneB o b l u i (j + 1) = doneB o b l u i j ++ if bkB u o b l i j then [putL (str u) i j] else [] := by
  unfold doneB bkRow
  rw [List.range_succ, List.filter_append, List.map_append, List.append_assoc]
  cases h : bkB u o b l i j <;> simp [h]
theorem doneB_all (o b l : Bool) (u : List UInt8) : doneB o b l u u.length 0 = nxB o b l u := by simp [doneB, bkRow, nxB]
theorem bfsIn_app (d : Nat) (L : Fnd) (xs ys : List (List UInt8)) : bfsIn d L (xs ++ ys) = bfsIn d (bfsIn d L xs) ys := by simp [bfsIn]
theorem bfsIn_one (d : Nat) (L : Fnd) (x : List UInt8) : bfsIn d L [x] = bfsOne d L x := rfl
theorem doneB_no {o b l : Bool} {u : List UInt8} {i j d : Nat} {L : Fnd} (h : bkB u o b l i j = false) : bfsIn d L (doneB o b l u i (j + 1)) = bfsIn d L (doneB o b l u i j) := by
  rw [doneB_one, h]; simp
theorem doneB_yes {o b l : Bool} {u : List UInt8} {i j d : Nat} {L : Fnd} (h : bkB u o b l i j = true) : bfsIn d L (doneB o b l u i (j + 1)) = bfsOne d (bfsIn d L (doneB o b l u i j)) (putL (str u) i j) := by
  rw [doneB_one, h, if_pos rfl, bfsIn_app, bfsIn_one]
theorem RrW.iter {W : World} {R0 B q p : Nat} {L : Fnd} {S : List (List UInt8)} {va vb v6 : Value} {s : ByteArray} (h : RrW W R0 B L S va vb v6) (hq : W.heap[q]? = some (.stringIter s p)) (p' : Nat) : RrW (W.iterAt q s p') R0 B L S va vb v6 := by
  have hne : B ≠ q := by
    intro e
    have := h.box
    rw [e, hq] at this
    injection this with this
    cases this
  exact ⟨by rw [Lib.iterAt_other _ _ _ _ _ hne]; exact h.box, h.low, own_iter_any h.la hq p', own_iter_any h.lb hq p', own_iter_any h.f6 hq p', h.ap, h.sne, h.ri, h.me⟩
theorem RrW.ne {W : World} {R0 B q p : Nat} {L : Fnd} {S : List (List UInt8)} {va vb v6 : Value} {s : ByteArray} (h : RrW W R0 B L S va vb v6) (hq : W.heap[q]? = some (.stringIter s p)) : q ≠ B ∧ va.ownBlock ≠ some q ∧ vb.ownBlock ≠ some q := by
  refine ⟨fun e => ?_, own_ne_iter h.la hq, own_ne_iter h.lb hq⟩
  have := h.box
  rw [← e, hq] at this
  injection this with this
  cases this
theorem bfsB_end {n k : Nat} (o b l : Bool) {wl : List UInt8} (hw : goodT n wl) (h1 : (bfsAt (nxB o b l) wl k).length = k) : bfsAt (nxB o b l) wl k = bfsL (nxB o b l) wl := by
  have h2 : (bfsAt (nxB o b l) wl k).length ≤ 59049 := found_few (n := n) (k := k) (found_at (fun _ _ h1 h2 => putB_good h1 h2) hw k)
  have h3 : k ≤ 60000 := by rw [h1] at h2; omega
  exact (bfsAt_stay (nx := nxB o b l) (wl := wl) (k := k) (Nat.le_of_eq h1) 60000 h3).symm
set_option maxRecDepth 100000 in
set_option maxHeartbeats 16000000 in
theorem ruBack_any : BackAny := by
  intro n o b l wl w hg
  obtain ⟨i0, hi, hz0, hz1, hz2⟩ := info_parts Try.infoS
  have HI := Lib.hid hi
  have HZ0 := Lib.hid hz0
  have HZ1 := Lib.hid hz1
  have HZ2 := Lib.hid hz2
  clear hi hz0 hz1 hz2
  obtain ⟨iN, hi, hz0, hz1, hz2⟩ := info_parts Try.infoN
  have HIN := Lib.hid hi
  have HZN0 := Lib.hid hz0
  have HZN1 := Lib.hid hz1
  have HZN2 := Lib.hid hz2
  clear hi hz0 hz1 hz2
  have HEND := Lib.hid (fun k (h : (bfsAt (nxB o b l) wl k).length = k) => bfsB_end o b l hg h)
  have HFND := Lib.hid (fun k => (found_at (fun _ _ h1 h2 => putB_good h1 h2) hg k : Found (goodT n) (bfsAt (nxB o b l) wl k) k))
  have HNX := Lib.hid (fun k (h : k < (bfsAt (nxB o b l) wl k).length) => bfsAt_next h)
  have HG := Lib.hid hg
  clear hg
  go_enter Try.func14, Try.ntmps14
  go_wp2
  obtain ⟨B, hBd⟩ : ∃ B, B = w.heap.size + 1 + 1 + 1 + 1 := ⟨_, rfl⟩
  rw [← hBd]
  obtain ⟨W2, hW2⟩ : ∃ W2, W2 = (w.alloc (ruO o b l)).alloc (Obj.cells #[.slice none 0 0, .slice none 0 0] rrT) := ⟨_, rfl⟩
  rw [← hW2]
  have hz2 : W2.heap.size = w.heap.size + 2 := by rw [hW2]; simp
  have HST := Lib.hid (rrW_start W2 (wl := wl) (w.heap.size + 1 + 1) (w.heap.size + 1 + 1 + 1) B (B + 1) (by omega) (by omega) (by omega) (by omega))
  have HBW2 : Hid (Below w.heap.size w W2) := Lib.hid (by rw [hW2]; exact ((Below.refl _ _).alloc (Nat.le_refl _) _).alloc (by simp) _)
  have HX2 : Hid (RuBx W2 w.heap.size o b l) := Lib.hid (by rw [hW2]; exact (RuBx.new w o b l 27).below ((Below.refl _ _).alloc (Nat.le_refl _) _))
  have HRB : Hid (W2.heap[w.heap.size + 1]? = some (.cells #[.slice none 0 0, .slice none 0 0] rrT (0, 0))) := Lib.hid (by
    rw [hW2]
    have e : w.heap.size + 1 = (w.alloc (ruO o b l)).heap.size := by simp
    rw [e]
    exact heap_alloc_new _ _)
  have hzl : W2.heap.size ≤ w.heap.size + 2 := by omega
  have hzg : w.heap.size + 2 ≤ W2.heap.size := by omega
  have HBD := Lib.hid hBd
  clear hW2 hz2 hBd
  go_loopw [6, 7] (fun v6 t wr => ∃ (k : Nat) (S : List (List UInt8)) (va vb : Value), k ≤ (bfsAt (nxB o b l) wl k).length ∧ t = .int .i64 k ∧ RrW wr W2.heap.size B (bfsAt (nxB o b l) wl k) S va vb v6 ∧ FnG n (bfsAt (nxB o b l) wl k) ∧ Below W2.heap.size W2 wr) (fun _ t _ => 60000 - (intOf t).toNat)
  case atStart => exact ⟨0, [wl], _, _, Nat.zero_le _, rfl, HST.out.1, FnG.start HG.out, HST.out.2⟩
  case round =>
    obtain ⟨k, S, va, vb, hk, rfl, hrr, hfn, hB⟩ := hrel
    obtain ⟨W, hW⟩ : ∃ W : World, W = wr := ⟨_, rfl⟩
    subst hW
    clear HST
    have hlen := hfn.len
    have HE := Lib.hid (HEND.out k)
    have HN := Lib.hid (HNX.out k)
    have HF := Lib.hid (HFND.out k)
    have hne : bfsAt (nxB o b l) wl k ≠ [] := by
      intro e
      have h1 := hrr.me
      rw [e] at h1
      obtain ⟨x, hx⟩ := List.exists_mem_of_ne_nil _ hrr.sne
      have := (h1 x).1 hx
      simp [keysF] at this
    obtain ⟨L1, hL1⟩ : ∃ L1, bfsAt (nxB o b l) wl (k + 1) = L1 := ⟨_, rfl⟩
    have HL1 := Lib.hid hL1
    rw [hL1] at HN
    clear hL1
    obtain ⟨L, hL⟩ : ∃ L, bfsAt (nxB o b l) wl k = L := ⟨_, rfl⟩
    have HFIN : Hid (k = L.length → L = bfsL (nxB o b l) wl) := Lib.hid (fun e => by have := HE.out (by rw [hL, e]); rwa [hL] at this)
    rw [hL] at hrr hlen HN HF hk hfn hne
    clear hL HE
    obtain ⟨ga, ca, gb, cb, g6, c6, rfl, rfl, rfl, a1, a2, b1, b2, s1, s2, s3, s4⟩ := hrr.forms hne
    obtain ⟨y0, y1, yf0, yf1⟩ := box_cells hrr.box
    by_cases hlt : k < L.length
    · have HN := Lib.hid (HN.out hlt)
      have hgx := hfn.gd L[k].1 (List.mem_map_of_mem (List.getElem_mem hlt))
      have hdx := HF.out.deep L[k] (List.getElem_mem hlt)
      have HAT : Hid (L[k]? = some L[k]) := Lib.hid (List.getElem?_eq_getElem hlt)
      obtain ⟨x, hx⟩ : ∃ x, x = L[k].1 := ⟨_, rfl⟩
      obtain ⟨d, hd⟩ : ∃ d, d = L[k].2 := ⟨_, rfl⟩
      have HP : Hid (L[k] = (x, d)) := Lib.hid (by rw [hx, hd])
      rw [← hx] at hgx
      rw [← hx, ← hd] at HN
      rw [← hd] at hdx
      rw [HP.out] at HAT
      clear hx hd HP
      have hgl : goodL (str x) = true := hgx.1
      have hxl : x.length ≤ 10 := by have := hgx.2; omega
      have hline := rrCell hrr.la HAT.out
      have hl1 : (k : Int) < (L.length : Int) := by omega
      have hl0 : (0 : Int) ≤ (k : Int) := by omega
      have hasc := Lib.hid (good_asc hgl)
      have hzs : (str x).size = x.length := str_size x
      have hs1000 : (str x).size ≤ 1000 := by omega
      have HGIN : Hid (∀ u v, goodT n u → v ∈ nxB o b l u → goodT n v) := Lib.hid (fun _ _ h1 h2 => putB_good h1 h2)
      have HGX := Lib.hid hgx
      obtain ⟨I1, hI1⟩ : ∃ I1, I1 = W.heap.size := ⟨_, rfl⟩
      have hit0 : (W.alloc (.stringIter (str x) 0)).heap[I1]? = some (.stringIter (str x) 0) := by rw [hI1]; exact World.iter_heap W (str x) 0
      have HST1 := Lib.hid (hrr.below ((Below.refl W.heap.size W).alloc (Nat.le_refl _) (.stringIter (str x) 0)))
      have HBB := Lib.hid (hB.alloc hB.size (.stringIter (str x) 0))
      have HFN0 := Lib.hid hfn
      have HIT0 := Lib.hid hit0
      have HZI : Hid (W2.heap.size ≤ I1) := Lib.hid (by rw [hI1]; exact hB.size)
      have HX := Lib.hid HX2.out
      clear hit0 hrr hB hfn hgl hgx
      go_wp2
      rw [← hI1]
      clear hI1
      go_loopw [6] (fun v6 wr => ∃ (i : Nat) (S : List (List UInt8)) (va vb : Value), i ≤ (str x).size ∧ wr.heap[I1]? = some (.stringIter (str x) i) ∧ RrW wr W2.heap.size B (bfsIn (d + 1) L (doneB o b l x i 0)) S va vb v6 ∧ FnG n (bfsIn (d + 1) L (doneB o b l x i 0)) ∧ Below W2.heap.size W2 wr) (fun _ wr => (str x).size - wr.iterPos I1)
      case atStart => exact ⟨0, S, _, _, Nat.zero_le _, HIT0.out, by rw [doneB_start, bfsIn_nil]; exact HST1.out, by rw [doneB_start, bfsIn_nil]; exact HFN0.out, HBB.out⟩
      case round =>
        obtain ⟨i, Si, va, vb, hi, hit, hrr, hfn, hB⟩ := hrel
        have hpos0 := iterPos_of hit
        clear HST1 HBB HFN0 HIT0
        by_cases hlti : i < (str x).size
        · have hnx : ∀ ty, (Instr.next (.pointer (some ⟨I1, 0, none⟩)) true ty).run Try.prog wr = _ := fun ty => Lib.run_next_ascii_at wr I1 (str x) i ty hit hlti (hasc.out i hlti)
          have hit2 := Lib.iterAt_heap wr I1 (str x) i (i + 1) hit
          have hB2 := Lib.below_iterAt hB (k := I1) HZI.out (str x) (i + 1)
          have hrr2 := hrr.iter hit (i + 1)
          obtain ⟨W1, hW1⟩ : ∃ W1, W1 = wr.iterAt I1 (str x) (i + 1) := ⟨_, rfl⟩
          rw [← hW1] at hnx hit2 hB2 hrr2
          have hlI1 := lt_of_block hit2
          have HIT2 := Lib.hid hit2
          have HB2 := Lib.hid hB2
          have HRR2 := Lib.hid hrr2
          have HFN2 := Lib.hid hfn
          have hz2 := hB2.size
          clear hW1 hit hB hrr hfn hit2 hB2 hrr2
          obtain ⟨I2, hI2⟩ : ∃ I2, I2 = W1.heap.size := ⟨_, rfl⟩
          have h12 : I1 < I2 := by omega
          have HZI2 : Hid (W2.heap.size ≤ I2) := Lib.hid (by omega)
          have hit0 : (W1.alloc (.stringIter (str x) 0)).heap[I2]? = some (.stringIter (str x) 0) := by rw [hI2]; exact World.iter_heap W1 (str x) 0
          have hit1 : (W1.alloc (.stringIter (str x) 0)).heap[I1]? = some (.stringIter (str x) (i + 1)) := (Below.heap_alloc _ _ _ hlI1).trans HIT2.out
          have HST3 := Lib.hid (HRR2.out.below ((Below.refl W1.heap.size W1).alloc (Nat.le_refl _) (.stringIter (str x) 0)))
          have HB3 := Lib.hid (HB2.out.alloc HB2.out.size (.stringIter (str x) 0))
          have HI0 := Lib.hid hit0
          have HI1 := Lib.hid hit1
          clear hit0 hit1 HRR2 HB2 HIT2 hlI1
          go_wp2
          rw [← hI2]
          clear hI2 hz2
          go_loopw [6] (fun v6 wr => ∃ (j : Nat) (S : List (List UInt8)) (va vb : Value), j ≤ (str x).size ∧ wr.heap[I2]? = some (.stringIter (str x) j) ∧ wr.heap[I1]? = some (.stringIter (str x) (i + 1)) ∧ RrW wr W2.heap.size B (bfsIn (d + 1) L (doneB o b l x i j)) S va vb v6 ∧ FnG n (bfsIn (d + 1) L (doneB o b l x i j)) ∧ Below W2.heap.size W2 wr) (fun _ wr => (str x).size - wr.iterPos I2)
          case atStart => exact ⟨0, Si, _, _, Nat.zero_le _, HI0.out, HI1.out, HST3.out, HFN2.out, HB3.out⟩
          case round =>
            obtain ⟨j, Sj, va, vb, hj, hit, hito, hrr, hfn, hB⟩ := hrel
            have hposj := iterPos_of hit
            clear HST3 HB3 HI0 HI1 HFN2 hnx
            by_cases hltj : j < (str x).size
            · have hnx : ∀ ty, (Instr.next (.pointer (some ⟨I2, 0, none⟩)) true ty).run Try.prog wr = _ := fun ty => Lib.run_next_ascii_at wr I2 (str x) j ty hit hltj (hasc.out j hltj)
              have hitj := Lib.iterAt_heap wr I2 (str x) j (j + 1) hit
              have hito3 : (wr.iterAt I2 (str x) (j + 1)).heap[I1]? = some (.stringIter (str x) (i + 1)) := by rw [Lib.iterAt_other _ _ _ _ _ (by omega)]; exact hito
              have hB3 := Lib.below_iterAt hB (k := I2) HZI2.out (str x) (j + 1)
              have hrr3 := hrr.iter hit (j + 1)
              obtain ⟨V1, hV1⟩ : ∃ V1, V1 = wr.iterAt I2 (str x) (j + 1) := ⟨_, rfl⟩
              rw [← hV1] at hnx hitj hito3 hB3 hrr3
              have HIJ := Lib.hid hitj
              have HIO := Lib.hid hito3
              have HBV := Lib.hid hB3
              have HRV := Lib.hid hrr3
              have HFV := Lib.hid hfn
              clear hV1 hit hito hB hrr hfn hitj hito3 hB3 hrr3
              have hsi : sgAt (str x) i = (str x)[i] := sgAt_in _ i hlti
              have hsj : sgAt (str x) j = (str x)[j] := sgAt_in _ j hltj
              have HSI := Lib.hid hsi
              have HSJ := Lib.hid hsj
              clear hsi hsj
              rcases is_or2 (str x)[i] 46 46 rfl with ⟨hq, hv⟩ | ⟨hq, hv⟩
              · have hbk : bkB x o b l i j = false := by unfold bkB; rw [HSI.out, hq]; simp
                have HR := Lib.hid (doneB_no (d := d + 1) (L := L) hbk)
                clear hq hbk
                go_wp2
                go_roundw
                case rel => exact ⟨j + 1, Sj, va, vb, by omega, HIJ.out, HIO.out, by rw [HR.out]; exact HRV.out, by rw [HR.out]; exact HFV.out, HBV.out⟩
                case measure => rw [iterPos_of HIJ.out, hposj]; omega
              · rcases is_or2' (str x)[j] 46 46 rfl with ⟨hq2, hv2, hv3⟩ | ⟨hq2, hv2, hv3⟩
                · have hne : i ≠ j := fun e => by subst e; exact hq hq2
                  have HBK : Hid (bkB x o b l i j = ruC (str (putL (str x) i j)) o b l j i) := Lib.hid (by
                    unfold bkB
                    rw [HSI.out, HSJ.out, hq2, show ((str x)[i] == 46) = false by simpa using hq]
                    simp)
                  clear hq hq2
                  go_wp2_with fail
                  refine (liMake_any (str x) i j _ hs1000 hlti hltj hne).mono ?_
                  rintro e w4 ⟨rfl, hb4⟩
                  have HRR4 := Lib.hid (HRV.out.below hb4)
                  have HB4 := Lib.hid (HBV.out.trans (hb4.mono HBV.out.size))
                  have HIJ4 : Hid (w4.heap[I2]? = some (.stringIter (str x) (j + 1))) := Lib.hid ((hb4.block I2 (lt_of_block HIJ.out)).trans HIJ.out)
                  have HIO4 : Hid (w4.heap[I1]? = some (.stringIter (str x) (i + 1))) := Lib.hid ((hb4.block I1 (lt_of_block HIO.out)).trans HIO.out)
                  clear hb4 HRV HBV HIJ HIO hnx
                  have hyl : (str (putL (str x) i j)).size ≤ 1000 := by rw [str_size, putL_len]; exact hs1000
                  have HYB : Hid (bkB x o b l i j = true → goodT n (putL (str x) i j) ∧ bfsIn (d + 1) L (doneB o b l x i (j + 1)) = bfsOne (d + 1) (bfsIn (d + 1) L (doneB o b l x i j)) (putL (str x) i j)) := Lib.hid (fun h => ⟨HGIN.out x _ HGX.out (mem_nxB.2 ⟨i, j, by omega, by omega, h, rfl⟩), doneB_yes h⟩)
                  have HNB : Hid (bkB x o b l i j = false → bfsIn (d + 1) L (doneB o b l x i (j + 1)) = bfsIn (d + 1) L (doneB o b l x i j)) := Lib.hid (fun h => doneB_no h)
                  generalize putL (str x) i j = y at hyl HBK HYB ⊢
                  obtain ⟨_, q0, q1, q2⟩ := HX.out.below HB4.out
                  go_wp2_with fail
                  refine (ruCan_any (str y) o b l j i _ hyl).mono ?_
                  rintro e wc ⟨rfl, hbc⟩
                  have HRRc := Lib.hid (HRR4.out.below hbc)
                  have HBc := Lib.hid (HB4.out.trans (hbc.mono HB4.out.size))
                  have HIJc : Hid (wc.heap[I2]? = some (.stringIter (str x) (j + 1))) := Lib.hid ((hbc.block I2 (lt_of_block HIJ4.out)).trans HIJ4.out)
                  have HIOc : Hid (wc.heap[I1]? = some (.stringIter (str x) (i + 1))) := Lib.hid ((hbc.block I1 (lt_of_block HIO4.out)).trans HIO4.out)
                  clear hbc HRR4 HB4 HIJ4 HIO4 q0 q1 q2
                  cases hq : ruC (str y) o b l j i
                  · have HR := Lib.hid (HNB.out (by rw [HBK.out]; exact hq))
                    clear hq HYB HNB
                    go_wp2
                    go_roundw
                    case rel => exact ⟨j + 1, Sj, va, vb, by omega, HIJc.out, HIOc.out, by rw [HR.out]; exact HRRc.out, by rw [HR.out]; exact HFV.out, HBc.out⟩
                    case measure => rw [iterPos_of HIJc.out, hposj]; omega
                  · obtain ⟨hgy, hstp⟩ := HYB.out (by rw [HBK.out]; exact hq)
                    have HSTP := Lib.hid hstp
                    clear hq hstp HYB HNB HBK
                    obtain ⟨hp1, hp2, hp3⟩ := rr_at (d := d + 1) (xs := doneB o b l x i j) HAT.out
                    have hneL : bfsIn (d + 1) L (doneB o b l x i j) ≠ [] := List.ne_nil_of_mem hp2
                    have hlen' := HFV.out.len
                    have hSl : Sj.length ≤ 59049 := few_good (rising_nodup HRRc.out.ri) fun z hz => HFV.out.gd z ((HRRc.out.me z).1 hz)
                    obtain ⟨R1, hR1⟩ : ∃ R1, bfsIn (d + 1) L (doneB o b l x i (j + 1)) = R1 := ⟨_, rfl⟩
                    have HR1 := Lib.hid hR1
                    rw [hR1] at HSTP
                    clear hR1
                    generalize bfsIn (d + 1) L (doneB o b l x i j) = L' at HRRc HFV HSTP hp1 hp2 hp3 hlen' hneL
                    obtain ⟨ga, ca, gb, cb, g6, c6, rfl, rfl, rfl, a1, a2, b1, b2, s1, s2, s3, s4⟩ := HRRc.out.forms hneL
                    have HP1 := Lib.hid hp1
                    have hl1' : (k : Int) < (L'.length : Int) := by omega
                    have HRI := Lib.hid HRRc.out.ri
                    have HSNE := Lib.hid HRRc.out.sne
                    have HME := Lib.hid HRRc.out.me
                    have hc6 := Lib.hid (rr_cells6 HRRc.out)
                    have hg6 : g6 < wc.heap.size := s2
                    have HNJ := Lib.hid (HRRc.out.ne HIJc.out)
                    have HNO := Lib.hid (HRRc.out.ne HIOc.out)
                    clear hp1 hp2 a1 b1 s1 s2
                    go_wp2_with fail
                    refine (reAddF_any Sj y g6 c6 _ HRI.out HSNE.out s3 s4 hg6 hc6.out (by omega)).mono ?_
                    rintro e w5 ⟨v6', rfl, hcase, hb5⟩
                    have HIJ5 : Hid (w5.heap[I2]? = some (.stringIter (str x) (j + 1))) := Lib.hid ((hb5.block I2 (lt_of_block HIJc.out)).trans HIJc.out)
                    have HIO5 : Hid (w5.heap[I1]? = some (.stringIter (str x) (i + 1))) := Lib.hid ((hb5.block I1 (lt_of_block HIOc.out)).trans HIOc.out)
                    rcases hcase with ⟨hins, rfl⟩ | ⟨hinsl, ho6⟩
                    · have hin : y ∈ Sj := by have := (mem_ins y y Sj).2 (.inl rfl); rwa [hins] at this
                      have HR : Hid (R1 = L') := Lib.hid (by rw [HSTP.out, rrOne_yes ((HME.out y).1 hin)])
                      have HRR5 := Lib.hid (HRRc.out.below hb5)
                      have HB5 := Lib.hid (HBc.out.trans (hb5.mono HBc.out.size))
                      clear hin hins hb5
                      go_wp2
                      go_roundw
                      case rel => exact ⟨j + 1, Sj, _, _, by omega, HIJ5.out, HIO5.out, by rw [HR1.out, HR.out]; exact HRR5.out, by rw [HR1.out, HR.out]; exact HFV.out, HB5.out⟩
                      case measure => rw [iterPos_of HIJ5.out, hposj]; omega
                    · have hnin : y ∉ Sj := fun h => by
                        have h2 : ∀ z, z ∈ ins y Sj ↔ z ∈ Sj := fun z => by
                          rw [mem_ins]
                          exact ⟨fun h3 => h3.elim (fun e => e ▸ h) id, .inr⟩
                        have h3 := rising_ext (ins_rising y Sj HRI.out) HRI.out h2
                        rw [h3] at hinsl
                        omega
                      have HR : Hid (R1 = L' ++ [(y, d + 1)]) := Lib.hid (by rw [HSTP.out, rrOne_no (fun h => hnin ((HME.out y).2 h))])
                      have HME2 : Hid (∀ z, z ∈ ins y Sj ↔ z ∈ keysF L' ∨ z = y) := Lib.hid (fun z => by rw [mem_ins, HME.out z]; exact Or.comm)
                      have HRI2 := Lib.hid (ins_rising y Sj HRI.out)
                      have hins0 : ins y Sj ≠ [] := fun e => by rw [e] at hinsl; simp at hinsl
                      have HINS := Lib.hid hins0
                      have hleq : (((ins y Sj).length : Int) == (Sj.length : Int)) = false := by rw [hinsl]; simp; omega
                      have HYN : Hid (y ∉ keysF L') := Lib.hid (fun h => hnin ((HME.out y).2 h))
                      obtain ⟨g6', c6', rfl, _, _⟩ := ho6.form (List.length_pos_iff.2 hins0)
                      have HO6 := Lib.hid ho6
                      have HB5' := Lib.hid hb5
                      have HRR5 := Lib.hid (HRRc.out.below hb5)
                      have HRR4 := HRRc
                      have HB5 := Lib.hid (HBc.out.trans (hb5.mono HBc.out.size))
                      have hla5 := HRR5.out.la
                      obtain ⟨p0, p1, pf0, pf1⟩ := box_cells HRR5.out.box
                      have hw5 : W2.heap.size ≤ w5.heap.size := HB5.out.size
                      have hln' : L'.length + 1 ≤ maxLen := by unfold maxLen; omega
                      have hln2 : (L'.length + 1) * 16 ≤ 140737488355328 := by omega
                      have hln3 : (L'.length + 1) * 8 ≤ 140737488355328 := by omega
                      clear hins0 hnin hinsl ho6 hb5
                      generalize ins y Sj = S2 at HME2 HRI2 HINS hleq HO6 ⊢
                      go_wp2_with (first
                        | (at_builtin; refine wpList_append_lies _ rfl _ _ 36 rfl W2.heap.size 9 i0 (.string ByteArray.empty) 1 16 Try.underlying36 HI.out HZ0.out HZ1.out HZ2.out rfl (by decide) _ L'.length _ rfl (hla5.alloc _) ⟨w5.heap.size, 0, none⟩ 1 1 [.string (str y)] rfl rfl (cell_one_at _ _ (by simp) _ _) (fun u hu => by simp at hu; subst hu; rfl) (by decide) hln' hln2 (by simp <;> omega) _ rfl ?_; intro ga2 ca2 w6 hrow6 hg6w hat6 hlt6; obtain ⟨b6, box7, la7, lb7, f67, n67⟩ := rr_one HRR4.out _ HB5'.out HO6.out HINS.out hg6w hrow6 hat6; obtain ⟨p20, p21, pf20, pf21⟩ := box_cells b6))
                      obtain ⟨X, hX⟩ : ∃ X, X = w6.setCell ⟨B, 0, none⟩ (.slice (some ⟨ga2, 0, none⟩) (L'.length + 1) ca2) := ⟨_, rfl⟩
                      have hrowB : W2.heap.size ≤ B := HRR4.out.low
                      have hXg : ∀ b, b ≠ B → X.heap[b]? = w6.heap[b]? := fun b hb => by rw [hX]; exact Below.heap_setCell _ _ _ b hb
                      have hXs : X.heap.size = w6.heap.size := by rw [hX]; simp
                      have HB7 : Hid (Below W2.heap.size W2 X) := Lib.hid (by rw [hX]; exact ((HB5.out.alloc hw5 (Obj.cells #[.string (str y)] 9)).grown hg6w (by simp; omega) (fun j hj => by have := (hla5.lt j hj).1; omega)).setCell hrowB _)
                      rw [← hX] at box7 la7 lb7 f67 ⊢
                      obtain ⟨r0, r1, rf0, rf1⟩ := box_cells box7
                      have hstep := rrCellI lb7 HP1.out
                      have hBX : B < X.heap.size := (Array.getElem?_eq_some_iff.1 box7).1
                      have r1a := (cell_below X (Obj.cells #[.int .i64 ((d : Int) + 1)] 3) B 1 hBX).trans r1
                      have r1b : ((X.alloc (Obj.cells #[.int .i64 ((d : Int) + 1)] 3)).drew).cell? ⟨B, 1, none⟩ = some (.slice (some ⟨gb, 0, none⟩) L'.length cb) := r1a
                      have HBOX7 := Lib.hid box7
                      have HLA7 := Lib.hid la7
                      have HLB7 := Lib.hid lb7
                      have HF67 := Lib.hid f67
                      have HXG := Lib.hid hXg
                      have HXS := Lib.hid hXs
                      have HG6 := Lib.hid hg6w
                      have HAT6 : Hid (some ga = some ga2 ∨ ga2 = w5.heap.size + 1) := Lib.hid (by
                        rcases hat6 with h | h
                        · exact .inl h
                        · exact .inr (by simpa using h))
                      have hwd : IntKind.i64.wrap ((d : Int) + 1) = (d : Int) + 1 := by rw [IntKind.wrap_i64]; omega
                      have hdd : (0 : Int) ≤ (d : Int) := by omega
                      have hdd2 : (d : Int) ≤ 60000 := by omega
                      have hX2 : W2.heap.size ≤ X.heap.size := HB7.out.size
                      clear hX hXg hXs box7 la7 lb7 f67 b6 p0 p1 pf0 pf1 p20 p21 pf20 pf21 hla5 hrow6 hg6w hat6
                      go_region_law (first | (refine step_append_lies _ rfl _ _ 37 rfl W2.heap.size 3 iN (.int .i64 0) 1 8 Try.underlying37 HIN.out HZN0.out HZN1.out HZN2.out rfl (by decide) _ L'.length _ rfl (show ((X.alloc (Obj.cells #[.int .i64 ((d : Int) + 1)] 3)).drew).ownsRow W2.heap.size 3 1 (.slice (some ⟨gb, 0, none⟩) L'.length cb) L'.length (nus (depF L')) from HLB7.out.alloc _) ⟨X.heap.size, 0, none⟩ 1 1 [.int .i64 ((d : Int) + 1)] rfl rfl (fun j u h => cell_one_at X X.heap.size rfl (.int .i64 ((d : Int) + 1)) 3 j u h) (fun u hu => by simp at hu; subst hu; rfl) (by decide) hln' hln3 (by simp <;> omega) _ rfl ?_; intro gb2 cb2 w8 hrow8 hg8 hat8 hlt8; obtain ⟨b8, hrr8⟩ := rr_two HBOX7.out HRR4.out.low HLA7.out HLB7.out HF67.out n67 HINS.out HRI2.out HME2.out (Obj.cells #[.int .i64 ((d : Int) + 1)] 3) ⟨hg8.os, hg8.tape, hg8.output, hg8.size, hg8.block⟩ hrow8; obtain ⟨p80, p81, pf80, pf81⟩ := box_cells b8))
                      all_goals
                        rename_i hHeld0
                        have HRR8 := Lib.hid hrr8
                        have hgx2 : (X.alloc (Obj.cells #[.int .i64 ((d : Int) + 1)] 3)).grownBy w8 (Value.slice (some ⟨gb, 0, none⟩) L'.length cb).ownBlock := ⟨hg8.os, hg8.tape, hg8.output, hg8.size, hg8.block⟩
                        have HB8 : Hid (Below W2.heap.size W2 (w8.setCell ⟨B, 1, none⟩ (.slice (some ⟨gb2, 0, none⟩) (L'.length + 1) cb2))) := Lib.hid (((HB7.out.alloc hX2 (Obj.cells #[.int .i64 ((d : Int) + 1)] 3)).grown hgx2 (by simp; omega) (fun j hj => by have := (HLB7.out.lt j hj).1; omega)).setCell hrowB _)
                        have hz6 := HG6.out.size
                        have hchain : ∀ I, I < w5.heap.size → I ≠ B ∧ (Value.slice (some ⟨ga, 0, none⟩) L'.length ca).ownBlock ≠ some I ∧ (Value.slice (some ⟨gb, 0, none⟩) L'.length cb).ownBlock ≠ some I → (w8.setCell ⟨B, 1, none⟩ (.slice (some ⟨gb2, 0, none⟩) (L'.length + 1) cb2)).heap[I]? = w5.heap[I]? := fun I hI hn => by
                          obtain ⟨n3, n1, n2⟩ := hn
                          have hxs := HXS.out
                          simp at hz6
                          rw [Below.heap_setCell _ _ _ _ (fun e => n3 e), hgx2.block _ (by simp; omega) (fun e => n2 e.symm), Below.heap_alloc _ _ _ (by omega), HXG.out _ n3, HG6.out.block _ (by simp; omega) (fun e => n1 e.symm), Below.heap_alloc _ _ _ (by omega)]
                        have HIJ8 := Lib.hid ((hchain I2 (lt_of_block HIJ5.out) HNJ.out).trans HIJ5.out)
                        have HIO8 := Lib.hid ((hchain I1 (lt_of_block HIO5.out) HNO.out).trans HIO5.out)
                        clear hchain hrr8 hrow8 hg8 hat8 hlt8 b8 p80 p81 pf80 pf81 hgx2 hz6 r0 r1 r1a r1b rf0 rf1 hstep
                        go_wp2
                        go_roundw
                        case rel => exact ⟨j + 1, S2, _, _, by omega, HIJ8.out, HIO8.out, by rw [HR1.out, HR.out]; exact HRR8.out, by rw [HR1.out, HR.out]; exact HFV.out.more HYN.out hgy (by omega), HB8.out⟩
                        case measure => rw [iterPos_of HIJ8.out, hposj]; omega
                · have hbk : bkB x o b l i j = false := by unfold bkB; rw [HSJ.out, show ((str x)[j] == 46) = false by simpa using hq2]; simp
                  have HR := Lib.hid (doneB_no (d := d + 1) (L := L) hbk)
                  clear hq hq2 hbk
                  go_wp2
                  go_roundw
                  case rel => exact ⟨j + 1, Sj, va, vb, by omega, HIJ.out, HIO.out, by rw [HR.out]; exact HRV.out, by rw [HR.out]; exact HFV.out, HBV.out⟩
                  case measure => rw [iterPos_of HIJ.out, hposj]; omega
            · obtain rfl : j = (str x).size := by omega
              have hnx : ∀ ty, (Instr.next (.pointer (some ⟨I2, 0, none⟩)) true ty).run Try.prog wr = _ := fun ty => Lib.run_next_end_at wr I2 (str x) _ ty hit (by omega)
              have HRR := Lib.hid hrr
              have HFE := Lib.hid hfn
              have HITO := Lib.hid hito
              have HBE := Lib.hid hB
              have HDN : Hid (doneB o b l x (i + 1) 0 = doneB o b l x i (str x).size) := Lib.hid (by rw [doneB_next, str_size])
              clear hrr hfn hito hB
              go_wp2
              go_roundw
              case rel => exact ⟨i + 1, Sj, va, vb, by omega, HITO.out, by rw [HDN.out]; exact HRR.out, by rw [HDN.out]; exact HFE.out, HBE.out⟩
              case measure => rw [iterPos_of HITO.out, hpos0]; omega
        · obtain rfl : i = (str x).size := by omega
          have hnx : ∀ ty, (Instr.next (.pointer (some ⟨I1, 0, none⟩)) true ty).run Try.prog wr = _ := fun ty => Lib.run_next_end_at wr I1 (str x) _ ty hit (by omega)
          have HE : Hid (bfsIn (d + 1) L (doneB o b l x (str x).size 0) = L1) := Lib.hid (by rw [HN.out, hzs, doneB_all])
          rw [HE.out] at hrr hfn
          have HRR := Lib.hid hrr
          have HFNE := Lib.hid hfn
          have HBE := Lib.hid hB
          clear hrr hfn hB hit
          have hk1 : k + 1 ≤ L1.length := by
            obtain ⟨M, e, _⟩ := pre_bfsIn (d + 1) (nxB o b l x) L
            rw [HN.out, e, List.length_append]
            omega
          go_wp2
          go_roundw
          case rel => exact ⟨k + 1, Si, va, vb, by rw [HL1.out]; exact hk1, by go_num, by rw [HL1.out]; exact HRR.out, by rw [HL1.out]; exact HFNE.out, HBE.out⟩
          case measure => simp [intOf]; omega
    · have e : k = L.length := by omega
      have HFIN := Lib.hid (HFIN.out e)
      have hnl : ¬ ((k : Int) < (L.length : Int)) := by omega
      have HRR := Lib.hid hrr
      have h80 : W.heap[w.heap.size + 1]? = some (.cells #[.slice none 0 0, .slice none 0 0] rrT (0, 0)) := (hB.block (w.heap.size + 1) (by omega)).trans HRB.out
      obtain ⟨u0, u1, uf0, uf1⟩ := box_cells h80
      have HBB := Lib.hid hB
      have HLA := Lib.hid HRR.out.la
      have HLB := Lib.hid HRR.out.lb
      have H80 := Lib.hid h80
      clear hrr h80 hB
      go_wp2
      have la1 := own_setB HLA.out (own_ne_cells HLA.out H80.out T_str) 0 (.slice (some ⟨ga, 0, none⟩) L.length ca)
      have lb1 := own_setB HLB.out (own_ne_cells HLB.out H80.out T_int) 0 (.slice (some ⟨ga, 0, none⟩) L.length ca)
      have box1 := set_box0 (u := .slice (some ⟨ga, 0, none⟩) L.length ca) H80.out
      have la2 := own_setB la1 (own_ne_cells la1 box1 T_str) 1 (.slice (some ⟨gb, 0, none⟩) L.length cb)
      have lb2 := own_setB lb1 (own_ne_cells lb1 box1 T_int) 1 (.slice (some ⟨gb, 0, none⟩) L.length cb)
      obtain ⟨t0, t1, _, _⟩ := box_cells (set_box1 (u := .slice (some ⟨gb, 0, none⟩) L.length cb) box1)
      have hBF : Below w.heap.size w ((W.setCell ⟨w.heap.size + 1, 0, none⟩ (.slice (some ⟨ga, 0, none⟩) L.length ca)).setCell ⟨w.heap.size + 1, 1, none⟩ (.slice (some ⟨gb, 0, none⟩) L.length cb)) := ((HBW2.out.trans (HBB.out.mono HBW2.out.size)).setCell (by simp) _).setCell (by simp) _
      obtain ⟨WF, hWF⟩ : ∃ WF, WF = (W.setCell ⟨w.heap.size + 1, 0, none⟩ (.slice (some ⟨ga, 0, none⟩) L.length ca)).setCell ⟨w.heap.size + 1, 1, none⟩ (.slice (some ⟨gb, 0, none⟩) L.length cb) := ⟨_, rfl⟩
      rw [← hWF] at la2 lb2 t0 t1 hBF ⊢
      refine bodyPost_ret (v := .agg #[.slice (some ⟨ga, 0, none⟩) L.length ca, .slice (some ⟨gb, 0, none⟩) L.length cb]) (by simp [results, Try.results14, go_sem, t0, t1]) rfl ?_
      rw [HFIN.out] at la2 lb2 ⊢
      exact ⟨_, _, rfl, own_base la2 (by omega), own_base lb2 (by omega), hBF⟩
end Go.Proofs.Ytdcbjbmnkajjcaa
