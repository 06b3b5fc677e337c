/- Contracts: WordOfMoves, both sides, and its law. -/
import Derived.Test.YticdhapbkfbhjaaPlN
namespace Go.Proofs.Yticdhapbkfbhjaa
open Go.RowKit

/-- The kind that makes a move: toads alone go to the right. -/
def kindS (p : Int × Int) : UInt8 := if p.1 < p.2 then 84 else 70
def kinds (l : List (Int × Int)) : List UInt8 := l.map kindS
theorem kind_can {s : ByteArray} {f t : Int} (h : canM s f t = true) : sgAt s f = kindS (f, t) := by
  obtain ⟨_, _, _, ⟨e, h⟩ | ⟨e, h⟩⟩ := (canM_iff _ _ _).1 h
  · rw [e]; unfold kindS; rw [if_pos (by show f < t; omega)]
  · rw [e]; unfold kindS; rw [if_neg (by show ¬ f < t; omega)]
def womB (s : ByteArray) (l : List (Int × Int)) : Bool := decide (l.length ≤ 40) && goodL s && allB s l
def womV (s : ByteArray) (l : List (Int × Int)) : Value := strOr (womB s l) (kinds l)

set_option maxRecDepth 100000 in
set_option maxHeartbeats 2000000 in
theorem sWordOfMoves_any (s0 : ByteArray) (l : List (Int × Int)) (A : Option Addr) (c : Nat) (w : World) (hs : s0.size ≤ maxLen) (hn : l.length ≤ 2000000) (hat : MvIn w A l) :
    Calls Try.prog 37 #[.string s0, .slice A l.length c] w fun e w' => e = .returned (womV s0 l) ∧ Below w.heap.size w w' := by
  have HN := Lib.hid hat
  clear hat
  cases hg : goodL s0
  · have hR : Hid (womV s0 l = .tuple #[.string (str []), .bool false]) := Lib.hid (by unfold womV womB; rw [hg]; simp [strOr])
    have hC := Lib.hid hg
    clear hg
    go_enter Try.func37, Try.ntmps37
    go_wp2_with (go_at_call 47; refine (liGood_any _ _ hs).mono ?_; rintro e w' ⟨rfl, rfl⟩; rw [hC.out])
    go_ret2
    exact ⟨congrArg Ending.returned hR.out.symm, Below.refl _ _⟩
  · by_cases hl : l.length ≤ 40
    · have hR : Hid (womV s0 l = strOr (allB s0 l) (kinds l)) := Lib.hid (by unfold womV womB; rw [hg]; simp [hl])
      have h1000 := good1000 hg
      have hC := Lib.hid hg
      have hlt40 : ¬ (40 : Int) < (l.length : Int) := by omega
      clear hg
      go_enter Try.func37, Try.ntmps37
      go_wp2_with (go_at_call 47; refine (liGood_any _ _ hs).mono ?_; rintro e w' ⟨rfl, rfl⟩; rw [hC.out])
      go_loopw [0, 6, 8, 19] (fun x o _ i wr => ∃ (k : Nat) (s : ByteArray), k ≤ l.length ∧ i = .int .i64 k ∧ x = .string s ∧ s.size ≤ 1000 ∧ o = .string (str (kinds (l.take k))) ∧ Hid (playS s0 l = ((playS s (l.drop k)).1, (playS s (l.drop k)).2 + k)) ∧ Below w.heap.size w wr) (fun _ _ _ i _ => l.length - (intOf i).toNat)
      case atStart => exact ⟨0, s0, Nat.zero_le _, rfl, rfl, h1000, rfl, by show _ = _; simp, Below.refl _ _⟩
      case round =>
        obtain ⟨k, s, hk, rfl, rfl, h1, rfl, hP, hB⟩ := hrel
        by_cases hlt : k < l.length
        · obtain ⟨g, o, rfl, hg, c0, c1⟩ := (HN.out.below hB) k hlt
          have hstep := Lib.hid (playS_step s l k hlt)
          have hstop := Lib.hid (playS_stop s l k hlt)
          have hK : Hid (kinds (l.take (k + 1)) = kinds (l.take k) ++ [kindS (l[k].1, l[k].2)]) := Lib.hid (by unfold kinds; rw [List.take_succ_eq_append_getElem hlt, List.map_append]; rfl)
          generalize l[k].1 = a at c0 hstep hstop hK
          generalize l[k].2 = b at c1 hstep hstop hK
          have i1 : (0 : Int) ≤ (k : Int) := by omega
          have i2 : (k : Int) < (l.length : Int) := by omega
          have hsz : (str (kinds (l.take k))).size ≤ 1000 := by rw [str_size]; simp [kinds]; omega
          go_wp2_with fail
          refine (liCan_any s a b _ h1).mono ?_
          rintro e w2 ⟨rfl, hb2⟩
          cases hc : canM s a b
          · have hC := Lib.hid hc
            have hR2 : Hid (strOr (allB s0 l) (kinds l) = .tuple #[.string (str []), .bool false]) := by
              have hall : allB s0 l = false := by
                unfold allB
                rw [hP.out, hstop.out hC.out]
                simp
                omega
              exact Lib.hid (strOr_no _ _ hall)
            have hB2 := (hB.alloc hB.size (mvB a b)).trans (hb2.mono (by have := hB.size; simp; omega))
            clear hc hb2 c0 c1
            go_wp2
            go_ret2
            exact ⟨by rw [hR.out, hR2.out]; rfl, hB2⟩
          · have hC := Lib.hid hc
            have hk84 := Lib.hid (kind_can hc)
            obtain ⟨a', b', rfl, rfl, ha, hb', hne⟩ := canM_in hc
            have hB2 := (hB.alloc hB.size (mvB a' b')).trans (hb2.mono (by have := hB.size; simp; omega))
            obtain ⟨hcell, _⟩ := bcell hb2
            have d0 : w2.cell? ⟨wr.heap.size, 0, none⟩ = some (.int .i64 a') := by rw [hcell _ _ (by simp), World.cell?_alloc_new]; rfl
            have d1 : w2.cell? ⟨wr.heap.size, 1, none⟩ = some (.int .i64 b') := by rw [hcell _ _ (by simp), World.cell?_alloc_new]; rfl
            have hlen : (str (behind s a' b')).size ≤ 1000 := by rw [str_size, behind_len]; exact h1
            have hE : Hid (str (kinds (l.take k)) ++ s.extract a' (a' + 1) = str (kinds (l.take (k + 1)))) := Lib.hid (by
              rw [hK.out, sign_at s a' ha, str_app, ← hk84.out, sgAt_in s a' ha])
            clear hc hb2 c0 c1 hcell
            have j1 : (0 : Int) ≤ (a' : Int) := by omega
            have j2 : (a' : Int) < (s.size : Int) := by omega
            go_wp2_with fail
            refine (liMake_any s a' b' _ h1 ha hb' hne).mono ?_
            rintro e w3 ⟨rfl, hb3⟩
            have hB3 := hB2.trans (hb3.mono hB2.size)
            clear hB hB2 hb3 d0 d1
            go_wp2
            go_roundw
            case rel => exact ⟨k + 1, str (behind s a' b'), by omega, by go_num, rfl, hlen, by rw [← hE.out], by show _ = _; rw [hP.out, hstep.out hC.out, Nat.add_assoc, Nat.add_comm 1 k], hB3⟩
            case measure => simp [intOf]; omega
        · obtain rfl : k = l.length := by omega
          have hR2 : Hid (strOr (allB s0 l) (kinds l) = .tuple #[.string (str (kinds l)), .bool true]) := by
            have hall : allB s0 l = true := by
              unfold allB
              rw [hP.out, List.drop_length]
              simp [playS]
            exact Lib.hid (strOr_yes _ _ hall)
          rw [List.take_length]
          go_wp2
          go_ret2
          exact ⟨by rw [hR.out, hR2.out]; rfl, hB⟩
    · have hR : Hid (womV s0 l = .tuple #[.string (str []), .bool false]) := Lib.hid (by unfold womV womB; simp [hl, strOr])
      have hC := Lib.hid hg
      have hlt40 : (40 : Int) < (l.length : Int) := by omega
      clear hg
      go_enter Try.func37, Try.ntmps37
      go_wp2_with (go_at_call 47; refine (liGood_any _ _ hs).mono ?_; rintro e w' ⟨rfl, rfl⟩; rw [hC.out])
      go_ret2
      exact ⟨congrArg Ending.returned hR.out.symm, Below.refl _ _⟩

set_option maxHeartbeats 400000 in
theorem signOfMove_any (f t : Int) (w : World) :
    Calls Try.prog 73 #[.agg #[.int .i64 f, .int .i64 t]] w fun e w' => e = .returned (.int .u8 (kindS (f, t)).toNat) ∧ Below w.heap.size w w' := by
  by_cases h : f < t
  · have hk : kindS (f, t) = 84 := if_pos h
    rw [hk]
    go_enter Try.func73, Try.ntmps73
    go_wp2
    go_ret
    exact ⟨rfl, (Below.refl _ _).alloc (Nat.le_refl _) _⟩
  · have hk : kindS (f, t) = 70 := if_neg h
    rw [hk]
    go_enter Try.func73, Try.ntmps73
    go_wp2
    go_ret
    exact ⟨rfl, (Below.refl _ _).alloc (Nat.le_refl _) _⟩

/-- The new text's cells behind k rounds. -/
def womCells (l : List (Int × Int)) (k : Nat) : List Value := u8s (kinds (l.take k)) ++ List.replicate (l.length - k) (.int .u8 0)
theorem womCells_len (l : List (Int × Int)) (k : Nat) (hk : k ≤ l.length) : (womCells l k).length = l.length := by
  simp [womCells, u8s_len, kinds]; omega
theorem womCells_set (l : List (Int × Int)) (k : Nat) (hk : k < l.length) : (womCells l k).set k (.int .u8 (kindS (l[k].1, l[k].2)).toNat) = womCells l (k + 1) := by
  unfold womCells
  obtain ⟨j, hj⟩ : ∃ j, l.length - k = j + 1 := ⟨l.length - k - 1, by omega⟩
  have e2 : l.length - (k + 1) = j := by omega
  have e1 : (u8s (kinds (l.take k))).length = k := by simp [u8s_len, kinds]; omega
  have e3 : kinds (l.take (k + 1)) = kinds (l.take k) ++ [kindS (l[k].1, l[k].2)] := by unfold kinds; rw [List.take_succ_eq_append_getElem hk, List.map_append]; rfl
  have e4 : u8s (kinds (l.take (k + 1))) = u8s (kinds (l.take k)) ++ [.int .u8 (kindS (l[k].1, l[k].2)).toNat] := by rw [e3]; unfold u8s; rw [List.map_append]; rfl
  rw [e2, hj, e4, List.set_append_right _ _ (by omega), e1, Nat.sub_self, List.replicate_succ, List.set_cons_zero, List.append_assoc]
  rfl

set_option maxRecDepth 100000 in
set_option maxHeartbeats 2000000 in
theorem wordOfMoves_any (s0 : ByteArray) (l : List (Int × Int)) (A : Option Addr) (c : Nat) (w : World) (hs : s0.size ≤ maxLen) (hn : l.length ≤ 2000000) (hat : MvIn w A l) :
    Calls Try.prog 38 #[.string s0, .slice A l.length c] w fun e w' => e = .returned (womV s0 l) ∧ Below w.heap.size w w' := by
  have HN := Lib.hid hat
  clear hat
  by_cases hl : l.length ≤ 40
  · have hlt40 : ¬ (40 : Int) < (l.length : Int) := by omega
    have hq : womB s0 l = (askedB s0 l.length && allB s0 l) := by
      unfold womB askedB
      have : decide (l.length ≤ 100) = true := decide_eq_true (by omega)
      rw [this]
      simp [hl]
    cases hb : (askedB s0 l.length && allB s0 l)
    · have hR : Hid (womV s0 l = .tuple #[.string (str []), .bool false]) := Lib.hid (by unfold womV; rw [hq, hb]; rfl)
      have hP : Hid (plVal s0 l = .tuple #[.string (str []), .bool false]) := Lib.hid (by unfold plVal; rw [hb]; rfl)
      clear hb hq
      go_enter Try.func38, Try.ntmps38
      go_wp2_with fail
      refine (playMovesN_any s0 l A c _ hs hn HN.out).mono ?_
      rintro e w1 ⟨rfl, hb1⟩
      rw [hP.out]
      go_wp2
      go_ret2
      exact ⟨congrArg Ending.returned hR.out.symm, hb1⟩
    · have hR : Hid (womV s0 l = .tuple #[.string (str (kinds l)), .bool true]) := Lib.hid (by unfold womV; rw [hq, hb]; rfl)
      have hP : Hid (plVal s0 l = .tuple #[.string (playS s0 l).1, .bool true]) := Lib.hid (by unfold plVal; rw [hb]; rfl)
      clear hb hq
      obtain ⟨i0, hi, hz0, hz1, hz2⟩ := info_parts Try.info5
      have hbytes : i0.bytes * l.length ≤ 281474976710656 := by rw [hz2]; omega
      have hmx : l.length ≤ maxLen := by unfold maxLen; omega
      have HI := Lib.hid hi
      have HZ0 := Lib.hid hz0
      have HZ1 := Lib.hid hz1
      clear hi hz0 hz1 hz2
      go_enter Try.func38, Try.ntmps38
      go_wp2_with fail
      refine (playMovesN_any s0 l A c _ hs hn HN.out).mono ?_
      rintro e w1 ⟨rfl, hb1⟩
      rw [hP.out]
      have HN1 := Lib.hid (HN.out.below hb1)
      have HB1 := Lib.hid hb1
      clear hb1
      go_wp2_with (at_make; refine wpList_make_full _ rfl (.tmp 23) (.tmp 23) 79 rfl w1.heap.size 5 i0 (.int .u8 0) 1 Try.underlying79 HI.out HZ0.out HZ1.out .i64 .i64 l.length l.length l.length rfl rfl rfl rfl hbytes hmx (Nat.le_refl _) ?_; intro w2 hown hgrow)
      have hB0 : Below w1.heap.size w1 w2 := (Below.refl _ _).grown hgrow (Nat.le_refl _) (by simp)
      have hown0 : w2.ownsRow w1.heap.size 5 1 (.slice (some ⟨w1.heap.size, 0, none⟩) l.length l.length) l.length (womCells l 0) := by
        have e : (madeCells (Value.int .u8 0).cells (l.length * 1)).toList = womCells l 0 := by
          have : (womCells l 0) = List.replicate l.length (.int .u8 0) := by simp [womCells, u8s, kinds]
          rw [this, Nat.mul_one]
          exact made_one (.int .u8 0) rfl l.length
        rw [← e]; exact hown
      have HO0 := Lib.hid hown0
      have HB0 := Lib.hid hB0
      clear hown hgrow HI HZ0 HZ1 hbytes hown0 hB0
      go_loopw [9, 10, 27] (fun _ _ i wr => ∃ k : Nat, k ≤ l.length ∧ i = .int .i64 k ∧ Hid (wr.ownsRow w1.heap.size 5 1 (.slice (some ⟨w1.heap.size, 0, none⟩) l.length l.length) l.length (womCells l k)) ∧ Below w1.heap.size w1 wr) (fun _ _ i _ => l.length - (intOf i).toNat)
      case atStart => exact ⟨0, Nat.zero_le _, rfl, HO0, HB0.out⟩
      case round =>
        obtain ⟨k, hk, rfl, hown, hB⟩ := hrel
        clear HO0 HB0
        by_cases hlt : k < l.length
        · obtain ⟨g, o, rfl, hg, c0, c1⟩ := (HN1.out.below hB) k hlt
          have hset := Lib.hid (womCells_set l k hlt)
          generalize l[k].1 = a at c0 hset
          generalize l[k].2 = b at c1 hset
          have i1 : (0 : Int) ≤ (k : Int) := by omega
          have i2 : (k : Int) < (l.length : Int) := by omega
          go_wp2_with fail
          refine (signOfMove_any a b _).mono ?_
          rintro e w3 ⟨rfl, hb3⟩
          have hB3 := (hB.alloc hB.size (mvB a b)).trans (hb3.mono (by have := hB.size; simp; omega))
          have hown3 : Hid (w3.ownsRow w1.heap.size 5 1 (.slice (some ⟨w1.heap.size, 0, none⟩) l.length l.length) l.length (womCells l k)) := Lib.hid (own_below hown.out (((Below.refl wr.heap.size wr).alloc (Nat.le_refl _) (mvB a b)).trans (hb3.mono (by simp))))
          have hfr := hown3.out.frozenAt k
          have hcl := hown3.out.cellAt k (by omega)
          obtain ⟨v0, hv0⟩ : ∃ v0, (womCells l k)[k]? = some v0 := ⟨_, List.getElem?_eq_getElem (by rw [womCells_len l k hk]; exact hlt)⟩
          rw [hv0] at hcl
          clear hv0 hb3 c0 c1 hown
          go_wp2
          go_roundw
          case rel =>
            refine ⟨k + 1, by omega, by go_num, Lib.hid ?_, hB3.setCell (Nat.le_refl _) _⟩
            rw [← hset.out]
            exact (hown3.out.stored _ _).1
          case measure => simp [intOf]; omega
        · obtain rfl : k = l.length := by omega
          have hlen : (kinds l).length = l.length := by simp [kinds]
          have hcv := run_convert_bytes_back (P := Try.prog) wr 79 9 5 ⟨w1.heap.size, 0, none⟩ l.length (kinds l) Try.underlying79 Try.underlying5 Try.underlying9 (by
            intro j hj
            have e : womCells l l.length = u8s (kinds l) := by simp [womCells]
            have := hown.out.cellAt j (by omega)
            rw [e] at this
            rw [addr_add, this]
            simp [u8s, hj])
          rw [hlen] at hcv
          clear hown hlen
          go_wp2
          go_ret2
          exact ⟨congrArg Ending.returned hR.out.symm, HB1.out.trans (hB.mono HB1.out.size)⟩
  · have hlt40 : (40 : Int) < (l.length : Int) := by omega
    have hR : Hid (womV s0 l = .tuple #[.string (str []), .bool false]) := Lib.hid (by unfold womV womB; simp [hl, strOr])
    go_enter Try.func38, Try.ntmps38
    go_wp2
    go_ret2
    exact ⟨congrArg Ending.returned hR.out.symm, Below.refl _ _⟩
end Go.Proofs.Yticdhapbkfbhjaa
