/- Contracts: the closure that asks a rule, and all moves by a rule, the program's. -/
import Derived.Test.YtdcbjbmnkajjcaaRuE
import Derived.Test.YtdcbjbmnkajjcaaRuD
import Derived.Test.YtdcbjbmnkajjcaaIxM
namespace Go.Proofs.Ytdcbjbmnkajjcaa
open Go.RowKit

/-- A rule's parts. -/
abbrev paO (o b l : Bool) : Obj := Obj.cells #[.bool o, .bool b, .bool l] 48
theorem eql_parts (o b l o' b' l' : Bool) (w : World) : (binOp .eql 48 (.agg #[.bool o, .bool b, .bool l]) (.agg #[.bool o', .bool b', .bool l'])).run Try.prog w = .ok (.bool (o == o' && b == b' && l == l')) w := by
  cases o <;> cases b <;> cases l <;> cases o' <;> cases b' <;> cases l' <;> kernel_rfl
/-- The closure that asks. -/
abbrev askV (B : Nat) : Value := .func (.func 54) #[] #[.pointer (some ⟨B, 0, none⟩)]

set_option maxHeartbeats 400000 in
theorem asking_any (o b l : Bool) (w : World) :
    Calls Try.prog 42 #[ruV o b l] w fun e w' => ∃ B, e = .returned (askV B) ∧ B < w'.heap.size ∧ w'.cell? ⟨B, 0, none⟩ = some (.bool o) ∧ w'.cell? ⟨B, 1, none⟩ = some (.bool b) ∧ w'.cell? ⟨B, 2, none⟩ = some (.bool l) ∧ Below w.heap.size w w' := by
  go_enter Try.func42, Try.ntmps42
  go_wp2
  go_ret
  exact ⟨w.heap.size, rfl, by simp, by rw [World.cell?_alloc_new]; rfl, by rw [World.cell?_alloc_new]; rfl, by rw [World.cell?_alloc_new]; rfl, (Below.refl _ _).alloc (Nat.le_refl _) _⟩

set_option maxHeartbeats 400000 in
theorem partsOf_any (o b l : Bool) (w : World) :
    Calls Try.prog 19 #[ruV o b l] w fun e w' => e = .returned (ruV o b l) ∧ Below w.heap.size w w' := by
  go_enter Try.func19, Try.ntmps19
  go_wp2
  refine bodyPost_ret (v := ruV o b l) (by simp [results, Try.results19, go_sem]) rfl ⟨rfl, ?_⟩
  exact ((Below.refl _ _).alloc (Nat.le_refl _) _).alloc (by simp) _

/-- The parts with one more. -/
def setP (p : Bool × Bool × Bool) (i : Int) : Bool × Bool × Bool := if i = 0 then (true, p.2.1, p.2.2) else if i = 1 then (p.1, true, p.2.2) else (p.1, p.2.1, true)
theorem setP_has (o b l : Bool) (L : List Int) : ∀ (x y z : Bool), (o = true → x = true) → (b = true → y = true) → (l = true → z = true) →
    ((L.foldl setP (x, y, z)).1 == o && (L.foldl setP (x, y, z)).2.1 == b && (L.foldl setP (x, y, z)).2.2 == l) = ((x == o && y == b && z == l) && hasAll o b l L) := by
  induction L with
  | nil => intro x y z _ _ _; simp [hasAll]
  | cons i L ih =>
    intro x y z hx hy hz
    have e : hasAll o b l (i :: L) = (partB o b l i && hasAll o b l L) := rfl
    rw [List.foldl_cons, e]
    by_cases h0 : i = 0
    · have e2 : setP (x, y, z) i = (true, y, z) := by unfold setP; rw [if_pos h0]
      have e3 : partB o b l i = o := by unfold partB; rw [if_pos h0]
      rw [e2, e3, ih true y z (fun _ => rfl) hy hz]
      cases o <;> cases x <;> simp at hx ⊢
    · by_cases h1 : i = 1
      · have e2 : setP (x, y, z) i = (x, true, z) := by unfold setP; rw [if_neg h0, if_pos h1]
        have e3 : partB o b l i = b := by unfold partB; rw [if_neg h0, if_pos h1]
        rw [e2, e3, ih x true z hx (fun _ => rfl) hz]
        cases b <;> cases y <;> simp at hy ⊢
      · have e2 : setP (x, y, z) i = (x, y, true) := by unfold setP; rw [if_neg h0, if_neg h1]
        have e3 : partB o b l i = l := by unfold partB; rw [if_neg h0, if_neg h1]
        rw [e2, e3, ih x y true hx hy (fun _ => rfl)]
        cases l <;> cases z <;> simp at hz ⊢
set_option maxRecDepth 100000 in
set_option maxHeartbeats 2000000 in
theorem has_any (o b l : Bool) (B : Nat) (L : List Int) (A : Option Addr) (c : Nat) (w : World) (hat : NuAt w A L) (hL : ∀ i ∈ L, i = 0 ∨ i = 1 ∨ i = 2) (hn : L.length ≤ 1000) (hB : B < w.heap.size)
    (h0 : w.cell? ⟨B, 0, none⟩ = some (.bool o)) (h1 : w.cell? ⟨B, 1, none⟩ = some (.bool b)) (h2 : w.cell? ⟨B, 2, none⟩ = some (.bool l)) :
    Calls Try.prog 54 #[.slice A L.length c, .pointer (some ⟨B, 0, none⟩)] w fun e w' => e = .returned (.bool (hasAll o b l L)) ∧ Below w.heap.size w w' := by
  have HAT := Lib.hid hat
  have HL := Lib.hid hL
  clear hat hL
  have HR : Hid (∀ x y z, L.foldl setP (o, b, l) = (x, y, z) → hasAll o b l L = (x == o && y == b && z == l)) := Lib.hid fun x y z e => by
    have := setP_has o b l L o b l id id id
    rw [e] at this
    simpa using this.symm
  go_enter Try.func54, Try.ntmps54
  go_wp2
  go_loopw [10] (fun t wr => ∃ (j : Nat) (x y z : Bool), j ≤ L.length ∧ t = .int .i64 j ∧ wr = w.alloc (paO x y z) ∧ Hid ((L.take j).foldl setP (o, b, l) = (x, y, z))) (fun t _ => L.length - (intOf t).toNat)
  case atStart => exact ⟨0, o, b, l, Nat.zero_le _, rfl, rfl, Lib.hid rfl⟩
  case round =>
    obtain ⟨j, x, y, z, hj, rfl, rfl, hF⟩ := hrel
    by_cases hlt : j < L.length
    · obtain ⟨g, rfl, hg, hc⟩ := HAT.out j hlt
      have hc2 := (cell_below w (paO x y z) g j hg).trans hc
      have hi := HL.out L[j] (List.getElem_mem hlt)
      have HT : Hid ((L.take (j + 1)).foldl setP (o, b, l) = setP (x, y, z) L[j]) := Lib.hid (by rw [List.take_succ_eq_append_getElem hlt, List.foldl_append, hF.out]; rfl)
      clear hc
      generalize L[j] = i at hc2 hi HT
      rcases hi with rfl | rfl | rfl
      · go_wp2
        go_roundw
        case rel => exact ⟨j + 1, true, y, z, by omega, by go_num, rfl, Lib.hid (by rw [HT.out]; rfl)⟩
        case measure => simp [intOf]; omega
      · go_wp2
        go_roundw
        case rel => exact ⟨j + 1, x, true, z, by omega, by go_num, rfl, Lib.hid (by rw [HT.out]; rfl)⟩
        case measure => simp [intOf]; omega
      · go_wp2
        go_roundw
        case rel => exact ⟨j + 1, x, y, true, by omega, by go_num, rfl, Lib.hid (by rw [HT.out]; rfl)⟩
        case measure => simp [intOf]; omega
    · obtain rfl : j = L.length := by omega
      have HE : Hid (hasAll o b l L = (x == o && y == b && z == l)) := Lib.hid (HR.out x y z (by rw [← hF.out, List.take_length]))
      have e0 := (cell_below w (paO x y z) B 0 hB).trans h0
      have e1 := (cell_below w (paO x y z) B 1 hB).trans h1
      have e2 := (cell_below w (paO x y z) B 2 hB).trans h2
      have hq := fun wx => eql_parts x y z o b l wx
      go_wp2
      go_ret
      exact ⟨by rw [HE.out]; rfl, (Below.refl _ _).alloc (Nat.le_refl _) _⟩
theorem need_in (bk ow lo : Bool) : ∀ i ∈ needL bk ow lo, i = 0 ∨ i = 1 ∨ i = 2 := by
  intro i hi
  cases bk <;> cases ow <;> cases lo <;> simp [needL] at hi <;> omega
theorem need_len (bk ow lo : Bool) : (needL bk ow lo).length ≤ 3 := by
  cases bk <;> cases ow <;> cases lo <;> simp [needL]
theorem okL_yes {s : ByteArray} {o b l : Bool} {f step p : Int} {j : Nat} (hp : p = f + ((j : Int) + 1) * step) (h1 : gapB s f step j = true) (h2 : hasAll o b l (needR s f step j) = true) : okL s o b l f step j = [(f, p)] := by
  have : okR s o b l f step j = true := by unfold gapB at h1; unfold okR; rw [h1, h2]; rfl
  unfold okL
  rw [this, hp]
  rfl
theorem okL_no {s : ByteArray} {o b l : Bool} {f step : Int} {j : Nat} (h2 : hasAll o b l (needR s f step j) = false) : okL s o b l f step j = [] := by
  have : okR s o b l f step j = false := by unfold okR; rw [h2]; simp
  unfold okL
  rw [this]
  rfl
theorem okL_gap {s : ByteArray} {o b l : Bool} {f step : Int} {j : Nat} (h1 : gapB s f step j = false) : okL s o b l f step j = [] := by
  have : okR s o b l f step j = false := by unfold gapB at h1; unfold okR; rw [h1]; rfl
  unfold okL
  rw [this]
  rfl
theorem okL_le (s : ByteArray) (o b l : Bool) (f step : Int) (j : Nat) : (okL s o b l f step j).length ≤ 1 := by
  unfold okL
  split <;> simp
/-- How far the look at both sides has come. -/
def InR (s : ByteArray) (o b l : Bool) (f : Nat) (K : Int) (M : List (Int × Int)) : Prop :=
  (K = 0 ∧ M = []) ∨ (K = 1 ∧ ∃ a, RunS s f (-1) a ∧ M = okL s o b l f (-1) a) ∨ (K = 2 ∧ ∃ a c, RunS s f (-1) a ∧ RunS s f 1 c ∧ M = okL s o b l f (-1) a ++ okL s o b l f 1 c)

set_option maxRecDepth 100000 in
set_option maxHeartbeats 8000000 in
theorem rmoves_any (s : ByteArray) (o b l : Bool) (w : World) (hg : goodL s = true) :
    Calls Try.prog 22 #[ruV o b l, .string s] w (SpPost w (ruTo s o b l s.size)) := by
  obtain ⟨i0, hi, hz0, hz1, hz2⟩ := info_parts Try.infoM
  have HI := Lib.hid hi
  have HZ0 := Lib.hid hz0
  have HZ1 := Lib.hid hz1
  have HZ2 := Lib.hid hz2
  clear hi hz0 hz1 hz2
  have i0' : ∀ w, (Instr.index 73 (.agg #[.int .i64 (-1), .int .i64 1]) (.int .i64 0)).run Try.prog w = .ok (.int .i64 (-1)) w := fun _ => by kernel_rfl
  have i1' : ∀ w, (Instr.index 73 (.agg #[.int .i64 (-1), .int .i64 1]) (.int .i64 1)).run Try.prog w = .ok (.int .i64 1) w := fun _ => by kernel_rfl
  have h1 := good1000 hg
  have HTWO := Lib.hid (fun (f : Nat) (hf : f < s.size) (a c : Nat) (ha : RunS s f (-1) a) (hc : RunS s f 1 c) => ruRow_two hg o b l f hf ha hc)
  obtain ⟨_, _, _⟩ := (goodL_iff s).1 hg
  clear hg
  go_enter Try.func22, Try.ntmps22
  go_wp2_with fail
  refine (asking_any o b l _).mono ?_
  rintro e w1 ⟨B, rfl, hBl, q0, q1, q2, hb1⟩
  have HB1 : Hid (Below w.heap.size w w1) := Lib.hid (((Below.refl _ _).alloc (Nat.le_refl _) (paO o b l)).trans (hb1.mono (by simp)))
  clear hb1
  go_wp2
  go_loopw [6, 17] (fun v t wr => ∃ k : Nat, k ≤ s.size ∧ t = .int .i64 k ∧ wr.ownsRow w1.heap.size 44 2 v (ruTo s o b l k).length (flat (ruTo s o b l k)) ∧ Below w1.heap.size w1 wr) (fun _ t _ => s.size - (intOf t).toNat)
  case atStart => exact ⟨0, Nat.zero_le _, rfl, World.ownsRow_nil _ _ _ _, Below.refl _ _⟩
  case round =>
    obtain ⟨k, hk, rfl, hown, hB⟩ := hrel
    have hle := ruTo_le s o b l k
    by_cases hlt : k < s.size
    · have hS : Hid (ruTo s o b l (k + 1) = ruTo s o b l k ++ ruRow s o b l k) := Lib.hid rfl
      have HT := Lib.hid (HTWO.out k hlt)
      have hle2 : (ruTo s o b l k).length ≤ 1000 := by
        have : k * s.size ≤ 12 * 12 := Nat.mul_le_mul (by omega) (by omega)
        omega
      clear hle
      generalize ruTo s o b l k = L at hown hS hle2
      go_wp2
      go_loopw [6, 21] (fun v t wr => ∃ (K : Int) (M : List (Int × Int)), t = .int .i64 K ∧ InR s o b l k K M ∧ M.length ≤ 2 ∧ wr.ownsRow w1.heap.size 44 2 v (L ++ M).length (flat (L ++ M)) ∧ Below w1.heap.size w1 wr) (fun _ t _ => 2 - (intOf t).toNat)
      case atStart => exact ⟨0, [], rfl, .inl ⟨rfl, rfl⟩, by simp, by simpa using hown, hB⟩
      case round =>
        obtain ⟨K, M, rfl, hin, hM, hown, hB⟩ := hrel
        rcases hin with ⟨rfl, rfl⟩ | ⟨rfl, a0, ha0, rfl⟩ | ⟨rfl, a0, c0, ha0, hc0, rfl⟩
        · go_wp2_with fail
          refine (gap_left s k _ h1 hlt).mono ?_
          rintro e w2 ⟨a, p, hp, hrun, hb2, hcase⟩
          have HP := Lib.hid hp
          have HRUN := Lib.hid hrun
          have hown2 := own_below hown hb2
          have hB2 := hB.trans (hb2.mono hB.size)
          have hBlt : B < w2.heap.size := by have := hB2.size; omega
          have c0 := (hB2.cell (p := ⟨B, 0, none⟩) hBl).trans q0
          have c1 := (hB2.cell (p := ⟨B, 1, none⟩) hBl).trans q1
          have c2 := (hB2.cell (p := ⟨B, 2, none⟩) hBl).trans q2
          rcases hcase with ⟨hgp, v2, rfl, hrow⟩ | ⟨hgp, rfl⟩
          · obtain ⟨A2, cap2, rfl, hat⟩ := nu_of_own hrow
            have HAT := Lib.hid (hat.below ((Below.refl w2.heap.size w2).alloc (Nat.le_refl _) (mvB k p)))
            have HNI : Hid (∀ i ∈ needR s k (-1) a, i = 0 ∨ i = 1 ∨ i = 2) := Lib.hid (need_in _ _ _)
            have hnl : (needR s k (-1) a).length ≤ 3 := need_len _ _ _
            have HY := Lib.hid (fun h => okL_yes (o := o) (b := b) (l := l) HP.out hgp h)
            have HN := Lib.hid (fun h => okL_no (s := s) (o := o) (b := b) (l := l) (f := k) (step := -1) (j := a) h)
            clear hat hrow hgp hp hrun hb2 hown hB
            generalize needR s k (-1) a = R at HAT HNI hnl HY HN
            have d3 := (cell_below w2 (mvB k p) B 0 hBlt).trans c0
            have d4 := (cell_below w2 (mvB k p) B 1 hBlt).trans c1
            have d5 := (cell_below w2 (mvB k p) B 2 hBlt).trans c2
            go_wp2_with fail
            refine (has_any o b l B R A2 cap2 _ HAT.out HNI.out (by omega) (by simp; omega) d3 d4 d5).mono ?_
            rintro e w3 ⟨rfl, hb3⟩
            have hown3 := own_below (hown2.alloc (mvB k p)) hb3
            have hB3 := (hB2.alloc hB2.size (mvB k p)).trans (hb3.mono (by have := hB2.size; simp; omega))
            obtain ⟨hcell, _⟩ := bcell hb3
            have hz := hb3.size
            have hz2 : w2.heap.size < w3.heap.size := by simp at hz; omega
            have e0 : w3.cell? ⟨w2.heap.size, 0, none⟩ = some (.int .i64 k) := by rw [hcell _ _ (by simp), World.cell?_alloc_new]; rfl
            have e1 : w3.cell? ⟨w2.heap.size, 1, none⟩ = some (.int .i64 p) := by rw [hcell _ _ (by simp), World.cell?_alloc_new]; rfl
            clear hown2 hB2 hb3 hcell hz c0 c1 c2 d3 d4 d5
            cases hh : hasAll o b l R
            · have HH := Lib.hid (HN.out hh)
              clear hh
              go_wp2
              go_roundw
              case rel => exact ⟨1, [] ++ [], rfl, .inr (.inl ⟨rfl, a, HRUN.out, by rw [HH.out]; rfl⟩), by simp <;> omega, by simpa using hown3, hB3⟩
              case measure => simp [intOf]
            · have HH := Lib.hid (HY.out hh)
              clear hh
              have H2 : ∀ x ∈ [Value.int .i64 (k : Int), Value.int .i64 p], x.oneCell' = true := fun x hx => by simp at hx; rcases hx with rfl | rfl <;> rfl
              have H3 : (L ++ ([] : List (Int × Int))).length + 1 ≤ maxLen := by rw [List.length_append]; unfold maxLen; omega
              have H4 : ((L ++ ([] : List (Int × Int))).length + 1) * 16 ≤ 140737488355328 := by rw [List.length_append]; omega
              have H5 : w1.heap.size ≤ (w3.alloc (mvB k p)).heap.size := by have := hB3.size; simp; omega
              go_wp2_with (first | (at_builtin; refine wpList_append_own _ rfl _ _ 24 rfl w1.heap.size 44 i0 (.agg #[.int .i64 0, .int .i64 0]) 2 16 Try.underlying24 HI.out HZ0.out HZ1.out HZ2.out rfl (by decide) _ _ _ rfl (hown3.alloc _) ⟨w3.heap.size, 0, none⟩ 1 1 [.int .i64 k, .int .i64 p] rfl rfl (cell_two_new _ _ _ _) H2 H3 H4 H5 ?_; intro v' w4 hown' hgrow _))
              go_roundw
              case rel =>
                refine ⟨1, [] ++ [((k : Int), p)], rfl, .inr (.inl ⟨rfl, a, HRUN.out, by rw [HH.out]; rfl⟩), by simp <;> omega, ?_, ((hB3.alloc hB3.size (mvB k p)).grown hgrow H5 fun i hi => (hown3.lt _ hi).1)⟩
                rw [← List.append_assoc, flat_app, List.length_append]
                exact hown'
              case measure => simp [intOf]
          · have HH := Lib.hid (okL_gap (o := o) (b := b) (l := l) hgp)
            clear hgp hp hrun hb2 hown hB c0 c1 c2
            go_wp2
            go_roundw
            case rel => exact ⟨1, [] ++ [], rfl, .inr (.inl ⟨rfl, a, HRUN.out, by rw [HH.out]; rfl⟩), by simp <;> omega, by simpa using hown2.alloc (mvB 0 0), hB2.alloc hB2.size (mvB 0 0)⟩
            case measure => simp [intOf]
        · have HA0 := Lib.hid ha0
          clear ha0
          have hMM : (okL s o b l k (-1) a0).length ≤ 1 := okL_le _ _ _ _ _ _ _
          obtain ⟨MM, hMMe⟩ : ∃ MM, MM = okL s o b l k (-1) a0 := ⟨_, rfl⟩
          rw [← hMMe] at hown hMM
          have HMM := Lib.hid hMMe
          clear hMMe hM
          go_wp2_with fail
          refine (gap_right s k _ h1 hlt).mono ?_
          rintro e w2 ⟨a, p, hp, hrun, hb2, hcase⟩
          have HP := Lib.hid hp
          have HRUN := Lib.hid hrun
          have hown2 := own_below hown hb2
          have hB2 := hB.trans (hb2.mono hB.size)
          have hBlt : B < w2.heap.size := by have := hB2.size; omega
          have c0 := (hB2.cell (p := ⟨B, 0, none⟩) hBl).trans q0
          have c1 := (hB2.cell (p := ⟨B, 1, none⟩) hBl).trans q1
          have c2 := (hB2.cell (p := ⟨B, 2, none⟩) hBl).trans q2
          rcases hcase with ⟨hgp, v2, rfl, hrow⟩ | ⟨hgp, rfl⟩
          · obtain ⟨A2, cap2, rfl, hat⟩ := nu_of_own hrow
            have HAT := Lib.hid (hat.below ((Below.refl w2.heap.size w2).alloc (Nat.le_refl _) (mvB k p)))
            have HNI : Hid (∀ i ∈ needR s k (1) a, i = 0 ∨ i = 1 ∨ i = 2) := Lib.hid (need_in _ _ _)
            have hnl : (needR s k (1) a).length ≤ 3 := need_len _ _ _
            have HY := Lib.hid (fun h => okL_yes (o := o) (b := b) (l := l) HP.out hgp h)
            have HN := Lib.hid (fun h => okL_no (s := s) (o := o) (b := b) (l := l) (f := k) (step := 1) (j := a) h)
            clear hat hrow hgp hp hrun hb2 hown hB
            generalize needR s k (1) a = R at HAT HNI hnl HY HN
            have d3 := (cell_below w2 (mvB k p) B 0 hBlt).trans c0
            have d4 := (cell_below w2 (mvB k p) B 1 hBlt).trans c1
            have d5 := (cell_below w2 (mvB k p) B 2 hBlt).trans c2
            go_wp2_with fail
            refine (has_any o b l B R A2 cap2 _ HAT.out HNI.out (by omega) (by simp; omega) d3 d4 d5).mono ?_
            rintro e w3 ⟨rfl, hb3⟩
            have hown3 := own_below (hown2.alloc (mvB k p)) hb3
            have hB3 := (hB2.alloc hB2.size (mvB k p)).trans (hb3.mono (by have := hB2.size; simp; omega))
            obtain ⟨hcell, _⟩ := bcell hb3
            have hz := hb3.size
            have hz2 : w2.heap.size < w3.heap.size := by simp at hz; omega
            have e0 : w3.cell? ⟨w2.heap.size, 0, none⟩ = some (.int .i64 k) := by rw [hcell _ _ (by simp), World.cell?_alloc_new]; rfl
            have e1 : w3.cell? ⟨w2.heap.size, 1, none⟩ = some (.int .i64 p) := by rw [hcell _ _ (by simp), World.cell?_alloc_new]; rfl
            clear hown2 hB2 hb3 hcell hz c0 c1 c2 d3 d4 d5
            cases hh : hasAll o b l R
            · have HH := Lib.hid (HN.out hh)
              clear hh
              go_wp2
              go_roundw
              case rel => exact ⟨2, MM ++ [], rfl, .inr (.inr ⟨rfl, a0, a, HA0.out, HRUN.out, by rw [HH.out, HMM.out]⟩), by simp <;> omega, by simpa using hown3, hB3⟩
              case measure => simp [intOf]
            · have HH := Lib.hid (HY.out hh)
              clear hh
              have H2 : ∀ x ∈ [Value.int .i64 (k : Int), Value.int .i64 p], x.oneCell' = true := fun x hx => by simp at hx; rcases hx with rfl | rfl <;> rfl
              have H3 : (L ++ MM).length + 1 ≤ maxLen := by rw [List.length_append]; unfold maxLen; omega
              have H4 : ((L ++ MM).length + 1) * 16 ≤ 140737488355328 := by rw [List.length_append]; omega
              have H5 : w1.heap.size ≤ (w3.alloc (mvB k p)).heap.size := by have := hB3.size; simp; omega
              go_wp2_with (first | (at_builtin; refine wpList_append_own _ rfl _ _ 24 rfl w1.heap.size 44 i0 (.agg #[.int .i64 0, .int .i64 0]) 2 16 Try.underlying24 HI.out HZ0.out HZ1.out HZ2.out rfl (by decide) _ _ _ rfl (hown3.alloc _) ⟨w3.heap.size, 0, none⟩ 1 1 [.int .i64 k, .int .i64 p] rfl rfl (cell_two_new _ _ _ _) H2 H3 H4 H5 ?_; intro v' w4 hown' hgrow _))
              go_roundw
              case rel =>
                refine ⟨2, MM ++ [((k : Int), p)], rfl, .inr (.inr ⟨rfl, a0, a, HA0.out, HRUN.out, by rw [HH.out, HMM.out]⟩), by simp <;> omega, ?_, ((hB3.alloc hB3.size (mvB k p)).grown hgrow H5 fun i hi => (hown3.lt _ hi).1)⟩
                rw [← List.append_assoc, flat_app, List.length_append]
                exact hown'
              case measure => simp [intOf]
          · have HH := Lib.hid (okL_gap (o := o) (b := b) (l := l) hgp)
            clear hgp hp hrun hb2 hown hB c0 c1 c2
            go_wp2
            go_roundw
            case rel => exact ⟨2, MM ++ [], rfl, .inr (.inr ⟨rfl, a0, a, HA0.out, HRUN.out, by rw [HH.out, HMM.out]⟩), by simp <;> omega, by simpa using hown2.alloc (mvB 0 0), hB2.alloc hB2.size (mvB 0 0)⟩
            case measure => simp [intOf]
        · have HR := Lib.hid (HT.out a0 c0 ha0 hc0)
          clear ha0 hc0
          go_wp2
          go_roundw
          case rel => exact ⟨k + 1, by omega, by go_num, by rw [hS.out, HR.out]; exact hown, hB⟩
          case measure => simp [intOf]; omega
    · obtain rfl : k = s.size := by omega
      go_wp2
      go_ret
      exact ⟨_, rfl, own_base hown HB1.out.size, HB1.out.trans (hB.mono HB1.out.size)⟩
end Go.Proofs.Ytdcbjbmnkajjcaa
