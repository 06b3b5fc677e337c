/- Contract: a puzzle's text: the model's. -/
import Derived.Test.YtjnidfleccbdbaaDoorPtB
namespace Go.Proofs.YtjnidfleccbdbaaDoor
open Go.RowKit

theorem joinC_snoc (o : List (List UInt8)) (x sep : List UInt8) (h : o ≠ []) : Lib.join (o ++ [x]) sep = Lib.join o sep ++ sep ++ x := by
  cases o with
  | nil => exact absurd rfl h
  | cons a o => simp [Lib.join_cons, Lib.joinTail]
/-- The text up to a clue. -/
def ptP (n : Int) (l : List Cl) (k : Nat) : List UInt8 := numT n ++ [58] ++ Lib.join ((l.take k).map ctT) [44]
theorem ptP_one (n : Int) (l : List Cl) (h : 0 < l.length) : ptP n l 1 = ptP n l 0 ++ ctT l[0] := by
  unfold ptP
  rw [List.take_succ_eq_append_getElem h]
  show numT n ++ ([58] : List UInt8) ++ Lib.join ([] ++ [ctT l[0]]) [44] = numT n ++ ([58] : List UInt8) ++ Lib.join [] [44] ++ ctT l[0]
  rw [List.nil_append, Lib.join_one]
  simp [Lib.join_nil]
theorem ptP_next (n : Int) (l : List Cl) (k : Nat) (h : k < l.length) (h0 : 0 < k) : ptP n l (k + 1) = ptP n l k ++ [44] ++ ctT l[k] := by
  unfold ptP
  rw [List.take_succ_eq_append_getElem h, List.map_append, List.map_cons, List.map_nil, joinC_snoc _ _ _ (by intro e; have := congrArg List.length e; rw [List.length_map, List.length_take, List.length_nil] at this; omega)]
  simp
theorem ptP_all (n : Int) (l : List Cl) : ptP n l l.length = pzT n l := by unfold ptP pzT; rw [List.take_length]
theorem ptP_zero (n : Int) (l : List Cl) : ptP n l 0 = numT n ++ [58] := by
  unfold ptP
  show numT n ++ ([58] : List UInt8) ++ Lib.join [] [44] = _
  rw [Lib.join_nil]; simp
theorem joinC_len : ∀ (R : List (List UInt8)) (m : Nat), (∀ r ∈ R, r.length ≤ m) → (Lib.join R [44]).length ≤ R.length * (m + 1)
  | [], m, _ => by rw [Lib.join_nil]; simp
  | x :: R, m, h => by
    have h1 := h x (by simp)
    have e : Lib.join (x :: R) [44] = x ++ Lib.joinTail [44] R := by
      cases R with
      | nil => rw [Lib.join_one]; simp [Lib.joinTail]
      | cons y R => rw [Lib.join_cons]
    have h2 : ∀ R : List (List UInt8), (∀ r ∈ R, r.length ≤ m) → (Lib.joinTail [44] R).length ≤ R.length * (m + 1) := by
      intro R
      induction R with
      | nil => intro _; simp [Lib.joinTail]
      | cons y R ih =>
        intro hr
        have a := ih fun r hr' => hr r (by simp [hr'])
        have b := hr y (by simp)
        have e2 : Lib.joinTail [44] (y :: R) = [44] ++ y ++ Lib.joinTail [44] R := by simp [Lib.joinTail]
        rw [e2]
        simp only [List.length_append, List.length_cons, List.length_nil]
        rw [Nat.add_mul]
        omega
    have h3 := h2 R fun r hr => h r (by simp [hr])
    rw [e, List.length_append, List.length_cons, Nat.add_mul]
    omega
theorem ptP_len (n : Int) (l : List Cl) (k : Nat) (hn : n ≤ 10) (hl : l.length ≤ 6) (hs : ∀ x ∈ l, SmallC x) : (ptP n l k).length ≤ 60 := by
  have h1 := joinC_len ((l.take k).map ctT) 8 (fun r hr => by
    obtain ⟨c, hc, rfl⟩ := List.mem_map.1 hr
    exact ctT_len (hs c (List.mem_of_mem_take hc)))
  have h2 := numT_len hn
  have h3 : ((l.take k).map ctT).length ≤ 6 := by rw [List.length_map, List.length_take]; omega
  have h4 : ((l.take k).map ctT).length * (8 + 1) ≤ 6 * 9 := Nat.mul_le_mul_right 9 h3
  unfold ptP
  simp only [List.length_append, List.length_cons, List.length_nil]
  omega
theorem str_46 : (⟨#[46]⟩ : ByteArray) = str [46] := rfl
theorem str_44 : (⟨#[44]⟩ : ByteArray) = str [44] := rfl
theorem str_58 : (⟨#[58]⟩ : ByteArray) = str [58] := rfl

set_option maxRecDepth 100000 in
set_option maxHeartbeats 8000000 in
theorem sPzText_any (n : Int) (l : List Cl) (A : Option Addr) (c : Nat) (w : World) (hin : ClIn w A l) (hl : l.length ≤ 6) (hn : 0 ≤ n ∧ n ≤ 10) (hs : ∀ x ∈ l, SmallC x) :
    Calls Tryd.prog 32 #[.agg #[.int .i64 n, .slice A l.length c]] w fun e w' => e = .returned (.string (str (pzT n l))) ∧ Below w.heap.size w w' := by
  obtain ⟨W0, hW0⟩ : ∃ W0, W0 = w.alloc (Obj.cells #[.int .i64 n, .slice A l.length c] 30) := ⟨_, rfl⟩
  have hB0 : Below w.heap.size w W0 := by rw [hW0]; exact (Below.refl _ _).alloc (Nat.le_refl _) _
  have c0 : W0.cell? ⟨w.heap.size, 0, none⟩ = some (.int .i64 n) := by rw [hW0, cell_new' _ _ _ _ _ rfl]; rfl
  have c1 : W0.cell? ⟨w.heap.size, 1, none⟩ = some (.slice A l.length c) := by rw [hW0, cell_new' _ _ _ _ _ rfl]; rfl
  have hz : w.heap.size < W0.heap.size := lt_of_cell0 c0
  have HN0 := Lib.hid (hin.below hB0)
  have HS := Lib.hid hs
  have HI := Lib.hid (fun i wx (h : 0 ≤ i ∧ i ≤ 10) => l1Num_any i wx h)
  have HP1 := Lib.hid (ptP_one n l)
  have HPn := Lib.hid (ptP_next n l)
  have HPl := Lib.hid (fun k => ptP_len n l k hn.2 hl hs)
  have hnl : (str (numT n)).size ≤ 2 := by rw [str_size]; exact numT_len hn.2
  have HE := Lib.hid (ptP_all n l)
  have HZ : Hid (str (numT n) ++ (⟨#[58]⟩ : ByteArray) = str (ptP n l 0)) := Lib.hid (by rw [ptP_zero, str_58, str_app])
  clear hs hin
  go_enter Tryd.func32, Tryd.ntmps32
  go_wp2_with fail
  rw [← hW0]
  clear hW0
  refine (HI.out n _ hn).mono ?_
  rintro e w1 ⟨rfl, hb1⟩
  have d1 := ((bcell hb1).1 _ 1 hz).trans c1
  have HN1 := Lib.hid (HN0.out.below hb1)
  have HB1 := Lib.hid (hB0.trans (hb1.mono hB0.size))
  clear hb1 hB0 c0 c1 HN0
  go_wp2_with fail
  rw [HZ.out]
  go_loopw [3, 4, 5, 13] (fun o _ _ i wr => ∃ k : Nat, k ≤ l.length ∧ i = .int .i64 k ∧ o = .string (str (ptP n l k)) ∧ Hid (Below w1.heap.size w1 wr)) (fun _ _ _ i _ => l.length - (intOf i).toNat)
  case atStart => exact ⟨0, Nat.zero_le _, rfl, rfl, Lib.hid (Below.refl _ _)⟩
  case round =>
    obtain ⟨k, hk, rfl, rfl, HB⟩ := hrel
    by_cases hlt : k < l.length
    · obtain ⟨g, o, rfl, z1, p1, q1, r1⟩ := (HN1.out.below HB.out) k hlt
      have hsm := HS.out _ (List.getElem_mem hlt)
      have i1 : (0 : Int) ≤ (k : Int) := by omega
      have i2 : (k : Int) < (l.length : Int) := by omega
      obtain ⟨T, hT⟩ : ∃ T, T = ptP n l k := ⟨_, rfl⟩
      have hTl : (str T).size ≤ 60 := by rw [hT, str_size]; exact HPl.out k
      have HX1 : Hid (k = 0 → str (ptP n l (k + 1)) = str T ++ str (ctT l[k])) := Lib.hid fun e => by subst e; rw [HP1.out hlt, ← str_app, hT]
      have HX2 : Hid (0 < k → str (ptP n l (k + 1)) = str T ++ ⟨#[44]⟩ ++ str (ctT l[k])) := Lib.hid fun e => by rw [HPn.out k hlt e, str_44, str_app, str_app, hT]
      rw [← hT]
      have hlen := ctT_len hsm
      have HCT : Hid (str (ctT l[k]) = str (numT l[k].1) ++ ⟨#[46]⟩ ++ str (numT l[k].2.1) ++ ⟨#[46]⟩ ++ str (numT l[k].2.2)) := Lib.hid (by rw [ctT_eq, str_46, str_app, str_app, str_app, str_app])
      obtain ⟨⟨hx0, hx⟩, ⟨hy0, hy⟩, hz0, hz1⟩ := hsm
      have n1 : (str (numT l[k].1)).size ≤ 2 := by rw [str_size]; exact numT_len hx
      have n2 : (str (numT l[k].2.1)).size ≤ 2 := by rw [str_size]; exact numT_len hy
      have n3 : (str (numT l[k].2.2)).size ≤ 2 := by rw [str_size]; exact numT_len hz1
      have HA1 := Lib.hid (HI.out l[k].1 · ⟨hx0, hx⟩)
      have HA2 := Lib.hid (HI.out l[k].2.1 · ⟨hy0, hy⟩)
      have HA3 := Lib.hid (HI.out l[k].2.2 · ⟨hz0, hz1⟩)
      generalize str (ctT l[k]) = S at HX1 HX2 HCT
      generalize str (numT l[k].1) = a1 at n1 HA1 HCT
      generalize str (numT l[k].2.1) = a2 at n2 HA2 HCT
      generalize str (numT l[k].2.2) = a3 at n3 HA3 HCT
      generalize l[k].1 = x at p1 HA1 hx0 hx
      generalize l[k].2.1 = y at q1 HA2 hy0 hy
      generalize l[k].2.2 = z at r1 HA3 hz0 hz1
      clear hT
      generalize str T = st at *
      have HCL := Lib.hid (fun wy (h : Below (wr.alloc (Obj.cells #[.int .i64 x, .int .i64 y, .int .i64 z] 61)).heap.size (wr.alloc (Obj.cells #[.int .i64 x, .int .i64 y, .int .i64 z] 61)) wy) => (show wy.cell? ⟨wr.heap.size, 0, none⟩ = some (.int .i64 x) ∧ wy.cell? ⟨wr.heap.size, 1, none⟩ = some (.int .i64 y) ∧ wy.cell? ⟨wr.heap.size, 2, none⟩ = some (.int .i64 z) from ⟨((bcell h).1 _ _ (by simp)).trans (by rw [cell_new' _ _ _ _ _ rfl]; rfl), ((bcell h).1 _ _ (by simp)).trans (by rw [cell_new' _ _ _ _ _ rfl]; rfl), ((bcell h).1 _ _ (by simp)).trans (by rw [cell_new' _ _ _ _ _ rfl]; rfl)⟩))
      have s46 : (⟨#[46]⟩ : ByteArray).size = 1 := rfl
      have s44 : (⟨#[44]⟩ : ByteArray).size = 1 := rfl
      have t1 : (a1 ++ (⟨#[46]⟩ : ByteArray)).size ≤ 3 := by rw [ByteArray.size_append]; omega
      have t2 : (a1 ++ (⟨#[46]⟩ : ByteArray) ++ a2).size ≤ 5 := by rw [ByteArray.size_append]; omega
      have t3 : (a1 ++ (⟨#[46]⟩ : ByteArray) ++ a2 ++ (⟨#[46]⟩ : ByteArray)).size ≤ 6 := by rw [ByteArray.size_append]; omega
      have t4 : (a1 ++ (⟨#[46]⟩ : ByteArray) ++ a2 ++ (⟨#[46]⟩ : ByteArray) ++ a3).size ≤ 8 := by rw [ByteArray.size_append]; omega
      have t5 : (st ++ (⟨#[44]⟩ : ByteArray)).size ≤ 61 := by rw [ByteArray.size_append]; omega
      have e1 : ∀ wx, (Op.stringOp .add a1 ⟨#[46]⟩).run Tryd.prog wx = .ok (.string (a1 ++ ⟨#[46]⟩)) wx := fun wx => run_string_add_sum _ _ _ (by omega)
      have e2 : ∀ wx, (Op.stringOp .add (a1 ++ ⟨#[46]⟩) a2).run Tryd.prog wx = .ok (.string (a1 ++ ⟨#[46]⟩ ++ a2)) wx := fun wx => run_string_add_sum _ _ _ (by omega)
      have e3 : ∀ wx, (Op.stringOp .add (a1 ++ ⟨#[46]⟩ ++ a2) ⟨#[46]⟩).run Tryd.prog wx = .ok (.string (a1 ++ ⟨#[46]⟩ ++ a2 ++ ⟨#[46]⟩)) wx := fun wx => run_string_add_sum _ _ _ (by omega)
      have e4 : ∀ wx, (Op.stringOp .add (a1 ++ ⟨#[46]⟩ ++ a2 ++ ⟨#[46]⟩) a3).run Tryd.prog wx = .ok (.string (a1 ++ ⟨#[46]⟩ ++ a2 ++ ⟨#[46]⟩ ++ a3)) wx := fun wx => run_string_add_sum _ _ _ (by omega)
      by_cases h0 : k = 0
      · have hd : ¬ ((0 : Int) < (k : Int)) := by omega
        have HX := Lib.hid (HX1.out h0)
        have e5 : ∀ wx, (Op.stringOp .add st (a1 ++ ⟨#[46]⟩ ++ a2 ++ ⟨#[46]⟩ ++ a3)).run Tryd.prog wx = .ok (.string (st ++ (a1 ++ ⟨#[46]⟩ ++ a2 ++ ⟨#[46]⟩ ++ a3))) wx := fun wx => run_string_add_sum _ _ _ (by omega)
        clear HX1 HX2 t5 h0
        go_wp2_with fail
        go_region_held3 (fun w' => w'.cell? ⟨wr.heap.size, 0, none⟩ = some (.int .i64 x) ∧ w'.cell? ⟨wr.heap.size, 1, none⟩ = some (.int .i64 y) ∧ w'.cell? ⟨wr.heap.size, 2, none⟩ = some (.int .i64 z)) (exact HCL.out _ (by repeat first | exact hBc | exact hBb | exact hBa | exact Below.refl _ _ | refine Below.drew ?_)) (first | (go_at_call_of 61 x; refine (HA1.out _).mono ?_; rintro e wa ⟨rfl, hba⟩; have hBa : Below (wr.alloc (Obj.cells #[.int .i64 x, .int .i64 y, .int .i64 z] 61)).heap.size (wr.alloc (Obj.cells #[.int .i64 x, .int .i64 y, .int .i64 z] 61)) wa := Below.trans (by repeat first | exact hBc | exact hBb | exact hBa | exact Below.refl _ _ | refine Below.drew ?_) (hba.mono (Below.size (B := (wr.alloc (Obj.cells #[.int .i64 x, .int .i64 y, .int .i64 z] 61)).heap.size) (w := (wr.alloc (Obj.cells #[.int .i64 x, .int .i64 y, .int .i64 z] 61))) (by repeat first | exact hBc | exact hBb | exact hBa | exact Below.refl _ _ | refine Below.drew ?_))); clear hba) | (go_at_call_of 61 y; refine (HA2.out _).mono ?_; rintro e wb ⟨rfl, hbb⟩; have hBb : Below (wr.alloc (Obj.cells #[.int .i64 x, .int .i64 y, .int .i64 z] 61)).heap.size (wr.alloc (Obj.cells #[.int .i64 x, .int .i64 y, .int .i64 z] 61)) wb := hBa.trans (hbb.mono hBa.size); clear hbb) | (go_at_call_of 61 z; refine (HA3.out _).mono ?_; rintro e wc ⟨rfl, hbc⟩; have hBc : Below (wr.alloc (Obj.cells #[.int .i64 x, .int .i64 y, .int .i64 z] 61)).heap.size (wr.alloc (Obj.cells #[.int .i64 x, .int .i64 y, .int .i64 z] 61)) wc := hBb.trans (hbc.mono hBb.size); clear hbc))
        rw [← HCT.out, ← HX.out]
        have HBn := Lib.hid (HB.out.trans (((Below.refl wr.heap.size wr).alloc (Nat.le_refl _) _).trans (hBc.mono (by simp)) |>.mono HB.out.size))
        go_wp2_with fail
        go_roundw
        case rel => exact ⟨k + 1, by omega, by go_num, rfl, HBn⟩
        case measure => simp [intOf]; omega
      · have hd : (0 : Int) < (k : Int) := by omega
        have HX := Lib.hid (HX2.out (by omega))
        have e5 : ∀ wx, (Op.stringOp .add (st ++ ⟨#[44]⟩) (a1 ++ ⟨#[46]⟩ ++ a2 ++ ⟨#[46]⟩ ++ a3)).run Tryd.prog wx = .ok (.string (st ++ ⟨#[44]⟩ ++ (a1 ++ ⟨#[46]⟩ ++ a2 ++ ⟨#[46]⟩ ++ a3))) wx := fun wx => run_string_add_sum _ _ _ (by omega)
        clear HX1 HX2 h0
        go_wp2_with fail
        go_region_held3 (fun w' => w'.cell? ⟨wr.heap.size, 0, none⟩ = some (.int .i64 x) ∧ w'.cell? ⟨wr.heap.size, 1, none⟩ = some (.int .i64 y) ∧ w'.cell? ⟨wr.heap.size, 2, none⟩ = some (.int .i64 z)) (exact HCL.out _ (by repeat first | exact hBc | exact hBb | exact hBa | exact Below.refl _ _ | refine Below.drew ?_)) (first | (go_at_call_of 61 x; refine (HA1.out _).mono ?_; rintro e wa ⟨rfl, hba⟩; have hBa : Below (wr.alloc (Obj.cells #[.int .i64 x, .int .i64 y, .int .i64 z] 61)).heap.size (wr.alloc (Obj.cells #[.int .i64 x, .int .i64 y, .int .i64 z] 61)) wa := Below.trans (by repeat first | exact hBc | exact hBb | exact hBa | exact Below.refl _ _ | refine Below.drew ?_) (hba.mono (Below.size (B := (wr.alloc (Obj.cells #[.int .i64 x, .int .i64 y, .int .i64 z] 61)).heap.size) (w := (wr.alloc (Obj.cells #[.int .i64 x, .int .i64 y, .int .i64 z] 61))) (by repeat first | exact hBc | exact hBb | exact hBa | exact Below.refl _ _ | refine Below.drew ?_))); clear hba) | (go_at_call_of 61 y; refine (HA2.out _).mono ?_; rintro e wb ⟨rfl, hbb⟩; have hBb : Below (wr.alloc (Obj.cells #[.int .i64 x, .int .i64 y, .int .i64 z] 61)).heap.size (wr.alloc (Obj.cells #[.int .i64 x, .int .i64 y, .int .i64 z] 61)) wb := hBa.trans (hbb.mono hBa.size); clear hbb) | (go_at_call_of 61 z; refine (HA3.out _).mono ?_; rintro e wc ⟨rfl, hbc⟩; have hBc : Below (wr.alloc (Obj.cells #[.int .i64 x, .int .i64 y, .int .i64 z] 61)).heap.size (wr.alloc (Obj.cells #[.int .i64 x, .int .i64 y, .int .i64 z] 61)) wc := hBb.trans (hbc.mono hBb.size); clear hbc))
        rw [← HCT.out, ← HX.out]
        have HBn := Lib.hid (HB.out.trans (((Below.refl wr.heap.size wr).alloc (Nat.le_refl _) _).trans (hBc.mono (by simp)) |>.mono HB.out.size))
        go_wp2_with fail
        go_roundw
        case rel => exact ⟨k + 1, by omega, by go_num, rfl, HBn⟩
        case measure => simp [intOf]; omega
    · obtain rfl : k = l.length := by omega
      go_wp2
      go_ret
      exact ⟨congrArg (fun x => Ending.returned (.string (str x))) HE.out, HB1.out.trans (HB.out.mono HB1.out.size)⟩
end Go.Proofs.YtjnidfleccbdbaaDoor
