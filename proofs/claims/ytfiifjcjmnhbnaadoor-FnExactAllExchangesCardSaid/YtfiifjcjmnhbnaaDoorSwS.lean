/- Contracts: lines of at most eight cells as arrays: made of a text, told as a text. -/
import Derived.Test.YtfiifjcjmnhbnaaDoorImp
import Derived.Test.YtfiifjcjmnhbnaaDoorMove
import Derived.Deep.MidRow
import Derived.Lib.LazyBuf
import Derived.Lib.TrimByte
namespace Go.Proofs.YtfiifjcjmnhbnaaDoor
open Go.RowKit

/-- The nine signs of a ring as an array. -/
def swpP (l : List UInt8) : List UInt8 := l ++ List.replicate (8 - l.length) 0
def swpV (l : List UInt8) : Value := .agg (u8s (swpP l)).toArray
theorem swpP_len {l : List UInt8} (h : l.length ≤ 8) : (swpP l).length = 8 := by
  unfold swpP
  rw [List.length_append, List.length_replicate]
  omega
theorem swp_eight {l : List UInt8} (h : l.length = 8) : ∃ c0 c1 c2 c3 c4 c5 c6 c7, l = [c0, c1, c2, c3, c4, c5, c6, c7] := by
  match l, h with
  | [c0, c1, c2, c3, c4, c5, c6, c7], _ => exact ⟨_, _, _, _, _, _, _, _, rfl⟩
theorem trim_swp {l : List UInt8} (h : ∀ c ∈ l, c ≠ 0) : Lib.trimRightB (swpP l) 0 = l := by
  unfold Lib.trimRightB swpP
  rw [List.reverse_append, List.reverse_replicate]
  have e : ∀ n (r : List UInt8), (∀ c ∈ r, c ≠ 0) → (List.replicate n (0 : UInt8) ++ r).dropWhile (· == 0) = r := by
    intro n
    induction n with
    | zero =>
      intro r hr
      rw [List.replicate_zero, List.nil_append]
      cases r with
      | nil => rfl
      | cons c r => rw [List.dropWhile_cons, if_neg]; have := hr c (by simp); simpa using this
    | succ n ih =>
      intro r hr
      rw [List.replicate_succ, List.cons_append, List.dropWhile_cons, if_pos (by decide)]
      exact ih r hr
  rw [e _ _ (fun c hc => h c (List.mem_reverse.1 hc)), List.reverse_reverse]
theorem sign_nz8 {l : List UInt8} (h : l.all isSign = true) : ∀ c ∈ l, c ≠ 0 := fun c hc e => by
  have := List.all_eq_true.1 h c hc
  rw [e] at this
  cases this
theorem u8s_at8 (l : List UInt8) (j : Nat) (h : j < l.length) : (u8s l)[j]? = some (.int .u8 (l[j].toNat : Int)) := by simp [u8s, h]

set_option maxHeartbeats 400000 in
theorem textOf8_any (l : List UInt8) (b c : Nat) (w : World) (hl : l.length ≤ 1000) (hc : ∀ j (hj : j < l.length), w.cell? ⟨b, j, none⟩ = some (.int .u8 (l[j].toNat : Int))) :
    Calls Tryd.prog 56 #[.slice (some ⟨b, 0, none⟩) l.length c] w fun e w' => e = .returned (.string (str (Lib.trimRightB l 0))) ∧ w = w' := by
  have hcv := run_convert_bytes_back (P := Tryd.prog) w 72 9 5 ⟨b, 0, none⟩ c l Tryd.underlying72 Tryd.underlying5 Tryd.underlying9 (by
    intro j hj
    rw [addr_add]
    exact hc j hj)
  have hz : (str l).size ≤ 1000 := by rw [str_size]; exact hl
  have HT : Hid (∀ wx, Calls Tryd.prog 68 #[.string (str l), .string ⟨#[0]⟩] wx fun e w' => e = .returned (.string (str (Lib.trimRightB l 0))) ∧ wx = w') := Lib.hid fun wx => by
    refine (Tryd.strings_TrimRight_one (str l) 0 (by decide) wx (by omega)).mono ?_
    rintro e w' ⟨rfl, rfl⟩
    exact ⟨rfl, rfl⟩
  clear hc
  go_enter Tryd.func56, Tryd.ntmps56
  go_wp2_with fail
  refine (HT.out _).mono ?_
  rintro e w' ⟨rfl, rfl⟩
  go_wp2
  go_ret
  exact ⟨rfl, rfl⟩

set_option maxRecDepth 100000 in
set_option maxHeartbeats 1000000 in
theorem swpText_any (l : List UInt8) (w : World) (hl : l.length ≤ 8) (hn : ∀ c ∈ l, c ≠ 0) :
    Calls Tryd.prog 41 #[swpV l] w fun e w' => e = .returned (.string (str l)) ∧ Below w.heap.size w w' := by
  obtain ⟨c0, c1, c2, c3, c4, c5, c6, c7, h9⟩ := swp_eight (swpP_len hl)
  have HT := Lib.hid (trim_swp hn)
  have HC : Hid (∀ wx b c, (∀ j (hj : j < [c0, c1, c2, c3, c4, c5, c6, c7].length), wx.cell? ⟨b, j, none⟩ = some (.int .u8 ([c0, c1, c2, c3, c4, c5, c6, c7][j].toNat : Int))) → Calls Tryd.prog 56 #[.slice (some ⟨b, 0, none⟩) 8 c] wx fun e w' => e = .returned (.string (str l)) ∧ wx = w') := Lib.hid fun wx b c hc => by
    have e : Lib.trimRightB [c0, c1, c2, c3, c4, c5, c6, c7] 0 = l := by rw [← h9, HT.out]
    have := textOf8_any _ b c wx (by simp) hc
    rw [e] at this
    exact this
  have hv : swpV l = .agg #[.int .u8 c0.toNat, .int .u8 c1.toNat, .int .u8 c2.toNat, .int .u8 c3.toNat, .int .u8 c4.toNat, .int .u8 c5.toNat, .int .u8 c6.toNat, .int .u8 c7.toNat] := by unfold swpV; rw [h9]; rfl
  rw [hv]
  clear hv h9 hn hl HT
  go_enter Tryd.func41, Tryd.ntmps41
  go_wp2_with fail
  refine (HC.out _ _ _ ?_).mono ?_
  · intro j hj
    rw [World.cell?_alloc_new]
    match j, hj with
    | 0, _ => rfl
    | 1, _ => rfl
    | 2, _ => rfl
    | 3, _ => rfl
    | 4, _ => rfl
    | 5, _ => rfl
    | 6, _ => rfl
    | 7, _ => rfl
  rintro e w' ⟨rfl, rfl⟩
  go_wp2
  go_ret
  exact ⟨rfl, (Below.refl _ _).alloc (Nat.le_refl _) _⟩
end Go.Proofs.YtfiifjcjmnhbnaaDoor
namespace Go.Proofs.YtfiifjcjmnhbnaaDoor
open Go.RowKit

theorem Tryd.infoSwl : (Tryd.prog.info? 39).map (·.size) = some 8 := by kernel_rfl
theorem Tryd.zeroSwl (w : World) : (zeroValue 39).run Tryd.prog w = .ok (.agg #[.int .u8 0, .int .u8 0, .int .u8 0, .int .u8 0, .int .u8 0, .int .u8 0, .int .u8 0, .int .u8 0]) w := by kernel_rfl
abbrev zwO : Obj := .cells #[.int .u8 0, .int .u8 0, .int .u8 0, .int .u8 0, .int .u8 0, .int .u8 0, .int .u8 0, .int .u8 0] 39
theorem range_eight {w : World} {g : Nat} {cs : List Value} (hc : w.rangeAt g 0 cs) (hl : cs.length = 8) : ∃ x0 x1 x2 x3 x4 x5 x6 x7, cs = [x0, x1, x2, x3, x4, x5, x6, x7] ∧
    w.cell? ⟨g, 0, none⟩ = some x0 ∧ w.cell? ⟨g, 1, none⟩ = some x1 ∧ w.cell? ⟨g, 2, none⟩ = some x2 ∧ w.cell? ⟨g, 3, none⟩ = some x3 ∧ w.cell? ⟨g, 4, none⟩ = some x4 ∧ w.cell? ⟨g, 5, none⟩ = some x5 ∧ w.cell? ⟨g, 6, none⟩ = some x6 ∧ w.cell? ⟨g, 7, none⟩ = some x7 := by
  match cs, hl, hc with
  | [x0, x1, x2, x3, x4, x5, x6, x7], _, hc =>
    have h : ∀ j v, [x0, x1, x2, x3, x4, x5, x6, x7][j]? = some v → w.cell? ⟨g, j, none⟩ = some v := fun j v hv => by
      have := hc j v hv
      rwa [Nat.zero_add] at this
    exact ⟨x0, x1, x2, x3, x4, x5, x6, x7, rfl, h 0 _ rfl, h 1 _ rfl, h 2 _ rfl, h 3 _ rfl, h 4 _ rfl, h 5 _ rfl, h 6 _ rfl, h 7 _ rfl⟩
theorem results_swp (tmps : Array Value) (w : World) (g : Nat) (cs : List Value) (hp : tmps.getD 2 undef = .pointer (some ⟨g, 0, none⟩)) (hc : w.rangeAt g 0 cs) (hl : cs.length = 8) :
    (results Tryd.f28 tmps).run Tryd.prog w = .ok (.agg cs.toArray) w := by
  have hr : Tryd.f28.results = #[.cell 2 39] := rfl
  obtain ⟨x0, x1, x2, x3, x4, x5, x6, x7, rfl, h0, h1, h2, h3, h4, h5, h6, h7⟩ := range_eight hc hl
  unfold results
  rw [hr]
  simp at hp
  simp [hp, asAddr, go_sem, h0, h1, h2, h3, h4, h5, h6, h7]
theorem u8s_one8 (l : List UInt8) : ∀ v ∈ u8s l, v.oneCell' = true := fun v hv => by
  obtain ⟨x, _, rfl⟩ := List.mem_map.1 hv
  rfl

set_option maxRecDepth 100000 in
set_option maxHeartbeats 1000000 in
theorem swpOf_any (s : ByteArray) (w : World) (hs : s.size ≤ 8) :
    Calls Tryd.prog 28 #[.string s] w fun e w' => e = .returned (swpV (byt s)) ∧ Below w.heap.size w w' := by
  obtain ⟨W2, hW2⟩ : ∃ W2, W2 = (w.alloc zwO).alloc zwO := ⟨_, rfl⟩
  have hb1 : W2.heap[w.heap.size + 1]? = some zwO := by rw [hW2]; show ((w.heap.push zwO).push zwO)[w.heap.size + 1]? = _; rw [Array.getElem?_push, Array.size_push, if_pos rfl]
  have hb0 : W2.heap[w.heap.size]? = some zwO := by rw [hW2]; show ((w.heap.push zwO).push zwO)[w.heap.size]? = _; simp [Array.getElem?_push]
  have HB : Hid (Below w.heap.size w W2) := Lib.hid (by rw [hW2]; exact ((Below.refl _ _).alloc (Nat.le_refl _) _).alloc (by simp) _)
  have th : ∀ b, W2.heap[b]? = some zwO → W2.there b 0 8 := fun b hb j hj => by
    unfold World.cell? World.frozen?
    rw [Nat.zero_add, hb]
    rcases (by omega : j = 0 ∨ j = 1 ∨ j = 2 ∨ j = 3 ∨ j = 4 ∨ j = 5 ∨ j = 6 ∨ j = 7) with rfl | rfl | rfl | rfl | rfl | rfl | rfl | rfl <;> exact ⟨rfl, rfl⟩
  have hsz : ((byt s).map fun x => Value.int .u8 (x.toNat : Int)).length = s.size := by rw [List.length_map, byt_len]
  have hcp := fun ty => run_copy_string (P := Tryd.prog) W2 72 9 ty 5 (w.heap.size + 1) 0 8 8 s Tryd.underlying72 Tryd.sizeOf5 hs (fun j hj => (th _ hb1 j (by omega)).1) (fun j hj => (th _ hb1 j (by omega)).2)
  obtain ⟨W3, hW3⟩ : ∃ W3, W3 = W2.setCells (w.heap.size + 1) 0 ((byt s).map fun x => Value.int .u8 (x.toNat : Int)) := ⟨_, rfl⟩
  have hcp2 : ∀ ty, (Builtin.copy_ #[72, 9] ty #[.slice (some ⟨w.heap.size + 1, 0, none⟩) 8 8, .string s]).run Tryd.prog W2 = .ok (goInt s.size) W3 := by rw [hW3]; exact hcp
  have HRG : Hid (W3.rangeAt (w.heap.size + 1) 0 (u8s (swpP (byt s)))) := Lib.hid fun j v hv => by
    rw [hW3]
    unfold swpP u8s at hv
    rw [List.map_append] at hv
    by_cases h : j < s.size
    · rw [List.getElem?_append_left (by omega)] at hv
      have hh := World.cell?_setCells_in (w.heap.size + 1) ((byt s).map fun x => Value.int .u8 (x.toNat : Int)) 0 W2 (fun i hi => (th _ hb1 i (by omega)).1) j (by omega)
      rw [hh, ← hv, List.getElem?_eq_getElem (by omega)]
    · rw [List.getElem?_append_right (by omega), hsz] at hv
      rw [World.cell?_setCells_out _ _ _ _ _ (fun _ _ => .inr (by show 0 + _ ≤ 0 + j; omega))]
      have hj9 : j < 8 := by
        have := (List.getElem?_eq_some_iff.1 hv).1
        rw [List.length_map, List.length_replicate, byt_len] at this
        omega
      have hv0 : v = .int .u8 0 := by
        rw [List.map_replicate, List.getElem?_replicate] at hv
        split at hv
        · injection hv with hv; exact hv.symm
        · cases hv
      rw [hv0, Nat.zero_add]
      unfold World.cell?
      rw [hb1]
      rcases (by omega : j = 0 ∨ j = 1 ∨ j = 2 ∨ j = 3 ∨ j = 4 ∨ j = 5 ∨ j = 6 ∨ j = 7) with rfl | rfl | rfl | rfl | rfl | rfl | rfl | rfl <;> rfl
  have HTH : Hid (W3.there w.heap.size 0 (u8s (swpP (byt s))).toArray.size) := Lib.hid (by
    have e9 : (u8s (swpP (byt s))).toArray.size = 8 := by rw [List.size_toArray, u8s_len, swpP_len (by rw [byt_len]; exact hs)]
    rw [hW3, e9]
    exact World.there_setCells (th _ hb0) _ _ _)
  have HB3 : Hid (Below w.heap.size w W3) := Lib.hid (by rw [hW3]; exact below_setCells (by omega) _ _ _ HB.out)
  have hl9 : (u8s (swpP (byt s))).length = 8 := by rw [u8s_len, swpP_len (by rw [byt_len]; exact hs)]
  have hi1 : (Tryd.prog.info? 39).map (·.size) = some (u8s (swpP (byt s))).length := by rw [Tryd.infoSwl, hl9]
  have hi2 : (Tryd.prog.info? 39).map (·.size) = some (u8s (swpP (byt s))).toArray.size := by rw [List.size_toArray]; exact hi1
  have h1c := all_oneCell_toArray (u8s_one8 (swpP (byt s)))
  have HI1 := Lib.hid hi1
  have HI2 := Lib.hid hi2
  have H1C := Lib.hid h1c
  have HL9 := Lib.hid hl9
  clear hcp hb0 hb1 th hsz hi1 hi2 h1c hl9 HB
  unfold swpV
  generalize u8s (swpP (byt s)) = cs at HRG HTH HI1 HI2 H1C HL9
  go_enter Tryd.func28, Tryd.ntmps28
  go_wp2
  rw [← hW2, hcp2]
  clear hW2 hcp2 hW3
  simp only [Result.andThen]
  rw [Oper.upon_value]
  go_wp2_with (first | (refine wpList_load_mid rfl 39 (.tmp 3) rfl (w.heap.size + 1) 0 rfl cs _ HRG.out Tryd.underlying39 rfl HI1.out ?_) | (refine wpList_store_mid rfl 39 (.tmp 2) (.tmp 7) rfl w.heap.size 0 cs.toArray rfl rfl HTH.out HI2.out H1C.out ?_))
  have hth : W3.there w.heap.size 0 cs.length := by have := HTH.out; rwa [List.size_toArray] at this
  exact bodyPost_ret (results_swp _ _ w.heap.size cs rfl (World.rangeAt_setCells_same _ _ _ _ hth) HL9.out) rfl ⟨rfl, below_setCells (Nat.le_refl _) _ _ _ HB3.out⟩

/-- The ring behind a move: the array. -/
theorem swpP_set {l : List UInt8} (a b : Nat) (x : UInt8) (hb : b < l.length) (ha : a < l.length) : ((swpP l).set b x).set a 46 = swpP ((l.set b x).set a 46) := by
  unfold swpP
  rw [List.set_append_left _ _ hb, List.set_append_left _ _ (by rw [List.length_set]; exact ha)]
  simp
theorem u8s_set8 (l : List UInt8) (a : Nat) (x : UInt8) : (u8s l).set a (.int .u8 (x.toNat : Int)) = u8s (l.set a x) := by simp [u8s, List.map_set]
theorem results_behindW (tmps : Array Value) (w : World) (g : Nat) (cs : List Value) (hp : tmps.getD 4 undef = .pointer (some ⟨g, 0, none⟩)) (hc : w.rangeAt g 0 cs) (hl : cs.length = 8) :
    (results Tryd.f33 tmps).run Tryd.prog w = .ok (.agg cs.toArray) w := by
  have hr : Tryd.f33.results = #[.cell 4 39] := rfl
  obtain ⟨x0, x1, x2, x3, x4, x5, x6, x7, rfl, h0, h1, h2, h3, h4, h5, h6, h7⟩ := range_eight hc hl
  unfold results
  rw [hr]
  simp at hp
  simp [hp, asAddr, go_sem, h0, h1, h2, h3, h4, h5, h6, h7]
abbrev swO (cs : List Value) : Obj := .cells cs.toArray 39

set_option maxRecDepth 100000 in
set_option maxHeartbeats 2000000 in
theorem swpBehind_any (l : List UInt8) (a b : Nat) (w : World) (hl : l.length ≤ 8) (ha : a < l.length) (hb : b < l.length) (hne : a ≠ b) :
    Calls Tryd.prog 33 #[swpV l, .agg #[.int .i64 a, .int .i64 b]] w fun e w' => e = .returned (swpV ((l.set b (l.getD a 0)).set a 46)) ∧ Below w.heap.size w w' := by
  have h9 := swpP_len hl
  have hsetP := swpP_set a b (l.getD a 0) hb ha
  obtain ⟨x, hx⟩ : ∃ x, x = l.getD a 0 := ⟨_, rfl⟩
  have hpa : (swpP l)[a]? = some x := by
    rw [hx]
    unfold swpP
    rw [List.getElem?_append_left ha, List.getD_eq_getElem?_getD, List.getElem?_eq_getElem ha]
    rfl
  rw [← hx] at hsetP ⊢
  have hV : ∀ q : List UInt8, swpV q = .agg (u8s (swpP q)).toArray := fun _ => rfl
  rw [hV ((l.set b x).set a 46), ← hsetP]
  have ha9 : a < 8 := by omega
  have hb9 : b < 8 := by omega
  clear hx hsetP ha hb hl
  rw [hV l]
  generalize swpP l = p at h9 hpa
  obtain ⟨c0, c1, c2, c3, c4, c5, c6, c7, rfl⟩ := swp_eight h9
  have hv : (Value.agg (u8s [c0, c1, c2, c3, c4, c5, c6, c7]).toArray) = .agg #[.int .u8 c0.toNat, .int .u8 c1.toNat, .int .u8 c2.toNat, .int .u8 c3.toNat, .int .u8 c4.toNat, .int .u8 c5.toNat, .int .u8 c6.toNat, .int .u8 c7.toNat] := rfl
  obtain ⟨P, hP⟩ : ∃ P, P = [c0, c1, c2, c3, c4, c5, c6, c7] := ⟨_, rfl⟩
  rw [← hP] at hpa h9 ⊢
  obtain ⟨W3, hW3⟩ : ∃ W3, W3 = (((w.alloc (swO (u8s P))).alloc (Obj.cells #[Value.int .i64 a, Value.int .i64 b] 55)).alloc zwO) := ⟨_, rfl⟩
  have k0 : W3.heap[w.heap.size]? = some (swO (u8s P)) := by
    rw [hW3]; show (((w.heap.push _).push _).push _)[w.heap.size]? = _
    rw [Array.getElem?_push, if_neg (by simp; omega), Array.getElem?_push, if_neg (by simp), Array.getElem?_push, if_pos rfl]
  have k1 : W3.heap[w.heap.size + 1]? = some (Obj.cells #[Value.int .i64 a, Value.int .i64 b] 55) := by
    rw [hW3]; show (((w.heap.push _).push _).push _)[w.heap.size + 1]? = _
    rw [Array.getElem?_push, if_neg (by simp), Array.getElem?_push, Array.size_push, if_pos rfl]
  have k2 : W3.heap[w.heap.size + 1 + 1]? = some zwO := by
    rw [hW3]; show (((w.heap.push _).push _).push _)[w.heap.size + 1 + 1]? = _
    rw [Array.getElem?_push, Array.size_push, Array.size_push, if_pos rfl]
  have HB : Hid (Below w.heap.size w W3) := Lib.hid (by rw [hW3]; exact (((Below.refl _ _).alloc (Nat.le_refl _) _).alloc (by simp) _).alloc (by simp; omega) _)
  have cl : ∀ j (hj : j < P.length), W3.cell? ⟨w.heap.size, j, none⟩ = some (.int .u8 (P[j].toNat : Int)) := fun j hj => by
    unfold World.cell?
    rw [k0]
    show ((u8s P).toArray)[j]? = _
    rw [List.getElem?_toArray]
    exact u8s_at8 P j hj
  have fr : ∀ j, j < 8 → W3.frozen? ⟨w.heap.size, j, none⟩ = false := fun j hj => by
    unfold World.frozen?
    rw [k0]
    simp
  have hth : W3.there (w.heap.size + 1 + 1) 0 8 := fun j hj => by
    unfold World.cell? World.frozen?
    rw [Nat.zero_add, k2]
    rcases (by omega : j = 0 ∨ j = 1 ∨ j = 2 ∨ j = 3 ∨ j = 4 ∨ j = 5 ∨ j = 6 ∨ j = 7) with rfl | rfl | rfl | rfl | rfl | rfl | rfl | rfl <;> exact ⟨rfl, rfl⟩
  have m0 : W3.cell? ⟨w.heap.size + 1, 0, none⟩ = some (.int .i64 a) := by unfold World.cell?; rw [k1]; rfl
  have m1 : W3.cell? ⟨w.heap.size + 1, 1, none⟩ = some (.int .i64 b) := by unfold World.cell?; rw [k1]; rfl
  have ea : W3.cell? ⟨w.heap.size, a, none⟩ = some (.int .u8 (x.toNat : Int)) := by
    rw [cl a (by omega)]
    rw [List.getElem?_eq_getElem (by omega)] at hpa
    injection hpa with hpa
    rw [hpa]
  have eb := cl b (by omega)
  generalize P[b]'(by omega) = y at eb
  have fa := fr a ha9
  have fb := fr b hb9
  have i1 : (0 : Int) ≤ (a : Int) := by omega
  have i2 : (a : Int) < 8 := by omega
  have i3 : (0 : Int) ≤ (b : Int) := by omega
  have i4 : (b : Int) < 8 := by omega
  obtain ⟨W4, hW4⟩ : ∃ W4, W4 = ((W3.setCell ⟨w.heap.size, b, none⟩ (.int .u8 (x.toNat : Int))).setCell ⟨w.heap.size, a, none⟩ (.int .u8 46)).drew := ⟨_, rfl⟩
  have HRG : Hid (W4.rangeAt w.heap.size 0 (u8s ((P.set b x).set a 46))) := Lib.hid fun j v hv => by
    rw [hW4, Nat.zero_add]
    have hj : j < P.length := by
      have := (List.getElem?_eq_some_iff.1 hv).1
      rw [u8s_len, List.length_set, List.length_set] at this
      exact this
    show ((W3.setCell ⟨w.heap.size, b, none⟩ (.int .u8 (x.toNat : Int))).setCell ⟨w.heap.size, a, none⟩ (.int .u8 46)).cell? ⟨w.heap.size, j, none⟩ = _
    by_cases e1 : j = a
    · subst e1
      rw [World.cell?_setCell_same _ _ _ (by rw [World.cell?_setCell_other _ _ _ _ (by intro e; injection e with _ e; omega)]; exact ea), ← hv]
      unfold u8s
      rw [List.getElem?_map, List.getElem?_set_self (by rw [List.length_set]; exact hj)]
      rfl
    · rw [World.cell?_setCell_other _ _ _ _ (by intro e; injection e with _ e; omega)]
      by_cases e2 : j = b
      · subst e2
        rw [World.cell?_setCell_same _ _ _ eb, ← hv]
        unfold u8s
        rw [List.getElem?_map, List.getElem?_set_ne (fun e => e1 e.symm), List.getElem?_set_self hj]
        rfl
      · rw [World.cell?_setCell_other _ _ _ _ (by intro e; injection e with _ e; omega), cl j hj, ← hv]
        unfold u8s
        rw [List.getElem?_map, List.getElem?_set_ne (fun e => e1 e.symm), List.getElem?_set_ne (fun e => e2 e.symm), List.getElem?_eq_getElem hj]
        rfl
  have HTH : Hid (W4.there (w.heap.size + 1 + 1) 0 8) := Lib.hid (by
    rw [hW4]
    intro j hj
    obtain ⟨t1, t2⟩ := hth j hj
    refine ⟨?_, ?_⟩
    · show (((W3.setCell ⟨w.heap.size, b, none⟩ (.int .u8 (x.toNat : Int))).setCell ⟨w.heap.size, a, none⟩ (.int .u8 46)).cell? _).isSome = true
      rw [World.cell?_setCell_other _ _ _ _ (by intro e; injection e with e; omega), World.cell?_setCell_other _ _ _ _ (by intro e; injection e with e; omega)]
      exact t1
    · have := World.frozen?_setCells w.heap.size [.int .u8 (x.toNat : Int)] b W3 ⟨w.heap.size + 1 + 1, 0 + j, none⟩
      have h2 := World.frozen?_setCells w.heap.size [.int .u8 46] a (W3.setCell ⟨w.heap.size, b, none⟩ (.int .u8 (x.toNat : Int))) ⟨w.heap.size + 1 + 1, 0 + j, none⟩
      exact (h2.trans this).trans t2)
  have HB4 : Hid (Below w.heap.size w W4) := Lib.hid (by rw [hW4]; exact ((HB.out.setCell (Nat.le_refl _) _).setCell (Nat.le_refl _) _).drew)
  have HL9 : Hid ((u8s ((P.set b x).set a 46)).length = 8) := Lib.hid (by rw [u8s_len, List.length_set, List.length_set]; exact h9)
  have HI1 : Hid ((Tryd.prog.info? 39).map (·.size) = some (u8s ((P.set b x).set a 46)).length) := Lib.hid (by rw [Tryd.infoSwl, HL9.out])
  have HI2 : Hid ((Tryd.prog.info? 39).map (·.size) = some (u8s ((P.set b x).set a 46)).toArray.size) := Lib.hid (by rw [List.size_toArray]; exact HI1.out)
  have H1C := Lib.hid (all_oneCell_toArray (u8s_one8 ((P.set b x).set a 46)))
  have e9 : (u8s ((P.set b x).set a 46)).toArray.size = 8 := by
    rw [List.size_toArray]
    exact HL9.out
  have HT2 : Hid (W4.there (w.heap.size + 1 + 1) 0 (u8s ((P.set b x).set a 46)).toArray.size) := Lib.hid (by
    rw [e9]
    exact HTH.out)
  clear e9
  have HW3 : Hid (((w.alloc (Obj.cells #[.int .u8 c0.toNat, .int .u8 c1.toNat, .int .u8 c2.toNat, .int .u8 c3.toNat, .int .u8 c4.toNat, .int .u8 c5.toNat, .int .u8 c6.toNat, .int .u8 c7.toNat] 39)).alloc (Obj.cells #[Value.int .i64 a, Value.int .i64 b] 55)).alloc zwO = W3) := Lib.hid (by rw [hW3, hP]; rfl)
  generalize u8s ((P.set b x).set a 46) = cs at HRG HL9 HI1 HI2 H1C HT2 ⊢
  rw [hP, hv]
  clear hW3 hV hP hpa h9 k0 k1 k2 HB cl fr hth HTH
  go_enter Tryd.func33, Tryd.ntmps33
  go_wp2
  rw [HW3.out]
  clear HW3
  go_region
  rw [← hW4]
  clear hW4 ea eb fa fb m0 m1
  go_wp2_with (first | (refine wpList_load_mid rfl 39 (.tmp 2) rfl w.heap.size 0 rfl cs _ HRG.out Tryd.underlying39 rfl HI1.out ?_) | (refine wpList_store_mid rfl 39 (.tmp 4) (.tmp 15) rfl (w.heap.size + 1 + 1) 0 cs.toArray rfl rfl HT2.out HI2.out H1C.out ?_))
  have hth : W4.there (w.heap.size + 1 + 1) 0 cs.length := by have := HT2.out; rwa [List.size_toArray] at this
  exact bodyPost_ret (results_behindW _ _ (w.heap.size + 1 + 1) cs rfl (World.rangeAt_setCells_same _ _ _ _ hth) HL9.out) rfl ⟨rfl, below_setCells (by omega) _ _ _ HB4.out⟩
end Go.Proofs.YtfiifjcjmnhbnaaDoor
