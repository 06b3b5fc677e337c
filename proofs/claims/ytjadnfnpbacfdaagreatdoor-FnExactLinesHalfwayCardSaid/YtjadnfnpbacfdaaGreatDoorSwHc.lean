/- Contract: the live lines halfway, the program's. -/
import Derived.Test.YtjadnfnpbacfdaaGreatDoorSwHb
import Derived.Test.YtjadnfnpbacfdaaGreatDoorSrts
import Derived.Maps.RangeWalk
import Derived.Sort.Walk0
import Derived.Sort.OwnSorted
namespace Go.Proofs.YtjadnfnpbacfdaaGreatDoor
open Go.RowKit Go.Shelf Go.Maps Go.Sort

theorem sorted_isW {ss l : List (List UInt8)} (hn : ss.Nodup) (hr : Rising l) (hm : ∀ v, v ∈ ss ↔ v ∈ l) : ss.mergeSort (fun x y => decide (x ≤ y)) = l := by
  have tr : ∀ a b c : List UInt8, decide (a ≤ b) = true → decide (b ≤ c) = true → decide (a ≤ c) = true := fun a b c h1 h2 => by simp only [decide_eq_true_eq] at *; exact List.le_trans h1 h2
  have tot : ∀ a b : List UInt8, (decide (a ≤ b) || decide (b ≤ a)) = true := fun a b => by simp only [Bool.or_eq_true, decide_eq_true_eq]; exact List.le_total a b
  have hs := List.pairwise_mergeSort tr tot ss
  have hp := List.mergeSort_perm ss (fun x y => decide (x ≤ y))
  have hn2 : (ss.mergeSort (fun x y => decide (x ≤ y))).Nodup := hp.nodup_iff.2 hn
  refine rising_ext ?_ hr fun v => (hp.mem_iff).trans (hm v)
  refine (hs.and hn2).imp fun {a b} h => ?_
  have h1 : a ≤ b := by simpa using h.1
  by_cases hlt : a < b
  · exact hlt
  · exact absurd (List.le_antisymm h1 (List.not_lt.1 hlt)) h.2
set_option maxHeartbeats 1000000 in
theorem sortRow_W (v : Value) (base : Nat) (ss : List (List UInt8)) (w : World) (hown : w.ownsRow base 9 1 v ss.length (txs ss)) (hbase : base ≤ w.heap.size) (hl : ss.length ≤ 60000) :
    Calls Tryz.prog 16 #[v] w fun e w' => e = .returned (.tuple #[]) ∧ w'.ownsRow base 9 1 v ss.length (txs (ss.mergeSort fun x y => decide (x ≤ y))) ∧ Below base w w' := by
  rcases hown with ⟨hlen, ⟨hv, h0⟩ | ⟨g, cap, cur, rfl, hg0, hg, hle, hm, hs, ht⟩⟩
  · have h2 : ss.length = 0 := by have h3 := txs_len ss; omega
    obtain rfl := List.eq_nil_of_length_eq_zero h2
    subst hv
    refine (AnyM.slices_Sort_string_none Tryz.sort16 none 0 w).mono ?_
    rintro e w' ⟨rfl, rfl⟩
    exact ⟨rfl, ⟨by simp [txs], .inl ⟨rfl, rfl⟩⟩, Below.refl _ _⟩
  · rw [Nat.mul_one] at ht
    refine (AnyM.slices_Sort_string Tryz.sort16 g 0 cap ss w (holds_of_block hg ht) (lt_of_block hg) (by omega)).mono ?_
    rintro e w' ⟨rfl, n, os, rfl⟩
    refine ⟨rfl, ownsRow_sorted (by rw [List.length_mergeSort]) hg0 hg hle hm hs, (Below.refl base w).grown (grownBy_sorted _) hbase fun i hi => ?_⟩
    injection hi with hi
    omega
/-- Is a line halfway? -/
def hfB (K : Nat) (x : List UInt8) : Bool := decide ((K : Int) - msL x = ((K / 2 : Nat) : Int))
/-- Where the walk over the map stands. -/
structure HfV (W0 : World) (bm r N : Nat) (D : DataW Unit) (l : List UInt8) (vs : List (List UInt8)) (left : Lit → Bool) (cnt : Nat) (W : World) : Prop where
  rng : W.ranges Tryz.prog 38 iRw bm r N D left cnt
  nodup : vs.Nodup
  mem : ∀ x ∈ vs, x ∈ lvA l
  lft : ∀ x ∈ lvA l, x ∉ vs → left (.string (kbW x)) = true
  lft2 : ∀ x ∈ lvA l, left (.string (kbW x)) = true → x ∉ vs
  below : Below r W0 W
/-- The lines that are halfway, of those that have come. -/
def HfR (r K : Nat) (vs : List (List UInt8)) (v : Value) (W : World) : Prop := W.ownsRow (r + 1) 9 1 v (vs.filter (hfB K)).length (txs (vs.filter (hfB K)))
section
variable {W0 W W' w3 : World} {bm r N K : Nat} {D : DataW Unit} {l x : List UInt8} {vs : List (List UInt8)} {v v' : Value} {left : Lit → Bool} {cnt : Nat} {row : Option Nat}
theorem HfV.grown (h : HfV W0 bm r N D l vs left cnt W) (hbm : bm < r) (hg : W.grownBy W' row) (hr : ∀ j, row = some j → r + 1 ≤ j) : HfV W0 bm r N D l vs left cnt W' :=
  ⟨h.rng.kept hg (fun e => by have := hr bm e.symm; omega) (fun e => by have := hr r e.symm; omega), h.nodup, h.mem, h.lft, h.lft2, h.below.grown hg (Nat.le_of_lt h.rng.lt) fun j hj => by have := hr j hj; omega⟩
theorem HfV.later (h : HfV W0 bm r N D l vs left cnt W) (hb : Below W.heap.size W W') : HfV W0 bm r N D l vs left cnt W' :=
  ⟨h.rng.kept (grown_of_below hb) (by simp) (by simp), h.nodup, h.mem, h.lft, h.lft2, h.below.trans (hb.mono (Nat.le_of_lt h.rng.lt))⟩
theorem strike_eq {a b : List UInt8} : (Lit.string a).sameKey (.string b) = decide (a = b) := by
  by_cases h : a = b <;> simp [Lit.sameKey, h]
/-- A line has come. -/
theorem HfV.come (h : HfV W0 bm r N D l vs left cnt W) (hG : ∀ x ∈ lvA l, G8 x) (hx : x ∈ lvA l) (hn : x ∉ vs) {cnt2 : Nat} (hr : W'.ranges Tryz.prog 38 iRw bm r N D (fun z => left z && !z.sameKey (.string (kbW x))) cnt2) (hg : W.grownBy W' (some r)) :
    HfV W0 bm r N D l (vs ++ [x]) (fun z => left z && !z.sameKey (.string (kbW x))) cnt2 W' := by
  refine ⟨hr, List.nodup_append.2 ⟨h.nodup, by simp, fun a ha b hb e => ?_⟩, fun y hy => ?_, fun y hy hyn => ?_, fun y hy hyl => ?_, h.below.grown hg (Nat.le_of_lt h.rng.lt) fun j hj => by injection hj with hj; omega⟩
  · simp at hb
    subst hb
    subst e
    exact hn ha
  · rcases List.mem_append.1 hy with hy | hy
    · exact h.mem y hy
    · simp at hy; subst hy; exact hx
  · simp at hyn
    rw [h.lft y hy hyn.1, strike_eq, decide_eq_false fun e => hyn.2 (kbW_inj (hG y hy) (hG x hx) e)]
    rfl
  · rw [Bool.and_eq_true] at hyl
    have h1 := h.lft2 y hy hyl.1
    intro hm
    rcases List.mem_append.1 hm with hm | hm
    · exact h1 hm
    · simp at hm
      subst hm
      have := hyl.2
      rw [strike_eq] at this
      simp at this
theorem HfR.nohalf (h : HfR r K vs v W) (hx : hfB K x = false) : HfR r K (vs ++ [x]) v W := by
  unfold HfR at h ⊢
  rw [List.filter_append, List.filter_cons_of_neg (by rw [hx]; decide)]
  simpa using h
theorem HfR.half (hx : hfB K x = true) (hr : W.ownsRow (r + 1) 9 1 v ((vs.filter (hfB K)).length + 1) (txs (vs.filter (hfB K)) ++ [.string (str x)])) : HfR r K (vs ++ [x]) v W := by
  unfold HfR
  rw [List.filter_append, List.filter_cons_of_pos hx, txs_app, List.length_append]
  exact hr
end
set_option maxRecDepth 100000 in
set_option maxHeartbeats 4000000 in
theorem half_no (t g f : Int) (w : World) (h : hvB t g f = false) :
    Calls Tryz.prog 5 #[.int .i64 t, .int .i64 g, .int .i64 f] w fun e w' => e = .returned (.tuple #[.slice none 0 0, .bool false]) ∧ Below w.heap.size w w' := by
  cases hc : few t g f
  · have HX := Lib.hid (fun wx => exchangeOf_no t g f wx hc)
    clear hc h
    go_enter Tryz.func5, Tryz.ntmps5
    go_wp2_with fail
    refine (HX.out _).mono ?_
    rintro e w1 ⟨rfl, hb1⟩
    have HB := Lib.hid hb1
    clear hb1
    go_wp2_with fail
    go_ret2
    exact ⟨rfl, HB.out.alloc HB.out.size _⟩
  · have HX := Lib.hid (fun wx => exchangeOf_yes t g f wx hc)
    have hg := first_goodT hc
    have h8 : (t + g + f).toNat ≤ 8 := by have := (few_iff t g f).1 hc; omega
    have HLA := Lib.hid (fun x (hx : x ∈ swA (firstL t.toNat g.toNat f.toNat)) => G8.of (swA_good hg x hx) h8)
    have HL8 := Lib.hid (G8.of hg h8)
    have hx : hasX t g f = false := by
      rw [has_ex hc]
      unfold hvB at h
      rw [hc] at h
      simpa using h
    have HD0 : Hid (decide (0 < lvN (swA (firstL t.toNat g.toNat f.toNat)) (firstL t.toNat g.toNat f.toNat)) = false) := Lib.hid (by
      rw [lvN_root]
      unfold hasX at hx
      rw [hc] at hx
      simpa using hx)
    clear hc hg h8 h hx
    generalize firstL t.toNat g.toNat f.toNat = l at *
    go_enter Tryz.func5, Tryz.ntmps5
    go_wp2_with fail
    refine (HX.out _).mono ?_
    rintro e w1 ⟨bm, D, c0, c1, c2, c3, c4, c5, c6, c7, hc, rfl, hbm, hmap, hlv, hb1⟩
    have HEX := Lib.hid (fun wx (hm : wx.ownsMap Tryz.prog 38 iRw bm (swA l).length D) => exists_any l (swA l) c0 c1 c2 c3 c4 c5 c6 c7 (msL l) bm (swA l).length D wx hc HL8.out hm hlv HLA.out)
    have HM1 := Lib.hid (hmap.alloc (Obj.cells #[.int .u8 c0, .int .u8 c1, .int .u8 c2, .int .u8 c3, .int .u8 c4, .int .u8 c5, .int .u8 c6, .int .u8 c7, .int .i64 (msL l), .map (some bm)] 42))
    have HB1 := Lib.hid (hb1.alloc hb1.size (Obj.cells #[.int .u8 c0, .int .u8 c1, .int .u8 c2, .int .u8 c3, .int .u8 c4, .int .u8 c5, .int .u8 c6, .int .u8 c7, .int .i64 (msL l), .map (some bm)] 42))
    clear hmap hb1 hc hlv
    generalize msL l = ms at *
    go_wp2_with fail
    refine (HEX.out _ HM1.out).mono ?_
    rintro e w3 ⟨rfl, hb3⟩
    rw [HD0.out]
    have HB3 := Lib.hid (HB1.out.trans (hb3.mono HB1.out.size))
    clear hb3
    go_wp2_with fail
    go_ret2
    exact ⟨rfl, HB3.out⟩
def HpPost (l : List (List UInt8)) (w : World) (e : Ending) (w' : World) : Prop :=
  ∃ v, e = .returned (.tuple #[v, .bool true]) ∧ w'.ownsRow w.heap.size 9 1 v l.length (txs l) ∧ Below w.heap.size w w'
set_option maxRecDepth 100000 in
set_option maxHeartbeats 16000000 in
theorem half_yes (t g f : Int) (w : World) (h : hvB t g f = true) :
    Calls Tryz.prog 5 #[.int .i64 t, .int .i64 g, .int .i64 f] w (HpPost (hvL t g f) w) := by
  obtain ⟨i0, hi, hz0, hz1, hz2⟩ := info_parts Tryz.infoS
  have HI := Lib.hid hi
  have HZ0 := Lib.hid hz0
  have HZ1 := Lib.hid hz1
  have HZ2 := Lib.hid hz2
  clear hi hz0 hz1 hz2
  obtain ⟨hc, h0, K, hK1, hK2, hK3, hK4⟩ := hv_parts h
  have HX := Lib.hid (fun wx => exchangeOf_yes t g f wx hc)
  have hg := first_goodT hc
  have h8 : (t + g + f).toNat ≤ 8 := by have := (few_iff t g f).1 hc; omega
  unfold hvL
  rw [hK3]
  unfold ExYes at HX
  rw [hK2] at HX
  generalize (t + g + f).toNat = n at *
  generalize firstL t.toNat g.toNat f.toNat = l at *
  have HLA := Lib.hid (fun x (hx : x ∈ swA l) => G8.of (swA_good hg x hx) h8)
  have HLV8 := Lib.hid (fun x (hx : x ∈ lvA l) => G8.of (swA_good hg x (List.mem_filter.1 hx).1) h8)
  have HL8 := Lib.hid (G8.of hg h8)
  have HD0 : Hid (decide (0 < lvN (swA l) l) = true) := Lib.hid (by rw [lvN_root]; simpa using h0)
  have HFV : Hid (∀ vs : List (List UInt8), vs.Nodup → (∀ x ∈ vs, x ∈ lvA l) → vs.length ≤ 59049) := Lib.hid fun vs h1 h2 => few_good h1 fun x hx => swA_good hg x (List.mem_filter.1 (h2 x hx)).1
  have HMS : Hid (∀ x ∈ lvA l, ∃ m : Nat, msL x = m ∧ m ≤ K) := Lib.hid fun x hx => by
    obtain ⟨h1, h2⟩ := List.mem_filter.1 hx
    obtain ⟨k, hk⟩ := (layW_iff hg h0).2 ⟨h1, lvB_iff.1 h2⟩
    have h3 := layW_good hg h0 k x hk
    have h4 := (live_ms _ x h3.1 (Nat.le_refl _) h3.2.1).1
    exact ⟨(msL x).toNat, by omega, by omega⟩
  have HML := Lib.hid (fun x (hx : x ∈ lvA l) wx => swLeft_any n x wx (swA_good hg x (List.mem_filter.1 hx).1) h8)
  have HTX := Lib.hid (fun x (hx : x ∈ lvA l) wx => swpText_any x wx (G8.of (swA_good hg x (List.mem_filter.1 hx).1) h8).len (G8.of (swA_good hg x (List.mem_filter.1 hx).1) h8).nz)
  have HSORT : Hid (∀ vs : List (List UInt8), vs.Nodup → (∀ x, x ∈ vs ↔ x ∈ lvA l) → (vs.filter (hfB K)).mergeSort (fun x y => decide (x ≤ y)) = insAll (layW l (K / 2)) []) := Lib.hid fun vs hn hm => by
    refine sorted_isW (hn.sublist List.filter_sublist) (rising_insAll _ _ (by simp [Rising])) fun x => ?_
    rw [List.mem_filter, hm x, mem_insAll, layW_at hg h0, hK2]
    unfold lvA hfB
    rw [List.mem_filter, lvB_iff, decide_eq_true_iff]
    constructor
    · rintro ⟨⟨a, b⟩, c⟩; exact .inl ⟨a, b, c⟩
    · rintro (⟨a, b, c⟩ | h)
      · exact ⟨⟨a, b⟩, c⟩
      · cases h
  have hdiv : ((K : Int)).tdiv 2 = ((K / 2 : Nat) : Int) := by rw [Int.tdiv_eq_ediv_of_nonneg (by omega)]; omega
  have HDIV := Lib.hid hdiv
  clear h hc hg h8 h0 hK1 hK2 hK3 hdiv
  generalize insAll (layW l (K / 2)) [] = Q at *
  go_enter Tryz.func5, Tryz.ntmps5
  go_wp2_with fail
  refine (HX.out _).mono ?_
  rintro e w1 ⟨bm, D, c0, c1, c2, c3, c4, c5, c6, c7, hce, rfl, hbm, hmap, hlv, hb1⟩
  have HEX := Lib.hid (fun wx (hm : wx.ownsMap Tryz.prog 38 iRw bm (swA l).length D) => exists_any l (swA l) c0 c1 c2 c3 c4 c5 c6 c7 (K : Int) bm (swA l).length D wx hce HL8.out hm hlv HLA.out)
  have HLVV := Lib.hid hlv
  have HM1 := Lib.hid (hmap.alloc (Obj.cells #[.int .u8 c0, .int .u8 c1, .int .u8 c2, .int .u8 c3, .int .u8 c4, .int .u8 c5, .int .u8 c6, .int .u8 c7, .int .i64 (K : Int), .map (some bm)] 42))
  have HB1 := Lib.hid (hb1.alloc hb1.size (Obj.cells #[.int .u8 c0, .int .u8 c1, .int .u8 c2, .int .u8 c3, .int .u8 c4, .int .u8 c5, .int .u8 c6, .int .u8 c7, .int .i64 (K : Int), .map (some bm)] 42))
  have hx1 : Hid ((w1.alloc (Obj.cells #[.int .u8 c0, .int .u8 c1, .int .u8 c2, .int .u8 c3, .int .u8 c4, .int .u8 c5, .int .u8 c6, .int .u8 c7, .int .i64 (K : Int), .map (some bm)] 42)).heap[w1.heap.size]? = some (Obj.cells #[.int .u8 c0, .int .u8 c1, .int .u8 c2, .int .u8 c3, .int .u8 c4, .int .u8 c5, .int .u8 c6, .int .u8 c7, .int .i64 (K : Int), .map (some bm)] 42)) := Lib.hid (heap_alloc_new w1 _)
  clear hmap hb1 hce hlv
  generalize hNk : (swA l).length = N at *
  clear hNk
  go_wp2_with fail
  refine (HEX.out _ HM1.out).mono ?_
  rintro e w3 ⟨rfl, hb3⟩
  rw [HD0.out]
  have hx3 := (hb3.block w1.heap.size (by simp)).trans hx1.out
  have hz3 : w1.heap.size < w3.heap.size := by have := hb3.size; simp at this; omega
  have q8 : w3.cell? ⟨w1.heap.size, 8, none⟩ = some (.int .i64 (K : Int)) := by simp [World.cell?, hx3]
  have q9 : w3.cell? ⟨w1.heap.size, 9, none⟩ = some (.map (some bm)) := by simp [World.cell?, hx3]
  have HM3 := Lib.hid (HM1.out.kept (grown_of_below hb3) (by simp))
  have HB3 := Lib.hid (HB1.out.trans (hb3.mono HB1.out.size))
  have HQ8 := Lib.hid q8
  clear hb3 hx3 HX HEX hx1
  go_wp2_with (first
    | (at_range; refine wpList_range_own _ rfl _ 40 rfl 38 3 Tryz.keysW Tryz.underlying40 _ bm N D rfl HM3.out ?_; intro w4 hrg0 hg0 hs0)
    | go_in)
  try go_frame
  have HST : Hid (∃ left cnt, HfV w3 bm w3.heap.size N D l [] left cnt w4) := Lib.hid ⟨_, _, hrg0, List.nodup_nil, fun x hx => by simp at hx, fun x hx _ => by
    obtain ⟨h1, h2⟩ := List.mem_filter.1 hx
    exact (HLVV.out.val x h1 (lvB_iff.1 h2)).1, fun x _ _ h => by simp at h, (Below.refl _ _).grown hg0 (Nat.le_refl _) (fun j hj => by cases hj)⟩
  clear hrg0 hg0 hs0 q8 q9
  go_loopw [10] (fun v wq => ∃ (vs : List (List UInt8)) (left : Lit → Bool) (cnt : Nat), HfV w3 bm w3.heap.size N D l vs left cnt wq ∧ HfR w3.heap.size K vs v wq) (fun _ wq => wq.rangeLeft bm w3.heap.size)
  case atStart =>
    obtain ⟨left, cnt, h⟩ := HST.out
    exact ⟨[], left, cnt, h, World.ownsRow_nil _ _ _ _⟩
  case round =>
    obtain ⟨vs, left, cnt, hH, hHR⟩ := hrel
    obtain ⟨wq, hwq⟩ : ∃ wq : World, wq = wr := ⟨_, rfl⟩
    subst hwq
    obtain ⟨vR, hvR⟩ : ∃ v : Value, v = u10 := ⟨_, rfl⟩
    subst hvR
    have hrg := hH.rng
    have hrg00 := hrg
    go_wp2_with (first
      | (at_next; refine wpList_next_ranges _ rfl _ rfl 38 Tryz.keysW iRw (fun v : Value => v) (fun q : Int => Value.int .i64 q) (fun key kl _ => ⟨key, rfl⟩) (fun v y hv => by obtain ⟨n, rfl, _⟩ := iRw_lit (d := y.1) (ps := y.2) hv; exact ⟨n, rfl⟩) bm w3.heap.size N _ _ _ rfl hrg ?_ ?_)
      | go_in)
    · intro hc0 hl0
      have hall : ∀ x, x ∈ vs ↔ x ∈ lvA l := fun x => ⟨hH.mem x, fun hx => by
        by_cases h : x ∈ vs
        · exact h
        · have := hH.lft x hx h
          rw [hl0] at this
          cases this⟩
      have hso := HSORT.out vs hH.nodup hall
      have hlen : (vs.filter (hfB K)).length ≤ 59049 := Nat.le_trans (List.length_filter_le _ _) (HFV.out vs hH.nodup hH.mem)
      have hrow : wq.ownsRow (w3.heap.size + 1) 9 1 vR (vs.filter (hfB K)).length (txs (vs.filter (hfB K))) := hHR
      have hlq : (vs.filter (hfB K)).length = Q.length := by rw [← hso, List.length_mergeSort]
      have HSR := Lib.hid (sortRow_W vR (w3.heap.size + 1) (vs.filter (hfB K)) wq hrow (by have := hrg.lt; omega) (by omega))
      rw [hso, hlq] at HSR
      have HBQ := Lib.hid (HB3.out.trans (hH.below.mono HB3.out.size))
      have hzq : w3.heap.size + 1 ≤ wq.heap.size := by have := hrg.lt; omega
      have hz0 : w.heap.size ≤ w3.heap.size + 1 := by have := HB3.out.size; omega
      clear hH hHR hrg hrg00 hl0 hall hso hrow hlen hlq
      go_wp2_with fail
      refine HSR.out.mono ?_
      rintro e w5 ⟨rfl, ho5, hb5⟩
      have HO5 := Lib.hid (own_lowerW ho5 hz0)
      have HB5 := Lib.hid (HBQ.out.trans (hb5.mono (by omega)))
      clear ho5 hb5
      go_wp2_with fail
      go_ret2
      exact ⟨vR, rfl, HO5.out, HB5.out⟩
    · intro x c kl yd yp w2' cnt2 hkey hlk hv hat hrg2 hlt2 hg2 hs2 hen
      obtain ⟨s, rfl⟩ := keyOf_w hkey
      obtain ⟨y, hyA, hy0, rfl⟩ := HLVV.out.key s (has_true_of_atKey hat)
      have hyl : y ∈ lvA l := List.mem_filter.2 ⟨hyA, lvB_iff.2 hy0⟩
      have hy8 := HLV8.out y hyl
      obtain rfl : x = swpV y := Tryz.keysW.inj hkey (keyW hy8.len)
      have hnv := hH.lft2 y hyl hlk
      obtain ⟨d0, d1, d2, d3, d4, d5, d6, d7, hd⟩ := eight_of hy8.len
      have HML2 := Lib.hid (HML.out y hyl)
      have HTX2 := Lib.hid (HTX.out y hyl)
      obtain ⟨m, hm, hmK⟩ := HMS.out y hyl
      have hfb : hfB K y = decide ((K : Int) - (m : Int) = ((K / 2 : Nat) : Int)) := by unfold hfB; rw [hm]
      rw [hd.val] at HML2 HTX2 hen ⊢
      rw [hm] at HML2
      have HEN := Lib.hid hen
      have hbm3 : bm < w3.heap.size := HM3.out.lt
      have H2 := Lib.hid (hH.come HLV8.out hyl hnv hrg2 hg2)
      have HR2 : Hid (HfR w3.heap.size K vs vR w2') := Lib.hid (World.ownsRow.kept hHR hg2 (by
        rcases hHR.2 with ⟨hv, _⟩ | ⟨g, cap, cur, hv, hb, _⟩
        · subst hv; exact .inl rfl
        · subst hv
          refine .inr fun e => ?_
          injection e with e
          have e : g = w3.heap.size := e
          omega))
      have hfew2 : (vs.filter (hfB K)).length ≤ 59049 := Nat.le_trans (List.length_filter_le _ _) (HFV.out vs hH.nodup hH.mem)
      have hKm : IntKind.i64.wrap ((K : Int) - (m : Int)) = (K : Int) - (m : Int) := by rw [IntKind.wrap_i64]; omega
      have hdv := HDIV.out
      have hkw : IntKind.i64.wrap ((K / 2 : Nat) : Int) = ((K / 2 : Nat) : Int) := by rw [IntKind.wrap_i64]; omega
      have HLT2 := Lib.hid hlt2
      have HRG00 := Lib.hid hrg00
      clear hkey hlk hv hat hrg2 hg2 hs2 hH hHR hrg hnv hyA hy0 hyl hy8 hm hd HST hlt2 hrg00
      go_upto_region 8 with fail
      generalize hV1 : w2'.alloc (Obj.cells #[.int .u8 d0, .int .u8 d1, .int .u8 d2, .int .u8 d3, .int .u8 d4, .int .u8 d5, .int .u8 d6, .int .u8 d7] 38) = V1
      have hbv : Below w2'.heap.size w2' V1 := by rw [← hV1]; exact (Below.refl _ _).alloc (Nat.le_refl _) _
      have hx : Box8 V1 w2'.heap.size d0 d1 d2 d3 d4 d5 d6 d7 := by rw [← hV1]; exact Box8.new _ _ _ _ _ _ _ _ _
      have H3 := Lib.hid (H2.out.later hbv)
      have HR3 : Hid (HfR w3.heap.size K vs vR V1) := Lib.hid (own_below HR2.out hbv)
      have hBV : Below w3.heap.size w3 V1 := H3.out.below
      have hzV : w1.heap.size < V1.heap.size := by have := hBV.size; omega
      have hK : ∀ w', Below V1.heap.size V1 w' → (w'.cell? ⟨w1.heap.size, 8, none⟩ = some (.int .i64 (K : Int)) ∧ w'.cell? ⟨w2'.heap.size, 0, none⟩ = some (.int .u8 d0) ∧ w'.cell? ⟨w2'.heap.size, 1, none⟩ = some (.int .u8 d1) ∧ w'.cell? ⟨w2'.heap.size, 2, none⟩ = some (.int .u8 d2) ∧ w'.cell? ⟨w2'.heap.size, 3, none⟩ = some (.int .u8 d3) ∧ w'.cell? ⟨w2'.heap.size, 4, none⟩ = some (.int .u8 d4) ∧ w'.cell? ⟨w2'.heap.size, 5, none⟩ = some (.int .u8 d5) ∧ w'.cell? ⟨w2'.heap.size, 6, none⟩ = some (.int .u8 d6) ∧ w'.cell? ⟨w2'.heap.size, 7, none⟩ = some (.int .u8 d7)) := fun w' hb => by
        obtain ⟨a0, a1, a2, a3, a4, a5, a6, a7⟩ := (hx.kept (grown_of_below hb) (by simp)).cells.zero
        exact ⟨(hb.cell (p := ⟨w1.heap.size, 8, none⟩) hzV).trans ((hBV.cell (p := ⟨w1.heap.size, 8, none⟩) hz3).trans HQ8.out), a0, a1, a2, a3, a4, a5, a6, a7⟩
      have HK := Lib.hid hK
      clear hV1 hbv hx hBV hK hen
      cases hb : hfB K y
      · have hq : (((K : Int) - (m : Int)) == ((K / 2 : Nat) : Int)) = false := by rw [hfb] at hb; simpa using hb
        have HRN := Lib.hid (HR3.out.nohalf hb)
        clear hb hfb hfew2
        generalize K / 2 = kh at *
        go_region_held3 (fun w' => w'.cell? ⟨w1.heap.size, 8, none⟩ = some (.int .i64 (K : Int)) ∧ w'.cell? ⟨w2'.heap.size, 0, none⟩ = some (.int .u8 d0) ∧ w'.cell? ⟨w2'.heap.size, 1, none⟩ = some (.int .u8 d1) ∧ w'.cell? ⟨w2'.heap.size, 2, none⟩ = some (.int .u8 d2) ∧ w'.cell? ⟨w2'.heap.size, 3, none⟩ = some (.int .u8 d3) ∧ w'.cell? ⟨w2'.heap.size, 4, none⟩ = some (.int .u8 d4) ∧ w'.cell? ⟨w2'.heap.size, 5, none⟩ = some (.int .u8 d5) ∧ w'.cell? ⟨w2'.heap.size, 6, none⟩ = some (.int .u8 d6) ∧ w'.cell? ⟨w2'.heap.size, 7, none⟩ = some (.int .u8 d7)) (exact HK.out _ (by repeat first | with_reducible exact hB | with_reducible exact Below.refl _ _ | with_reducible refine Below.drew ?_)) (first | (go_at_call 14; refine (HML2.out _).mono ?_; rintro e wa ⟨rfl, hb2⟩; have hB : Below V1.heap.size V1 wa := Below.trans (by repeat first | with_reducible exact Below.refl _ _ | with_reducible refine Below.drew ?_) (hb2.mono (Below.size (B := V1.heap.size) (w := V1) (by repeat first | with_reducible exact Below.refl _ _ | with_reducible refine Below.drew ?_))); clear hb2; obtain ⟨k8, r0, r1, r2, r3, r4, r5, r6, r7⟩ := HK.out _ hB))
        all_goals go_wp2_with fail
        all_goals
          have HN := Lib.hid (H3.out.later (W' := _) (show Below V1.heap.size V1 _ from (by repeat first | with_reducible exact hB | with_reducible exact Below.refl _ _ | with_reducible refine Below.drew ?_)))
          have HRN2 : Hid (HfR w3.heap.size K (vs ++ [y]) vR _) := Lib.hid (own_below HRN.out (show Below V1.heap.size V1 _ from (by repeat first | with_reducible exact hB | with_reducible exact Below.refl _ _ | with_reducible refine Below.drew ?_)))
          go_roundw
          case rel => exact ⟨vs ++ [y], _, cnt2, HN.out, HRN2.out⟩
          case measure => rw [HN.out.rng.left_eq, HRG00.out.left_eq]; exact HLT2.out
      · have hq : (((K : Int) - (m : Int)) == ((K / 2 : Nat) : Int)) = true := by rw [hfb] at hb; simpa using hb
        have HYB := Lib.hid hb
        clear hb hfb
        have H3a : (vs.filter (hfB K)).length + 1 ≤ maxLen := by unfold maxLen; omega
        have H4a : ((vs.filter (hfB K)).length + 1) * 16 ≤ 140737488355328 := by omega
        have HHALF : Hid (∀ (v' : Value) (W' : World), W'.ownsRow (w3.heap.size + 1) 9 1 v' ((vs.filter (hfB K)).length + 1) (txs (vs.filter (hfB K)) ++ [.string (str y)]) → HfR w3.heap.size K (vs ++ [y]) v' W') := Lib.hid fun v' W' h => HfR.half HYB.out h
        have HROW : Hid (∀ W', Below V1.heap.size V1 W' → W'.ownsRow (w3.heap.size + 1) 9 1 vR (vs.filter (hfB K)).length (txs (vs.filter (hfB K)))) := Lib.hid fun W' h => own_below HR3.out h
        generalize txs (vs.filter (hfB K)) = us at *
        generalize (vs.filter (hfB K)).length = q at *
        generalize K / 2 = kh at *
        go_region_held3 (fun w' => w'.cell? ⟨w1.heap.size, 8, none⟩ = some (.int .i64 (K : Int)) ∧ w'.cell? ⟨w2'.heap.size, 0, none⟩ = some (.int .u8 d0) ∧ w'.cell? ⟨w2'.heap.size, 1, none⟩ = some (.int .u8 d1) ∧ w'.cell? ⟨w2'.heap.size, 2, none⟩ = some (.int .u8 d2) ∧ w'.cell? ⟨w2'.heap.size, 3, none⟩ = some (.int .u8 d3) ∧ w'.cell? ⟨w2'.heap.size, 4, none⟩ = some (.int .u8 d4) ∧ w'.cell? ⟨w2'.heap.size, 5, none⟩ = some (.int .u8 d5) ∧ w'.cell? ⟨w2'.heap.size, 6, none⟩ = some (.int .u8 d6) ∧ w'.cell? ⟨w2'.heap.size, 7, none⟩ = some (.int .u8 d7)) (exact HK.out _ (by repeat first | with_reducible exact hB | with_reducible exact Below.refl _ _ | with_reducible refine Below.drew ?_)) (first | (go_at_call 14; refine (HML2.out _).mono ?_; rintro e wa ⟨rfl, hb2⟩; have hB : Below V1.heap.size V1 wa := Below.trans (by repeat first | with_reducible exact Below.refl _ _ | with_reducible refine Below.drew ?_) (hb2.mono (Below.size (B := V1.heap.size) (w := V1) (by repeat first | with_reducible exact Below.refl _ _ | with_reducible refine Below.drew ?_))); clear hb2; obtain ⟨k8, r0, r1, r2, r3, r4, r5, r6, r7⟩ := HK.out _ hB))
        all_goals go_wp2_with fail
        all_goals
          refine (HTX2.out _).mono ?_
          rintro e wb ⟨rfl, hb3⟩
          have hBb : Below V1.heap.size V1 wb := Below.trans (by repeat first | with_reducible exact hB | with_reducible exact Below.refl _ _ | with_reducible refine Below.drew ?_) (hb3.mono (Below.size (B := V1.heap.size) (w := V1) (by repeat first | with_reducible exact hB | with_reducible exact Below.refl _ _ | with_reducible refine Below.drew ?_)))
          clear hb3 k8 r0 r1 r2 r3 r4 r5 r6 r7
          have hrowb := HROW.out wb hBb
          have H6 := Lib.hid (H3.out.later hBb)
          have H5a : w3.heap.size + 1 ≤ (wb.alloc (Obj.cells #[Value.string (str y)] 9)).heap.size := by have := H6.out.rng.lt; simp; omega
          go_wp2_with (first | (at_builtin; refine wpList_append_own _ rfl _ _ 22 rfl (w3.heap.size + 1) 9 i0 (.string ByteArray.empty) 1 16 Tryz.underlying22 HI.out HZ0.out HZ1.out HZ2.out rfl (by decide) _ _ _ rfl (hrowb.alloc _) ⟨wb.heap.size, 0, none⟩ 1 1 [.string (str y)] rfl rfl (cell_one_new _ _ _) (fun u hu => by simp at hu; subst hu; rfl) H3a H4a H5a ?_; intro v' w6 hown' hgrow _))
          have HN := Lib.hid ((H6.out.later ((Below.refl wb.heap.size wb).alloc (Nat.le_refl _) (Obj.cells #[Value.string (str y)] 9))).grown hbm3 hgrow (fun j hj => (hrowb.lt j hj).1))
          have HRN := Lib.hid (HHALF.out _ _ hown')
          clear hown' hgrow hrowb H6 hBb
          go_roundw
          case rel => exact ⟨vs ++ [y], _, cnt2, HN.out, HRN.out⟩
          case measure => rw [HN.out.rng.left_eq, HRG00.out.left_eq]; exact HLT2.out
end Go.Proofs.YtjadnfnpbacfdaaGreatDoor
