/- How many plays are ended: both sides, and the law's walk. -/
import Derived.Test.YtdjfkhhlnkkilaaAt
import Derived.Test.YtdjfkhhlnkkilaaStop2
namespace Go.Proofs.Ytdjfkhhlnkkilaa
open Go.RowKit Go.Maps

/-- The plays to the dead ends among some lines of a layer. -/
def sE (wl : List UInt8) (k : Nat) (l : List (List UInt8)) : Nat := (l.map fun v => if endP v 0 then pc nxL wl k v else 0).sum
/-- .. to those of the first layers, and of the first lines of the next. -/
def totE (wl : List UInt8) (k i : Nat) : Nat := ((List.range k).map fun j => sE wl j (lay nxL wl j)).sum + sE wl k ((lay nxL wl k).take i)
theorem totE_row (wl : List UInt8) (k : Nat) : totE wl (k + 1) 0 = totE wl k (lay nxL wl k).length := by
  unfold totE
  rw [List.take_length, List.range_succ, List.map_append, List.sum_append]
  simp [sE]
theorem totE_hit (wl : List UInt8) (k i : Nat) (h : i < (lay nxL wl k).length) (he : endP (lay nxL wl k)[i] 0 = true) : totE wl k (i + 1) = totE wl k i + pc nxL wl k (lay nxL wl k)[i] := by
  unfold totE sE
  rw [List.take_succ_eq_append_getElem h, List.map_append, List.sum_append]
  simp [he, Nat.add_assoc]
theorem totE_miss (wl : List UInt8) (k i : Nat) (h : i < (lay nxL wl k).length) (he : endP (lay nxL wl k)[i] 0 = false) : totE wl k (i + 1) = totE wl k i := by
  unfold totE sE
  rw [List.take_succ_eq_append_getElem h, List.map_append, List.sum_append]
  simp [he]
/-- The plays to a line, whichever layer has it. -/
def pcl (wl : List UInt8) (d : Nat) (v : List UInt8) : Nat := ((List.range d).map fun j => pc nxL wl j v).sum
theorem sum_one (f : Nat → Nat) (j : Nat) : ∀ d, j < d → (∀ i, i < d → i ≠ j → f i = 0) → ((List.range d).map f).sum = f j
  | 0, h, _ => by omega
  | d + 1, h, h0 => by
    rw [List.range_succ, List.map_append, List.sum_append]
    by_cases e : j = d
    · subst e
      have : ((List.range j).map f).sum = 0 := by
        have : (List.range j).map f = (List.range j).map fun _ => 0 := List.map_congr_left fun i hi => h0 i (by have := List.mem_range.1 hi; omega) (by have := List.mem_range.1 hi; omega)
        rw [this]
        clear this h0 h
        induction j with
        | zero => rfl
        | succ j ih => rw [List.range_succ, List.map_append, List.sum_append, ih]; simp
      rw [this]; simp
    · rw [sum_one f j d (by omega) fun i hi hne => h0 i (by omega) hne]
      have := h0 d (by omega) (fun e2 => e e2.symm)
      simp [this]
theorem pcl_at {n : Nat} {wl : List UInt8} (hg : goodT n wl) {d j : Nat} {v : List UInt8} (hj : j < d) (hv : v ∈ lay nxL wl j) : pcl wl d v = pc nxL wl j v :=
  sum_one _ j d hj fun i _ hne => pc_none i v fun h => hne (lay_apart (steps_line n) hg h hv)
/-- All dead ends. -/
def endsL (wl : List UInt8) (d : Nat) : List (List UInt8) := (List.range d).flatMap fun j => (lay nxL wl j).filter fun v => endP v 0
theorem mem_endsL (wl : List UInt8) (d : Nat) (v : List UInt8) : v ∈ endsL wl d ↔ ∃ j, j < d ∧ v ∈ lay nxL wl j ∧ endP v 0 = true := by
  unfold endsL
  simp [List.mem_flatMap]
theorem endsL_nodup {n : Nat} {wl : List UInt8} (hg : goodT n wl) : ∀ d, (endsL wl d).Nodup
  | 0 => by simp [endsL]
  | d + 1 => by
    unfold endsL
    rw [List.range_succ, List.flatMap_append]
    refine List.nodup_append.2 ⟨endsL_nodup hg d, ?_, fun a ha b hb e => ?_⟩
    · simp
      exact (rising_nodup (lay_rising d)).filter _
    · subst e
      obtain ⟨j, hj, h1, _⟩ := (mem_endsL wl d a).1 ha
      simp at hb
      have := lay_apart (steps_line n) hg h1 hb.1
      omega
theorem ends_sum {n : Nat} {wl : List UInt8} (hg : goodT n wl) (d : Nat) : ∀ m, m ≤ d → ((endsL wl m).map (pcl wl d)).sum = totE wl m 0
  | 0, _ => by simp [endsL, totE, sE]
  | m + 1, hm => by
    have ih := ends_sum hg d m (by omega)
    have e1 : endsL wl (m + 1) = endsL wl m ++ (lay nxL wl m).filter fun v => endP v 0 := by
      unfold endsL
      rw [List.range_succ, List.flatMap_append]
      simp
    rw [e1, List.map_append, List.sum_append, ih, totE_row]
    have e2 : totE wl m 0 + sE wl m (lay nxL wl m) = totE wl m (lay nxL wl m).length := by
      unfold totE
      rw [List.take_length]
      simp [sE]
    rw [← e2]
    congr 1
    have : ∀ l : List (List UInt8), (∀ v, v ∈ l → v ∈ lay nxL wl m) → ((l.filter fun v => endP v 0).map (pcl wl d)).sum = sE wl m l := by
      intro l
      induction l with
      | nil => intro _; rfl
      | cons a l ih =>
        intro h
        have ih := ih fun v hv => h v (by simp [hv])
        unfold sE at ih ⊢
        rw [List.filter_cons]
        cases he : endP a 0
        · simp [he, ih]
        · simp [he, ih, pcl_at hg (show m < d by omega) (h a (by simp))]
    exact this _ fun _ h => h
theorem sum_perm {f : List UInt8 → Nat} {l m : List (List UInt8)} (h : l.Perm m) : (l.map f).sum = (m.map f).sum := by
  induction h with
  | nil => rfl
  | cons x _ ih => simp [ih]
  | swap x y l => simp; omega
  | trans _ _ h1 h2 => exact h1.trans h2

set_option maxHeartbeats 1000000 in
theorem sAllPlays_no (s : ByteArray) (w : World) (hs : s.size ≤ maxLen) (hr : reachB s = false) :
    Calls Try.prog 43 #[.string s] w fun e w' => e = .returned (.tuple #[.int .i64 0, .bool false]) ∧ Below w.heap.size w w' := by
  have hR := Lib.hid hr
  clear hr
  go_enter Try.func43, Try.ntmps43
  go_wp2_with (go_at_call 51; refine (reFew_any _ _ hs).mono ?_; rintro e w' ⟨rfl, rfl⟩; rw [hR.out])
  go_ret2
  exact ⟨rfl, Below.refl _ _⟩
set_option maxRecDepth 100000 in
set_option maxHeartbeats 1000000 in
theorem allPlays_no (wl : List UInt8) (w : World) (hs : (str wl).size ≤ maxLen) (hr : reachB (str wl) = false) :
    Calls Try.prog 44 #[.string (str wl)] w fun e w' => e = .returned (.tuple #[.int .i64 0, .bool false]) ∧ Below w.heap.size w w' := by
  have hR := Lib.hid hr
  clear hr
  go_enter Try.func44, Try.ntmps44
  go_wp2_with fail
  refine (ends_no wl _ hs hR.out).mono ?_
  rintro e w1 ⟨rfl, hb1⟩
  have hrg := run_range_nilMap (P := Try.prog) w1 46 9 53 Try.underlying46
  have hnx : ∀ ty, (Instr.next (.pointer (some ⟨w1.heap.size, 0, none⟩)) false ty).run Try.prog (w1.alloc (.mapIter none 0 #[] 0)) = _ := fun ty => run_next_nilMap w1 ty 0 0 #[]
  go_wp2
  refine wp_loop_rounds 1 ?_
  rw [rounds_succ]
  go_wp2
  go_ret2
  exact ⟨rfl, hb1.alloc hb1.size _⟩
set_option maxRecDepth 100000 in
set_option maxHeartbeats 2000000 in
theorem allPlays_yes (d : Nat) (wl : List UInt8) (w : World) (hr : reachB (str wl) = true) (hd : IsDep nxL wl d) (hd2 : d ≤ 60000) :
    Calls Try.prog 44 #[.string (str wl)] w fun e w' => e = .returned (.tuple #[.int .i64 (wr (totE wl d 0)), .bool true]) ∧ Below w.heap.size w w' := by
  have hR := Lib.hid hr
  have HD := Lib.hid hd
  have HG := Lib.hid (reach_good hr)
  clear hr hd
  go_enter Try.func44, Try.ntmps44
  go_wp2_with fail
  refine (ends_yes d wl _ hR.out HD.out hd2).mono ?_
  rintro e w1 ⟨ba, rfl, hba, ⟨D, hown, hA⟩, hb1⟩
  have HA := Lib.hid hA
  have HB1 := Lib.hid hb1
  have hlt := hown.lt
  clear hA hb1
  go_wp2_with (first
    | (at_range; refine wpList_range_own _ rfl _ 46 rfl 9 53 Try.keysS Try.underlying46 _ ba _ _ rfl hown ?_; intro w2 hrg0 hg0 hs0)
    | go_in)
  try go_frame
  go_loopw [6] (fun v wq => ∃ (us : List (List UInt8)) (left : Lit → Bool) (cnt : Nat) (S : Int), v = .int .i64 S ∧ Hid (S = wr ((us.map (pcl wl d)).sum)) ∧ wq.ranges Try.prog 9 arrR ba w1.heap.size 59049 D left cnt ∧ Collected D left us ∧ Below w.heap.size w wq)
    (fun _ wq => wq.rangeLeft ba w1.heap.size)
  case atStart => exact ⟨[], _, _, 0, rfl, Lib.hid (by simp [wr_zero]), hrg0, Collected.start D, HB1.out.grown hg0 HB1.out.size (fun j hj => by cases hj)⟩
  case round =>
    obtain ⟨us, left, cnt, S, rfl, HS, hrg, hC, hB⟩ := hrel
    obtain ⟨wq, hwq⟩ : ∃ wq : World, wq = wr := ⟨_, rfl⟩
    subst hwq
    have hrg00 := hrg
    go_wp2_with (first
      | (at_next; refine wpList_next_ranges _ rfl _ rfl 9 Try.keysS arrR (fun l : List UInt8 => Value.string (str l)) (fun q : Int × Int => Value.agg #[.int .i64 q.1, .int .i64 q.2]) (fun key kl hk => by obtain ⟨x, hx, _⟩ := Maps.keyOf_str Try.underlying9 hk; exact ⟨x, hx⟩) (fun v y hv => by obtain ⟨a, b, rfl, _⟩ := arrR_inv hv; exact ⟨(a, b), rfl⟩) ba w1.heap.size 59049 _ _ _ rfl hrg ?_ ?_)
      | go_in)
    · intro hc0 hl0
      have HB := Lib.hid hB
      have hp : us.Perm (endsL wl d) := by
        refine (List.perm_ext_iff_of_nodup hC.1 (endsL_nodup HG.out d)).2 fun v => ?_
        rw [hC.2 v, mem_endsL]
        constructor
        · rintro ⟨h, _⟩
          exact HA.out.2 v h
        · rintro ⟨j, hj, hv, he⟩
          exact ⟨(HA.out.1 j v hj hv he).1, hl0 _⟩
      have he : S = wr (totE wl d 0) := by rw [HS.out, sum_perm hp, ends_sum HG.out d d (Nat.le_refl _)]
      have HE := Lib.hid he
      clear hB hC hrg hrg00 hp he
      go_wp2
      go_ret2
      exact ⟨by rw [HE.out]; rfl, HB.out⟩
    · intro x a b kl yd yp w2' cnt2 hkey hlk hv hat hrg2 hlt2 hg2 hs2 hen
      obtain ⟨x', ex, rfl, hxl⟩ := Maps.keyOf_str Try.underlying9 hkey
      obtain rfl : x = x' := by
        have : str x = str x' := by injection ex
        exact str_inj.1 this
      clear ex
      have hyd : yd = arrD a b := by
        rw [show arrR (Value.agg #[.int .i64 a, .int .i64 b]) = some (arrD a b, []) from rfl] at hv
        injection hv with hv
        injection hv with hv _
        exact hv.symm
      subst hyd
      have hhas : Maps.has D (.string x) = true := has_true_of_atKey hat
      obtain ⟨j, hj, hxj, hpx, ea, eb⟩ := arrV_at HA.out hhas hat
      have HC2 := Lib.hid (hC.step hlk hat)
      obtain ⟨K, hK⟩ : ∃ K, K = wr ((us.map (pcl wl d)).sum + pcl wl d x) := ⟨_, rfl⟩
      have hs1 : (S + b + 9223372036854775808) % 18446744073709551616 - 9223372036854775808 = K := by rw [hK, HS.out, eb, pcl_at HG.out hj hxj]; exact wr_add _ _
      have hs0 : IntKind.i64.wrap (S + b) = K := by rw [IntKind.wrap_i64]; exact hs1
      have HK := Lib.hid hK
      have hB2 := hB.grown hg2 hB.size (fun j hj => by injection hj with hj; have := HB1.out.size; omega)
      have HRG2 := Lib.hid hrg2
      clear hkey hlk hv hat hhas ea eb hC hg2 hB hs2 hrg2 hrg hj hxj hpx hK
      go_wp2
      have hrg3 := HRG2.out.alloc (Obj.cells #[.int .i64 a, .int .i64 b] 53)
      refine ⟨⟨us ++ [x], _, cnt2, K, rfl, Lib.hid ?_, hrg3, HC2.out, hB2.alloc hB2.size _⟩, ?_⟩
      · rw [HK.out, List.map_append, List.sum_append]; simp
      · rw [hrg3.left_eq, hrg00.left_eq]; exact hlt2

set_option maxRecDepth 100000 in
set_option maxHeartbeats 4000000 in
theorem sAllPlays_yes (d : Nat) (wl : List UInt8) (w : World) (hs : (str wl).size ≤ maxLen) (hr : reachB (str wl) = true) (hd : IsDep nxL wl d) (hd2 : d ≤ 60000) :
    Calls Try.prog 43 #[.string (str wl)] w fun e w' => e = .returned (.tuple #[.int .i64 (wr (totE wl d 0)), .bool true]) ∧ Below w.heap.size w w' := by
  have HG := Lib.hid (reach_good hr)
  have HD := Lib.hid hd
  have hR := Lib.hid hr
  clear hr hd
  go_enter Try.func43, Try.ntmps43
  go_wp2_with (go_at_call 51; refine (reFew_any _ _ hs).mono ?_; rintro e w' ⟨rfl, rfl⟩; rw [hR.out])
  refine (reLayers_any _ d wl _ HG.out HD.out hd2).mono ?_
  rintro e w1 ⟨v1, rfl, ⟨g, c, vs, rfl, hgl, hn, hvl, hat, hcell⟩, hb1⟩
  have HAT := Lib.hid hat
  have HCE := Lib.hid hcell
  have HB1 := Lib.hid hb1
  clear hat hcell hb1
  go_wp2
  go_loopw [5, 6, 19] (fun v sv t wr' => ∃ (k : Nat) (A7 : Option Addr) (c7 : Nat) (S : Int), k ≤ d ∧ t = .int .i64 k ∧ v = .slice A7 (lay nxL wl (k - 1)).length c7 ∧ sv = .int .i64 S ∧ Hid (S = wr (totE wl k 0)) ∧ ItAt wr' A7 (cts wl (k - 1)) ∧ Below w1.heap.size w1 wr') (fun _ _ t _ => d - (intOf t).toNat)
  case atStart =>
    refine ⟨0, _, _, _, Nat.zero_le _, rfl, rfl, rfl, Lib.hid (by simp [totE, sE, wr_zero]), ?_, (Below.refl _ _).alloc (Nat.le_refl _) _⟩
    rw [show 0 - 1 = 0 from rfl, cts_zero]
    intro q hq
    obtain rfl : q = 0 := by simpa using hq
    exact ⟨_, rfl, by simp, by rw [World.cell?_alloc_new]; rfl⟩
  case round =>
    obtain ⟨k, A7, c7, S, hk, rfl, rfl, rfl, HS, hit, hB⟩ := hrel
    obtain ⟨w0, hw0⟩ : ∃ w0 : World, w0 = wr := ⟨_, rfl⟩
    subst hw0
    by_cases hlt : k < d
    · have hck := (hB.cell (p := ⟨g, k, none⟩) hgl).trans (HCE.out k (by omega))
      have hst := (HAT.out k (by omega)).below hB
      obtain ⟨g2, c2, e2, hc2, hc2m, hg2, hs2⟩ := ok_form hst (HD.out.2.2 k hlt)
      rw [e2] at hck
      have hlenL : (lay nxL wl k).length ≤ 59049 := few_good (rising_nodup (lay_rising k)) fun v hv => (lay_good (steps_line _) HG.out k v hv).1
      have HGL : Hid (∀ v, v ∈ lay nxL wl k → goodT wl.length v) := Lib.hid fun v hv => (lay_good (steps_line _) HG.out k v hv).1
      have HROW := Lib.hid (totE_row wl k)
      have HHIT := Lib.hid (totE_hit wl k)
      have HMISS := Lib.hid (totE_miss wl k)
      have HS2 := Lib.hid hs2
      clear hst hs2 e2
      by_cases hk0 : k = 0
      · subst hk0
        obtain ⟨L, hL⟩ : ∃ L, lay nxL wl 0 = L := ⟨_, rfl⟩
        have HL := Lib.hid hL
        rw [show (0 : Nat) - 1 = 0 from rfl] at hit ⊢
        have HIT := Lib.hid hit
        have HBY := Lib.hid hB
        obtain ⟨w3, hw3⟩ : ∃ w3 : World, w3 = w0 := ⟨_, rfl⟩
        subst hw3
        rw [hL] at hck HS2 hlenL hc2 HGL HROW HHIT HMISS ⊢
        have HSX := HS2
        have hgx2 := hg2
        clear hL hit hB
        rw [show ((0 : Nat) : Int) = 0 from rfl]
        go_wp2
        go_loopw [6, 36] (fun sv t wr' => ∃ (i : Nat) (S : Int), i ≤ L.length ∧ t = .int .i64 i ∧ sv = .int .i64 S ∧ Hid (S = wr (totE wl 0 i)) ∧ Below w3.heap.size w3 wr') (fun _ t _ => L.length - (intOf t).toNat)
        case atStart => exact ⟨0, S, Nat.zero_le _, rfl, rfl, HS, Below.refl _ _⟩
        case round =>
          obtain ⟨i, S, hi, rfl, rfl, HS, hB1⟩ := hrel
          obtain ⟨wi, hwi⟩ : ∃ wi : World, wi = wr := ⟨_, rfl⟩
          subst hwi
          by_cases hlti : i < L.length
          · have hcs := (hB1.cell (p := ⟨g2, i, none⟩) hgx2).trans (HSX.out i hlti)
            have hci : i < (cts wl 0).length := by rw [cts_len, HL.out]; exact hlti
            obtain ⟨g7, rfl, z7, c8⟩ := HIT.out i hci
            have HV8 : Hid ((cts wl 0)[i] = wr (pc nxL wl 0 L[i])) := Lib.hid (by simp [cts, HL.out])
            have hgx := HGL.out _ (List.getElem_mem hlti)
            have HH := Lib.hid (HHIT.out i hlti)
            have HM := Lib.hid (HMISS.out i hlti)
            have hlm := fun wx => liMoves_all (str L[i]) wx hgx.1
            rw [kinds_can] at hlm
            have HLM := Lib.hid hlm
            have HEM := Lib.hid (end_moves L[i])
            clear hgx hlm
            generalize (cts wl 0)[i] = bv at c8 HV8
            generalize L[i] = x at hcs HV8 HH HM HLM HEM
            generalize mvsTo (canM (str x)) (str x) (str x).size = M at HLM HEM
            have HC8 := Lib.hid c8
            clear c8
            go_wp2_with fail
            refine (HLM.out _).mono ?_
            rintro e w4 ⟨v4, rfl, ho4, hb4⟩
            obtain ⟨A4, cap4, rfl, _⟩ := at_of_own ho4
            have hB4 := hB1.trans (hb4.mono hB1.size)
            have hz := len_zero_int M.length
            rw [HEM.out] at hz
            have c8 := (hB4.cell (p := ⟨g7, i, none⟩) z7).trans HC8.out
            clear ho4 hb4 hB1
            cases hp : endP x 0
            · rw [hp] at hz
              have HP2 := Lib.hid hp
              clear hp
              go_wp2
              first
                | exact ⟨⟨i + 1, S, by omega, by go_num, rfl, Lib.hid (by rw [HS.out, HM.out HP2.out]), hB4⟩, by simp [intOf]; omega⟩
                | (go_roundw
                   case rel => exact ⟨i + 1, S, by omega, by go_num, rfl, Lib.hid (by rw [HS.out, HM.out HP2.out]), hB4⟩
                   case measure => simp [intOf]; omega)
            · rw [hp] at hz
              have HP2 := Lib.hid hp
              obtain ⟨K, hK⟩ : ∃ K, K = wr (totE wl 0 i + pc nxL wl 0 x) := ⟨_, rfl⟩
              have hs1 : (S + bv + 9223372036854775808) % 18446744073709551616 - 9223372036854775808 = K := by rw [hK, HS.out, HV8.out]; exact wr_add _ _
              have hs0 : IntKind.i64.wrap (S + bv) = K := by rw [IntKind.wrap_i64]; exact hs1
              have HK := Lib.hid hK
              clear hp hK
              go_wp2
              first
                | exact ⟨⟨i + 1, K, by omega, by go_num, rfl, Lib.hid (by rw [HK.out, HH.out HP2.out]), hB4⟩, by simp [intOf]; omega⟩
                | (go_roundw
                   case rel => exact ⟨i + 1, K, by omega, by go_num, rfl, Lib.hid (by rw [HK.out, HH.out HP2.out]), hB4⟩
                   case measure => simp [intOf]; omega)
          · obtain rfl : i = L.length := by omega
            go_wp2
            go_roundw
            case rel =>
              refine ⟨0 + 1, _, _, S, by omega, by go_num, by rw [show 0 + 1 - 1 = 0 by omega, HL.out], rfl, Lib.hid (by rw [HS.out, HROW.out]), ?_, HBY.out.trans (hB1.mono HBY.out.size)⟩
              rw [show 0 + 1 - 1 = 0 by omega]
              exact HIT.out.below hB1
            case measure => simp [intOf]; omega
      · obtain ⟨m, rfl⟩ : ∃ m, k = m + 1 := ⟨k - 1, by omega⟩
        rw [show m + 1 - 1 = m by omega] at hit ⊢
        have hck2 := (hB.cell (p := ⟨g, m, none⟩) hgl).trans (HCE.out m (by omega))
        have hst2 := (HAT.out m (by omega)).below hB
        obtain ⟨g3, c3, e3, hc3, hc3m, hg3, hs3⟩ := ok_form hst2 (HD.out.2.2 m (by omega))
        rw [e3] at hck2
        have hlenM : (lay nxL wl m).length ≤ 59049 := few_good (rising_nodup (lay_rising m)) fun v hv => (lay_good (steps_line _) HG.out m v hv).1
        have HRC := Lib.hid (fun (A0 A1 A2 : Option Addr) (k0 k1 k2 : Nat) (wx : World) h0 h1 h2 => reCounts_any (pc nxL wl m) wl.length (lay nxL wl m) (lay nxL wl (m + 1)) A0 A1 A2 k0 k1 k2 wx (fun u hu => (lay_good (steps_line _) HG.out m u hu).1) hlenM hlenL h0 h1 h2)
        have HS3 : Hid (StAt w0 (some ⟨g3, 0, none⟩) (lay nxL wl m)) := Lib.hid fun q hq => ⟨g3, rfl, hg3, hs3 q hq⟩
        have HS4 : Hid (StAt w0 (some ⟨g2, 0, none⟩) (lay nxL wl (m + 1))) := Lib.hid fun q hq => ⟨g2, rfl, hg2, HS2.out q hq⟩
        have HIT0 := Lib.hid hit
        obtain ⟨L, hL⟩ : ∃ L, lay nxL wl (m + 1) = L := ⟨_, rfl⟩
        have HL := Lib.hid hL
        rw [hL] at hck HS2 hlenL hc2 HS4 HRC HGL HROW HHIT HMISS
        obtain ⟨P, hP⟩ : ∃ P, lay nxL wl m = P := ⟨_, rfl⟩
        have HP := Lib.hid hP
        rw [hP] at hck2 hc3 hlenM HS3 HRC ⊢
        clear hL hP hit hst2 hs3 e3
        have hm1 : IntKind.i64.wrap (((m + 1 : Nat) : Int) - 1) = (m : Int) := by rw [IntKind.wrap_i64]; omega
        go_wp2_with fail
        refine (HRC.out (some ⟨g3, 0, none⟩) A7 (some ⟨g2, 0, none⟩) c3 c7 c2 _ HS3.out (by have := HIT0.out; unfold cts at this; rw [HP.out] at this; exact this) HS4.out).mono ?_
        rintro e w3 ⟨v3, rfl, hrow, hb3⟩
        have hcl : L.length = (cts wl (m + 1)).length := by rw [cts_len, HL.out]
        have hceq : (L.map fun v => wr (part nxL (pc nxL wl m) P v)) = cts wl (m + 1) := by unfold cts; rw [HL.out, ← HP.out]; rfl
        rw [hceq] at hrow
        obtain ⟨A8, c8', e8, hit8⟩ := it_own (by rw [← hcl]; exact hrow)
        rw [← hcl] at e8
        subst e8
        have HIT := Lib.hid hit8
        have HBY := Lib.hid (hB.trans (hb3.mono hB.size))
        have HSX : Hid (∀ q (h : q < L.length), w3.cell? ⟨g2, q, none⟩ = some (.string (str L[q]))) := Lib.hid fun q h => (hb3.cell (p := ⟨g2, q, none⟩) hg2).trans (HS2.out q h)
        have hgx2 : g2 < w3.heap.size := Nat.lt_of_lt_of_le hg2 hb3.size
        clear hrow hb3 hB hceq hit8 hcl
        go_wp2
        go_loopw [6, 36] (fun sv t wr' => ∃ (i : Nat) (S : Int), i ≤ L.length ∧ t = .int .i64 i ∧ sv = .int .i64 S ∧ Hid (S = wr (totE wl (m + 1) i)) ∧ Below w3.heap.size w3 wr') (fun _ t _ => L.length - (intOf t).toNat)
        case atStart => exact ⟨0, S, Nat.zero_le _, rfl, rfl, HS, Below.refl _ _⟩
        case round =>
          obtain ⟨i, S, hi, rfl, rfl, HS, hB1⟩ := hrel
          obtain ⟨wi, hwi⟩ : ∃ wi : World, wi = wr := ⟨_, rfl⟩
          subst hwi
          by_cases hlti : i < L.length
          · have hcs := (hB1.cell (p := ⟨g2, i, none⟩) hgx2).trans (HSX.out i hlti)
            have hci : i < (cts wl (m + 1)).length := by rw [cts_len, HL.out]; exact hlti
            obtain ⟨g7, rfl, z7, c8⟩ := HIT.out i hci
            have HV8 : Hid ((cts wl (m + 1))[i] = wr (pc nxL wl (m + 1) L[i])) := Lib.hid (by simp [cts, HL.out])
            have hgx := HGL.out _ (List.getElem_mem hlti)
            have HH := Lib.hid (HHIT.out i hlti)
            have HM := Lib.hid (HMISS.out i hlti)
            have hlm := fun wx => liMoves_all (str L[i]) wx hgx.1
            rw [kinds_can] at hlm
            have HLM := Lib.hid hlm
            have HEM := Lib.hid (end_moves L[i])
            clear hgx hlm
            generalize (cts wl (m + 1))[i] = bv at c8 HV8
            generalize L[i] = x at hcs HV8 HH HM HLM HEM
            generalize mvsTo (canM (str x)) (str x) (str x).size = M at HLM HEM
            have HC8 := Lib.hid c8
            clear c8
            go_wp2_with fail
            refine (HLM.out _).mono ?_
            rintro e w4 ⟨v4, rfl, ho4, hb4⟩
            obtain ⟨A4, cap4, rfl, _⟩ := at_of_own ho4
            have hB4 := hB1.trans (hb4.mono hB1.size)
            have hz := len_zero_int M.length
            rw [HEM.out] at hz
            have c8 := (hB4.cell (p := ⟨g7, i, none⟩) z7).trans HC8.out
            clear ho4 hb4 hB1
            cases hp : endP x 0
            · rw [hp] at hz
              have HP2 := Lib.hid hp
              clear hp
              go_wp2
              first
                | exact ⟨⟨i + 1, S, by omega, by go_num, rfl, Lib.hid (by rw [HS.out, HM.out HP2.out]), hB4⟩, by simp [intOf]; omega⟩
                | (go_roundw
                   case rel => exact ⟨i + 1, S, by omega, by go_num, rfl, Lib.hid (by rw [HS.out, HM.out HP2.out]), hB4⟩
                   case measure => simp [intOf]; omega)
            · rw [hp] at hz
              have HP2 := Lib.hid hp
              obtain ⟨K, hK⟩ : ∃ K, K = wr (totE wl (m + 1) i + pc nxL wl (m + 1) x) := ⟨_, rfl⟩
              have hs1 : (S + bv + 9223372036854775808) % 18446744073709551616 - 9223372036854775808 = K := by rw [hK, HS.out, HV8.out]; exact wr_add _ _
              have hs0 : IntKind.i64.wrap (S + bv) = K := by rw [IntKind.wrap_i64]; exact hs1
              have HK := Lib.hid hK
              clear hp hK
              go_wp2
              first
                | exact ⟨⟨i + 1, K, by omega, by go_num, rfl, Lib.hid (by rw [HK.out, HH.out HP2.out]), hB4⟩, by simp [intOf]; omega⟩
                | (go_roundw
                   case rel => exact ⟨i + 1, K, by omega, by go_num, rfl, Lib.hid (by rw [HK.out, HH.out HP2.out]), hB4⟩
                   case measure => simp [intOf]; omega)
          · obtain rfl : i = L.length := by omega
            go_wp2
            go_roundw
            case rel =>
              refine ⟨(m + 1) + 1, _, _, S, by omega, by go_num, by rw [show (m + 1) + 1 - 1 = (m + 1) by omega, HL.out], rfl, Lib.hid (by rw [HS.out, HROW.out]), ?_, HBY.out.trans (hB1.mono HBY.out.size)⟩
              rw [show (m + 1) + 1 - 1 = (m + 1) by omega]
              exact HIT.out.below hB1
            case measure => simp [intOf]; omega
    · obtain rfl : k = d := by omega
      go_wp2
      go_ret2
      exact ⟨by rw [HS.out]; rfl, HB1.out.trans (hB.mono HB1.out.size)⟩

set_option maxHeartbeats 1000000 in
theorem walk_FnExactCountAllPlays (s : ByteArray) (hs : s.size ≤ maxLen) (w : World) :
    Calls Try.prog 13 #[.string s] w fun e w' => e = .returned (.bool true) ∧ Below w.heap.size w w' := by
  obtain ⟨wl, hwl⟩ : ∃ wl, s = str wl := ⟨byt s, (str_byt s).symm⟩
  subst hwl
  by_cases hbig : (1048576 : Int) < ((str wl).size : Int)
  · go_enter Try.func13, Try.ntmps13
    go_wp2
    go_ret
    exact ⟨rfl, Below.refl _ _⟩
  · cases hr : reachB (str wl)
    · have hR := Lib.hid hr
      clear hr
      go_enter Try.func13, Try.ntmps13
      go_wp2_with fail
      refine (sAllPlays_no _ _ hs hR.out).mono ?_
      rintro e w1 ⟨rfl, hb1⟩
      go_wp2_with fail
      refine (allPlays_no _ _ hs hR.out).mono ?_
      rintro e w2 ⟨rfl, hb2⟩
      go_wp2
      go_ret
      exact ⟨rfl, hb1.trans (hb2.mono hb1.size)⟩
    · have hR := Lib.hid hr
      obtain ⟨d, hd, hd2⟩ := dep_of hr
      have HD := Lib.hid hd
      clear hr hd
      obtain ⟨K, hK⟩ : ∃ K, wr (totE wl d 0) = K := ⟨_, rfl⟩
      have H1 := Lib.hid (fun wx => sAllPlays_yes d wl wx hs hR.out HD.out hd2)
      have H2 := Lib.hid (fun wx => allPlays_yes d wl wx hR.out HD.out hd2)
      rw [hK] at H1 H2
      clear hK
      go_enter Try.func13, Try.ntmps13
      go_wp2_with fail
      refine (H1.out _).mono ?_
      rintro e w1 ⟨rfl, hb1⟩
      go_wp2_with fail
      refine (H2.out _).mono ?_
      rintro e w2 ⟨rfl, hb2⟩
      go_wp2
      go_ret
      exact ⟨rfl, hb1.trans (hb2.mono hb1.size)⟩
end Go.Proofs.Ytdjfkhhlnkkilaa
