/- Contracts: the numbers of moves of some arrivals; the greatest and the least of some numbers. -/
import Derived.Test.YtoefeooldcbfiaaHsV
namespace Go.Proofs.Ytoefeooldcbfiaa
open Go.RowKit Go.Maps

/-- What a map of arrivals holds: the lines of all layers that p picks. -/
def ArrV (wl : List UInt8) (d : Nat) (p : List UInt8 → Nat → Bool) (D : DataW Unit) : Prop :=
  (∀ j v, j < d → v ∈ lay nxL wl j → p v j = true → hasV D v (arrD j (wr (pc nxL wl j v)))) ∧
    ∀ v, Maps.has D (.string v) = true → ∃ j, j < d ∧ v ∈ lay nxL wl j ∧ p v j = true
theorem arrV_all {wl : List UInt8} {d : Nat} {D : DataW Unit} (h : AllV nxL wl D d []) : ArrV wl d (fun _ _ => true) D :=
  ⟨fun j v hj hv _ => h.1 j v hj hv, fun v hv => by
    rcases h.2.2 v hv with ⟨j, hj, hv⟩ | hv
    · exact ⟨j, hj, hv, rfl⟩
    · simp at hv⟩
theorem arrD_inj {a b c e : Int} (h : arrD a b = arrD c e) : a = c ∧ b = e := by
  unfold arrD at h
  injection h with h
  injection h with h1 h2
  injection h2 with h2
  injection h1 with h1
  injection h1 with _ h1
  injection h2 with h2
  injection h2 with _ h2
  exact ⟨h1, h2⟩
theorem arrV_at {wl : List UInt8} {d : Nat} {p : List UInt8 → Nat → Bool} {D : DataW Unit} (h : ArrV wl d p D) {x : List UInt8} {a b : Int} (hh : Maps.has D (.string x) = true) (hat : ∀ z, D.atKey (.string x) z = arrD a b) :
    ∃ j, j < d ∧ x ∈ lay nxL wl j ∧ p x j = true ∧ a = j ∧ b = wr (pc nxL wl j x) := by
  obtain ⟨j, hj, hv, hp⟩ := h.2 x hh
  have := (h.1 j x hj hv hp).2 .nil
  rw [hat] at this
  obtain ⟨h1, h2⟩ := arrD_inj this
  exact ⟨j, hj, hv, hp, h1, h2⟩
theorem Try.infoI : (Try.prog.info? 3).map (fun i => (i.zero, i.size, i.bytes)) = some (some (.int .i64 0), 1, 8) := by kernel_rfl
def its (l : List Int) : List Value := l.map (Value.int .i64)
theorem its_len (l : List Int) : (its l).length = l.length := by simp [its]
theorem its_app (a b : List Int) : its (a ++ b) = its a ++ its b := by simp [its]
/-- The cells of a slice's address hold some numbers. -/
def ItAt (w : World) (A : Option Addr) (l : List Int) : Prop :=
  ∀ k (h : k < l.length), ∃ g, A = some ⟨g, 0, none⟩ ∧ g < w.heap.size ∧ w.cell? ⟨g, k, none⟩ = some (.int .i64 l[k])
theorem ItAt.below {w w' : World} {A : Option Addr} {l : List Int} (h : ItAt w A l) (hb : Below w.heap.size w w') : ItAt w' A l := by
  intro k hk
  obtain ⟨g, a, b, c⟩ := h k hk
  exact ⟨g, a, Nat.lt_of_lt_of_le b hb.size, (hb.cell (p := ⟨g, k, none⟩) b).trans c⟩
theorem it_own {w : World} {base : Nat} {e : TypeId} {v : Value} {l : List Int} (h : w.ownsRow base e 1 v l.length (its l)) : ∃ A cap, v = .slice A l.length cap ∧ ItAt w A l := by
  rcases h.2 with ⟨hv, h0⟩ | ⟨g, cap, cur, rfl, hg, hh, hn, hm, _⟩
  · have h2 : l.length = 0 := by have h3 := its_len l; have h4 := h.1; omega
    exact ⟨none, 0, by rw [hv, h2], fun k hk => by omega⟩
  · refine ⟨_, cap, rfl, fun k hk => ⟨g, rfl, (Array.getElem?_eq_some_iff.1 hh).1, ?_⟩⟩
    have f : (its l)[k]? = some (.int .i64 l[k]) := by simp [its, hk]
    exact (h.cellAt k (by omega)).trans f

set_option maxRecDepth 100000 in
set_option maxHeartbeats 2000000 in
theorem arrMoves_any (wl : List UInt8) (d : Nat) (p : List UInt8 → Nat → Bool) (ba : Nat) (D : DataW Unit) (w : World) {n : Nat} (hg : goodT n wl) (hown : w.ownsMap Try.prog 9 arrR ba 59049 D) (hA : ArrV wl d p D) :
    Calls Try.prog 74 #[.map (some ba)] w fun e w' => ∃ v L, e = .returned v ∧ w'.ownsRow w.heap.size 3 1 v L.length (its L) ∧ Below w.heap.size w w' ∧ L.length ≤ 59049 ∧
      (∀ m, m ∈ L → ∃ j x, j < d ∧ x ∈ lay nxL wl j ∧ p x j = true ∧ m = (j : Int)) ∧ ∀ j x, j < d → x ∈ lay nxL wl j → p x j = true → (j : Int) ∈ L := by
  obtain ⟨i0, hi, hz0, hz1, hz2⟩ := info_parts Try.infoI
  have HI := Lib.hid hi
  have HZ0 := Lib.hid hz0
  have HZ1 := Lib.hid hz1
  have HZ2 := Lib.hid hz2
  clear hi hz0 hz1 hz2
  have HA := Lib.hid hA
  have HAP : Hid (∀ j k v, v ∈ lay nxL wl j → v ∈ lay nxL wl k → j = k) := Lib.hid fun j k v h1 h2 => lay_apart (steps_line n) hg h1 h2
  have hsm := hown.size_le
  clear hA
  go_enter Try.func74, Try.ntmps74
  go_wp2_with (first
    | (at_range; refine wpList_range_own _ rfl _ 60 rfl 9 64 Try.keysS Try.underlying60 _ ba _ _ rfl hown ?_; intro w1 hrg0 hg0 hs0)
    | go_in)
  try go_frame
  go_loopw [3] (fun v wq => ∃ (us : List (List UInt8)) (left : Lit → Bool) (cnt : Nat) (L : List Int), wq.ranges Try.prog 9 arrR ba w.heap.size 59049 D left cnt ∧ Collected D left us ∧ L.length + cnt ≤ 59049 ∧
      wq.ownsRow (w.heap.size + 1) 3 1 v L.length (its L) ∧ Below w.heap.size w wq ∧ (∀ m, m ∈ L → ∃ j x, j < d ∧ x ∈ lay nxL wl j ∧ p x j = true ∧ m = (j : Int)) ∧ ∀ j x, x ∈ us → j < d → x ∈ lay nxL wl j → p x j = true → (j : Int) ∈ L)
    (fun _ wq => wq.rangeLeft ba w.heap.size)
  case atStart => exact ⟨[], _, _, [], hrg0, Collected.start D, by simpa using hsm, World.ownsRow_nil _ _ _ _, (Below.refl _ _).grown hg0 (Nat.le_refl _) (fun j hj => by cases hj), fun m hm => by simp at hm, fun j x hx => by simp at hx⟩
  case round =>
    obtain ⟨us, left, cnt, L, hrg, hC, hlc, hrow, hB, hL1, hL2⟩ := hrel
    obtain ⟨wq, hwq⟩ : ∃ wq : World, wq = wr := ⟨_, rfl⟩
    subst hwq
    have hrg00 := hrg
    go_wp2_with (first
      | (at_next; refine wpList_next_ranges _ rfl _ rfl 9 Try.keysS arrR (fun l : List UInt8 => Value.string (str l)) (fun q : Int × Int => Value.agg #[.int .i64 q.1, .int .i64 q.2]) (fun key kl hk => by obtain ⟨x, hx, _⟩ := Maps.keyOf_str Try.underlying9 hk; exact ⟨x, hx⟩) (fun v y hv => by obtain ⟨a, b, rfl, _⟩ := arrR_inv hv; exact ⟨(a, b), rfl⟩) ba w.heap.size 59049 _ _ _ rfl hrg ?_ ?_)
      | go_in)
    · intro hc0 hl0
      have HB := Lib.hid hB
      have HR := Lib.hid (own_base hrow (Nat.le_succ _))
      have H2 : ∀ j x, j < d → x ∈ lay nxL wl j → p x j = true → (j : Int) ∈ L := fun j x hj hx hp => hL2 j x ((hC.2 x).2 ⟨(HA.out.1 j x hj hx hp).1, hl0 _⟩) hj hx hp
      have H2 := Lib.hid H2
      have H1 := Lib.hid hL1
      clear hrow hB hL1 hL2 hrg hrg00
      go_wp2
      go_ret
      exact ⟨_, L, rfl, HR.out, HB.out, by omega, H1.out, H2.out⟩
    · intro x a b kl yd yp w2 cnt2 hkey hlk hv hat hrg2 hlt hg2 hs2 hen
      obtain ⟨x', ex, rfl, hxl⟩ := Maps.keyOf_str Try.underlying9 hkey
      obtain rfl : x = x' := by
        have : str x = str x' := by injection ex
        exact str_inj.1 this
      clear ex
      have hyd : yd = arrD a b := by
        rw [show arrR (Value.agg #[.int .i64 a, .int .i64 b]) = some (arrD a b, []) from rfl] at hv
        injection hv with hv
        injection hv with hv _
        exact hv.symm
      subst hyd
      have hhas : Maps.has D (.string x) = true := has_true_of_atKey hat
      obtain ⟨j, hj, hxj, hpx, ea, eb⟩ := arrV_at HA.out hhas hat
      have HC2 := Lib.hid (hC.step hlk hat)
      have HEA := Lib.hid ea
      have hrow2 := hrow.kept hg2 (by rcases hrow.2 with ⟨e, _⟩ | ⟨g, cp, cur, e, hg, _⟩ <;> rw [e] <;> simp [Value.ownBlock] <;> omega)
      have hB2 := hB.grown hg2 hB.size (fun j hj => by injection hj with hj; omega)
      have HL1 := Lib.hid hL1
      have HL2 := Lib.hid hL2
      have HRG2 := Lib.hid hrg2
      have HMEM := Lib.hid (And.intro hj (And.intro hxj hpx))
      have hz : w.heap.size < w2.heap.size := by have := hrg2.lt; omega
      have hltb : ba < w2.heap.size := hrg2.owns.lt
      clear hkey hlk hv hat hhas ea eb hC hrow hg2 hB hL1 hL2 hj hxj hpx hs2 hrg2 hrg
      have H3 : L.length + 1 ≤ maxLen := by unfold maxLen; omega
      have H4 : (L.length + 1) * 8 ≤ 140737488355328 := by omega
      have H5 : w.heap.size + 1 ≤ ((w2.alloc (Obj.cells #[.int .i64 a, .int .i64 b] 64)).alloc (Obj.cells #[Value.int .i64 a] 3)).heap.size := by simp; omega
      go_wp2_with (first | (at_builtin; refine wpList_append_own _ rfl _ _ 79 rfl (w.heap.size + 1) 3 i0 (.int .i64 0) 1 8 Try.underlying79 HI.out HZ0.out HZ1.out HZ2.out rfl (by decide) _ _ _ rfl ((hrow2.alloc _).alloc _) ⟨w2.heap.size + 1, 0, none⟩ 1 1 [.int .i64 a] rfl rfl ?_ (fun u hu => by simp at hu; subst hu; rfl) H3 H4 H5 ?_; rotate_right; intro v' w3 hown' hgrow _))
      · have hlb := hown.lt
        have hrg3 := ((HRG2.out.alloc (Obj.cells #[.int .i64 a, .int .i64 b] 64)).alloc (Obj.cells #[Value.int .i64 a] 3)).kept hgrow (fun e => by have := (hrow2.lt _ e.symm).1; omega) (fun e => by have := (hrow2.lt _ e.symm).1; omega)
        refine ⟨⟨us ++ [x], _, cnt2, L ++ [a], hrg3, HC2.out, by simp; omega, ?_, ?_, fun m hm => ?_, fun j' y hy hj' hyl hpy => ?_⟩, ?_⟩
        · rw [its_app, List.length_append]
          exact hown'
        · exact ((hB2.alloc hB2.size _).alloc (by have := hB2.size; simp; omega) _).grown hgrow (by have := hB2.size; simp; omega) (fun j hj => by have := (hrow2.lt _ hj).1; omega)
        · rcases List.mem_append.1 hm with hm | hm
          · exact HL1.out m hm
          · obtain rfl : m = a := by simpa using hm
            exact ⟨j, x, HMEM.out.1, HMEM.out.2.1, HMEM.out.2.2, HEA.out⟩
        · rcases List.mem_append.1 hy with hy | hy
          · exact List.mem_append.2 (.inl (HL2.out j' y hy hj' hyl hpy))
          · obtain rfl : y = x := by simpa using hy
            have e : j' = j := HAP.out _ _ _ hyl HMEM.out.2.1
            rw [e, ← HEA.out]
            simp
        · rw [hrg3.left_eq, hrg00.left_eq]; omega
      · have := cell_one_new (w2.alloc (Obj.cells #[.int .i64 a, .int .i64 b] 64)) (Value.int .i64 a) 3
        rw [World.size_alloc] at this
        exact this
theorem take_one (L : List Int) (h : 0 < L.length) : L.take 1 = [L[0]] := by
  match L, h with
  | a :: l, _ => simp
set_option maxRecDepth 100000 in
set_option maxHeartbeats 2000000 in
/-- slices.Max. -/
theorem maxI_any (L : List Int) (hne : L ≠ []) (hl : L.length ≤ 60000) (A : Option Addr) (c : Nat) (w : World) (hat : ItAt w A L) :
    Calls Try.prog 73 #[.slice A L.length c] w fun e w' => ∃ m, e = .returned (.int .i64 m) ∧ m ∈ L ∧ (∀ x, x ∈ L → x ≤ m) ∧ w = w' := by
  have hpos : 0 < L.length := List.length_pos_iff.2 hne
  obtain ⟨g, rfl, hg, c0⟩ := hat 0 hpos
  have HAT := Lib.hid hat
  have HNE := Lib.hid (take_one L hpos)
  obtain ⟨x0, hx0⟩ : ∃ x, L[0] = x := ⟨_, rfl⟩
  rw [hx0] at c0 HNE
  clear hat hne hx0
  go_enter Try.func73, Try.ntmps73
  go_wp2
  go_loop [3, 4] (fun m t => ∃ (k : Nat) (y : Int), 1 ≤ k ∧ k ≤ L.length ∧ t = .int .i64 k ∧ m = .int .i64 y ∧ y ∈ L.take k ∧ ∀ x, x ∈ L.take k → x ≤ y) (fun _ t => L.length - (intOf t).toNat)
  case atStart => exact ⟨1, x0, Nat.le_refl _, hpos, rfl, rfl, by rw [HNE.out]; simp, fun x hx => by rw [HNE.out] at hx; simp at hx; omega⟩
  case round =>
    obtain ⟨k, y, h1, hk, rfl, rfl, hy, hall⟩ := hrel
    by_cases hlt : k < L.length
    · obtain ⟨g', e, _, ck⟩ := HAT.out k hlt
      obtain rfl : g = g' := by injection e with e; injection e
      have HT : Hid (L.take (k + 1) = L.take k ++ [L[k]]) := Lib.hid (List.take_succ_eq_append_getElem hlt)
      generalize L[k] = z at ck HT
      have HALL := Lib.hid hall
      have HY := Lib.hid hy
      clear hall hy
      go_wp2
      refine ⟨⟨k + 1, max y z, by omega, by omega, by go_num, rfl, ?_, fun x hx => ?_⟩, by simp [intOf]; omega⟩
      · rw [HT.out]
        rcases Int.le_total y z with h | h
        · rw [show max y z = z by omega]; simp
        · rw [show max y z = y by omega]; exact List.mem_append.2 (.inl HY.out)
      · rw [HT.out, List.mem_append] at hx
        rcases hx with hx | hx
        · have := HALL.out x hx; omega
        · obtain rfl : x = z := by simpa using hx
          omega
    · obtain rfl : k = L.length := by omega
      rw [List.take_length] at hy hall
      go_wp2
      go_ret
      exact ⟨y, rfl, hy, hall, rfl⟩
end Go.Proofs.Ytoefeooldcbfiaa
