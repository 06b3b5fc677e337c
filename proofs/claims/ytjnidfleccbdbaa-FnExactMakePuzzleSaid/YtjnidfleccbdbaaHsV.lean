/- The lines behind one move: a step that leads on; how many lines there are at most. -/
import Derived.Test.YtjnidfleccbdbaaSl
import Derived.Test.YtjnidfleccbdbaaWalkV
import Derived.Maps.RangeWalk
import Derived.Maps.OwnOps
import Derived.Maps.OwnSet
import Derived.Sort.KeysCollected
namespace Go.Proofs.Ytjnidfleccbdbaa
/-- The lines behind all moves, in the order of the moves. -/
def nxL (l : List UInt8) : List (List UInt8) := (mvsTo (canM (str l)) (str l) (str l).size).map fun m => behind (str l) m.1 m.2
/-- A line of at most ten cells. -/
def goodT (n : Nat) (l : List UInt8) : Prop := goodL (str l) = true ∧ l.length = n ∧ n ≤ 10
def msL (l : List UInt8) : Int := wayL l - ((pairSt l).1 : Int)
theorem mem_nxL {u v : List UInt8} (h : v ∈ nxL u) : ∃ m : Int × Int, canM (str u) m.1 m.2 = true ∧ v = behind (str u) m.1 m.2 := by
  obtain ⟨m, hm, rfl⟩ := List.mem_map.1 h
  exact ⟨m, (mem_moves (str u) m.1 m.2).1 hm, rfl⟩
theorem steps_line (n : Nat) : Steps nxL (goodT n) msL wayL where
  keeps u v hu hv := by
    obtain ⟨m, hc, rfl⟩ := mem_nxL hv
    refine ⟨behind_good hu.1 hc, ?_, hu.2.2⟩
    rw [behind_len, str_size, hu.2.1]
  one u v hu hv := by
    obtain ⟨m, hc, rfl⟩ := mem_nxL hv
    have h1 := way_behind ((goodL_iff _).1 hu.1).2.2 hc
    have h2 := pairs_behind hc
    rw [byt_str] at h1 h2
    unfold msL
    cases hj : jumpM m.1 m.2 <;> simp [hj] at h1 h2 <;> omega
  less u v hu hv := by
    obtain ⟨m, hc, rfl⟩ := mem_nxL hv
    have h1 := way_behind ((goodL_iff _).1 hu.1).2.2 hc
    rw [byt_str] at h1
    cases hj : jumpM m.1 m.2 <;> simp [hj] at h1 <;> omega
  pos u hu := by
    have := wayL_pos (byt (str u)) ((goodL_iff _).1 hu.1).2.2
    rwa [byt_str] at this
theorem nxL_len (l : List UInt8) : (nxL l).length ≤ l.length := by
  unfold nxL
  rw [List.length_map]
  have := mvsTo_le (canM (str l)) (str l) (str l).size
  rwa [str_size] at this ⊢
theorem part3 {l : List (List UInt8)} (p q r : List UInt8 → Bool) (h : ∀ x ∈ l, p x = true ∨ q x = true ∨ r x = true) : l.length ≤ (l.filter p).length + (l.filter q).length + (l.filter r).length := by
  induction l with
  | nil => simp
  | cons a l ih =>
    have ih := ih fun x hx => h x (by simp [hx])
    have ha := h a (by simp)
    simp only [List.filter_cons, List.length_cons]
    rcases ha with ha | ha | ha
    · simp only [ha, if_true, List.length_cons]; split <;> split <;> simp <;> omega
    · simp only [ha, if_true, List.length_cons]; split <;> split <;> simp <;> omega
    · simp only [ha, if_true, List.length_cons]; split <;> split <;> simp <;> omega
theorem few_lines : ∀ (n : Nat) (l : List (List UInt8)), l.Nodup → (∀ x ∈ l, x.length = n ∧ x.all isSign = true) → l.length ≤ 3 ^ n
  | 0, l, hn, h => by
    match l with
    | [] => simp
    | [_] => simp
    | a :: b :: r =>
      have ha := List.length_eq_zero_iff.1 (h a (by simp)).1
      have hb := List.length_eq_zero_iff.1 (h b (by simp)).1
      subst ha hb
      simp at hn
  | n + 1, l, hn, h => by
    have one : ∀ c : UInt8, (l.filter fun x => x.head? == some c).length ≤ 3 ^ n := fun c => by
      have := few_lines n ((l.filter fun x => x.head? == some c).map List.tail) ?_ ?_
      · simpa using this
      · refine List.pairwise_map.2 ((hn.filter _).imp_of_mem fun {a b} ha hb hne e => hne ?_)
        obtain ⟨_, ha⟩ := List.mem_filter.1 ha
        obtain ⟨_, hb⟩ := List.mem_filter.1 hb
        match a, b with
        | [], _ => simp at ha
        | _ :: _, [] => simp at hb
        | x :: a, y :: b =>
          simp at ha hb e
          rw [ha, hb, e]
      · intro x hx
        obtain ⟨y, hy, rfl⟩ := List.mem_map.1 hx
        obtain ⟨h1, h2⟩ := h y (List.mem_filter.1 hy).1
        match y with
        | [] => simp at h1
        | a :: y =>
          rw [List.all_cons, Bool.and_eq_true] at h2
          exact ⟨by simpa using h1, h2.2⟩
    have h3 := part3 (l := l) (fun x => x.head? == some 84) (fun x => x.head? == some 70) (fun x => x.head? == some 46) fun x hx => by
      obtain ⟨h1, h2⟩ := h x hx
      match x with
      | [] => simp at h1
      | a :: x =>
        rw [List.all_cons, Bool.and_eq_true] at h2
        rcases sign_cases a with rfl | rfl | rfl | h4
        · simp
        · simp
        · simp
        · rw [h4] at h2; simp at h2
    have := one 84
    have := one 70
    have := one 46
    rw [Nat.pow_succ]
    omega
theorem few_good {n : Nat} {l : List (List UInt8)} (hn : l.Nodup) (h : ∀ x ∈ l, goodT n x) : l.length ≤ 59049 := by
  cases l with
  | nil => simp
  | cons a r =>
    have h10 := (h a (by simp)).2.2
    refine Nat.le_trans (few_lines n (a :: r) hn fun x hx => ⟨(h x hx).2.1, ?_⟩) (Nat.le_trans (Nat.pow_le_pow_right (by omega) h10) (by decide))
    have := ((goodL_iff _).1 (h x hx).1).2.2
    rwa [byt_str] at this
theorem wayL_le {n : Nat} {l : List UInt8} (h : goodT n l) : wayL l ≤ 50000 := by
  have h1 := (goodL_iff _).1 h.1
  rw [byt_str] at h1
  have := wayAt_all l h1.2.2
  have := wayAt_small (l.length - cnt 84 l) l (by have := h.2.1; have := h.2.2; omega) (by have := h.2.1; have := h.2.2; omega)
  omega
end Go.Proofs.Ytjnidfleccbdbaa
namespace Go.Proofs.Ytjnidfleccbdbaa
open Go.RowKit
/-- A number as an int of 64 bits holds it. -/
def wr (n : Nat) : Int := ((n : Int) + 9223372036854775808) % 18446744073709551616 - 9223372036854775808
theorem wr_add (a b : Nat) : (wr a + wr b + 9223372036854775808) % 18446744073709551616 - 9223372036854775808 = wr (a + b) := by unfold wr; omega
theorem wr_wrap (a b : Nat) : IntKind.i64.wrap (wr a + wr b) = wr (a + b) := by
  rw [IntKind.wrap_i64]
  exact wr_add a b
theorem wr_in (n : Nat) : -9223372036854775808 ≤ wr n ∧ wr n ≤ 9223372036854775807 := by unfold wr; omega
theorem wr_wf (n : Nat) : (Lit.int .i64 (wr n)).wf = true := by
  have := wr_in n
  show (decide (IntKind.i64.min ≤ wr n) && decide (wr n ≤ IntKind.i64.max)) = true
  rw [show IntKind.i64.min = -9223372036854775808 from rfl, show IntKind.i64.max = 9223372036854775807 from rfl]
  simp
  omega
theorem wr_small (n : Nat) (h : n < 9223372036854775808) : wr n = n := by unfold wr; omega
theorem wr_zero : wr 0 = 0 := by decide
/-- The plays that go through some lines, k steps on, to a line. -/
def part (nx : List UInt8 → List (List UInt8)) (c : List UInt8 → Nat) (us : List (List UInt8)) (v : List UInt8) : Nat := (us.map fun u => (nx u).count v * c u).sum
section
variable {nx : List UInt8 → List (List UInt8)} {c : List UInt8 → Nat}
theorem part_nil (v : List UInt8) : part nx c [] v = 0 := rfl
theorem part_snoc (us : List (List UInt8)) (u v : List UInt8) : part nx c (us ++ [u]) v = part nx c us v + (nx u).count v * c u := by simp [part]
theorem part_perm {us ws : List (List UInt8)} (h : us.Perm ws) (v : List UInt8) : part nx c us v = part nx c ws v := by
  unfold part
  induction h with
  | nil => rfl
  | cons x _ ih => simp [ih]
  | swap x y l => simp; omega
  | trans _ _ h1 h2 => exact h1.trans h2
theorem part_pc (w : List UInt8) (k : Nat) (v : List UInt8) : part nx (pc nx w k) (lay nx w k) v = pc nx w (k + 1) v := rfl
theorem part_none (us : List (List UInt8)) (v : List UInt8) (h : ∀ u ∈ us, v ∉ nx u) : part nx c us v = 0 := by
  induction us with
  | nil => rfl
  | cons u us ih =>
    have h1 := ih fun x hx => h x (by simp [hx])
    have h2 : (nx u).count v = 0 := List.count_eq_zero.2 (h u (by simp))
    unfold part at h1 ⊢
    simp [h1, h2]
end
theorem count_take_snoc (l : List (List UInt8)) (j : Nat) (h : j < l.length) (v : List UInt8) : (l.take (j + 1)).count v = (l.take j).count v + if l[j] = v then 1 else 0 := by
  rw [List.take_succ_eq_append_getElem h, List.count_append]
  by_cases e : l[j] = v <;> simp [e]
end Go.Proofs.Ytjnidfleccbdbaa
namespace Go.Proofs.Ytjnidfleccbdbaa
open Go.RowKit Go.Maps

/-- The map has this at a key. -/
def hasV (D : DataW Unit) (x : List UInt8) (d : DataW Unit) : Prop := Maps.has D (.string x) = true ∧ ∀ z, D.atKey (.string x) z = d
theorem key_ne {x y : List UInt8} (h : x ≠ y) : (Lit.string x) ≠ .string y := fun e => h (by injection e)
theorem hasV_same {D : DataW Unit} (hD : IsMap D) (x : List UInt8) (d : DataW Unit) : hasV (D.put (.string x) d) x d :=
  ⟨has_put_same (k := .string x) hD trivial d, fun z => atKey_put_same (k := .string x) hD trivial d z⟩
theorem hasV_other {D : DataW Unit} {x y : List UInt8} {e : DataW Unit} (d : DataW Unit) (h : hasV D y e) (hne : y ≠ x) : hasV (D.put (.string x) d) y e :=
  ⟨by rw [has_put_other (key_ne hne)]; exact h.1, fun z => by rw [atKey_put_other (key_ne hne)]; exact h.2 z⟩
theorem has_put {D : DataW Unit} {x y : List UInt8} {d : DataW Unit} (h : Maps.has (D.put (.string x) d) (.string y) = true) : y = x ∨ Maps.has D (.string y) = true := by
  by_cases e : y = x
  · exact .inl e
  · rw [has_put_other (key_ne e)] at h
    exact .inr h
theorem hasV_del {D : DataW Unit} {x y : List UInt8} {e : DataW Unit} (h : hasV D y e) (hne : y ≠ x) : hasV (D.del (.string x)) y e :=
  ⟨by rw [has_del_other (key_ne hne)]; exact h.1, fun z => by rw [atKey_del_other (key_ne hne)]; exact h.2 z⟩
theorem has_del {D : DataW Unit} {x y : List UInt8} (h : Maps.has (D.del (.string x)) (.string y) = true) : y ≠ x ∧ Maps.has D (.string y) = true := by
  by_cases e : y = x
  · subst e; rw [has_del_same] at h; cases h
  · rw [has_del_other (key_ne e)] at h
    exact ⟨e, h⟩
theorem hasV_one {D : DataW Unit} {x : List UInt8} {d e : DataW Unit} (h1 : hasV D x d) (h2 : hasV D x e) : d = e := by rw [← h1.2 .nil, h2.2 .nil]
end Go.Proofs.Ytjnidfleccbdbaa
namespace Go.Proofs.Ytjnidfleccbdbaa
open Go.RowKit Go.Maps

theorem Try.keysS : Keyed Try.prog 9 := string_keyed Try.underlying9
/-- What an arrival reads as. -/
def arrD (a b : Int) : DataW Unit := .agg [.lit (.int .i64 a), .lit (.int .i64 b)]
def arrR : Value → Option (DataW Unit × List MemPlace)
  | .agg xs => match xs.toList with
    | [.int .i64 a, .int .i64 b] => some (arrD a b, [])
    | _ => none
  | _ => none
theorem arrR_mk (a b : Int) : arrR (.agg #[.int .i64 a, .int .i64 b]) = some (arrD a b, []) := rfl
theorem arrR_inv {v : Value} {y : DataW Unit × List MemPlace} (h : arrR v = some y) : ∃ a b, v = .agg #[.int .i64 a, .int .i64 b] ∧ y = (arrD a b, []) := by
  unfold arrR at h
  split at h
  · split at h
    · rename_i xs _ a b e
      injection h with h
      exact ⟨a, b, congrArg Value.agg (Array.ext' (by simpa using e)), h.symm⟩
    · cases h
  · cases h
noncomputable abbrev intR : Value → Option (DataW Unit × List MemPlace) := plainElem Try.prog 3
theorem intR_mk (n : Nat) : intR (.int .i64 (wr n)) = some (.lit (.int .i64 (wr n)), []) := plainElem_int Try.underlying3 (wr_wf n)
section
variable (nx : List UInt8 → List (List UInt8)) (wl : List UInt8)
/-- The lines of a layer that are still to come, with how many plays lead there. -/
def NowV (D : DataW Unit) (k : Nat) (us : List (List UInt8)) : Prop :=
  (∀ v, v ∈ lay nx wl k → v ∉ us → hasV D v (.lit (.int .i64 (wr (pc nx wl k v))))) ∧ ∀ v, Maps.has D (.string v) = true → v ∈ lay nx wl k ∧ v ∉ us
/-- The lines of the layers before, and those of this one that have come, with moves and plays. -/
def AllV (D : DataW Unit) (k : Nat) (us : List (List UInt8)) : Prop :=
  (∀ j v, j < k → v ∈ lay nx wl j → hasV D v (arrD j (wr (pc nx wl j v)))) ∧ (∀ v, v ∈ us → hasV D v (arrD k (wr (pc nx wl k v)))) ∧
    ∀ v, Maps.has D (.string v) = true → (∃ j, j < k ∧ v ∈ lay nx wl j) ∨ v ∈ us
/-- The lines behind those that have come, with the plays so far; and behind the first of the moves on one more. -/
def NextV (D : DataW Unit) (k : Nat) (us : List (List UInt8)) (x : List UInt8) (i : Nat) : Prop :=
  (∀ v, (∃ u, u ∈ us ∧ v ∈ nx u) ∨ v ∈ (nx x).take i → hasV D v (.lit (.int .i64 (wr (part nx (pc nx wl k) us v + ((nx x).take i).count v * pc nx wl k x))))) ∧
    ∀ v, Maps.has D (.string v) = true → (∃ u, u ∈ us ∧ v ∈ nx u) ∨ v ∈ (nx x).take i
end
section
variable {nx : List UInt8 → List (List UInt8)} {wl : List UInt8} {D : DataW Unit}
theorem nextV_zero {k : Nat} {us : List (List UInt8)} (x : List UInt8) {y : List UInt8} (h : NextV nx wl D k us y 0) : NextV nx wl D k us x 0 := by
  refine ⟨fun v hv => ?_, fun v hv => ?_⟩
  · have := h.1 v (by simpa using hv)
    simpa using this
  · simpa using h.2 v hv
theorem nextV_start {k : Nat} (x : List UInt8) (h : ∀ v, Maps.has D (.string v) = false) : NextV nx wl D k [] x 0 := by
  refine ⟨fun v hv => ?_, fun v hv => ?_⟩
  · simp at hv
  · rw [h v] at hv; cases hv
theorem nextV_step {k : Nat} {us : List (List UInt8)} {x : List UInt8} {i : Nat} (hD : IsMap D) (h : NextV nx wl D k us x i) (hi : i < (nx x).length) {c : Int}
    (hc : D.atKey (.string (nx x)[i]) (.lit (.int .i64 0)) = .lit (.int .i64 c)) :
    ∃ n : Nat, c = wr n ∧ NextV nx wl (D.put (.string (nx x)[i]) (.lit (.int .i64 (wr (n + pc nx wl k x))))) k us x (i + 1) := by
  have hcount := count_take_snoc (nx x) i hi
  have hval : c = wr (part nx (pc nx wl k) us (nx x)[i] + ((nx x).take i).count (nx x)[i] * pc nx wl k x) := by
    by_cases hh : (∃ u, u ∈ us ∧ (nx x)[i] ∈ nx u) ∨ (nx x)[i] ∈ (nx x).take i
    · have := (h.1 _ hh).2 (.lit (.int .i64 0))
      rw [hc] at this
      injection this with this
      injection this
    · have hno : Maps.has D (.string (nx x)[i]) = false := by
        cases hb : Maps.has D (.string (nx x)[i])
        · rfl
        · exact absurd (h.2 _ hb) hh
      rw [atKey_of_not_has hno] at hc
      injection hc with hc
      injection hc with _ hc
      have h1 : part nx (pc nx wl k) us (nx x)[i] = 0 := part_none us _ fun u hu hv => hh (.inl ⟨u, hu, hv⟩)
      have h2 : ((nx x).take i).count (nx x)[i] = 0 := List.count_eq_zero.2 fun hv => hh (.inr hv)
      rw [h1, h2, ← hc]
      simp [wr_zero]
  refine ⟨_, hval, fun v hv => ?_, fun v hv => ?_⟩
  · by_cases e : v = (nx x)[i]
    · subst e
      rw [hcount, if_pos rfl, Nat.add_mul, Nat.one_mul, ← Nat.add_assoc]
      exact hasV_same hD _ _
    · rw [hcount, if_neg (fun e2 => e e2.symm), Nat.add_zero]
      refine hasV_other _ (h.1 v ?_) e
      rw [List.take_succ_eq_append_getElem hi] at hv
      rcases hv with hv | hv
      · exact .inl hv
      · rw [List.mem_append] at hv
        rcases hv with hv | hv
        · exact .inr hv
        · exact absurd (by simpa using hv) e
  · rw [List.take_succ_eq_append_getElem hi, List.mem_append]
    rcases has_put hv with rfl | hv
    · exact .inr (.inr (by simp))
    · rcases h.2 v hv with hv | hv
      · exact .inl hv
      · exact .inr (.inl hv)
theorem nextV_row {k : Nat} {us : List (List UInt8)} {x : List UInt8} (y : List UInt8) (h : NextV nx wl D k us x (nx x).length) : NextV nx wl D k (us ++ [x]) y 0 := by
  refine ⟨fun v hv => ?_, fun v hv => ?_⟩
  · have hv' : (∃ u, u ∈ us ∧ v ∈ nx u) ∨ v ∈ (nx x).take (nx x).length := by
      rw [List.take_length]
      rcases hv with ⟨u, hu, hv⟩ | hv
      · rcases List.mem_append.1 hu with hu | hu
        · exact .inl ⟨u, hu, hv⟩
        · obtain rfl : u = x := by simpa using hu
          exact .inr hv
      · simp at hv
    have := h.1 v hv'
    rw [List.take_length] at this
    rw [part_snoc]
    simpa using this
  · rcases h.2 v hv with ⟨u, hu, hv⟩ | hv
    · exact .inl ⟨u, by simp [hu], hv⟩
    · rw [List.take_length] at hv
      exact .inl ⟨x, by simp, hv⟩
theorem nextV_end {k : Nat} {us : List (List UInt8)} {x : List UInt8} (h : NextV nx wl D k us x 0) (hp : us.Perm (lay nx wl k)) : NowV nx wl D (k + 1) [] := by
  refine ⟨fun v hv _ => ?_, fun v hv => ⟨?_, by simp⟩⟩
  · obtain ⟨u, hu, hv⟩ := (mem_lay_next k v).1 hv
    have := h.1 v (.inl ⟨u, hp.mem_iff.2 hu, hv⟩)
    rw [part_perm hp, part_pc] at this
    simpa using this
  · rcases h.2 v hv with ⟨u, hu, hv⟩ | hv
    · exact (mem_lay_next k v).2 ⟨u, hp.mem_iff.1 hu, hv⟩
    · simp at hv
theorem allV_step {k : Nat} {us : List (List UInt8)} {x : List UInt8} (hD : IsMap D) (h : AllV nx wl D k us) (hx : ∀ j, j < k → x ∉ lay nx wl j) (hu : x ∉ us) :
    AllV nx wl (D.put (.string x) (arrD k (wr (pc nx wl k x)))) k (us ++ [x]) := by
  refine ⟨fun j v hj hv => hasV_other _ (h.1 j v hj hv) fun e => hx j hj (e ▸ hv), fun v hv => ?_, fun v hv => ?_⟩
  · rcases List.mem_append.1 hv with hv | hv
    · exact hasV_other _ (h.2.1 v hv) fun e => hu (e ▸ hv)
    · obtain rfl : v = x := by simpa using hv
      exact hasV_same hD _ _
  · rcases has_put hv with rfl | hv
    · exact .inr (by simp)
    · rcases h.2.2 v hv with hv | hv
      · exact .inl hv
      · exact .inr (by simp [hv])
theorem allV_row {k : Nat} {us : List (List UInt8)} (h : AllV nx wl D k us) (hp : us.Perm (lay nx wl k)) : AllV nx wl D (k + 1) [] := by
  refine ⟨fun j v hj hv => ?_, fun v hv => by simp at hv, fun v hv => ?_⟩
  · by_cases e : j = k
    · subst e; exact h.2.1 v (hp.mem_iff.2 hv)
    · exact h.1 j v (by omega) hv
  · rcases h.2.2 v hv with ⟨j, hj, hv⟩ | hv
    · exact .inl ⟨j, by omega, hv⟩
    · exact .inl ⟨k, by omega, hp.mem_iff.1 hv⟩
theorem nowV_step {k : Nat} {us : List (List UInt8)} {x : List UInt8} (h : NowV nx wl D k us) : NowV nx wl (D.del (.string x)) k (us ++ [x]) := by
  refine ⟨fun v hv hn => ?_, fun v hv => ?_⟩
  · simp at hn
    exact hasV_del (h.1 v hv hn.1) hn.2
  · obtain ⟨hne, hv⟩ := has_del hv
    obtain ⟨h1, h2⟩ := h.2 v hv
    exact ⟨h1, by simp [h2, hne]⟩
end
/-- A map all of whose keys are lines of so many cells has few. -/
theorem keys_nodup {P : Program} {k : TypeId} {R : Value → Option (DataW Unit × List MemPlace)} {w : World} {b n : Nat} {D : DataW Unit} (h : w.ownsMap P k R b n D) (K : Keyed P k) (hk : P.underlying k = some .string) :
    (strKeys D).Nodup ∧ (∀ x, x ∈ strKeys D ↔ Maps.has D (.string x) = true) ∧ (strKeys D).length = Maps.size D := by
  obtain ⟨es, hD, hpw, _⟩ := h.entries K
  obtain ⟨es', hD', hko⟩ := h.keysOf
  obtain rfl : es = es' := by rw [hD] at hD'; simpa using hD'
  subst hD
  have hs : ∀ p ∈ es, ∃ x, p.1 = .string x := fun p hp => by obtain ⟨v, hv⟩ := hko p hp; obtain ⟨x, _, hx, _⟩ := Maps.keyOf_str hk hv; exact ⟨x, hx⟩
  refine ⟨?_, fun x => ?_, by simp [strKeys, Maps.size]⟩
  · show (es.map fun p => strOf p.1).Nodup
    refine List.pairwise_map.2 (hpw.imp_of_mem fun {p q} hp' hq' hne e => hne ?_)
    obtain ⟨a, ha⟩ := hs p hp'
    obtain ⟨b, hb⟩ := hs q hq'
    rw [ha, hb] at e ⊢
    exact congrArg _ e
  · show x ∈ (es.map fun p => strOf p.1) ↔ _
    rw [has_eq, List.any_eq_true, List.mem_map]
    constructor
    · rintro ⟨p, hp, rfl⟩
      obtain ⟨a, ha⟩ := hs p hp
      exact ⟨p, hp, by rw [ha]; simp [Lit.sameKey, strOf]⟩
    · rintro ⟨p, hp, hs'⟩
      obtain ⟨a, ha⟩ := hs p hp
      rw [ha] at hs'
      exact ⟨p, hp, by rw [ha]; simpa [Lit.sameKey, strOf] using hs'⟩
theorem own_size {P : Program} {k : TypeId} {R : Value → Option (DataW Unit × List MemPlace)} {w : World} {b n : Nat} {D : DataW Unit} (h : w.ownsMap P k R b n D) : w.ownsMap P k R b (Maps.size D) D := by
  obtain ⟨es, clock, hb, F, hs, rfl⟩ := h
  exact ⟨es, clock, hb, F, by simp [Maps.size, length_sorted], rfl⟩
theorem own_few {c : Nat} {P : Program} {k : TypeId} {R : Value → Option (DataW Unit × List MemPlace)} {w : World} {b n : Nat} {D : DataW Unit} (h : w.ownsMap P k R b n D) (K : Keyed P k) (hk : P.underlying k = some .string)
    (hg : ∀ v, Maps.has D (.string v) = true → goodT c v) : w.ownsMap P k R b 59049 D := by
  obtain ⟨h1, h2, h3⟩ := keys_nodup h K hk
  exact (own_size h).mono (by rw [← h3]; exact few_good h1 fun x hx => hg x ((h2 x).1 hx))
end Go.Proofs.Ytjnidfleccbdbaa
