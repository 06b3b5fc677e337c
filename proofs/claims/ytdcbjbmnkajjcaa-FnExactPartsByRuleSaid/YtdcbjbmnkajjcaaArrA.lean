/- What the program's maps of lines hold, key by key; no walk. -/
import Derived.Test.YtdcbjbmnkajjcaaReachC
import Derived.Test.YtdcbjbmnkajjcaaHsV
import Derived.Maps.RangeWalk
import Derived.Maps.OwnOps
import Derived.Maps.OwnSet
import Derived.Sort.KeysCollected
namespace Go.Proofs.Ytdcbjbmnkajjcaa
open Go.RowKit Go.Maps

theorem Try.keysS : Keyed Try.prog 9 := string_keyed Try.underlying9
/-- What an arrival reads as. -/
def arrD (a b : Int) : DataW Unit := .agg [.lit (.int .i64 a), .lit (.int .i64 b)]
def arrR : Value → Option (DataW Unit × List MemPlace)
  | .agg xs => match xs.toList with
    | [.int .i64 a, .int .i64 b] => some (arrD a b, [])
    | _ => none
  | _ => none
theorem arrR_mk (a b : Int) : arrR (.agg #[.int .i64 a, .int .i64 b]) = some (arrD a b, []) := rfl
theorem arrR_inv {v : Value} {y : DataW Unit × List MemPlace} (h : arrR v = some y) : ∃ a b, v = .agg #[.int .i64 a, .int .i64 b] ∧ y = (arrD a b, []) := by
  unfold arrR at h
  split at h
  · split at h
    · rename_i xs _ a b e
      injection h with h
      exact ⟨a, b, congrArg Value.agg (Array.ext' (by simpa using e)), h.symm⟩
    · cases h
  · cases h
noncomputable abbrev intR : Value → Option (DataW Unit × List MemPlace) := plainElem Try.prog 3
theorem intR_mk (n : Nat) : intR (.int .i64 (wr n)) = some (.lit (.int .i64 (wr n)), []) := plainElem_int Try.underlying3 (wr_wf n)
section
variable (nx : List UInt8 → List (List UInt8)) (wl : List UInt8)
/-- The lines of a layer that are still to come, with how many plays lead there. -/
def NowV (D : DataW Unit) (k : Nat) (us : List (List UInt8)) : Prop :=
  (∀ v, v ∈ lay nx wl k → v ∉ us → hasV D v (.lit (.int .i64 (wr (pc nx wl k v))))) ∧ ∀ v, Maps.has D (.string v) = true → v ∈ lay nx wl k ∧ v ∉ us
/-- The lines of the layers before, and those of this one that have come, with moves and plays. -/
def AllV (D : DataW Unit) (k : Nat) (us : List (List UInt8)) : Prop :=
  (∀ j v, j < k → v ∈ lay nx wl j → hasV D v (arrD j (wr (pc nx wl j v)))) ∧ (∀ v, v ∈ us → hasV D v (arrD k (wr (pc nx wl k v)))) ∧
    ∀ v, Maps.has D (.string v) = true → (∃ j, j < k ∧ v ∈ lay nx wl j) ∨ v ∈ us
/-- The lines behind those that have come, with the plays so far; and behind the first of the moves on one more. -/
def NextV (D : DataW Unit) (k : Nat) (us : List (List UInt8)) (x : List UInt8) (i : Nat) : Prop :=
  (∀ v, (∃ u, u ∈ us ∧ v ∈ nx u) ∨ v ∈ (nx x).take i → hasV D v (.lit (.int .i64 (wr (part nx (pc nx wl k) us v + ((nx x).take i).count v * pc nx wl k x))))) ∧
    ∀ v, Maps.has D (.string v) = true → (∃ u, u ∈ us ∧ v ∈ nx u) ∨ v ∈ (nx x).take i
end
section
variable {nx : List UInt8 → List (List UInt8)} {wl : List UInt8} {D : DataW Unit}
theorem nextV_zero {k : Nat} {us : List (List UInt8)} (x : List UInt8) {y : List UInt8} (h : NextV nx wl D k us y 0) : NextV nx wl D k us x 0 := by
  refine ⟨fun v hv => ?_, fun v hv => ?_⟩
  · have := h.1 v (by simpa using hv)
    simpa using this
  · simpa using h.2 v hv
theorem nextV_start {k : Nat} (x : List UInt8) (h : ∀ v, Maps.has D (.string v) = false) : NextV nx wl D k [] x 0 := by
  refine ⟨fun v hv => ?_, fun v hv => ?_⟩
  · simp at hv
  · rw [h v] at hv; cases hv
theorem nextV_step {k : Nat} {us : List (List UInt8)} {x : List UInt8} {i : Nat} (hD : IsMap D) (h : NextV nx wl D k us x i) (hi : i < (nx x).length) {c : Int}
    (hc : D.atKey (.string (nx x)[i]) (.lit (.int .i64 0)) = .lit (.int .i64 c)) :
    ∃ n : Nat, c = wr n ∧ NextV nx wl (D.put (.string (nx x)[i]) (.lit (.int .i64 (wr (n + pc nx wl k x))))) k us x (i + 1) := by
  have hcount := count_take_snoc (nx x) i hi
  have hval : c = wr (part nx (pc nx wl k) us (nx x)[i] + ((nx x).take i).count (nx x)[i] * pc nx wl k x) := by
    by_cases hh : (∃ u, u ∈ us ∧ (nx x)[i] ∈ nx u) ∨ (nx x)[i] ∈ (nx x).take i
    · have := (h.1 _ hh).2 (.lit (.int .i64 0))
      rw [hc] at this
      injection this with this
      injection this
    · have hno : Maps.has D (.string (nx x)[i]) = false := by
        cases hb : Maps.has D (.string (nx x)[i])
        · rfl
        · exact absurd (h.2 _ hb) hh
      rw [atKey_of_not_has hno] at hc
      injection hc with hc
      injection hc with _ hc
      have h1 : part nx (pc nx wl k) us (nx x)[i] = 0 := part_none us _ fun u hu hv => hh (.inl ⟨u, hu, hv⟩)
      have h2 : ((nx x).take i).count (nx x)[i] = 0 := List.count_eq_zero.2 fun hv => hh (.inr hv)
      rw [h1, h2, ← hc]
      simp [wr_zero]
  refine ⟨_, hval, fun v hv => ?_, fun v hv => ?_⟩
  · by_cases e : v = (nx x)[i]
    · subst e
      rw [hcount, if_pos rfl, Nat.add_mul, Nat.one_mul, ← Nat.add_assoc]
      exact hasV_same hD _ _
    · rw [hcount, if_neg (fun e2 => e e2.symm), Nat.add_zero]
      refine hasV_other _ (h.1 v ?_) e
      rw [List.take_succ_eq_append_getElem hi] at hv
      rcases hv with hv | hv
      · exact .inl hv
      · rw [List.mem_append] at hv
        rcases hv with hv | hv
        · exact .inr hv
        · exact absurd (by simpa using hv) e
  · rw [List.take_succ_eq_append_getElem hi, List.mem_append]
    rcases has_put hv with rfl | hv
    · exact .inr (.inr (by simp))
    · rcases h.2 v hv with hv | hv
      · exact .inl hv
      · exact .inr (.inl hv)
theorem nextV_row {k : Nat} {us : List (List UInt8)} {x : List UInt8} (y : List UInt8) (h : NextV nx wl D k us x (nx x).length) : NextV nx wl D k (us ++ [x]) y 0 := by
  refine ⟨fun v hv => ?_, fun v hv => ?_⟩
  · have hv' : (∃ u, u ∈ us ∧ v ∈ nx u) ∨ v ∈ (nx x).take (nx x).length := by
      rw [List.take_length]
      rcases hv with ⟨u, hu, hv⟩ | hv
      · rcases List.mem_append.1 hu with hu | hu
        · exact .inl ⟨u, hu, hv⟩
        · obtain rfl : u = x := by simpa using hu
          exact .inr hv
      · simp at hv
    have := h.1 v hv'
    rw [List.take_length] at this
    rw [part_snoc]
    simpa using this
  · rcases h.2 v hv with ⟨u, hu, hv⟩ | hv
    · exact .inl ⟨u, by simp [hu], hv⟩
    · rw [List.take_length] at hv
      exact .inl ⟨x, by simp, hv⟩
theorem nextV_end {k : Nat} {us : List (List UInt8)} {x : List UInt8} (h : NextV nx wl D k us x 0) (hp : us.Perm (lay nx wl k)) : NowV nx wl D (k + 1) [] := by
  refine ⟨fun v hv _ => ?_, fun v hv => ⟨?_, by simp⟩⟩
  · obtain ⟨u, hu, hv⟩ := (mem_lay_next k v).1 hv
    have := h.1 v (.inl ⟨u, hp.mem_iff.2 hu, hv⟩)
    rw [part_perm hp, part_pc] at this
    simpa using this
  · rcases h.2 v hv with ⟨u, hu, hv⟩ | hv
    · exact (mem_lay_next k v).2 ⟨u, hp.mem_iff.1 hu, hv⟩
    · simp at hv
theorem allV_step {k : Nat} {us : List (List UInt8)} {x : List UInt8} (hD : IsMap D) (h : AllV nx wl D k us) (hx : ∀ j, j < k → x ∉ lay nx wl j) (hu : x ∉ us) :
    AllV nx wl (D.put (.string x) (arrD k (wr (pc nx wl k x)))) k (us ++ [x]) := by
  refine ⟨fun j v hj hv => hasV_other _ (h.1 j v hj hv) fun e => hx j hj (e ▸ hv), fun v hv => ?_, fun v hv => ?_⟩
  · rcases List.mem_append.1 hv with hv | hv
    · exact hasV_other _ (h.2.1 v hv) fun e => hu (e ▸ hv)
    · obtain rfl : v = x := by simpa using hv
      exact hasV_same hD _ _
  · rcases has_put hv with rfl | hv
    · exact .inr (by simp)
    · rcases h.2.2 v hv with hv | hv
      · exact .inl hv
      · exact .inr (by simp [hv])
theorem allV_row {k : Nat} {us : List (List UInt8)} (h : AllV nx wl D k us) (hp : us.Perm (lay nx wl k)) : AllV nx wl D (k + 1) [] := by
  refine ⟨fun j v hj hv => ?_, fun v hv => by simp at hv, fun v hv => ?_⟩
  · by_cases e : j = k
    · subst e; exact h.2.1 v (hp.mem_iff.2 hv)
    · exact h.1 j v (by omega) hv
  · rcases h.2.2 v hv with ⟨j, hj, hv⟩ | hv
    · exact .inl ⟨j, by omega, hv⟩
    · exact .inl ⟨k, by omega, hp.mem_iff.1 hv⟩
theorem nowV_step {k : Nat} {us : List (List UInt8)} {x : List UInt8} (h : NowV nx wl D k us) : NowV nx wl (D.del (.string x)) k (us ++ [x]) := by
  refine ⟨fun v hv hn => ?_, fun v hv => ?_⟩
  · simp at hn
    exact hasV_del (h.1 v hv hn.1) hn.2
  · obtain ⟨hne, hv⟩ := has_del hv
    obtain ⟨h1, h2⟩ := h.2 v hv
    exact ⟨h1, by simp [h2, hne]⟩
end
/-- A map all of whose keys are lines of so many cells has few. -/
theorem keys_nodup {P : Program} {k : TypeId} {R : Value → Option (DataW Unit × List MemPlace)} {w : World} {b n : Nat} {D : DataW Unit} (h : w.ownsMap P k R b n D) (K : Keyed P k) (hk : P.underlying k = some .string) :
    (strKeys D).Nodup ∧ (∀ x, x ∈ strKeys D ↔ Maps.has D (.string x) = true) ∧ (strKeys D).length = Maps.size D := by
  obtain ⟨es, hD, hpw, _⟩ := h.entries K
  obtain ⟨es', hD', hko⟩ := h.keysOf
  obtain rfl : es = es' := by rw [hD] at hD'; simpa using hD'
  subst hD
  have hs : ∀ p ∈ es, ∃ x, p.1 = .string x := fun p hp => by obtain ⟨v, hv⟩ := hko p hp; obtain ⟨x, _, hx, _⟩ := Maps.keyOf_str hk hv; exact ⟨x, hx⟩
  refine ⟨?_, fun x => ?_, by simp [strKeys, Maps.size]⟩
  · show (es.map fun p => strOf p.1).Nodup
    refine List.pairwise_map.2 (hpw.imp_of_mem fun {p q} hp' hq' hne e => hne ?_)
    obtain ⟨a, ha⟩ := hs p hp'
    obtain ⟨b, hb⟩ := hs q hq'
    rw [ha, hb] at e ⊢
    exact congrArg _ e
  · show x ∈ (es.map fun p => strOf p.1) ↔ _
    rw [has_eq, List.any_eq_true, List.mem_map]
    constructor
    · rintro ⟨p, hp, rfl⟩
      obtain ⟨a, ha⟩ := hs p hp
      exact ⟨p, hp, by rw [ha]; simp [Lit.sameKey, strOf]⟩
    · rintro ⟨p, hp, hs'⟩
      obtain ⟨a, ha⟩ := hs p hp
      rw [ha] at hs'
      exact ⟨p, hp, by rw [ha]; simpa [Lit.sameKey, strOf] using hs'⟩
theorem own_size {P : Program} {k : TypeId} {R : Value → Option (DataW Unit × List MemPlace)} {w : World} {b n : Nat} {D : DataW Unit} (h : w.ownsMap P k R b n D) : w.ownsMap P k R b (Maps.size D) D := by
  obtain ⟨es, clock, hb, F, hs, rfl⟩ := h
  exact ⟨es, clock, hb, F, by simp [Maps.size, length_sorted], rfl⟩
theorem own_few {c : Nat} {P : Program} {k : TypeId} {R : Value → Option (DataW Unit × List MemPlace)} {w : World} {b n : Nat} {D : DataW Unit} (h : w.ownsMap P k R b n D) (K : Keyed P k) (hk : P.underlying k = some .string)
    (hg : ∀ v, Maps.has D (.string v) = true → goodT c v) : w.ownsMap P k R b 59049 D := by
  obtain ⟨h1, h2, h3⟩ := keys_nodup h K hk
  exact (own_size h).mono (by rw [← h3]; exact few_good h1 fun x hx => hg x ((h2 x).1 hx))
end Go.Proofs.Ytdcbjbmnkajjcaa
