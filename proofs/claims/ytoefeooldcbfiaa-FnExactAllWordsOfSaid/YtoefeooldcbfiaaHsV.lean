/- What a map holds at a key; no walk. -/
import Derived.Maps.RangeWalk
import Derived.Maps.OwnOps
import Derived.Maps.OwnSet
import Derived.Sort.KeysCollected
import Derived.Test.YtoefeooldcbfiaaReachC
import Derived.Test.YtoefeooldcbfiaaLay
import Derived.ScopeJumps
import Derived.WalkMore
import Derived.Maps.AppendAt
import Derived.StringKeys
namespace Go.Proofs.Ytoefeooldcbfiaa
open Go.RowKit Go.Maps

/-- The map has this at a key. -/
def hasV (D : DataW Unit) (x : List UInt8) (d : DataW Unit) : Prop := Maps.has D (.string x) = true ∧ ∀ z, D.atKey (.string x) z = d
theorem key_ne {x y : List UInt8} (h : x ≠ y) : (Lit.string x) ≠ .string y := fun e => h (by injection e)
theorem hasV_same {D : DataW Unit} (hD : IsMap D) (x : List UInt8) (d : DataW Unit) : hasV (D.put (.string x) d) x d :=
  ⟨has_put_same (k := .string x) hD trivial d, fun z => atKey_put_same (k := .string x) hD trivial d z⟩
theorem hasV_other {D : DataW Unit} {x y : List UInt8} {e : DataW Unit} (d : DataW Unit) (h : hasV D y e) (hne : y ≠ x) : hasV (D.put (.string x) d) y e :=
  ⟨by rw [has_put_other (key_ne hne)]; exact h.1, fun z => by rw [atKey_put_other (key_ne hne)]; exact h.2 z⟩
theorem has_put {D : DataW Unit} {x y : List UInt8} {d : DataW Unit} (h : Maps.has (D.put (.string x) d) (.string y) = true) : y = x ∨ Maps.has D (.string y) = true := by
  by_cases e : y = x
  · exact .inl e
  · rw [has_put_other (key_ne e)] at h
    exact .inr h
theorem hasV_del {D : DataW Unit} {x y : List UInt8} {e : DataW Unit} (h : hasV D y e) (hne : y ≠ x) : hasV (D.del (.string x)) y e :=
  ⟨by rw [has_del_other (key_ne hne)]; exact h.1, fun z => by rw [atKey_del_other (key_ne hne)]; exact h.2 z⟩
theorem has_del {D : DataW Unit} {x y : List UInt8} (h : Maps.has (D.del (.string x)) (.string y) = true) : y ≠ x ∧ Maps.has D (.string y) = true := by
  by_cases e : y = x
  · subst e; rw [has_del_same] at h; cases h
  · rw [has_del_other (key_ne e)] at h
    exact ⟨e, h⟩
theorem hasV_one {D : DataW Unit} {x : List UInt8} {d e : DataW Unit} (h1 : hasV D x d) (h2 : hasV D x e) : d = e := by rw [← h1.2 .nil, h2.2 .nil]
end Go.Proofs.Ytoefeooldcbfiaa
namespace Go.Proofs.Ytoefeooldcbfiaa
open Go.RowKit Go.Maps

theorem Try.keysS : Keyed Try.prog 9 := string_keyed Try.underlying9
/-- What an arrival reads as. -/
def arrD (a b : Int) : DataW Unit := .agg [.lit (.int .i64 a), .lit (.int .i64 b)]
def arrR : Value → Option (DataW Unit × List MemPlace)
  | .agg xs => match xs.toList with
    | [.int .i64 a, .int .i64 b] => some (arrD a b, [])
    | _ => none
  | _ => none
theorem arrR_mk (a b : Int) : arrR (.agg #[.int .i64 a, .int .i64 b]) = some (arrD a b, []) := rfl
theorem arrR_inv {v : Value} {y : DataW Unit × List MemPlace} (h : arrR v = some y) : ∃ a b, v = .agg #[.int .i64 a, .int .i64 b] ∧ y = (arrD a b, []) := by
  unfold arrR at h
  split at h
  · split at h
    · rename_i xs _ a b e
      injection h with h
      exact ⟨a, b, congrArg Value.agg (Array.ext' (by simpa using e)), h.symm⟩
    · cases h
  · cases h
noncomputable abbrev intR : Value → Option (DataW Unit × List MemPlace) := plainElem Try.prog 3
theorem intR_mk (n : Nat) : intR (.int .i64 (wr n)) = some (.lit (.int .i64 (wr n)), []) := plainElem_int Try.underlying3 (wr_wf n)
section
variable (nx : List UInt8 → List (List UInt8)) (wl : List UInt8)
/-- The lines of a layer that are still to come, with how many plays lead there. -/
def NowV (D : DataW Unit) (k : Nat) (us : List (List UInt8)) : Prop :=
  (∀ v, v ∈ lay nx wl k → v ∉ us → hasV D v (.lit (.int .i64 (wr (pc nx wl k v))))) ∧ ∀ v, Maps.has D (.string v) = true → v ∈ lay nx wl k ∧ v ∉ us
/-- The lines of the layers before, and those of this one that have come, with moves and plays. -/
def AllV (D : DataW Unit) (k : Nat) (us : List (List UInt8)) : Prop :=
  (∀ j v, j < k → v ∈ lay nx wl j → hasV D v (arrD j (wr (pc nx wl j v)))) ∧ (∀ v, v ∈ us → hasV D v (arrD k (wr (pc nx wl k v)))) ∧
    ∀ v, Maps.has D (.string v) = true → (∃ j, j < k ∧ v ∈ lay nx wl j) ∨ v ∈ us
/-- The lines behind those that have come, with the plays so far; and behind the first of the moves on one more. -/
def NextV (D : DataW Unit) (k : Nat) (us : List (List UInt8)) (x : List UInt8) (i : Nat) : Prop :=
  (∀ v, (∃ u, u ∈ us ∧ v ∈ nx u) ∨ v ∈ (nx x).take i → hasV D v (.lit (.int .i64 (wr (part nx (pc nx wl k) us v + ((nx x).take i).count v * pc nx wl k x))))) ∧
    ∀ v, Maps.has D (.string v) = true → (∃ u, u ∈ us ∧ v ∈ nx u) ∨ v ∈ (nx x).take i
end
section
variable {nx : List UInt8 → List (List UInt8)} {wl : List UInt8} {D : DataW Unit}
theorem nextV_zero {k : Nat} {us : List (List UInt8)} (x : List UInt8) {y : List UInt8} (h : NextV nx wl D k us y 0) : NextV nx wl D k us x 0 := by
  refine ⟨fun v hv => ?_, fun v hv => ?_⟩
  · have := h.1 v (by simpa using hv)
    simpa using this
  · simpa using h.2 v hv
theorem nextV_start {k : Nat} (x : List UInt8) (h : ∀ v, Maps.has D (.string v) = false) : NextV nx wl D k [] x 0 := by
  refine ⟨fun v hv => ?_, fun v hv => ?_⟩
  · simp at hv
  · rw [h v] at hv; cases hv
theorem nextV_step {k : Nat} {us : List (List UInt8)} {x : List UInt8} {i : Nat} (hD : IsMap D) (h : NextV nx wl D k us x i) (hi : i < (nx x).length) {c : Int}
    (hc : D.atKey (.string (nx x)[i]) (.lit (.int .i64 0)) = .lit (.int .i64 c)) :
    ∃ n : Nat, c = wr n ∧ NextV nx wl (D.put (.string (nx x)[i]) (.lit (.int .i64 (wr (n + pc nx wl k x))))) k us x (i + 1) := by
  have hcount := count_take_snoc (nx x) i hi
  have hval : c = wr (part nx (pc nx wl k) us (nx x)[i] + ((nx x).take i).count (nx x)[i] * pc nx wl k x) := by
    by_cases hh : (∃ u, u ∈ us ∧ (nx x)[i] ∈ nx u) ∨ (nx x)[i] ∈ (nx x).take i
    · have := (h.1 _ hh).2 (.lit (.int .i64 0))
      rw [hc] at this
      injection this with this
      injection this
    · have hno : Maps.has D (.string (nx x)[i]) = false := by
        cases hb : Maps.has D (.string (nx x)[i])
        · rfl
        · exact absurd (h.2 _ hb) hh
      rw [atKey_of_not_has hno] at hc
      injection hc with hc
      injection hc with _ hc
      have h1 : part nx (pc nx wl k) us (nx x)[i] = 0 := part_none us _ fun u hu hv => hh (.inl ⟨u, hu, hv⟩)
      have h2 : ((nx x).take i).count (nx x)[i] = 0 := List.count_eq_zero.2 fun hv => hh (.inr hv)
      rw [h1, h2, ← hc]
      simp [wr_zero]
  refine ⟨_, hval, fun v hv => ?_, fun v hv => ?_⟩
  · by_cases e : v = (nx x)[i]
    · subst e
      rw [hcount, if_pos rfl, Nat.add_mul, Nat.one_mul, ← Nat.add_assoc]
      exact hasV_same hD _ _
    · rw [hcount, if_neg (fun e2 => e e2.symm), Nat.add_zero]
      refine hasV_other _ (h.1 v ?_) e
      rw [List.take_succ_eq_append_getElem hi] at hv
      rcases hv with hv | hv
      · exact .inl hv
      · rw [List.mem_append] at hv
        rcases hv with hv | hv
        · exact .inr hv
        · exact absurd (by simpa using hv) e
  · rw [List.take_succ_eq_append_getElem hi, List.mem_append]
    rcases has_put hv with rfl | hv
    · exact .inr (.inr (by simp))
    · rcases h.2 v hv with hv | hv
      · exact .inl hv
      · exact .inr (.inl hv)
theorem nextV_row {k : Nat} {us : List (List UInt8)} {x : List UInt8} (y : List UInt8) (h : NextV nx wl D k us x (nx x).length) : NextV nx wl D k (us ++ [x]) y 0 := by
  refine ⟨fun v hv => ?_, fun v hv => ?_⟩
  · have hv' : (∃ u, u ∈ us ∧ v ∈ nx u) ∨ v ∈ (nx x).take (nx x).length := by
      rw [List.take_length]
      rcases hv with ⟨u, hu, hv⟩ | hv
      · rcases List.mem_append.1 hu with hu | hu
        · exact .inl ⟨u, hu, hv⟩
        · obtain rfl : u = x := by simpa using hu
          exact .inr hv
      · simp at hv
    have := h.1 v hv'
    rw [List.take_length] at this
    rw [part_snoc]
    simpa using this
  · rcases h.2 v hv with ⟨u, hu, hv⟩ | hv
    · exact .inl ⟨u, by simp [hu], hv⟩
    · rw [List.take_length] at hv
      exact .inl ⟨x, by simp, hv⟩
theorem nextV_end {k : Nat} {us : List (List UInt8)} {x : List UInt8} (h : NextV nx wl D k us x 0) (hp : us.Perm (lay nx wl k)) : NowV nx wl D (k + 1) [] := by
  refine ⟨fun v hv _ => ?_, fun v hv => ⟨?_, by simp⟩⟩
  · obtain ⟨u, hu, hv⟩ := (mem_lay_next k v).1 hv
    have := h.1 v (.inl ⟨u, hp.mem_iff.2 hu, hv⟩)
    rw [part_perm hp, part_pc] at this
    simpa using this
  · rcases h.2 v hv with ⟨u, hu, hv⟩ | hv
    · exact (mem_lay_next k v).2 ⟨u, hp.mem_iff.1 hu, hv⟩
    · simp at hv
theorem allV_step {k : Nat} {us : List (List UInt8)} {x : List UInt8} (hD : IsMap D) (h : AllV nx wl D k us) (hx : ∀ j, j < k → x ∉ lay nx wl j) (hu : x ∉ us) :
    AllV nx wl (D.put (.string x) (arrD k (wr (pc nx wl k x)))) k (us ++ [x]) := by
  refine ⟨fun j v hj hv => hasV_other _ (h.1 j v hj hv) fun e => hx j hj (e ▸ hv), fun v hv => ?_, fun v hv => ?_⟩
  · rcases List.mem_append.1 hv with hv | hv
    · exact hasV_other _ (h.2.1 v hv) fun e => hu (e ▸ hv)
    · obtain rfl : v = x := by simpa using hv
      exact hasV_same hD _ _
  · rcases has_put hv with rfl | hv
    · exact .inr (by simp)
    · rcases h.2.2 v hv with hv | hv
      · exact .inl hv
      · exact .inr (by simp [hv])
theorem allV_row {k : Nat} {us : List (List UInt8)} (h : AllV nx wl D k us) (hp : us.Perm (lay nx wl k)) : AllV nx wl D (k + 1) [] := by
  refine ⟨fun j v hj hv => ?_, fun v hv => by simp at hv, fun v hv => ?_⟩
  · by_cases e : j = k
    · subst e; exact h.2.1 v (hp.mem_iff.2 hv)
    · exact h.1 j v (by omega) hv
  · rcases h.2.2 v hv with ⟨j, hj, hv⟩ | hv
    · exact .inl ⟨j, by omega, hv⟩
    · exact .inl ⟨k, by omega, hp.mem_iff.1 hv⟩
theorem nowV_step {k : Nat} {us : List (List UInt8)} {x : List UInt8} (h : NowV nx wl D k us) : NowV nx wl (D.del (.string x)) k (us ++ [x]) := by
  refine ⟨fun v hv hn => ?_, fun v hv => ?_⟩
  · simp at hn
    exact hasV_del (h.1 v hv hn.1) hn.2
  · obtain ⟨hne, hv⟩ := has_del hv
    obtain ⟨h1, h2⟩ := h.2 v hv
    exact ⟨h1, by simp [h2, hne]⟩
end
/-- A map all of whose keys are lines of so many cells has few. -/
theorem keys_nodup {P : Program} {k : TypeId} {R : Value → Option (DataW Unit × List MemPlace)} {w : World} {b n : Nat} {D : DataW Unit} (h : w.ownsMap P k R b n D) (K : Keyed P k) (hk : P.underlying k = some .string) :
    (strKeys D).Nodup ∧ (∀ x, x ∈ strKeys D ↔ Maps.has D (.string x) = true) ∧ (strKeys D).length = Maps.size D := by
  obtain ⟨es, hD, hpw, _⟩ := h.entries K
  obtain ⟨es', hD', hko⟩ := h.keysOf
  obtain rfl : es = es' := by rw [hD] at hD'; simpa using hD'
  subst hD
  have hs : ∀ p ∈ es, ∃ x, p.1 = .string x := fun p hp => by obtain ⟨v, hv⟩ := hko p hp; obtain ⟨x, _, hx, _⟩ := Maps.keyOf_str hk hv; exact ⟨x, hx⟩
  refine ⟨?_, fun x => ?_, by simp [strKeys, Maps.size]⟩
  · show (es.map fun p => strOf p.1).Nodup
    refine List.pairwise_map.2 (hpw.imp_of_mem fun {p q} hp' hq' hne e => hne ?_)
    obtain ⟨a, ha⟩ := hs p hp'
    obtain ⟨b, hb⟩ := hs q hq'
    rw [ha, hb] at e ⊢
    exact congrArg _ e
  · show x ∈ (es.map fun p => strOf p.1) ↔ _
    rw [has_eq, List.any_eq_true, List.mem_map]
    constructor
    · rintro ⟨p, hp, rfl⟩
      obtain ⟨a, ha⟩ := hs p hp
      exact ⟨p, hp, by rw [ha]; simp [Lit.sameKey, strOf]⟩
    · rintro ⟨p, hp, hs'⟩
      obtain ⟨a, ha⟩ := hs p hp
      rw [ha] at hs'
      exact ⟨p, hp, by rw [ha]; simpa [Lit.sameKey, strOf] using hs'⟩
theorem own_size {P : Program} {k : TypeId} {R : Value → Option (DataW Unit × List MemPlace)} {w : World} {b n : Nat} {D : DataW Unit} (h : w.ownsMap P k R b n D) : w.ownsMap P k R b (Maps.size D) D := by
  obtain ⟨es, clock, hb, F, hs, rfl⟩ := h
  exact ⟨es, clock, hb, F, by simp [Maps.size, length_sorted], rfl⟩
theorem own_few {c : Nat} {P : Program} {k : TypeId} {R : Value → Option (DataW Unit × List MemPlace)} {w : World} {b n : Nat} {D : DataW Unit} (h : w.ownsMap P k R b n D) (K : Keyed P k) (hk : P.underlying k = some .string)
    (hg : ∀ v, Maps.has D (.string v) = true → goodT c v) : w.ownsMap P k R b 59049 D := by
  obtain ⟨h1, h2, h3⟩ := keys_nodup h K hk
  exact (own_size h).mono (by rw [← h3]; exact few_good h1 fun x hx => hg x ((h2 x).1 hx))
end Go.Proofs.Ytoefeooldcbfiaa
namespace Go.Proofs.Ytoefeooldcbfiaa
open Go.RowKit Go.Maps

def tlC : Code → Code
  | .seq _ c => c
  | c => c
def scC : Code → Code
  | .scope c => c
  | c => c
/-- The code behind the label. -/
noncomputable def arrRest : Code := tlC (tlC (tlC (tlC (tlC (scC (tlC (Try.f45.body.getD .skip)))))))
theorem zeroI (w : World) : (zeroValue 3).run Try.prog w = .ok (.int .i64 0) w := by kernel_rfl
theorem keyStr {x : List UInt8} (h : x.length ≤ maxLen) : keyOf Try.prog 9 (.string (str x)) = some (.string x) := WideMaps.keyOf_string_mk Try.underlying9 (by rw [str_size]; exact h)
theorem farB_of_grown {w w' : World} {row : Option Nat} (h : w.grownBy w' row) : FarB row w w' := ⟨h.size, fun k hne hk => h.block k hk hne⟩
/-- Where the run stands at the label: k layers are done. -/
structure ARel (c d : Nat) (wl : List UInt8) (w0 : World) (ba bn bx k : Nat) (wr : World) : Prop where
  lt_a : w0.heap.size ≤ ba
  lt_n : w0.heap.size ≤ bn
  lt_x : w0.heap.size ≤ bx
  nx : bn ≠ bx
  an : ba ≠ bn
  ax : ba ≠ bx
  all : ∃ D, wr.ownsMap Try.prog 9 arrR ba 59049 D ∧ AllV nxL wl D k []
  now : ∃ D, wr.ownsMap Try.prog 9 intR bn 59049 D ∧ NowV nxL wl D k []
  next : ∃ D, wr.ownsMap Try.prog 9 intR bx 59049 D ∧ ∀ v, Maps.has D (.string v) = false
  below : Below w0.heap.size w0 wr
  hk : k < d
/-- The map at the end. -/
def AFin (wl : List UInt8) (d : Nat) (w0 : World) (ba : Nat) (wr : World) : Prop :=
  w0.heap.size ≤ ba ∧ (∃ D, wr.ownsMap Try.prog 9 arrR ba 59049 D ∧ AllV nxL wl D d []) ∧ Below w0.heap.size w0 wr
theorem size_zero {P : Program} {k : TypeId} {R : Value → Option (DataW Unit × List MemPlace)} {w : World} {b n : Nat} {D : DataW Unit} (h : w.ownsMap P k R b n D) (K : Keyed P k) (hk : P.underlying k = some .string)
    (l : List (List UInt8)) (hl : l.Nodup) (hm : ∀ v, v ∈ l ↔ Maps.has D (.string v) = true) : Maps.size D = l.length := by
  obtain ⟨h1, h2, h3⟩ := keys_nodup h K hk
  rw [← h3]
  exact (List.Perm.length_eq ((List.perm_ext_iff_of_nodup h1 hl).2 fun v => (h2 v).trans (hm v).symm))

set_option maxRecDepth 100000 in
set_option maxHeartbeats 4000000 in
theorem arr_pass (c d k : Nat) (wl : List UInt8) (w0 wz : World) (ba bn bx : Nat) (hg : goodT c wl) (hd : IsDep nxL wl d) (hd2 : d ≤ 60000) (hrel0 : ARel c d wl w0 ba bn bx k wz)
    {Q : Exit → Act → World → Prop} {J : Act → World → Prop} {u2 u3 u1 u8 u9 u10 u11 u12 u13 u14 u15 u16 u17 u18 u19 u20 u21 u22 u23 u24 u25 u26 u27 u28 u29 u30 u31 u32 u33 u34 u35 u36 u37 u38 u39 u40 u41 u42 u43 u44 u45 u46 u47 u48 u49 u50 u51 u52 u53 u54 : Value}
    (hJ : ∀ (u2 u3 u1 u8 u9 u10 u11 u12 u13 u14 u15 u16 u17 u18 u19 u20 u21 u22 u23 u24 u25 u26 u27 u28 u29 u30 u31 u32 u33 u34 u35 u36 u37 u38 u39 u40 u41 u42 u43 u44 u45 u46 u47 u48 u49 u50 u51 u52 u53 u54 : Value) (w' : World), ARel c d wl w0 ba bx bn (k + 1) w' → J { tmps := #[.string (str wl), u1, u2, u3, .map (some ba), .int .i64 ((k : Int) + 1), .map (some bx), .map (some bn), u8, u9, u10, u11, u12, u13, u14, u15, u16, u17, u18, u19, u20, u21, u22, u23, u24, u25, u26, u27, u28, u29, u30, u31, u32, u33, u34, u35, u36, u37, u38, u39, u40, u41, u42, u43, u44, u45, u46, u47, u48, u49, u50, u51, u52, u53, u54], defers := [] } w')
    (hQ : ∀ (u1 u8 u9 u10 u11 u12 u13 u14 u15 u16 u17 u18 u19 u20 u21 u22 u23 u24 u25 u26 u27 u28 u29 u30 u31 u32 u33 u34 u35 u36 u37 u38 u39 u40 u41 u42 u43 u44 u45 u46 u47 u48 u49 u50 u51 u52 u53 u54 : Value) (w' : World), AFin wl d w0 ba w' → Q .ret { tmps := #[.string (str wl), u1, .map (some ba), .bool true, .map (some ba), .int .i64 (k : Int), .map (some bn), .map (some bx), u8, u9, u10, u11, u12, u13, u14, u15, u16, u17, u18, u19, u20, u21, u22, u23, u24, u25, u26, u27, u28, u29, u30, u31, u32, u33, u34, u35, u36, u37, u38, u39, u40, u41, u42, u43, u44, u45, u46, u47, u48, u49, u50, u51, u52, u53, u54], defers := [] } w') :
    Code.wp Try.prog arrRest (Exit.jump 0 J Q) { tmps := #[.string (str wl), u1, u2, u3, .map (some ba), .int .i64 (k : Int), .map (some bn), .map (some bx), u8, u9, u10, u11, u12, u13, u14, u15, u16, u17, u18, u19, u20, u21, u22, u23, u24, u25, u26, u27, u28, u29, u30, u31, u32, u33, u34, u35, u36, u37, u38, u39, u40, u41, u42, u43, u44, u45, u46, u47, u48, u49, u50, u51, u52, u53, u54], defers := [] } wz := by
  have HG : Hid (∀ k v, v ∈ lay nxL wl k → goodT c v) := Lib.hid fun k v hv => (lay_good (steps_line c) hg k v hv).1
  have HAP : Hid (∀ j k v, v ∈ lay nxL wl j → v ∈ lay nxL wl k → j = k) := Lib.hid fun j k v h1 h2 => lay_apart (steps_line c) hg h1 h2
  obtain ⟨ha0, hn0, hx0, hnx, han, hax, ⟨Da0, hall0, hAV0⟩, ⟨Dn0, hnow0, hNV0⟩, ⟨Dx0, hnext0, hXV0⟩, hB0, hk⟩ := hrel0
  have HD := Lib.hid hd
  have HAV0 := Lib.hid hAV0
  have HNV0 := Lib.hid hNV0
  have HXV0 := Lib.hid hXV0
  have HB0 := Lib.hid hB0
  have HALL0 := Lib.hid hall0
  have HNEXT0 := Lib.hid hnext0
  have hltn := hnow0.lt
  have hlta := hall0.lt
  have hltx := hnext0.lt
  have HJ := Lib.hid hJ
  have HQ := Lib.hid hQ
  clear hJ hQ hd hg hAV0 hNV0 hXV0 hB0 hall0 hnext0
  conv => arg 2; whnf
  go_wp2_with (first
    | (at_range; refine wpList_range_own _ rfl _ 93 rfl 9 3 Try.keysS Try.underlying93 _ bn _ _ rfl hnow0 ?_; intro w1 hrg0 hg0 hs0)
    | go_in)
  try go_frame
  go_loopw [8] (fun _ wq => ∃ (us : List (List UInt8)) (left : Lit → Bool) (cnt : Nat) (Dn Da Dx : DataW Unit), us.Nodup ∧ (∀ v, v ∈ us → v ∈ lay nxL wl k) ∧
      wq.ranges Try.prog 9 intR bn wz.heap.size 59049 Dn left cnt ∧ NowV nxL wl Dn k us ∧ (∀ v, left (.string v) = Maps.has Dn (.string v)) ∧
      wq.ownsMap Try.prog 9 arrR ba 59049 Da ∧ AllV nxL wl Da k us ∧ wq.ownsMap Try.prog 9 intR bx 59049 Dx ∧ NextV nxL wl Dx k us [] 0 ∧ Below w0.heap.size w0 wq)
    (fun _ wq => wq.rangeLeft bn wz.heap.size)
  case atStart => exact ⟨[], _, _, Dn0, Da0, Dx0, List.nodup_nil, fun v h => by simp at h, hrg0, HNV0.out, fun v => rfl, HALL0.out.kept hg0 (by simp), HAV0.out, HNEXT0.out.kept hg0 (by simp), nextV_start _ HXV0.out, HB0.out.grown hg0 HB0.out.size (fun j hj => by cases hj)⟩
  case round =>
    obtain ⟨us, left, cnt, Dn, Da, Dx, hnd, hus, hrg, hNV, hleft, hall, hAV, hnext, hXV, hB⟩ := hrel
    obtain ⟨wq, hwq⟩ : ∃ wq : World, wq = wr := ⟨_, rfl⟩
    subst hwq
    have hrg00 := hrg
    go_wp2_with (first
      | (at_next; refine wpList_next_ranges _ rfl _ rfl 9 Try.keysS intR (fun l : List UInt8 => Value.string (str l)) (Value.int .i64) (fun key kl hk => by obtain ⟨x, hx, _⟩ := Maps.keyOf_str Try.underlying9 hk; exact ⟨x, hx⟩) (fun v y hv => by obtain ⟨c, rfl, _⟩ := plainElem_int_inv Try.underlying3 hv; exact ⟨c, rfl⟩) bn wz.heap.size 59049 _ _ _ rfl hrg ?_ ?_)
      | go_in)
    · intro hc0 hl0
      have hall2 : us.Perm (lay nxL wl k) := by
        refine (List.perm_ext_iff_of_nodup hnd (rising_nodup (lay_rising k))).2 fun v => ⟨hus v, fun hv => ?_⟩
        by_cases hin : v ∈ us
        · exact hin
        · have h1 := (hNV.1 v hv hin).1
          rw [← hleft v, hl0] at h1
          cases h1
      have hAV2 := allV_row hAV hall2
      have hNX2 := nextV_end hXV hall2
      have hempty : ∀ v, Maps.has Dn (.string v) = false := fun v => by rw [← hleft v, hl0]
      have hlen := fun ty => hnext.len Try.underlying93 ty
      have hsz : Maps.size Dx = (lay nxL wl (k + 1)).length := size_zero hnext Try.keysS Try.underlying9 _ (rising_nodup (lay_rising _)) fun v =>
        ⟨fun hv => (hNX2.1 v hv (by simp)).1, fun hv => (hNX2.2 v hv).1⟩
      rw [hsz] at hlen
      have hown := hrg.owns
      have HO := Lib.hid hown
      have HX := Lib.hid hnext
      have HA := Lib.hid hall
      clear hown hnext hall hrg hrg00 hNV hXV hAV hsz
      by_cases hlast : k + 1 < d
      · have hpos : 0 < (lay nxL wl (k + 1)).length := List.length_pos_iff.2 (HD.out.2.2 _ hlast)
        have hks : IntKind.i64.wrap ((k : Int) + 1) = ((k + 1 : Nat) : Int) := by rw [IntKind.wrap_i64]; omega
        generalize (lay nxL wl (k + 1)).length = N at hlen hpos
        go_wp2
        go_step3
        refine ⟨rfl, ?_⟩
        apply HJ.out
        exact ⟨ha0, hx0, hn0, fun e => hnx e.symm, hax, han, ⟨Da, HA.out, hAV2⟩, ⟨Dx, HX.out, hNX2⟩, ⟨Dn, HO.out, hempty⟩, hB, hlast⟩
      · have he : k + 1 = d := by omega
        have hz : (lay nxL wl (k + 1)).length = 0 := by rw [he, HD.out.2.1]; rfl
        rw [hz] at hlen
        go_wp2
        show Q .ret _ _
        apply HQ.out
        exact ⟨ha0, ⟨Da, HA.out, by rw [← he]; exact hAV2⟩, hB⟩
    · intro x c0 kl yd yp w2 cnt2 hkey hlk hv hat hrg2 hlt hg2 hs2 hen
      obtain ⟨x', ex, rfl, hxl⟩ := Maps.keyOf_str Try.underlying9 hkey
      obtain rfl : x = x' := by
        have : str x = str x' := by injection ex
        exact str_inj.1 this
      clear ex
      obtain ⟨c1, ec, ey, _⟩ := plainElem_int_inv Try.underlying3 hv
      injection ec with _ ec
      subst ec
      injection ey with ey1 ey2
      subst ey1
      have hhas : Maps.has Dn (.string x) = true := by rw [← hleft x]; exact hlk
      obtain ⟨hxk, hxu⟩ := hNV.2 x hhas
      have hc0 : c0 = wr (pc nxL wl k x) := by
        have h1 := (hNV.1 x hxk hxu).2 .nil
        rw [hat] at h1
        injection h1 with h1
        injection h1
      have hgx := HG.out k x hxk
      have hall2 := hall.kept hg2 (by simp; omega)
      have hnext2 := hnext.kept hg2 (by simp; omega)
      have hB2 := hB.grown hg2 hB.size (fun j hj => by injection hj with hj; have := HB0.out.size; omega)
      have hNV3 := nowV_step (x := x) hNV
      have hAV3 := allV_step (x := x) hall.isMap hAV (fun j hj hv => by have := HAP.out _ _ _ hv hxk; omega) hxu
      have hNX3 := nextV_zero x hXV
      rw [← hc0] at hAV3
      have HC0 := Lib.hid hc0
      have HAV3 := Lib.hid hAV3
      have HNV3 := Lib.hid hNV3
      have hmv : arrR (.agg #[.int .i64 (k : Int), .int .i64 c0]) = some (arrD k c0, []) := rfl
      have hkx := keyStr hxl
      have hs2' := hs2
      clear hc0 hat hkey hv hall hnext hB hs2 hrg hAV hNV hXV hAV3 hNV3
      go_wp2_with (first
        | (at_mapUpdate; refine wpList_mapUpdate_own _ rfl _ _ _ 60 rfl 9 64 Try.keysS Try.underlying60 arrR ba 59049 Da rfl hall2 (by decide) _ _ (.string x) rfl rfl hkx _ [] hmv ?_; intro w3 hall3 hg3)
        | (go_at_call 71; refine (linesBehind_any x _ hgx.1).mono ?_; rintro e w4 ⟨v4, rfl, ho4, hb4⟩; obtain ⟨A4, cap4, rfl, hlc4, hcm4, hat4, hno4, hbl4⟩ := st_own ho4))
      have hsz2 : wz.heap.size < w2.heap.size := by have := hrg2.lt; omega
      have hall4 := (hall3.kept (grown_of_below hb4) (by simp))
      have hall4 := own_few (c := c) hall4 Try.keysS Try.underlying9 fun v hv => by
        rcases HAV3.out.2.2 v hv with ⟨j, _, hj⟩ | hj
        · exact HG.out j v hj
        · rcases List.mem_append.1 hj with hj | hj
          · exact HG.out k v (hus v hj)
          · obtain rfl : v = x := by simpa using hj
            exact hgx
      have hnext4 := (hnext2.kept hg3 (by simp; omega)).kept (grown_of_below hb4) (by simp)
      have hrg4 := (hrg2.kept hg3 (by simp; omega) (by simp; omega)).kept (grown_of_below hb4) (by simp) (by simp)
      have hB4 := (hB2.grown hg3 hB2.size (fun j hj => by injection hj with hj; omega)).trans (hb4.mono (Nat.le_trans hB2.size hg3.size))
      have hsz4 : bx < w3.heap.size := Nat.lt_of_lt_of_le hnext2.lt hg3.size
      have HNE4 : Hid (∀ a, A4 = some a → some a.block ≠ some bx) := Lib.hid fun a ha e => by injection e with e; have := (hbl4 a ha).1; omega
      have HAT4 := Lib.hid hat4
      have HALL4 := Lib.hid hall4
      have HRG4 := Lib.hid hrg4
      have HB4 := Lib.hid hB4
      have HNX3 := Lib.hid hNX3
      have hlen4 := nxL_len x
      have hx10 := hgx.2
      clear hall2 hall3 hall4 hnext2 hrg2 hrg4 hB2 hB4 hb4 hg3 ho4 hat4 hbl4
      obtain ⟨N, hN⟩ : ∃ N, nxL x = N := ⟨_, rfl⟩
      rw [hN] at hlc4 hlen4 HAT4
      have HN := Lib.hid hN
      rw [hN]
      have HKX := Lib.hid hkx
      clear hN hs2' hkx hmv hhas hlk hg2 hno4
      have HNX0 := HNX3
      go_loopw [35] (fun t wr => ∃ (i : Nat) (Dx : DataW Unit), i ≤ N.length ∧ t = .int .i64 i ∧ wr.ownsMap Try.prog 9 intR bx 59049 Dx ∧ NextV nxL wl Dx k us x i ∧ w4.grownBy wr (some bx)) (fun t _ => N.length - (intOf t).toNat)
      case atStart => exact ⟨0, Dx, Nat.zero_le _, rfl, hnext4, HNX3.out, World.grownBy.refl _ _⟩
      case round =>
        obtain ⟨i, Di, hi, rfl, hmap, hNXi, hgw⟩ := hrel
        obtain ⟨wi, hwi⟩ : ∃ wi : World, wi = wr := ⟨_, rfl⟩
        subst hwi
        clear hnext4
        by_cases hlti : i < N.length
        · obtain ⟨g, rfl, z1, p1⟩ := (HAT4.out.farB (farB_of_grown hgw) HNE4.out) i hlti
          have HSTEP : Hid (∀ {cc : Int}, Di.atKey (.string N[i]) (.lit (.int .i64 0)) = .lit (.int .i64 cc) → ∃ n : Nat, cc = wr n ∧ NextV nxL wl (Di.put (.string N[i]) (.lit (.int .i64 (wr (n + pc nxL wl k x))))) k us x (i + 1)) := by
            show _
            intro cc hcc
            have hI := HN.out
            subst hI
            exact nextV_step hmap.isMap hNXi hlti hcc
          have hgN : goodT c N[i] := (steps_line c).keeps x _ hgx (by rw [HN.out]; exact List.getElem_mem hlti)
          have hkN : keyOf Try.prog 9 (.string (str N[i])) = some (.string N[i]) := keyStr (by have := hgN.2; unfold maxLen; omega)
          generalize N[i] = y at p1 HSTEP hkN hgN
          go_wp2_with (first
            | (at_lookup; refine wpList_lookup_own_int _ rfl _ _ 93 rfl 9 3 .i64 Try.keysS Try.underlying93 Try.underlying3 (zeroI _) bx 59049 Di rfl hmap _ (.string y) rfl hkN ?_; intro cc hat hwc; obtain ⟨nn, hcc, hNX2⟩ := HSTEP.out hat; obtain ⟨M, hM⟩ : ∃ M, M = wr (nn + pc nxL wl k x) := ⟨_, rfl⟩; have hs1 : (cc + c0 + 9223372036854775808) % 18446744073709551616 - 9223372036854775808 = M := (by rw [hM, hcc, HC0.out]; exact wr_add _ _); have hs0 : IntKind.i64.wrap (cc + c0) = M := (by rw [hM, hcc, HC0.out]; exact wr_wrap _ _); have HM : Hid (M = wr (nn + pc nxL wl k x)) := Lib.hid hM; have hval : intR (.int .i64 M) = some (.lit (.int .i64 M), []) := (by rw [hM]; exact intR_mk _); rw [← hM] at hNX2; clear hM hcc hat hwc)
            | (at_mapUpdate; refine wpList_mapUpdate_own _ rfl _ _ _ 93 rfl 9 3 Try.keysS Try.underlying93 intR bx 59049 Di rfl hmap (by decide) _ _ (.string y) rfl rfl hkN (.lit (.int .i64 M)) [] hval ?_; intro w5 hmap5 hg5))
          refine ⟨⟨i + 1, _, by omega, by go_num, own_few (c := c) hmap5 Try.keysS Try.underlying9 fun v hv => ?_, hNX2, hgw.trans hg5⟩, by simp [intOf]; omega⟩
          rcases hNX2.2 v hv with ⟨u, hu, hv⟩ | hv
          · exact (steps_line c).keeps u v (HG.out k u (hus u hu)) hv
          · exact (steps_line c).keeps x v hgx (List.mem_of_mem_take hv)
        · obtain rfl : i = N.length := by omega
          rw [← HN.out] at hNXi
          have hNX6 := nextV_row [] hNXi
          have hrg5 := HRG4.out.kept hgw (by simp; omega) (by simp; omega)
          have hkx := HKX.out
          go_wp2_with (first
            | (at_delete; refine wpList_delete_ranges _ rfl _ _ 93 9 rfl 3 Try.keysS Try.underlying93 _ bn wz.heap.size 59049 _ _ _ rfl hrg5 _ (.string x) rfl hkx ?_; intro w6 cnt6 hrg6 hle6 hturn6; try go_frame)
            | go_in)
          rw [Maps.strike_twice] at hrg6
          go_roundw
          case rel =>
            refine ⟨us ++ [x], _, cnt6, _, _, Di, ?_, fun v hv => ?_, hrg6, HNV3.out, fun v => ?_, (HALL4.out.kept hgw (by simp; omega)).kept hturn6.grown (by simp; omega), HAV3.out, hmap.kept hturn6.grown (by simp; omega), hNX6,
              (HB4.out.grown hgw HB4.out.size (fun j hj => by injection hj with hj; omega)).grown hturn6.grown (Nat.le_trans HB4.out.size hgw.size) (fun j hj => by injection hj with hj; omega)⟩
            · exact List.nodup_append.2 ⟨hnd, by simp, fun a ha b hb => by simp at hb; subst hb; exact fun e => hxu (e ▸ ha)⟩
            · rcases List.mem_append.1 hv with hv | hv
              · exact hus v hv
              · obtain rfl : v = x := by simpa using hv
                exact hxk
            · by_cases e : v = x
              · subst e
                rw [has_del_same, hleft v]
                simp [Lit.sameKey]
              · rw [has_del_other (key_ne e), hleft v, sameKey_ne (key_ne e)]
                simp
          case measure => rw [hrg6.left_eq, hrg00.left_eq]; omega
end Go.Proofs.Ytoefeooldcbfiaa
namespace Go.Proofs.Ytoefeooldcbfiaa
open Go.RowKit Go.Maps

/-- A line of at most ten cells, as the program and the model ask it. -/
def reachB (s : ByteArray) : Bool := goodL s && decide (s.size ≤ 10)
theorem reach_good {l : List UInt8} (h : reachB (str l) = true) : goodT l.length l := by
  unfold reachB at h
  rw [Bool.and_eq_true, decide_eq_true_eq, str_size] at h
  exact ⟨h.1, rfl, h.2⟩
theorem dep_of {l : List UInt8} (h : reachB (str l) = true) : ∃ d, IsDep nxL l d ∧ d ≤ 60000 := by
  obtain ⟨d, h1, h2⟩ := dep_exists (steps_line l.length) (reach_good h)
  have := wayL_le (reach_good h)
  exact ⟨d, h1, by omega⟩

set_option maxHeartbeats 400000 in
theorem isReach_any (s : ByteArray) (w : World) (hs : s.size ≤ maxLen) :
    Calls Try.prog 69 #[.string s] w fun e w' => e = .returned (.bool (reachB s)) ∧ w = w' := by
  cases hc : goodL s
  · have hR : Hid (reachB s = false) := Lib.hid (by unfold reachB; rw [hc]; rfl)
    have hC := Lib.hid hc
    clear hc
    go_enter Try.func69, Try.ntmps69
    go_wp2_with (go_at_call 80; refine (isLine_any _ _ hs).mono ?_; rintro e w' ⟨rfl, rfl⟩; rw [hC.out])
    go_ret
    exact ⟨by rw [hR.out]; rfl, rfl⟩
  · have hC := Lib.hid hc
    have h12 := ((goodL_iff s).1 hc).2.1
    have hR : Hid (reachB s = decide (s.size ≤ 10)) := Lib.hid (by unfold reachB; rw [hc]; simp)
    clear hc
    go_enter Try.func69, Try.ntmps69
    go_wp2_with (go_at_call 80; refine (isLine_any _ _ hs).mono ?_; rintro e w' ⟨rfl, rfl⟩; rw [hC.out])
    go_ret
    exact ⟨by rw [hR.out]; exact congrArg (fun b => Ending.returned (.bool b)) (decide_eq_decide.2 (by omega)), rfl⟩

set_option maxHeartbeats 400000 in
theorem reFew_any (s : ByteArray) (w : World) (hs : s.size ≤ maxLen) :
    Calls Try.prog 61 #[.string s] w fun e w' => e = .returned (.bool (reachB s)) ∧ w = w' := by
  cases hc : goodL s
  · have hR : Hid (reachB s = false) := Lib.hid (by unfold reachB; rw [hc]; rfl)
    have hC := Lib.hid hc
    clear hc
    go_enter Try.func61, Try.ntmps61
    go_wp2_with (go_at_call 30; refine (liGood_any _ _ hs).mono ?_; rintro e w' ⟨rfl, rfl⟩; rw [hC.out])
    go_ret
    exact ⟨by rw [hR.out]; rfl, rfl⟩
  · have hC := Lib.hid hc
    have h12 := ((goodL_iff s).1 hc).2.1
    have hR : Hid (reachB s = decide (s.size ≤ 10)) := Lib.hid (by unfold reachB; rw [hc]; simp)
    clear hc
    go_enter Try.func61, Try.ntmps61
    go_wp2_with (go_at_call 30; refine (liGood_any _ _ hs).mono ?_; rintro e w' ⟨rfl, rfl⟩; rw [hC.out])
    go_ret
    exact ⟨by rw [hR.out]; exact congrArg (fun b => Ending.returned (.bool b)) (decide_eq_decide.2 (by omega)), rfl⟩

/-- An entry of a map's literal, at the operation. -/
theorem wpList_insert_new {P : Program} (w : World) {ops : Array Oper} {rest : List Oper} {o : Oper} {a : Act} {Q : Exit → Act → World → Prop}
    (hg : o.guard = none) (m x v : Operand) (t : TypeId) (hop : o.op = Op.insert t m x v)
    (k e : TypeId) (K : Keyed P k) (ht : P.underlying t = some (.map k e)) (R : Value → Option (DataW Unit × List MemPlace)) (b n : Nat) (D : DataW Unit)
    (hm : a.eval m = .map (some b)) (hown : w.ownsMap P k R b n D) (hn : n < maxLen) (key val : Value) (kl : Lit) (hx : a.eval x = key) (hv : a.eval v = val) (hkey : keyOf P k key = some kl)
    (d : DataW Unit) (ps : List MemPlace) (hval : R val = some (d, ps))
    (hK : ∀ w', w'.ownsMap P k R b (n + 1) (D.put kl d) → w.grownBy w' (some b) → wpList P ops Q rest (a.put o.dst undef) w') :
    wpList P ops Q (o :: rest) a w := by
  refine wpList_plain hg fun K' hK' => ?_
  obtain ⟨w', hrun, r1, r2⟩ := hown.update K ht hn hkey hval
  unfold Oper.wp
  simp [execOp, hop, hm, hx, hv, hrun, Result.andThen]
  exact hK' _ _ (hK w' r1 r2)

set_option maxRecDepth 100000 in
set_option maxHeartbeats 1000000 in
theorem arrivals_no (wl : List UInt8) (w : World) (hs : (str wl).size ≤ maxLen) (hr : reachB (str wl) = false) :
    Calls Try.prog 45 #[.string (str wl)] w fun e w' => e = .returned (.tuple #[.map none, .bool false]) ∧ w = w' := by
  have hR := Lib.hid hr
  clear hr
  go_enter Try.func45, Try.ntmps45
  go_wp2
  go_step3
  go_wp2_with (go_at_call 69; refine (isReach_any _ _ hs).mono ?_; rintro e w' ⟨rfl, rfl⟩; rw [hR.out])
  rw [Exit.noGoto_ret]
  go_ret2
  exact ⟨rfl, rfl⟩

set_option maxRecDepth 100000 in
set_option maxHeartbeats 1000000 in
theorem arrivals_yes (d : Nat) (wl : List UInt8) (w : World) (hr : reachB (str wl) = true) (hd : IsDep nxL wl d) (hd2 : d ≤ 60000) :
    Calls Try.prog 45 #[.string (str wl)] w fun e w' => ∃ ba, e = .returned (.tuple #[.map (some ba), .bool true]) ∧ AFin wl d w ba w' := by
  have hg := reach_good hr
  have hs : (str wl).size ≤ maxLen := by have := hg.2; rw [str_size]; unfold maxLen; omega
  have hR := Lib.hid hr
  have HD := Lib.hid hd
  have HG := Lib.hid hg
  have hkw := keyStr (x := wl) (by have := hg.2; unfold maxLen; omega)
  have hw1 : intR (.int .i64 1) = some (.lit (.int .i64 1), []) := by have := intR_mk 1; rwa [wr_small 1 (by decide)] at this
  have hmm := @run_makeMap Try.prog
  clear hr hd hg
  go_enter Try.func45, Try.ntmps45
  go_wp2
  refine wp_scope_jumps 0 (fun a w' => ∃ (k bn bx : Nat) (u2 u3 u1 u8 u9 u10 u11 u12 u13 u14 u15 u16 u17 u18 u19 u20 u21 u22 u23 u24 u25 u26 u27 u28 u29 u30 u31 u32 u33 u34 u35 u36 u37 u38 u39 u40 u41 u42 u43 u44 u45 u46 u47 u48 u49 u50 u51 u52 u53 u54 : Value), ARel wl.length d wl w w.heap.size bn bx k w' ∧ a = { tmps := #[.string (str wl), u1, u2, u3, .map (some w.heap.size), .int .i64 (k : Int), .map (some bn), .map (some bx), u8, u9, u10, u11, u12, u13, u14, u15, u16, u17, u18, u19, u20, u21, u22, u23, u24, u25, u26, u27, u28, u29, u30, u31, u32, u33, u34, u35, u36, u37, u38, u39, u40, u41, u42, u43, u44, u45, u46, u47, u48, u49, u50, u51, u52, u53, u54], defers := [] }) (fun a _ => d - (intOf (a.tmps.getD 5 undef)).toNat) rfl ?_ ?_
  · go_wp2_with (first
      | (go_at_call 69; refine (isReach_any _ _ hs).mono ?_; rintro e w' ⟨rfl, rfl⟩; rw [hR.out])
      | (refine wpList_insert_new _ rfl _ _ _ 93 rfl 9 3 Try.keysS Try.underlying93 intR (w.heap.size + 1) 0 (.map []) rfl ?_ (by decide) _ _ (.string wl) rfl rfl hkw _ [] hw1 ?_; rotate_right; intro w1 hown1 hg1))
    · go_step3
      have hsz := hg1.size
      have hown2 := hown1.alloc (Obj.map #[] 0)
      have hrel : ARel wl.length d wl w w.heap.size (w.heap.size + 1) w1.heap.size 0 (w1.alloc (Obj.map #[] 0)) := by
        simp at hsz
        have o1 := World.ownsMap_made (H := Unit) w Try.prog 9 arrR
        have o1 := ((o1.alloc (Obj.map #[] 0)).kept hg1 (by simp)).alloc (Obj.map #[] 0)
        have o3 := World.ownsMap_made (H := Unit) w1 Try.prog 9 intR
        refine ⟨Nat.le_refl _, by omega, by omega, by omega, by omega, by omega, ⟨_, o1.mono (by decide), fun j v hj => absurd hj (by omega), fun v hv => (by simp at hv), fun v hv => (by simp [Maps.has] at hv)⟩,
          ⟨_, hown2.mono (by decide), fun v hv _ => ?_, fun v hv => ?_⟩, ⟨_, o3.mono (by decide), fun v => by simp [Maps.has]⟩,
          ((((Below.refl w.heap.size w).alloc (Nat.le_refl _) _).alloc (by simp) _).grown hg1 (by simp; omega) (fun j hj => by injection hj with hj; omega)).alloc (by omega) _, HD.out.1⟩
        · obtain rfl : v = wl := by simpa [lay] using hv
          have := hasV_same (D := DataW.map []) ⟨[], rfl⟩ v (.lit (.int .i64 1))
          simpa [pc, wr_small 1 (by decide)] using this
        · rcases has_put hv with rfl | hv
          · simp [lay]
          · simp [Maps.has] at hv
      rename_i KK hKK
      show KK _ _
      refine hKK _ _ ?_
      refine arr_pass wl.length d 0 wl w _ w.heap.size (w.heap.size + 1) w1.heap.size HG.out HD.out hd2 hrel ?_ ?_
      · intros
        refine ⟨0 + 1, _, _, _, _, _, _, _, _, _, _, _, _, _, _, _, _, _, _, _, _, _, _, _, _, _, _, _, _, _, _, _, _, _, _, _, _, _, _, _, _, _, _, _, _, _, _, _, _, _, _, _, _, ?_, rfl⟩
        assumption
      · intros
        show bodyPost Try.prog Try.f45 _ _ _ _
        go_ret2
        exact ⟨_, rfl, by assumption⟩
    · have := World.ownsMap_made (H := Unit) (w.alloc (Obj.map #[] 0)) Try.prog 9 intR
      rwa [World.size_alloc] at this
  · rintro a wr ⟨k, bn, bx, u2, u3, u1, u8, u9, u10, u11, u12, u13, u14, u15, u16, u17, u18, u19, u20, u21, u22, u23, u24, u25, u26, u27, u28, u29, u30, u31, u32, u33, u34, u35, u36, u37, u38, u39, u40, u41, u42, u43, u44, u45, u46, u47, u48, u49, u50, u51, u52, u53, u54, hrel, rfl⟩
    have hk := hrel.hk
    refine wp_seq (wp_skip ?_)
    show Code.wp Try.prog arrRest _ _ _
    refine arr_pass wl.length d k wl w wr w.heap.size bn bx HG.out HD.out hd2 hrel ?_ ?_
    · intros
      refine ⟨⟨k + 1, _, _, _, _, _, _, _, _, _, _, _, _, _, _, _, _, _, _, _, _, _, _, _, _, _, _, _, _, _, _, _, _, _, _, _, _, _, _, _, _, _, _, _, _, _, _, _, _, _, _, _, _, ?_, rfl⟩, ?_⟩
      · assumption
      · show d - ((k : Int) + 1).toNat < d - ((k : Int)).toNat
        omega
    · intros
      show bodyPost Try.prog Try.f45 _ _ _ _
      go_ret2
      exact ⟨_, rfl, by assumption⟩
end Go.Proofs.Ytoefeooldcbfiaa
