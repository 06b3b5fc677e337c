/- Rings that a ring leads to: as many of each; few of them; rings as keys of a map; no walk. -/
import Derived.Test.YtdcbjbmnkajjcaaDoorCiV
import Derived.Test.YtdcbjbmnkajjcaaDoorPlay
import Derived.Test.YtdcbjbmnkajjcaaDoorMany
import Derived.Test.YtdcbjbmnkajjcaaDoorLns
import Derived.Test.YtdcbjbmnkajjcaaDoorHsV
import Derived.Test.YtdcbjbmnkajjcaaDoorBfP
import Derived.DeepKeys4
namespace Go.Proofs.YtdcbjbmnkajjcaaDoor
open Go.RowKit Go.Maps

theorem flt_len (N : Nat) : ∀ l : List Nat, l.length = (l.filter (· == N)).length + (l.filter (· ≠ N)).length
  | [] => rfl
  | x :: l => by
    have := flt_len N l
    rw [List.filter_cons, List.filter_cons]
    by_cases h : x = N <;> simp [h] at this ⊢ <;> omega
theorem runP_cons {α : Type} (nx : α → List α) (u : α) (i : Nat) (q : List Nat) : runP nx u (i :: q) = ((nx u)[i]?).bind fun x => runP nx x q := by
  rw [runP]
  cases (nx u)[i]? <;> rfl
theorem nodup_few : ∀ (N : Nat) (l : List Nat), l.Nodup → (∀ x ∈ l, x < N) → l.length ≤ N
  | 0, l, _, h => by
    cases l with
    | nil => simp
    | cons x l => exact absurd (h x (by simp)) (by omega)
  | N + 1, l, hn, h => by
    have h1 := nodup_few N (l.filter (· ≠ N)) (hn.filter _) fun x hx => by
      obtain ⟨h1, h2⟩ := List.mem_filter.1 hx
      have := h x h1
      have h2 : x ≠ N := by simpa using h2
      omega
    have h2 : (l.filter (· == N)).length ≤ 1 := by
      have hf := hn.filter (· == N)
      have ha : ∀ x ∈ l.filter (· == N), x = N := fun x hx => by simpa using (List.mem_filter.1 hx).2
      match l.filter (· == N), hf, ha with
      | [], _, _ => simp
      | [_], _, _ => simp
      | a :: b :: r, hf, ha =>
        have e1 := ha a (by simp)
        have e2 := ha b (by simp)
        exact absurd (e1.trans e2.symm) ((List.pairwise_cons.1 hf).1 b (by simp))
    have h3 := flt_len N l
    omega
/-- A ring with so many of each. -/
structure SameC (t g f : Nat) (s : ByteArray) : Prop where
  ring : ringB s = true
  ct : cnt 84 (byt s) = t
  cg : cnt 46 (byt s) = g
  cf : cnt 70 (byt s) = f
theorem SameC.all {t g f : Nat} {s : ByteArray} (h : SameC t g f s) : (byt s).all isSign = true := ((goodL_iff s).1 (ring_good h.ring)).2.2
theorem SameC.sum {t g f : Nat} {s : ByteArray} (h : SameC t g f s) : t + g + f = s.size := by
  have := cnt_sum (byt s) h.all
  rw [h.ct, h.cg, h.cf, byt_len] at this
  exact this
theorem SameC.three {t g f : Nat} {s : ByteArray} (h : SameC t g f s) : three t g f = true := by
  obtain ⟨h3, h9⟩ := ring_sz h.ring
  have := h.sum
  exact (three_iff _ _ _).2 (by omega)
theorem same_few {t g f : Nat} (L : List ByteArray) (hn : L.Nodup) (h : ∀ s ∈ L, SameC t g f s) : L.length ≤ manyK t g f := by
  have hr : ∀ s ∈ L, (0 ≤ rkL (byt s) ∧ rkL (byt s) < manyI t g f) ∧ unr (t + g + f) t g f (rkL (byt s)) = byt s := fun s hs => by
    have h1 := h s hs
    obtain ⟨h3, h9⟩ := ring_sz h1.ring
    have := unr_rkL (byt s) h1.all (by rw [byt_len]; omega)
    rw [h1.ct, h1.cg, h1.cf, byt_len, ← h1.sum] at this
    exact this
  have hm : (L.map fun s => (rkL (byt s)).toNat).Nodup := by
    rw [List.Nodup, List.pairwise_map]
    refine List.Pairwise.imp_of_mem (fun {a b} ha hb hne e => hne ?_) hn
    obtain ⟨⟨a0, _⟩, a2⟩ := hr a ha
    obtain ⟨⟨b0, _⟩, b2⟩ := hr b hb
    have e : rkL (byt a) = rkL (byt b) := by omega
    rw [e, b2] at a2
    exact (byt_inj a2).symm
  have := nodup_few (manyK t g f) _ hm fun x hx => by
    obtain ⟨s, hs, rfl⟩ := List.mem_map.1 hx
    obtain ⟨⟨a0, a1⟩, _⟩ := hr s hs
    have := manyK_eq (h s hs).three
    omega
  rwa [List.length_map] at this
theorem put_cnt {s : ByteArray} (x : UInt8) {a c : Nat} (ha : a < s.size) (hc : c < s.size) (hne : a ≠ c) (hg : sgAt s c = 46) : cnt x (putL s a c) = cnt x (byt s) := by
  show cnt x (((byt s).set c ((byt s).getD a 0)).set a 46) = cnt x (byt s)
  have hla : a < (byt s).length := by rw [byt_len]; exact ha
  have hlb : c < (byt s).length := by rw [byt_len]; exact hc
  have hgb : (byt s)[c] = 46 := by rw [sgAt_in s c hc] at hg; exact hg
  have hga : (byt s).getD a 0 = (byt s)[a] := by rw [List.getD_eq_getElem?_getD, List.getElem?_eq_getElem hla]; rfl
  have e1 := cnt_set x ((byt s).getD a 0) (byt s) c hlb
  have e2 := cnt_set x 46 ((byt s).set c ((byt s).getD a 0)) a (by simpa using hla)
  have e3 : ((byt s).set c ((byt s).getD a 0))[a]'(by simpa using hla) = (byt s)[a] := List.getElem_set_ne (by omega) _
  rw [e3] at e2
  rw [hgb] at e1
  rw [hga] at e1 e2 ⊢
  omega
/-- The rings behind all moves on one. -/
def nxC (s : ByteArray) : List ByteArray := (rgTo s s.size).map fun m => str (behind s m.1 m.2)
theorem rg_in {s : ByteArray} {m : Int × Int} (h : m ∈ rgTo s s.size) : ∃ a c : Nat, m = ((a : Int), (c : Int)) ∧ a < s.size ∧ c < s.size ∧ a ≠ c ∧ rgC s a c = true := by
  obtain ⟨f, t⟩ := m
  obtain ⟨_, _, h⟩ := (mem_rgTo s s.size (Nat.le_refl _) f t).1 h
  obtain ⟨a, c, rfl, rfl, h1, h2, h3, h4⟩ := rgCi_in h
  exact ⟨a, c, rfl, h1, h2, h3, h4⟩
theorem same_behind {t g f : Nat} {s : ByteArray} (h : SameC t g f s) {m : Int × Int} (hm : m ∈ rgTo s s.size) : SameC t g f (str (behind s m.1 m.2)) := by
  obtain ⟨a, c, rfl, ha, hc, hne, hr⟩ := rg_in hm
  have h46 := (rgC_sg hr).1
  have hp : ∀ x, cnt x (byt (str (behind s a c))) = cnt x (byt s) := fun x => by
    rw [byt_str]
    exact put_cnt x ha hc hne h46
  exact ⟨ring_behind h.ring a c ha, by rw [hp, h.ct], by rw [hp, h.cg], by rw [hp, h.cf]⟩
theorem same_next {t g f : Nat} {s x : ByteArray} (h : SameC t g f s) (hx : x ∈ nxC s) : SameC t g f x := by
  obtain ⟨m, hm, rfl⟩ := List.mem_map.1 hx
  exact same_behind h hm
theorem same_run {t g f : Nat} {s : ByteArray} (h : SameC t g f s) : ∀ {p : List Nat} {x : ByteArray}, runP nxC s p = some x → SameC t g f x := by
  intro p
  induction p generalizing s with
  | nil => intro x e; injection e with e; rw [← e]; exact h
  | cons i p ih =>
    intro x e
    rw [runP_cons] at e
    cases hi : (nxC s)[i]? with
    | none => rw [hi] at e; cases e
    | some y =>
      rw [hi] at e
      exact ih (same_next h (List.mem_of_getElem? hi)) e
theorem bfp_same {t g f : Nat} {s : ByteArray} (h : SameC t g f s) {D : List (EntP ByteArray)} {k j : Nat} (hB : BfP nxC s D k j) : ∀ e ∈ D, SameC t g f e.1 := fun e he => same_run h (hB.val e he)
theorem bfp_few {t g f : Nat} {s : ByteArray} (h : SameC t g f s) {D : List (EntP ByteArray)} {k j : Nat} (hB : BfP nxC s D k j) : D.length ≤ manyK t g f := by
  have := same_few (kP D) hB.nodup fun x hx => by
    obtain ⟨e, he, rfl⟩ := List.mem_map.1 hx
    exact bfp_same h hB e he
  unfold kP at this
  rwa [List.length_map] at this

/-! ### keys and what the map tells -/
theorem laidR : laidOutB Tryd.prog = true := by kernel_rfl
theorem ring_wide : (match Tryd.prog.underlying 46 with | some (.array _ _) | some (.struct _) => true | _ => false) = true := by rw [Tryd.underlying46]
theorem ring_rowT : (46 : TypeId) < Tryd.prog.types.size := of_decide_eq_true (by kernel_rfl)
set_option maxRecDepth 100000 in
theorem ring_law : WideMaps.KeyLaw Tryd.prog 46 := deep_law_laid laidR (m := 3) (by omega) ring_rowT (by kernel_rfl) ring_wide
theorem Tryd.keysR : Keyed Tryd.prog 46 := Keyed.of_law ring_law
/-- The key of a ring. -/
def kbR (l : List UInt8) : List UInt8 := keyBytes ((ringP l).map fun x => Lit.int .u8 (x.toNat : Int))
theorem u8_wf (x : UInt8) : (Lit.int .u8 (x.toNat : Int)).wf = true := by
  have := x.toNat_lt
  simp [Lit.wf, IntKind.min, IntKind.max, IntKind.bits, IntKind.signed]
  omega
theorem keyR {l : List UInt8} (h : l.length ≤ 9) : keyOf Tryd.prog 46 (ringV l) = some (.string (kbR l)) := by
  obtain ⟨c0, c1, c2, c3, c4, c5, c6, c7, c8, h9⟩ := ring_nine (ringP_len h)
  unfold kbR ringV
  rw [h9]
  have hk : Tryd.prog.keyType 46 = true := by kernel_rfl
  have hc : Tryd.prog.cellsOf 46 = 9 := by kernel_rfl
  have h2 : Tryd.prog.cellsOf 5 = 1 := by kernel_rfl
  unfold keyOf
  rw [Tryd.underlying46]
  have hf : (Value.agg (u8s [c0, c1, c2, c3, c4, c5, c6, c7, c8]).toArray).formed Tryd.prog 46 = true := by simp [Value.formed, Tryd.underlying46, hc, u8s]
  simp only [hk, hf, Bool.and_self, if_true]
  obtain ⟨d, hd⟩ : ∃ d, Tryd.prog.types.size + 1 = d + 3 := ⟨Tryd.prog.types.size - 2, by have : (100 : Nat) ≤ Tryd.prog.types.size := of_decide_eq_true (by kernel_rfl); omega⟩
  rw [hd]
  simp only [Program.keyLits, Tryd.underlying46, Value.cells]
  simp [hc, h2, u8s, u8_wf, Tryd.underlying5, List.range, List.range.loop]
  done
theorem ringP_inj {l l' : List UInt8} (h : ∀ c ∈ l, c ≠ 0) (h' : ∀ c ∈ l', c ≠ 0) (e : ringP l = ringP l') : l = l' := by rw [← trim_ring h, ← trim_ring h', e]
theorem u8s_inj : ∀ {l l' : List UInt8}, u8s l = u8s l' → l = l'
  | [], [], _ => rfl
  | [], _ :: _, e => by simp [u8s] at e
  | _ :: _, [], e => by simp [u8s] at e
  | a :: l, b :: l', e => by
    have e : Value.int .u8 (a.toNat : Int) :: u8s l = Value.int .u8 (b.toNat : Int) :: u8s l' := e
    injection e with e1 e2
    injection e1 with _ e1
    rw [u8s_inj e2, UInt8.toNat_inj.1 (by omega : a.toNat = b.toNat)]
theorem ringV_inj {l l' : List UInt8} (h : ∀ c ∈ l, c ≠ 0) (h' : ∀ c ∈ l', c ≠ 0) (e : ringV l = ringV l') : l = l' := by
  unfold ringV at e
  injection e with e
  have e := congrArg Array.toList e
  exact ringP_inj h h' (u8s_inj e)
theorem ring_nz {s : ByteArray} (h : ringB s = true) : ∀ c ∈ byt s, c ≠ 0 := sign_nz ((goodL_iff s).1 (ring_good h)).2.2
theorem ring_len {s : ByteArray} (h : ringB s = true) : (byt s).length ≤ 9 := by rw [byt_len]; exact (ring_sz h).2
theorem kbR_inj {s s' : ByteArray} (h : ringB s = true) (h' : ringB s' = true) (e : kbR (byt s) = kbR (byt s')) : s = s' := by
  have h1 := keyR (ring_len h)
  have h2 := keyR (ring_len h')
  rw [← e] at h2
  exact byt_inj (ringV_inj (ring_nz h) (ring_nz h') (Tryd.keysR.inj h1 h2))
/-- A value of whole numbers, read. -/
def litOf : Value → DataW Unit
  | .int k n => .lit (.int k n)
  | _ => .nil
def isI : Value → Bool
  | .int _ _ => true
  | _ => false
def stR : Value → Option (DataW Unit × List MemPlace)
  | .agg xs => if xs.toList.all isI then some (.agg (xs.toList.map litOf), []) else none
  | _ => none
theorem lit_inj : ∀ {a b : List Value}, a.all isI = true → b.all isI = true → a.map litOf = b.map litOf → a = b
  | [], [], _, _, _ => rfl
  | [], _ :: _, _, _, e => by simp at e
  | _ :: _, [], _, _, e => by simp at e
  | x :: a, y :: b, ha, hb, e => by
    rw [List.all_cons, Bool.and_eq_true] at ha hb
    rw [List.map_cons, List.map_cons] at e
    injection e with e1 e2
    rw [lit_inj ha.2 hb.2 e2]
    have hx := ha.1
    have hy := hb.1
    cases x <;> simp [isI] at hx
    cases y <;> simp [isI] at hy
    simp [litOf] at e1
    rw [e1.1, e1.2]
/-- The eleven cells of a step. -/
def stC (f t : Int) (l : List UInt8) : List Value := .int .i64 f :: .int .i64 t :: u8s (ringP l)
def stV (f t : Int) (l : List UInt8) : Value := .agg (stC f t l).toArray
def stD (f t : Int) (l : List UInt8) : DataW Unit := .agg ((stC f t l).map litOf)
theorem u8s_all (l : List UInt8) : (u8s l).all isI = true := List.all_eq_true.2 fun v hv => by
  obtain ⟨x, _, rfl⟩ := List.mem_map.1 hv
  rfl
theorem stC_all (f t : Int) (l : List UInt8) : (stC f t l).all isI = true := by
  unfold stC
  rw [List.all_cons, List.all_cons, u8s_all]
  rfl
theorem stR_mk (f t : Int) (l : List UInt8) : stR (stV f t l) = some (stD f t l, []) := by
  show (if (stC f t l).all isI then _ else _) = _
  rw [stC_all]
  rfl
theorem stR_inv {v : Value} {f t : Int} {l : List UInt8} {ps : List MemPlace} (h : stR v = some (stD f t l, ps)) : v = stV f t l := by
  unfold stR at h
  split at h
  · rename_i xs
    split at h
    · rename_i ha
      injection h with h
      injection h with h _
      unfold stD at h
      injection h with h
      have := lit_inj ha (stC_all f t l) h
      unfold stV
      rw [← this]
    · cases h
  · cases h
/-- What the map tells: each ring found, with the last move of the play kept and the ring before it. -/
structure FndC (s : ByteArray) (D : DataW Unit) (L : List (EntP ByteArray)) : Prop where
  val : ∀ e ∈ L, ∃ (u : ByteArray) (p : List Nat) (i : Nat) (f t : Int), e.2 = p ++ [i] ∧ u ∈ s :: kP L ∧ (u, p) ∈ qP s L ∧ (rgTo u u.size)[i]? = some (f, t) ∧ hasV D (kbR (byt e.1)) (stD f t (byt u))
  key : ∀ x, Maps.has D (.string x) = true → ∃ e ∈ L, x = kbR (byt e.1)
theorem fndC_nil (s : ByteArray) {D : DataW Unit} (h : ∀ x, Maps.has D (.string x) = false) : FndC s D [] := ⟨fun e he => absurd he (by simp), fun x hx => absurd hx (by rw [h x]; simp)⟩
theorem fndC_put {s : ByteArray} {D : DataW Unit} {L : List (EntP ByteArray)} (hD : IsMap D) (h : FndC s D L) (hL : ∀ e ∈ L, ringB e.1 = true) {x u : ByteArray} (hx : ringB x = true) (hn : x ∉ kP L) {p : List Nat} (hu : (u, p) ∈ qP s L) {i : Nat} {f t : Int} (hm : (rgTo u u.size)[i]? = some (f, t)) :
    FndC s (D.put (.string (kbR (byt x))) (stD f t (byt u))) (L ++ [(x, p ++ [i])]) := by
  have hq : ∀ y : EntP ByteArray, y ∈ qP s L → y ∈ qP s (L ++ [(x, p ++ [i])]) := fun y hy => by
    unfold qP at hy ⊢
    rw [List.mem_cons] at hy ⊢
    exact hy.imp id fun h => List.mem_append_left _ h
  have hk : ∀ y : EntP ByteArray, y ∈ qP s (L ++ [(x, p ++ [i])]) → y.1 ∈ s :: kP (L ++ [(x, p ++ [i])]) := fun y hy => by
    unfold qP at hy
    rw [List.mem_cons] at hy ⊢
    rcases hy with rfl | hy
    · exact .inl rfl
    · exact .inr (List.mem_map_of_mem hy)
  refine ⟨fun e he => ?_, fun y hy => ?_⟩
  · rcases List.mem_append.1 he with he | he
    · obtain ⟨u', p', i', f', t', h1, _, h2, h3, h4⟩ := h.val e he
      refine ⟨u', p', i', f', t', h1, hk _ (hq _ h2), hq _ h2, h3, hasV_other _ h4 fun e2 => hn ?_⟩
      rw [← kbR_inj (hL e he) hx e2]
      exact List.mem_map_of_mem he
    · obtain rfl : e = (x, p ++ [i]) := by simpa using he
      exact ⟨u, p, i, f, t, rfl, hk _ (hq _ hu), hq _ hu, hm, hasV_same hD _ _⟩
  · rcases has_put hy with rfl | hy
    · exact ⟨(x, p ++ [i]), by simp, rfl⟩
    · obtain ⟨e, he, h1⟩ := h.key y hy
      exact ⟨e, List.mem_append_left _ he, h1⟩
theorem fndC_yes {s : ByteArray} {D : DataW Unit} {L : List (EntP ByteArray)} (h : FndC s D L) {x : ByteArray} (hh : x ∈ kP L) : Maps.has D (.string (kbR (byt x))) = true := by
  obtain ⟨e, he, rfl⟩ := List.mem_map.1 hh
  obtain ⟨_, _, _, _, _, _, _, _, _, h4⟩ := h.val e he
  exact h4.1
theorem fndC_no {s : ByteArray} {D : DataW Unit} {L : List (EntP ByteArray)} (h : FndC s D L) (hL : ∀ e ∈ L, ringB e.1 = true) {x : ByteArray} (hx : ringB x = true) (hn : x ∉ kP L) : Maps.has D (.string (kbR (byt x))) = false := by
  cases hh : Maps.has D (.string (kbR (byt x)))
  · rfl
  · obtain ⟨e, he, h1⟩ := h.key _ hh
    rw [kbR_inj hx (hL e he) h1] at hn
    exact absurd (List.mem_map_of_mem he) hn
open Classical in
theorem bfp_known {s : ByteArray} {D : List (EntP ByteArray)} {k j : Nat} (h : BfP nxC s D k j) {u : EntP ByteArray} (hu : (qP s D)[k]? = some u) {x : ByteArray} (hx : (nxC u.1)[j]? = some x) (hm : x ∈ kP D) : BfP nxC s D k (j + 1) := by
  have := h.step hu hx (h.valQ hu)
  unfold onP at this
  rwa [if_pos hm] at this
open Classical in
theorem bfp_new {s : ByteArray} {D : List (EntP ByteArray)} {k j : Nat} (h : BfP nxC s D k j) {u : EntP ByteArray} (hu : (qP s D)[k]? = some u) {x : ByteArray} (hx : (nxC u.1)[j]? = some x) (hm : x ∉ kP D) : BfP nxC s (D ++ [(x, u.2 ++ [j])]) k (j + 1) := by
  have := h.step hu hx (h.valQ hu)
  unfold onP at this
  rwa [if_neg hm] at this
end Go.Proofs.YtdcbjbmnkajjcaaDoor
