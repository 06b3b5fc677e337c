/- An append that may share memory; rows of rows of moves (no walk). -/
import Derived.Test.YtfiifjcjmnhbnaaDoorSl
import Derived.Deep.DeepAppendRoom
import Derived.Maps.AppendAt
import Derived.Deep.RegionLaw
namespace Go.Proofs.YtfiifjcjmnhbnaaDoor
open Go.RowKit

/-- A shorter slice on the same row. -/
theorem own_back {W : World} {base : Nat} {e : TypeId} {size g n m cap : Nat} {xs ys : List Value} (h : W.ownsRow base e size (.slice (some ⟨g, 0, none⟩) (n + m) cap) (n + m) (xs ++ ys)) (hl : xs.length = n * size) : W.ownsRow base e size (.slice (some ⟨g, 0, none⟩) n cap) n xs := by
  rcases h.2 with ⟨hv, _⟩ | ⟨g', cap', cur, hv, hb, hg, hc, hm, hs, ht⟩
  · cases hv
  · cases hv
    refine ⟨hl, .inr ⟨g, cap, cur, rfl, hb, hg, by omega, hm, hs, ?_⟩⟩
    have e1 : n * size ≤ (n + m) * size := Nat.mul_le_mul_right _ (by omega)
    have := congrArg (List.take (n * size)) ht
    rw [List.take_take, Nat.min_eq_left e1, ← hl, List.take_left, hl] at this
    exact this
/-- How the appended slice lies to the old one: on its row, or on a new one. -/
def Lies (w w' : World) (v v' : Value) (n m : Nat) : Prop :=
  (∃ g cap, v = .slice (some ⟨g, 0, none⟩) n cap ∧ v' = .slice (some ⟨g, 0, none⟩) (n + m) cap) ∨ (v'.ownBlock = some w.heap.size ∧ w.grownBy w' none)
section
variable {P : Program} (w : World)
theorem run_append_made (t ty : TypeId) (base : Nat) (e : TypeId) (i : TypeInfo) (z : Value) (size bytes : Nat) (ht : P.underlying t = some (.slice e)) (hi : P.info? e = some i) (hz : i.zero = some z)
    (hsize : i.size = size) (hby : i.bytes = bytes) (hzs : z.cells.size = size) (hsz : 0 < size)
    (v : Value) (n : Nat) (xs : List Value) (hown : w.ownsRow base e size v n xs)
    (ad : Addr) (m c : Nat) (news : List Value) (hl : news.length = m * size) (hnews : ∀ j u, news[j]? = some u → w.cell? (ad.add j) = some u) (h1 : ∀ u ∈ news, u.oneCell' = true)
    (hm : 0 < m) (h63 : n + m ≤ maxLen) (hbytes : (n + m) * bytes ≤ 140737488355328) (hbase : base ≤ w.heap.size) :
    ∃ v' w', (Builtin.append_ #[t, t] ty #[v, .slice (some ad) m c]).run P w = .ok v' w' ∧ w'.ownsRow base e size v' (n + m) (xs ++ news) ∧ w.grownBy w' v.ownBlock ∧ Lies w w' v v' n m := by
  obtain ⟨v', w', hr, h2, h3, _, _⟩ := run_append_own_at (P := P) w base t ty e i z size bytes ht hi hz hsize hby hzs hsz v n xs hown ad m c news hl hnews h1 h63 hbytes hbase
  have h64 : n + m ≤ 9223372036854775807 := by unfold maxLen at h63; omega
  have hgn : ∀ o : Obj, w.grownBy (w.drew.alloc o) none := fun o => ⟨rfl, rfl, rfl, by simp, fun k hk _ => Below.heap_alloc w.drew _ k hk⟩
  rcases hown.2 with ⟨rfl, rfl⟩ | ⟨g, cap, cur, rfl, hbg, hg, hnc, hcm, hcs, htake⟩
  · have hr2 := run_append_nil (P := P) w t ty e i z ht hi hz ad m c news (by rw [hl, hsize]) hnews hm (by omega) (by rw [hby]; rw [Nat.zero_add] at hbytes; omega)
    rw [hr2] at hr
    injection hr with e1 e2
    subst e1
    subst e2
    exact ⟨_, _, hr2, h2, h3, .inr ⟨rfl, hgn _⟩⟩
  · by_cases hroom : n + m ≤ cap
    · obtain ⟨w2, hr2, _, _⟩ := run_append_own_spare (P := P) w base t ty e i size ht hi hsize g n cap xs hown ad m c news hl hnews h1 hroom
      rw [hr2] at hr
      injection hr with e1 e2
      subst e1
      subst e2
      exact ⟨_, _, hr2, h2, h3, .inl ⟨g, cap, rfl, rfl⟩⟩
    · have holds : ∀ j u, xs[j]? = some u → w.cell? ((⟨g, 0, none⟩ : Addr).add j) = some u := hown.cells (g := g) rfl
      have hr2 := run_append_grow (P := P) w t ty e i z ht hi hz ⟨g, 0, none⟩ n cap xs (by rw [hown.1, hsize]) holds ad m c news (by rw [hl, hsize]) hnews (by omega) (by omega) (growslice_fits (by omega) (by rw [hby]; exact hbytes))
      rw [hr2] at hr
      injection hr with e1 e2
      subst e1
      subst e2
      exact ⟨_, _, hr2, h2, h3, .inr ⟨rfl, hgn _⟩⟩
theorem step_append_made {ops : Array Oper} {o : Oper} {a : Act} {K : Act → World → Prop} {Q : Exit → Act → World → Prop} {E : Prop} (hgd : o.guard = none) (s x : Operand) (t : TypeId)
    (ho : o.op = .call { callee := .builtin .append, args := #[s, x], argTypes := #[t, t] })
    (base : Nat) (e : TypeId) (i : TypeInfo) (z : Value) (size bytes : Nat) (ht : P.underlying t = some (.slice e)) (hi : P.info? e = some i) (hz : i.zero = some z)
    (hsize : i.size = size) (hby : i.bytes = bytes) (hzs : z.cells.size = size) (hsz : 0 < size)
    (v : Value) (n : Nat) (xs : List Value) (hs : a.eval s = v) (hown : w.ownsRow base e size v n xs)
    (ad : Addr) (m c : Nat) (news : List Value) (hx : a.eval x = .slice (some ad) m c) (hl : news.length = m * size) (hnews : ∀ j u, news[j]? = some u → w.cell? (ad.add j) = some u) (h1 : ∀ u ∈ news, u.oneCell' = true)
    (hm : 0 < m) (h63 : n + m ≤ maxLen) (hbytes : (n + m) * bytes ≤ 140737488355328) (hbase : base ≤ w.heap.size)
    (h : ∀ v' w', w'.ownsRow base e size v' (n + m) (xs ++ news) → w.grownBy w' v.ownBlock → Lies w w' v v' n m → K (a.put o.dst v') w') :
    if Region.wanted o (yielded ops a.tmps) = true then Oper.wp P o a w K Q else E := by
  have hw : Region.wanted o (yielded ops a.tmps) = true := by simp [Region.wanted, hgd]
  rw [if_pos hw]
  obtain ⟨v', w', hr, h2, h3, h4⟩ := run_append_made (P := P) w t o.type base e i z size bytes ht hi hz hsize hby hzs hsz v n xs hown ad m c news hl hnews h1 hm h63 hbytes hbase
  unfold Oper.wp execOp
  simp only [ho, resolve, invoke, builtin, Sem.run_bind, Sem.run_pure, Result.andThen_ok, List.map_toArray, List.map_cons, List.map_nil, hs, hx, hr]
  exact h v' w' h2 h3 h4
end
theorem own_blkS {W W' : World} {b m n : Nat} {e : TypeId} {v : Value} {xs : List Value} (h : W.ownsRow b e m v n xs) (hb : ∀ g, v.ownBlock = some g → W'.heap[g]? = W.heap[g]?) : W'.ownsRow b e m v n xs := by
  refine ⟨h.1, ?_⟩
  rcases h.2 with h2 | ⟨g, cap, cur, rfl, a1, a2, r⟩
  · exact .inl h2
  · exact .inr ⟨g, cap, cur, rfl, a1, (hb g rfl).trans a2, r⟩
theorem rows_apartS {W : World} {b b' : Nat} {e e' : TypeId} {n n' m m' : Nat} {v v' : Value} {xs xs' : List Value} (h : W.ownsRow b e m v n xs) (h' : W.ownsRow b' e' m' v' n' xs') (hne : e ≠ e') : ∀ g, v.ownBlock = some g → v'.ownBlock ≠ some g := by
  intro g hg hg'
  rcases h.2 with ⟨rfl, _⟩ | ⟨k, cap, cur, rfl, _, hk, _⟩
  · cases hg
  · rcases h'.2 with ⟨rfl, _⟩ | ⟨k', cap', cur', rfl, _, hk', _⟩
    · cases hg'
    · have e1 : k = g := by injection hg
      have e2 : k' = g := by injection hg'
      subst e1
      subst e2
      rw [hk] at hk'
      injection hk' with hk'
      injection hk' with _ hk' _
      exact hne hk'
theorem T_mm : (55 : TypeId) ≠ 36 := by decide
/-- Rows of moves in a row, each in a block of its own. -/
structure PlW (W : World) (base : Nat) (vp : Value) (vs : List Value) (PS : List (List (Int × Int))) : Prop where
  out : W.ownsRow base 36 1 vp vs.length vs
  len : vs.length = PS.length
  inn : ∀ (i : Nat) (v : Value) (p : List (Int × Int)), vs[i]? = some v → PS[i]? = some p → W.ownsRow base 55 2 v p.length (flat p)
  apart : ∀ (i j : Nat) (v u : Value) (g : Nat), vs[i]? = some v → vs[j]? = some u → i ≠ j → v.ownBlock = some g → u.ownBlock ≠ some g
section
variable {W W' : World} {base : Nat} {vp vp' u : Value} {vs : List Value} {PS : List (List (Int × Int))} {p : List (Int × Int)}
theorem PlW.at (h : PlW W base vp vs PS) {v : Value} (hv : v ∈ vs) : ∃ p, W.ownsRow base 55 2 v p.length (flat p) := by
  obtain ⟨i, hi, e⟩ := List.getElem_of_mem hv
  have h1 : vs[i]? = some v := by rw [List.getElem?_eq_getElem hi, e]
  have h2 : i < PS.length := by rw [← h.len]; exact hi
  exact ⟨_, h.inn i v _ h1 (List.getElem?_eq_getElem h2)⟩
theorem PlW.keep (h : PlW W base vp vs PS) (hp : ∀ g, vp.ownBlock = some g → W'.heap[g]? = W.heap[g]?) (hi : ∀ v ∈ vs, ∀ g, v.ownBlock = some g → W'.heap[g]? = W.heap[g]?) : PlW W' base vp vs PS :=
  ⟨own_blkS h.out hp, h.len, fun i v p h1 h2 => own_blkS (h.inn i v p h1 h2) (hi v (List.mem_of_getElem? h1)), h.apart⟩
theorem PlW.below (h : PlW W base vp vs PS) (hb : Below W.heap.size W W') : PlW W' base vp vs PS :=
  h.keep (fun g hg => hb.block g (h.out.lt g hg).2) fun v hv g hg => by
    obtain ⟨p, hp⟩ := h.at hv
    exact hb.block g (hp.lt g hg).2
/-- One more. -/
theorem PlW.push (h : PlW W base vp vs PS) (hu : W.ownsRow base 55 2 u p.length (flat p)) (ha : ∀ v ∈ vs, ∀ g, v.ownBlock = some g → u.ownBlock ≠ some g)
    (ho : W'.ownsRow base 36 1 vp' (vs.length + 1) (vs ++ [u])) (hg : W.grownBy W' vp.ownBlock) : PlW W' base vp' (vs ++ [u]) (PS ++ [p]) := by
  have hold : ∀ v p, W.ownsRow base 55 2 v (p : List (Int × Int)).length (flat p) → W'.ownsRow base 55 2 v p.length (flat p) := fun v p hv =>
    own_blkS hv fun g hgb => hg.block g (hv.lt g hgb).2 fun e => rows_apartS hv h.out T_mm g hgb e.symm
  refine ⟨by rw [List.length_append]; exact ho, by simp [h.len], fun i v q h1 h2 => ?_, fun i j v x g h1 h2 hne hgv => ?_⟩
  · rcases Nat.lt_or_ge i vs.length with hi | hi
    · rw [List.getElem?_append_left hi] at h1
      rw [List.getElem?_append_left (by rw [← h.len]; exact hi)] at h2
      exact hold v q (h.inn i v q h1 h2)
    · rw [List.getElem?_append_right hi] at h1
      rw [List.getElem?_append_right (by rw [← h.len]; exact hi)] at h2
      rw [← h.len] at h2
      have e0 : i - vs.length = 0 := by
        have := (List.getElem?_eq_some_iff.1 h1).1
        simp at this
        omega
      rw [e0] at h1 h2
      injection h1 with h1
      injection h2 with h2
      rw [← h1, ← h2]
      exact hold u p hu
  · have hu2 : ∀ k y, (vs ++ [u])[k]? = some y → (k < vs.length ∧ vs[k]? = some y) ∨ (k = vs.length ∧ y = u) := fun k y hk => by
      rcases Nat.lt_or_ge k vs.length with hi | hi
      · rw [List.getElem?_append_left hi] at hk
        exact .inl ⟨hi, hk⟩
      · rw [List.getElem?_append_right hi] at hk
        have e0 : k - vs.length = 0 := by
          have := (List.getElem?_eq_some_iff.1 hk).1
          simp at this
          omega
        rw [e0] at hk
        injection hk with hk
        exact .inr ⟨by omega, hk.symm⟩
    rcases hu2 i v h1 with ⟨_, a1⟩ | ⟨a0, rfl⟩
    · rcases hu2 j x h2 with ⟨_, b1⟩ | ⟨_, rfl⟩
      · exact h.apart i j v x g a1 b1 hne hgv
      · exact ha v (List.mem_of_getElem? a1) g hgv
    · rcases hu2 j x h2 with ⟨_, b1⟩ | ⟨b0, rfl⟩
      · exact fun e => ha x (List.mem_of_getElem? b1) g e hgv
      · omega
/-- Two blocks are written, no other. -/
structure FrA (a b : Option Nat) (W W' : World) : Prop where
  os : W'.os = W.os
  tape : W'.tape = W.tape
  output : W'.output = W.output
  size : W.heap.size ≤ W'.heap.size
  block : ∀ k, k < W.heap.size → some k ≠ a → some k ≠ b → W'.heap[k]? = W.heap[k]?
theorem FrA.refl (a b : Option Nat) (W : World) : FrA a b W W := ⟨rfl, rfl, rfl, Nat.le_refl _, fun _ _ _ _ => rfl⟩
theorem FrA.then {a b a' b' : Option Nat} {W1 W2 W3 : World} (h : FrA a b W1 W2) (h' : FrA a' b' W2 W3) (ha : a' = a ∨ a' = b ∨ ∀ g, a' = some g → W1.heap.size ≤ g) (hb : b' = b ∨ b' = a ∨ ∀ g, b' = some g → W1.heap.size ≤ g) : FrA a b W1 W3 := by
  refine ⟨h'.os.trans h.os, h'.tape.trans h.tape, h'.output.trans h.output, Nat.le_trans h.size h'.size, fun k hk h1 h2 => (h'.block k (Nat.lt_of_lt_of_le hk h.size) (fun e => ?_) (fun e => ?_)).trans (h.block k hk h1 h2)⟩
  · rcases ha with ha | ha | ha
    · exact h1 (e.trans ha)
    · exact h2 (e.trans ha)
    · have := ha k e.symm; omega
  · rcases hb with hb | hb | hb
    · exact h2 (e.trans hb)
    · exact h1 (e.trans hb)
    · have := hb k e.symm; omega
theorem FrA.below {a b : Option Nat} {n : Nat} (h : FrA a b W W') (hn : n ≤ W.heap.size) (ha : ∀ g, a = some g → n ≤ g) (hb : ∀ g, b = some g → n ≤ g) : Below n W W' :=
  ⟨h.os, h.tape, h.output, h.size, fun k hk => h.block k (by omega) (fun e => by have := ha k e.symm; omega) (fun e => by have := hb k e.symm; omega)⟩
theorem FrA.ofBelow {a b : Option Nat} (h : Below W.heap.size W W') : FrA a b W W' := ⟨h.os, h.tape, h.output, h.size, fun k hk _ _ => h.block k hk⟩
theorem FrA.ofGrown {a b : Option Nat} (h : W.grownBy W' a) : FrA a b W W' := ⟨h.os, h.tape, h.output, h.size, fun k hk h1 _ => h.block k hk h1⟩
theorem FrA.ofGrown2 {a b : Option Nat} (h : W.grownBy W' b) : FrA a b W W' := ⟨h.os, h.tape, h.output, h.size, fun k hk _ h2 => h.block k hk h2⟩
end
end Go.Proofs.YtfiifjcjmnhbnaaDoor
