/- Rising lists of texts, and layers of what is reached by steps; no Go in sight. -/
import Derived.Lib.Hide
import Derived.Test.YtoiaklnaecghnabGreatDoorMoves
import Derived.Maps.AppendAt
import Derived.Deep.Upon
import Derived.Sort.Walk0
namespace Go.Proofs.YtoiaklnaecghnabGreatDoor
/-- Put into a rising list, unless it is there. -/
def ins (x : List UInt8) : List (List UInt8) → List (List UInt8)
  | [] => [x]
  | y :: l => if y < x then y :: ins x l else if y = x then y :: l else x :: y :: l
abbrev Rising (l : List (List UInt8)) : Prop := l.Pairwise (· < ·)
theorem lt_tri (a b : List UInt8) (h : ¬ a < b) (hne : a ≠ b) : b < a := by
  by_cases h2 : b < a
  · exact h2
  · exact absurd (List.le_antisymm (List.not_lt.1 h2) (List.not_lt.1 h)) hne
theorem mem_ins (x y : List UInt8) : ∀ l, y ∈ ins x l ↔ y = x ∨ y ∈ l
  | [] => by simp [ins]
  | z :: l => by
    have ih := mem_ins x y l
    unfold ins
    split
    · simp only [List.mem_cons, ih]
      constructor
      · rintro (h | h | h)
        · exact .inr (.inl h)
        · exact .inl h
        · exact .inr (.inr h)
      · rintro (h | h | h)
        · exact .inr (.inl h)
        · exact .inl h
        · exact .inr (.inr h)
    · split
      · rename_i e
        simp only [List.mem_cons]
        constructor
        · exact fun h => .inr h
        · rintro (h | h)
          · exact .inl (h.trans e.symm)
          · exact h
      · simp only [List.mem_cons]
theorem ins_rising (x : List UInt8) : ∀ l, Rising l → Rising (ins x l)
  | [], _ => by simp [ins, Rising]
  | z :: l, h => by
    obtain ⟨h1, h2⟩ := List.pairwise_cons.1 h
    unfold ins
    split
    · rename_i hz
      refine List.pairwise_cons.2 ⟨fun y hy => ?_, ins_rising x l h2⟩
      rcases (mem_ins x y l).1 hy with rfl | hy'
      · exact hz
      · exact h1 y hy'
    · rename_i hz
      split
      · exact h
      · rename_i hne
        have hx := lt_tri z x hz hne
        refine List.pairwise_cons.2 ⟨fun y hy => ?_, h⟩
        rcases List.mem_cons.1 hy with rfl | hy'
        · exact hx
        · exact List.lt_trans hx (h1 y hy')
theorem ins_at (x : List UInt8) : ∀ (l : List (List UInt8)) (i : Nat), i ≤ l.length → (∀ j (h : j < l.length), j < i → l[j] < x) → (∀ h : i < l.length, ¬ l[i] < x) →
    ins x l = if l[i]? = some x then l else l.take i ++ x :: l.drop i
  | [], 0, _, _, _ => by simp [ins]
  | [], _ + 1, h, _, _ => by simp at h
  | y :: l, 0, _, _, h2 => by
    have hy : ¬ y < x := h2 (by simp)
    unfold ins
    rw [if_neg hy]
    by_cases e : y = x <;> simp [e]
  | y :: l, i + 1, hi, h1, h2 => by
    have hy : y < x := h1 0 (by simp) (by omega)
    have ih := ins_at x l i (by simpa using hi) (fun j h hj => h1 (j + 1) (by simpa using h) (by omega)) (fun h => h2 (by simpa using h))
    unfold ins
    rw [if_pos hy, ih]
    simp only [List.getElem?_cons_succ, List.take_succ_cons, List.drop_succ_cons]
    split <;> simp
theorem ins_len (x : List UInt8) : ∀ l, (ins x l).length ≤ l.length + 1
  | [] => by simp [ins]
  | z :: l => by
    have := ins_len x l
    unfold ins
    split
    · simp; omega
    · split <;> simp
theorem rising_nodup {l : List (List UInt8)} (h : Rising l) : l.Nodup := h.imp fun {a b} hab e => by
  subst e; exact List.lt_irrefl a hab
theorem rising_ext {l m : List (List UInt8)} (h1 : Rising l) (h2 : Rising m) (h : ∀ x, x ∈ l ↔ x ∈ m) : l = m := by
  have hp := (List.perm_ext_iff_of_nodup (rising_nodup h1) (rising_nodup h2)).2 h
  exact List.Perm.eq_of_pairwise (le := fun a b => a < b) (fun a b _ _ h1 h2 => absurd (List.lt_trans h1 h2) (List.lt_irrefl a)) h1 h2 hp
/-- All put in. -/
def insAll (xs a : List (List UInt8)) : List (List UInt8) := xs.foldl (fun a x => ins x a) a
theorem insAll_app (xs ys a : List (List UInt8)) : insAll (xs ++ ys) a = insAll ys (insAll xs a) := by simp [insAll]
theorem insAll_snoc (xs : List (List UInt8)) (y : List UInt8) (a : List (List UInt8)) : insAll (xs ++ [y]) a = ins y (insAll xs a) := by simp [insAll]
theorem mem_insAll (y : List UInt8) : ∀ xs a, y ∈ insAll xs a ↔ y ∈ xs ∨ y ∈ a
  | [], a => by simp [insAll]
  | x :: xs, a => by
    have := mem_insAll y xs (ins x a)
    show y ∈ insAll xs (ins x a) ↔ _
    rw [this, mem_ins, List.mem_cons]
    constructor
    · rintro (h | h | h)
      · exact .inl (.inr h)
      · exact .inl (.inl h)
      · exact .inr h
    · rintro ((h | h) | h)
      · exact .inr (.inl h)
      · exact .inl h
      · exact .inr (.inr h)
theorem rising_insAll : ∀ xs a, Rising a → Rising (insAll xs a)
  | [], _, h => h
  | x :: xs, a, h => rising_insAll xs (ins x a) (ins_rising x a h)
theorem insAll_ne {xs : List (List UInt8)} (h : xs ≠ []) (a : List (List UInt8)) : insAll xs a ≠ [] := by
  obtain ⟨x, xs', rfl⟩ := List.exists_cons_of_ne_nil h
  intro e
  have := (mem_insAll x (x :: xs') a).2 (.inl (by simp))
  rw [e] at this
  simp at this

/-- What is reached by so many steps, and in how many ways. -/
def lay (nx : List UInt8 → List (List UInt8)) (w : List UInt8) : Nat → List (List UInt8)
  | 0 => [w]
  | k + 1 => insAll ((lay nx w k).flatMap nx) []
def pc (nx : List UInt8 → List (List UInt8)) (w : List UInt8) : Nat → List UInt8 → Nat
  | 0, v => if v = w then 1 else 0
  | k + 1, v => ((lay nx w k).map fun u => (nx u).count v * pc nx w k u).sum
/-- There are just n layers. -/
def IsDep (nx : List UInt8 → List (List UInt8)) (w : List UInt8) (n : Nat) : Prop := 1 ≤ n ∧ lay nx w n = [] ∧ ∀ j, j < n → lay nx w j ≠ []
/-- All that is reached, in order. -/
def allL (nx : List UInt8 → List (List UInt8)) (w : List UInt8) (n : Nat) : List (List UInt8) := insAll ((List.range n).flatMap (lay nx w)) []
section
variable {nx : List UInt8 → List (List UInt8)} {w : List UInt8}
theorem lay_rising : ∀ k, Rising (lay nx w k)
  | 0 => by simp [lay, Rising]
  | k + 1 => rising_insAll _ _ (by simp [Rising])
theorem mem_lay_next (k : Nat) (v : List UInt8) : v ∈ lay nx w (k + 1) ↔ ∃ u, u ∈ lay nx w k ∧ v ∈ nx u := by
  show v ∈ insAll _ [] ↔ _
  rw [mem_insAll]
  simp [List.mem_flatMap]
theorem lay_nil {k : Nat} (h : lay nx w k = []) : ∀ j, k ≤ j → lay nx w j = [] := by
  intro j hj
  induction j with
  | zero => obtain rfl : k = 0 := by omega
            exact h
  | succ j ih =>
    by_cases e : k = j + 1
    · subst e; exact h
    · show insAll _ [] = []
      rw [ih (by omega)]
      rfl
theorem allL_rising (n : Nat) : Rising (allL nx w n) := rising_insAll _ _ (by simp [Rising])
theorem mem_allL (n : Nat) (v : List UInt8) : v ∈ allL nx w n ↔ ∃ k, k < n ∧ v ∈ lay nx w k := by
  unfold allL
  rw [mem_insAll]
  simp [List.mem_flatMap]
theorem pc_none : ∀ (k : Nat) (v : List UInt8), v ∉ lay nx w k → pc nx w k v = 0
  | 0, v, h => by
    have : v ≠ w := by simpa [lay] using h
    simp [pc, this]
  | k + 1, v, h => by
    have h1 : ∀ u ∈ lay nx w k, (nx u).count v = 0 := fun u hu => List.count_eq_zero.2 fun hv => h ((mem_lay_next k v).2 ⟨u, hu, hv⟩)
    show ((lay nx w k).map fun u => (nx u).count v * pc nx w k u).sum = 0
    have : (lay nx w k).map (fun u => (nx u).count v * pc nx w k u) = (lay nx w k).map fun _ => 0 := List.map_congr_left fun u hu => by rw [h1 u hu]; simp
    rw [this]
    clear this h1 h
    induction lay nx w k with
    | nil => rfl
    | cons a l ih => simpa using ih
variable {good : List UInt8 → Prop} {ms wy : List UInt8 → Int}
/-- Each step leads on, by one of a measure. -/
structure Steps (nx : List UInt8 → List (List UInt8)) (good : List UInt8 → Prop) (ms wy : List UInt8 → Int) : Prop where
  keeps : ∀ u v, good u → v ∈ nx u → good v
  one : ∀ u v, good u → v ∈ nx u → ms v = ms u - 1
  less : ∀ u v, good u → v ∈ nx u → wy v ≤ wy u - 1
  pos : ∀ u, good u → 0 ≤ wy u
theorem lay_good (S : Steps nx good ms wy) (hw : good w) : ∀ k v, v ∈ lay nx w k → good v ∧ ms v = ms w - k ∧ wy v ≤ wy w - k
  | 0, v, h => by
    have : v = w := by simpa [lay] using h
    subst this
    exact ⟨hw, by simp, by simp⟩
  | k + 1, v, h => by
    obtain ⟨u, hu, hv⟩ := (mem_lay_next k v).1 h
    obtain ⟨a, b, c⟩ := lay_good S hw k u hu
    have := S.one u v a hv
    have := S.less u v a hv
    exact ⟨S.keeps u v a hv, by omega, by omega⟩
theorem lay_end (S : Steps nx good ms wy) (hw : good w) (k : Nat) (hk : wy w < k) : lay nx w k = [] := by
  rw [List.eq_nil_iff_forall_not_mem]
  intro v hv
  obtain ⟨a, _, c⟩ := lay_good S hw k v hv
  have := S.pos v a
  omega
theorem lay_apart (S : Steps nx good ms wy) (hw : good w) {j k : Nat} {v : List UInt8} (h1 : v ∈ lay nx w j) (h2 : v ∈ lay nx w k) : j = k := by
  have := (lay_good S hw j v h1).2.1
  have := (lay_good S hw k v h2).2.1
  omega
theorem dep_exists (S : Steps nx good ms wy) (hw : good w) : ∃ n, IsDep nx w n ∧ (n : Int) ≤ wy w + 1 := by
  have hp := S.pos w hw
  have h0 : lay nx w ((wy w).toNat + 1) = [] := lay_end S hw _ (by omega)
  have : ∀ m, lay nx w m = [] → ∃ n, n ≤ m ∧ lay nx w n = [] ∧ ∀ j, j < n → lay nx w j ≠ [] := by
    intro m
    induction m with
    | zero => intro h; exact ⟨0, Nat.le_refl _, h, fun j hj => by omega⟩
    | succ m ih =>
      intro h
      by_cases e : lay nx w m = []
      · obtain ⟨n, h1, h2, h3⟩ := ih e
        exact ⟨n, by omega, h2, h3⟩
      · refine ⟨m + 1, Nat.le_refl _, h, fun j hj e2 => e (lay_nil e2 m (by omega))⟩
  obtain ⟨n, h1, h2, h3⟩ := this _ h0
  refine ⟨n, ⟨?_, h2, h3⟩, by omega⟩
  by_cases e : n = 0
  · subst e; simp [lay] at h2
  · omega
end
end Go.Proofs.YtoiaklnaecghnabGreatDoor
namespace Go.Proofs.YtoiaklnaecghnabGreatDoor
open Go.RowKit

theorem Tryz.infoS : (Tryz.prog.info? 9).map (fun i => (i.zero, i.size, i.bytes)) = some (some (.string ByteArray.empty), 1, 16) := by kernel_rfl

/-- The texts of a list, as cells. -/
def txs (l : List (List UInt8)) : List Value := l.map fun x => .string (str x)
theorem txs_len (l : List (List UInt8)) : (txs l).length = l.length := by simp [txs]
theorem txs_app (a b : List (List UInt8)) : txs (a ++ b) = txs a ++ txs b := by simp [txs]
theorem txs_one (l : List (List UInt8)) : ∀ u ∈ txs l, u.oneCell' = true := by
  intro u hu
  obtain ⟨x, _, rfl⟩ := List.mem_map.1 hu
  rfl
/-- The cells of a slice's address hold a list of texts. -/
def StAt (w : World) (A : Option Addr) (l : List (List UInt8)) : Prop :=
  ∀ k (h : k < l.length), ∃ g, A = some ⟨g, 0, none⟩ ∧ g < w.heap.size ∧ w.cell? ⟨g, k, none⟩ = some (.string (str l[k]))
theorem StAt.below {w w' : World} {A : Option Addr} {l : List (List UInt8)} (h : StAt w A l) (hb : Below w.heap.size w w') : StAt w' A l := by
  intro k hk
  obtain ⟨g, a, b, c⟩ := h k hk
  exact ⟨g, a, Nat.lt_of_lt_of_le b hb.size, (hb.cell (p := ⟨g, k, none⟩) b).trans c⟩
theorem StAt.farB {w w' : World} {A : Option Addr} {l : List (List UInt8)} {row : Option Nat} (h : StAt w A l) (hf : FarB row w w') (hne : ∀ a, A = some a → some a.block ≠ row) : StAt w' A l := by
  intro k hk
  obtain ⟨g, a, b, c⟩ := h k hk
  refine ⟨g, a, Nat.lt_of_lt_of_le b hf.1, ?_⟩
  rw [← c]
  exact World.cell?_of_block (a := ⟨g, k, none⟩) (hf.2 g (hne _ a) b)
theorem st_own {w : World} {base : Nat} {e : TypeId} {v : Value} {l : List (List UInt8)} (h : w.ownsRow base e 1 v l.length (txs l)) : ∃ A cap, v = .slice A l.length cap ∧ l.length ≤ cap ∧ cap ≤ maxLen ∧ StAt w A l ∧ (A = none → l = [] ∧ cap = 0) ∧ (∀ a, A = some a → base ≤ a.block ∧ a.spot = none ∧ a.off = 0) := by
  rcases h.2 with ⟨hv, h0⟩ | ⟨g, cap, cur, rfl, hg, hh, hn, hm, _⟩
  · have h2 : l.length = 0 := by have h3 := txs_len l; have h4 := h.1; omega
    exact ⟨none, 0, by rw [hv, h2], by omega, by simp [maxLen], fun k hk => by omega, fun _ => ⟨List.eq_nil_of_length_eq_zero h2, rfl⟩, fun a e => by cases e⟩
  · refine ⟨_, cap, rfl, hn, hm, fun k hk => ⟨g, rfl, ?_, ?_⟩, fun e => (by cases e), fun a e => by injection e with e; subst e; exact ⟨hg, rfl, rfl⟩⟩
    · by_cases hlt : g < w.heap.size
      · exact hlt
      · rw [Array.getElem?_eq_none (by omega)] at hh; cases hh
    · have f : (txs l)[k]? = some (.string (str l[k])) := by simp [txs, hk]
      exact (h.cellAt k (by omega)).trans f
/-- A list of texts that the model hands about: nil, or a row from its head on. -/
def StOk (w : World) (v : Value) (l : List (List UInt8)) : Prop :=
  (l = [] ∧ v = .slice none 0 0) ∨ (l ≠ [] ∧ ∃ g c, v = .slice (some ⟨g, 0, none⟩) l.length c ∧ l.length ≤ c ∧ c ≤ maxLen ∧ g < w.heap.size ∧ ∀ k (h : k < l.length), w.cell? ⟨g, k, none⟩ = some (.string (str l[k])))
theorem StOk.below {w w' : World} {v : Value} {l : List (List UInt8)} (h : StOk w v l) (hb : Below w.heap.size w w') : StOk w' v l := by
  rcases h with h | ⟨h0, g, c, hv, h1, h2, h3, h4⟩
  · exact .inl h
  · exact .inr ⟨h0, g, c, hv, h1, h2, Nat.lt_of_lt_of_le h3 hb.size, fun k hk => (hb.cell (p := ⟨g, k, none⟩) h3).trans (h4 k hk)⟩
theorem StOk.at {w : World} {v : Value} {l : List (List UInt8)} (h : StOk w v l) : ∃ A c, v = .slice A l.length c ∧ StAt w A l := by
  rcases h with ⟨rfl, rfl⟩ | ⟨h0, g, c, hv, h1, h2, h3, h4⟩
  · exact ⟨none, 0, rfl, fun k hk => by simp at hk⟩
  · exact ⟨_, c, hv, fun k hk => ⟨g, rfl, h3, h4 k hk⟩⟩
theorem st_ok {w : World} {base : Nat} {e : TypeId} {v : Value} {l : List (List UInt8)} (h : w.ownsRow base e 1 v l.length (txs l)) (hne : l ≠ []) : StOk w v l := by
  obtain ⟨A, c, rfl, h1, h2, h3, _⟩ := st_own h
  have hl : 0 < l.length := List.length_pos_iff.2 hne
  obtain ⟨g, rfl, hg, _⟩ := h3 0 hl
  refine .inr ⟨hne, g, c, rfl, h1, h2, hg, fun k hk => ?_⟩
  obtain ⟨g', e1, _, hc⟩ := h3 k hk
  injection e1 with e1
  injection e1 with e1
  subst e1
  exact hc
theorem less_str (a b : List UInt8) : Op.bytesLess (str a).toList (str b).toList = decide (a < b) := by
  rw [bytesLess_eq, Lib.toList_data, Lib.toList_data]; rfl
theorem same_str (a b : List UInt8) : ((str a).toList == (str b).toList) = decide (a = b) := by
  rw [Lib.toList_data, Lib.toList_data]
  show (a == b) = decide (a = b)
  by_cases h : a = b <;> simp [h]

/-- append OF A SLICE, nil or not, to what the call owns. -/
theorem wpList_append_st {P : Program} (w : World) {ops : Array Oper} {rest : List Oper} {o : Oper} {a : Act} {Q : Exit → Act → World → Prop} (hgd : o.guard = none) (s x : Operand) (t : TypeId)
    (ho : o.op = .call { callee := .builtin .append, args := #[s, x], argTypes := #[t, t] })
    (base : Nat) (e : TypeId) (i : TypeInfo) (z : Value) (size bytes : Nat) (ht : P.underlying t = some (.slice e)) (hi : P.info? e = some i) (hz : i.zero = some z)
    (hsize : i.size = size) (hby : i.bytes = bytes) (hzs : z.cells.size = size) (hsz : 0 < size)
    (v : Value) (n : Nat) (xs : List Value) (hs : a.eval s = v) (hown : w.ownsRow base e size v n xs)
    (ao : Option Addr) (m c : Nat) (news : List Value) (hx : a.eval x = .slice ao m c) (hnone : ao = none → m = 0 ∧ c = 0) (hl : news.length = m * size) (hnews : ∀ ad, ao = some ad → ∀ j u, news[j]? = some u → w.cell? (ad.add j) = some u) (h1 : ∀ u ∈ news, u.oneCell' = true)
    (h63 : n + m ≤ maxLen) (hbytes : (n + m) * bytes ≤ 140737488355328) (hbase : base ≤ w.heap.size)
    (h : ∀ v' w', w'.ownsRow base e size v' (n + m) (xs ++ news) → w.grownBy w' v.ownBlock → wpList P ops Q rest (a.put o.dst v') w') : wpList P ops Q (o :: rest) a w := by
  cases ao with
  | some ad => exact wpList_append_own w hgd s x t ho base e i z size bytes ht hi hz hsize hby hzs hsz v n xs hs hown ad m c news hx hl (hnews ad rfl) h1 h63 hbytes hbase fun v' w' h2 h3 _ => h v' w' h2 h3
  | none =>
    obtain ⟨rfl, rfl⟩ := hnone rfl
    have hnews : news = [] := List.eq_nil_of_length_eq_zero (by simpa using hl)
    subst hnews
    have hgo := h v w (by simpa using hown) (World.grownBy.refl _ _)
    refine wpList_plain hgd fun K hK' => ?_
    have hrun : (Builtin.append_ #[t, t] o.type #[v, .slice none 0 0]).run P w = .ok v w := by
      rcases hown.2 with ⟨hv, _⟩ | ⟨g, cap, cur, hv, _, _, hn, _⟩
      · rw [hv]; exact run_append_nothing w t t o.type e i ht hi none 0 0 (Nat.le_refl _) _ (Src.ofNil w ht 0)
      · rw [hv]; exact run_append_nothing w t t o.type e i ht hi _ n cap hn _ (Src.ofNil w ht 0)
    unfold Oper.wp
    simp [execOp, ho, resolve, invoke, builtin, hs, hx, hrun, Result.andThen]
    exact hK' _ _ hgo
end Go.Proofs.YtoiaklnaecghnabGreatDoor
