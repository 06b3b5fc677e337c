/- Lists of texts in memory; put into a rising list: the model's reAdd. -/
import Derived.Test.YtfiifjcjmnhbnaaDoorReachA
import Derived.Test.YtfiifjcjmnhbnaaDoorMoves
import Derived.Maps.AppendAt
import Derived.Deep.Upon
import Derived.Sort.Walk0
namespace Go.Proofs.YtfiifjcjmnhbnaaDoor
open Go.RowKit

theorem Tryd.infoS : (Tryd.prog.info? 9).map (fun i => (i.zero, i.size, i.bytes)) = some (some (.string ByteArray.empty), 1, 16) := by kernel_rfl

/-- The texts of a list, as cells. -/
def txs (l : List (List UInt8)) : List Value := l.map fun x => .string (str x)
theorem txs_len (l : List (List UInt8)) : (txs l).length = l.length := by simp [txs]
theorem txs_app (a b : List (List UInt8)) : txs (a ++ b) = txs a ++ txs b := by simp [txs]
theorem txs_one (l : List (List UInt8)) : ∀ u ∈ txs l, u.oneCell' = true := by
  intro u hu
  obtain ⟨x, _, rfl⟩ := List.mem_map.1 hu
  rfl
/-- The cells of a slice's address hold a list of texts. -/
def StAt (w : World) (A : Option Addr) (l : List (List UInt8)) : Prop :=
  ∀ k (h : k < l.length), ∃ g, A = some ⟨g, 0, none⟩ ∧ g < w.heap.size ∧ w.cell? ⟨g, k, none⟩ = some (.string (str l[k]))
theorem StAt.below {w w' : World} {A : Option Addr} {l : List (List UInt8)} (h : StAt w A l) (hb : Below w.heap.size w w') : StAt w' A l := by
  intro k hk
  obtain ⟨g, a, b, c⟩ := h k hk
  exact ⟨g, a, Nat.lt_of_lt_of_le b hb.size, (hb.cell (p := ⟨g, k, none⟩) b).trans c⟩
theorem StAt.farB {w w' : World} {A : Option Addr} {l : List (List UInt8)} {row : Option Nat} (h : StAt w A l) (hf : FarB row w w') (hne : ∀ a, A = some a → some a.block ≠ row) : StAt w' A l := by
  intro k hk
  obtain ⟨g, a, b, c⟩ := h k hk
  refine ⟨g, a, Nat.lt_of_lt_of_le b hf.1, ?_⟩
  rw [← c]
  exact World.cell?_of_block (a := ⟨g, k, none⟩) (hf.2 g (hne _ a) b)
theorem st_own {w : World} {base : Nat} {e : TypeId} {v : Value} {l : List (List UInt8)} (h : w.ownsRow base e 1 v l.length (txs l)) : ∃ A cap, v = .slice A l.length cap ∧ l.length ≤ cap ∧ cap ≤ maxLen ∧ StAt w A l ∧ (A = none → l = [] ∧ cap = 0) ∧ (∀ a, A = some a → base ≤ a.block ∧ a.spot = none ∧ a.off = 0) := by
  rcases h.2 with ⟨hv, h0⟩ | ⟨g, cap, cur, rfl, hg, hh, hn, hm, _⟩
  · have h2 : l.length = 0 := by have h3 := txs_len l; have h4 := h.1; omega
    exact ⟨none, 0, by rw [hv, h2], by omega, by simp [maxLen], fun k hk => by omega, fun _ => ⟨List.eq_nil_of_length_eq_zero h2, rfl⟩, fun a e => by cases e⟩
  · refine ⟨_, cap, rfl, hn, hm, fun k hk => ⟨g, rfl, ?_, ?_⟩, fun e => (by cases e), fun a e => by injection e with e; subst e; exact ⟨hg, rfl, rfl⟩⟩
    · by_cases hlt : g < w.heap.size
      · exact hlt
      · rw [Array.getElem?_eq_none (by omega)] at hh; cases hh
    · have f : (txs l)[k]? = some (.string (str l[k])) := by simp [txs, hk]
      exact (h.cellAt k (by omega)).trans f
/-- A list of texts that the model hands about: nil, or a row from its head on. -/
def StOk (w : World) (v : Value) (l : List (List UInt8)) : Prop :=
  (l = [] ∧ v = .slice none 0 0) ∨ (l ≠ [] ∧ ∃ g c, v = .slice (some ⟨g, 0, none⟩) l.length c ∧ l.length ≤ c ∧ c ≤ maxLen ∧ g < w.heap.size ∧ ∀ k (h : k < l.length), w.cell? ⟨g, k, none⟩ = some (.string (str l[k])))
theorem StOk.below {w w' : World} {v : Value} {l : List (List UInt8)} (h : StOk w v l) (hb : Below w.heap.size w w') : StOk w' v l := by
  rcases h with h | ⟨h0, g, c, hv, h1, h2, h3, h4⟩
  · exact .inl h
  · exact .inr ⟨h0, g, c, hv, h1, h2, Nat.lt_of_lt_of_le h3 hb.size, fun k hk => (hb.cell (p := ⟨g, k, none⟩) h3).trans (h4 k hk)⟩
theorem StOk.at {w : World} {v : Value} {l : List (List UInt8)} (h : StOk w v l) : ∃ A c, v = .slice A l.length c ∧ StAt w A l := by
  rcases h with ⟨rfl, rfl⟩ | ⟨h0, g, c, hv, h1, h2, h3, h4⟩
  · exact ⟨none, 0, rfl, fun k hk => by simp at hk⟩
  · exact ⟨_, c, hv, fun k hk => ⟨g, rfl, h3, h4 k hk⟩⟩
theorem st_ok {w : World} {base : Nat} {e : TypeId} {v : Value} {l : List (List UInt8)} (h : w.ownsRow base e 1 v l.length (txs l)) (hne : l ≠ []) : StOk w v l := by
  obtain ⟨A, c, rfl, h1, h2, h3, _⟩ := st_own h
  have hl : 0 < l.length := List.length_pos_iff.2 hne
  obtain ⟨g, rfl, hg, _⟩ := h3 0 hl
  refine .inr ⟨hne, g, c, rfl, h1, h2, hg, fun k hk => ?_⟩
  obtain ⟨g', e1, _, hc⟩ := h3 k hk
  injection e1 with e1
  injection e1 with e1
  subst e1
  exact hc
theorem less_str (a b : List UInt8) : Op.bytesLess (str a).toList (str b).toList = decide (a < b) := by
  rw [bytesLess_eq, Lib.toList_data, Lib.toList_data]; rfl
theorem same_str (a b : List UInt8) : ((str a).toList == (str b).toList) = decide (a = b) := by
  rw [Lib.toList_data, Lib.toList_data]
  show (a == b) = decide (a = b)
  by_cases h : a = b <;> simp [h]

/-- append OF A SLICE, nil or not, to what the call owns. -/
theorem wpList_append_st {P : Program} (w : World) {ops : Array Oper} {rest : List Oper} {o : Oper} {a : Act} {Q : Exit → Act → World → Prop} (hgd : o.guard = none) (s x : Operand) (t : TypeId)
    (ho : o.op = .call { callee := .builtin .append, args := #[s, x], argTypes := #[t, t] })
    (base : Nat) (e : TypeId) (i : TypeInfo) (z : Value) (size bytes : Nat) (ht : P.underlying t = some (.slice e)) (hi : P.info? e = some i) (hz : i.zero = some z)
    (hsize : i.size = size) (hby : i.bytes = bytes) (hzs : z.cells.size = size) (hsz : 0 < size)
    (v : Value) (n : Nat) (xs : List Value) (hs : a.eval s = v) (hown : w.ownsRow base e size v n xs)
    (ao : Option Addr) (m c : Nat) (news : List Value) (hx : a.eval x = .slice ao m c) (hnone : ao = none → m = 0 ∧ c = 0) (hl : news.length = m * size) (hnews : ∀ ad, ao = some ad → ∀ j u, news[j]? = some u → w.cell? (ad.add j) = some u) (h1 : ∀ u ∈ news, u.oneCell' = true)
    (h63 : n + m ≤ maxLen) (hbytes : (n + m) * bytes ≤ 140737488355328) (hbase : base ≤ w.heap.size)
    (h : ∀ v' w', w'.ownsRow base e size v' (n + m) (xs ++ news) → w.grownBy w' v.ownBlock → wpList P ops Q rest (a.put o.dst v') w') : wpList P ops Q (o :: rest) a w := by
  cases ao with
  | some ad => exact wpList_append_own w hgd s x t ho base e i z size bytes ht hi hz hsize hby hzs hsz v n xs hs hown ad m c news hx hl (hnews ad rfl) h1 h63 hbytes hbase fun v' w' h2 h3 _ => h v' w' h2 h3
  | none =>
    obtain ⟨rfl, rfl⟩ := hnone rfl
    have hnews : news = [] := List.eq_nil_of_length_eq_zero (by simpa using hl)
    subst hnews
    have hgo := h v w (by simpa using hown) (World.grownBy.refl _ _)
    refine wpList_plain hgd fun K hK' => ?_
    have hrun : (Builtin.append_ #[t, t] o.type #[v, .slice none 0 0]).run P w = .ok v w := by
      rcases hown.2 with ⟨hv, _⟩ | ⟨g, cap, cur, hv, _, _, hn, _⟩
      · rw [hv]; exact run_append_nothing w t t o.type e i ht hi none 0 0 (Nat.le_refl _) _ (Src.ofNil w ht 0)
      · rw [hv]; exact run_append_nothing w t t o.type e i ht hi _ n cap hn _ (Src.ofNil w ht 0)
    unfold Oper.wp
    simp [execOp, ho, resolve, invoke, builtin, hs, hx, hrun, Result.andThen]
    exact hK' _ _ hgo
end Go.Proofs.YtfiifjcjmnhbnaaDoor
