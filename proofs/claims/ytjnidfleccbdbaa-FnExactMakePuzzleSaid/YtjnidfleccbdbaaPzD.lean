/- Contracts: clues without one, a clue added: the model's and the program's. -/
import Derived.Test.YtjnidfleccbdbaaPzC
import Derived.Test.YtjnidfleccbdbaaSl
import Derived.Lib.AppendZeros
import Derived.Deep.AppendLies
namespace Go.Proofs.Ytjnidfleccbdbaa
open Go.RowKit

theorem flat3_one (l : List Cl) : ∀ u ∈ flat3 l, u.oneCell' = true := by
  intro u hu
  simp only [flat3, List.mem_flatMap] at hu
  obtain ⟨p, _, hp⟩ := hu
  simp at hp
  rcases hp with rfl | rfl | rfl <;> rfl
theorem cl_news {w : World} {ad : Addr} {l : List Cl} (h : ClIn w (some ad) l) : ∀ j u, (flat3 l)[j]? = some u → w.cell? (ad.add j) = some u := by
  intro j u hj
  have hlt : j < l.length * 3 := by
    rw [← flat3_len]
    exact (List.getElem?_eq_some_iff.1 hj).1
  obtain ⟨g, o, e, _, c0, c1, c2⟩ := h (j / 3) (by omega)
  injection e with e
  subst e
  have f := flat3_at l (j / 3) (by omega)
  rw [addr_o3]
  rcases (by omega : j = j / 3 * 3 ∨ j = j / 3 * 3 + 1 ∨ j = j / 3 * 3 + 2) with h0 | h0 | h0
  · rw [h0] at hj ⊢
    rw [c0, ← f.1, hj]
  · rw [h0] at hj ⊢
    rw [← Nat.add_assoc, c1, ← f.2.1, hj]
  · rw [h0] at hj ⊢
    rw [← Nat.add_assoc, c2, ← f.2.2, hj]
theorem ClIn.take {w : World} {A : Option Addr} {l : List Cl} (h : ClIn w A l) (k : Nat) : ClIn w A (l.take k) := by
  intro j hj
  have hj' : j < l.length := by simp at hj; omega
  obtain ⟨g, o, e, hg, c0, c1, c2⟩ := h j hj'
  rw [List.getElem_take]
  exact ⟨g, o, e, hg, c0, c1, c2⟩
theorem ClIn.drop {w : World} {g o : Nat} {l : List Cl} (h : ClIn w (some ⟨g, o, none⟩) l) (k : Nat) : ClIn w (some ⟨g, o + k * 3, none⟩) (l.drop k) := by
  intro j hj
  have hj' : k + j < l.length := by simp at hj; omega
  obtain ⟨g', o', e, hg, c0, c1, c2⟩ := h (k + j) hj'
  injection e with e
  injection e with e1 e2
  subst e1; subst e2
  rw [List.getElem_drop]
  refine ⟨g, o + k * 3, rfl, hg, ?_, ?_, ?_⟩
  · rw [← c0]; congr 2; omega
  · rw [← c1]; congr 2; omega
  · rw [← c2]; congr 2; omega
theorem own_sliceC {w : World} {base : Nat} {e : TypeId} {size n : Nat} {v : Value} {xs : List Value} (h : w.ownsRow base e size v n xs) : ∃ p a c, v = .slice p a c := by
  rcases h.2 with ⟨hv, h0⟩ | ⟨g1, cap1, cur, rfl, hb, hh, hn, hm, hs, ht⟩
  · exact ⟨_, _, _, hv⟩
  · exact ⟨_, _, _, rfl⟩
/-- Clues without one. -/
def woC (l : List Cl) (k : Nat) : List Cl := l.take k ++ l.drop (k + 1)

/-- An empty row with room. -/
def GwPC (w : World) (e : Ending) (w' : World) : Prop := ∃ v, e = .returned v ∧ w'.ownsRow w.heap.size 34 3 v 0 [] ∧ Below w.heap.size w w'

/-- What has come behind k lists. -/
def upCC (l1 l2 : List Cl) (k : Nat) : List Cl := if k = 0 then [] else if k = 1 then l1 else l1 ++ l2

theorem step_append_own {P : Program} (w : World) {ops : Array Oper} {o : Oper} {a : Act} {K : Act → World → Prop} {Q : Exit → Act → World → Prop} {E : Prop} (hgd : o.guard = none) (s x : Operand) (t : TypeId)
    (ho : o.op = .call { callee := .builtin .append, args := #[s, x], argTypes := #[t, t] })
    (base : Nat) (e : TypeId) (i : TypeInfo) (z : Value) (size bytes : Nat) (ht : P.underlying t = some (.slice e)) (hi : P.info? e = some i) (hz : i.zero = some z)
    (hsize : i.size = size) (hby : i.bytes = bytes) (hzs : z.cells.size = size) (hsz : 0 < size)
    (v : Value) (n : Nat) (xs : List Value) (hs : a.eval s = v) (hown : w.ownsRow base e size v n xs)
    (ad : Addr) (m c : Nat) (news : List Value) (hx : a.eval x = .slice (some ad) m c) (hl : news.length = m * size) (hnews : ∀ j u, news[j]? = some u → w.cell? (ad.add j) = some u) (h1 : ∀ u ∈ news, u.oneCell' = true)
    (h63 : n + m ≤ maxLen) (hbytes : (n + m) * bytes ≤ 140737488355328) (hbase : base ≤ w.heap.size)
    (h : ∀ v' w', w'.ownsRow base e size v' (n + m) (xs ++ news) → w.grownBy w' v.ownBlock → K (a.put o.dst v') w') :
    if Region.wanted o (yielded ops a.tmps) = true then Oper.wp P o a w K Q else E := by
  have hw : Region.wanted o (yielded ops a.tmps) = true := by simp [Region.wanted, hgd]
  rw [if_pos hw]
  exact wp_append_own w s x t ho base e i z size bytes ht hi hz hsize hby hzs hsz v n xs hs hown ad m c news hx hl hnews h1 h63 hbytes hbase fun v' w' h2 h3 _ => h v' w' h2 h3
theorem own_empty (w : World) (T : TypeId) (n : Nat) : (w.alloc (Obj.cells #[] T)).ownsRow w.heap.size T n (.slice (some ⟨w.heap.size, 0, none⟩) 0 0) 0 [] :=
  ⟨by simp, .inr ⟨w.heap.size, 0, #[], rfl, Nat.le_refl _, heap_alloc_new w _, Nat.le_refl _, Nat.zero_le _, by simp, by simp⟩⟩

end Go.Proofs.Ytjnidfleccbdbaa
