/- Games: the model's helpers: moves of one player, texts of sums, a sum with another line. -/
import Derived.Test.YtdcbjbmnkajjcaaGmA
import Derived.Test.YtdcbjbmnkajjcaaKpX
import Derived.Test.YtdcbjbmnkajjcaaSl
namespace Go.Proofs.Ytdcbjbmnkajjcaa
open Go.RowKit

theorem own_none (w : World) : (w.alloc (Obj.cells #[] 9)).ownsRow w.heap.size 9 1 (.slice (some ⟨w.heap.size, 0, none⟩) 0 0) 0 [] := World.ownsRow_made w #[] 0 (Nat.le_refl _) (by decide) rfl
theorem kind_gm (tm : Bool) (s : ByteArray) (f t : Int) : kindM tm (!tm) s f t = gmW tm s f t := by
  unfold kindM gmW
  cases hc : canM s f t
  · simp
  · rcases (can_sgn hc).2 with h | h <;> cases tm <;> simp [h, kd]
theorem gm_at {tm : Bool} {s : List UInt8} (j : Nat) (h : j < (gmM tm s).length) : ∃ a b : Nat, (gmM tm s)[j].1 = a ∧ (gmM tm s)[j].2 = b ∧ a < s.length ∧ b < s.length ∧ a ≠ b ∧ putL (str s) a b ∈ nxG tm s ∧ putL (str s) a b = behind (str s) (gmM tm s)[j].1 (gmM tm s)[j].2 := by
  have hm : (gmM tm s)[j] ∈ gmM tm s := List.getElem_mem h
  have hc : canM (str s) (gmM tm s)[j].1 (gmM tm s)[j].2 = true ∧ _ := (mem_gmM.1 hm)
  obtain ⟨a, b, e1, e2, ha, hb, hne⟩ := canM_in hc.1
  rw [str_size] at ha hb
  have he : putL (str s) a b = behind (str s) (gmM tm s)[j].1 (gmM tm s)[j].2 := by unfold behind; rw [e1, e2]; rfl
  exact ⟨a, b, e1, e2, ha, hb, hne, by rw [he]; exact List.mem_map.2 ⟨_, hm, rfl⟩, he⟩
theorem gmM_le (tm : Bool) (s : List UInt8) : (gmM tm s).length ≤ s.length := by
  have := mvsTo_le (gmW tm (str s)) (str s) (str s).size
  unfold gmM
  rw [str_size] at this
  rwa [str_size]
theorem nxG_good {tm : Bool} {s x : List UInt8} (hg : goodL (str s) = true) (h : x ∈ nxG tm s) : goodL (str x) = true := by
  obtain ⟨f, t, hc, _, rfl⟩ := mem_nxG.1 h
  exact behind_good hg hc

/-- The cells of a slice's address, wherever it begins, hold a list of texts. -/
def StO (w : World) (A : Option Addr) (l : List (List UInt8)) : Prop :=
  ∀ k (h : k < l.length), ∃ g o, A = some ⟨g, o, none⟩ ∧ g < w.heap.size ∧ w.cell? ⟨g, o + k, none⟩ = some (.string (str l[k]))
theorem StAt.toO {w : World} {A : Option Addr} {l : List (List UInt8)} (h : StAt w A l) : StO w A l := fun k hk => by
  obtain ⟨g, a, b, c⟩ := h k hk
  exact ⟨g, 0, a, b, by rw [Nat.zero_add]; exact c⟩
theorem StO.below {w w' : World} {A : Option Addr} {l : List (List UInt8)} (h : StO w A l) (hb : Below w.heap.size w w') : StO w' A l := by
  intro k hk
  obtain ⟨g, o, a, b, c⟩ := h k hk
  exact ⟨g, o, a, Nat.lt_of_lt_of_le b hb.size, (hb.cell (p := ⟨g, o + k, none⟩) b).trans c⟩
theorem addr_off (g o j : Nat) : (⟨g, o, none⟩ : Addr).add j = ⟨g, o + j, none⟩ := by
  unfold Addr.add
  split
  · simp_all
  · rfl
/-- The text that the model keeps a sum under. -/
def keyG (tm : Bool) (s : List UInt8) : List UInt8 := (if tm then 116 else 102) :: 47 :: s
theorem keyG_inj {tm tm' : Bool} {s s' : List UInt8} (h : keyG tm s = keyG tm' s') : tm = tm' ∧ s = s' := by
  unfold keyG at h
  injection h with h1 h2
  injection h2 with _ h3
  refine ⟨?_, h3⟩
  cases tm <;> cases tm' <;> simp at h1 ⊢
def wallsG (ls : List (List UInt8)) : List UInt8 := ls.flatMap fun w => 47 :: w
theorem wallsG_join : ∀ {ls : List (List UInt8)}, ls ≠ [] → wallsG ls = 47 :: joinG ls
  | [], h => absurd rfl h
  | [w], _ => by simp [wallsG, joinG]
  | w :: v :: r, _ => by
    have ih := wallsG_join (ls := v :: r) (by simp)
    rw [joinG_cons w (by simp)]
    show (47 :: w) ++ wallsG (v :: r) = _
    rw [ih]
    simp
theorem wallsG_take (ls : List (List UInt8)) (k : Nat) (h : k < ls.length) : wallsG (ls.take (k + 1)) = wallsG (ls.take k) ++ 47 :: ls[k] := by
  unfold wallsG
  rw [List.take_succ_eq_append_getElem h, List.flatMap_append]
  simp
theorem wallsG_len {ls : List (List UInt8)} (h : ∀ x ∈ ls, x.length ≤ 12) (k : Nat) : (wallsG (ls.take k)).length ≤ 13 * k := by
  induction k with
  | zero => simp [wallsG]
  | succ k ih =>
    by_cases hk : k < ls.length
    · rw [wallsG_take ls k hk, List.length_append, List.length_cons]
      have := h ls[k] (List.getElem_mem hk)
      omega
    · rw [List.take_of_length_le (by omega)] at ih ⊢
      omega

/-- A line of few cells. -/
def fewB (s : ByteArray) : Bool := goodL s && decide (s.size ≤ 10)
end Go.Proofs.Ytdcbjbmnkajjcaa
