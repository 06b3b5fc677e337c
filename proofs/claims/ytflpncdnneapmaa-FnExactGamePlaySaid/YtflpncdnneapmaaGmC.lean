/- Games: what the model's known sums are in memory, and what a call keeps; no walk. -/
import Derived.Test.YtflpncdnneapmaaGmB
import Derived.Test.YtflpncdnneapmaaKpX
namespace Go.Proofs.Ytflpncdnneapmaa
open Go.RowKit

theorem StO.kp {B : Nat} {w w' : World} {A : Option Addr} {l : List (List UInt8)} (h : StO w A l) (hf : KpX B w w') (hne : ∀ a, A = some a → ¬ Ex B w a.block) : StO w' A l := by
  intro k hk
  obtain ⟨g, o, a, b, c⟩ := h k hk
  refine ⟨g, o, a, Nat.lt_of_lt_of_le b hf.size, ?_⟩
  rw [← c]
  exact World.cell?_of_block (a := ⟨g, o + k, none⟩) (hf.keep g b (hne _ a))
/-- The signs of the texts that sums are kept under. -/
def sgsG : List UInt8 := [84, 70, 46, 47, 116, 102]
theorem part_sgs (A : List UInt8) (l : List (List UInt8)) (h : ∀ x ∈ l, ∃ c ∈ A, x.head? = some c) : l.length ≤ (A.map fun c => (l.filter fun x => x.head? == some c).length).sum := by
  induction l with
  | nil => simp
  | cons a l ih =>
    have ih := ih fun x hx => h x (by simp [hx])
    obtain ⟨c, hc, ha⟩ := h a (by simp)
    have key : ∀ (B : List UInt8), (B.map fun c => (l.filter fun x => x.head? == some c).length).sum + (if c ∈ B then 1 else 0) ≤ (B.map fun c => ((a :: l).filter fun x => x.head? == some c).length).sum := by
      intro B
      induction B with
      | nil => simp
      | cons d B ihB =>
        simp only [List.map_cons, List.sum_cons, List.filter_cons, ha]
        by_cases e : c = d
        · subst e
          simp only [List.mem_cons, true_or, if_true, beq_self_eq_true, List.length_cons]
          have : (B.map fun c => (l.filter fun x => x.head? == some c).length).sum ≤ (B.map fun c => ((a :: l).filter fun x => x.head? == some c).length).sum := by
            refine Nat.le_trans (Nat.le_add_right _ _) ihB
          simp only [List.filter_cons, ha] at this
          omega
        · have e2 : (some c == some d) = false := by simp [e]
          have e3 : (c ∈ d :: B) ↔ c ∈ B := by simp [e]
          simp only [e2, e3, Bool.false_eq_true, if_false]
          simp only [List.filter_cons, ha] at ihB
          omega
    have := key A
    rw [if_pos hc] at this
    rw [List.length_cons]
    omega
theorem few_texts (A : List UInt8) : ∀ (n : Nat) (l : List (List UInt8)), l.Nodup → (∀ x ∈ l, x.length = n ∧ ∀ c ∈ x, c ∈ A) → l.length ≤ A.length ^ n
  | 0, l, hn, h => by
    match l with
    | [] => simp
    | [_] => simp
    | a :: b :: r =>
      have ha := List.length_eq_zero_iff.1 (h a (by simp)).1
      have hb := List.length_eq_zero_iff.1 (h b (by simp)).1
      subst ha hb
      simp at hn
  | n + 1, l, hn, h => by
    have one : ∀ c : UInt8, (l.filter fun x => x.head? == some c).length ≤ A.length ^ n := fun c => by
      have := few_texts A n ((l.filter fun x => x.head? == some c).map List.tail) ?_ ?_
      · simpa using this
      · refine List.pairwise_map.2 ((hn.filter _).imp_of_mem fun {a b} ha hb hne e => hne ?_)
        obtain ⟨_, ha⟩ := List.mem_filter.1 ha
        obtain ⟨_, hb⟩ := List.mem_filter.1 hb
        match a, b with
        | [], _ => simp at ha
        | _ :: _, [] => simp at hb
        | x :: a, y :: b =>
          simp at ha hb e
          rw [ha, hb, e]
      · intro x hx
        obtain ⟨y, hy, rfl⟩ := List.mem_map.1 hx
        obtain ⟨h1, h2⟩ := h y (List.mem_filter.1 hy).1
        match y with
        | [] => simp at h1
        | a :: y => exact ⟨by simpa using h1, fun c hc => h2 c (by simp [show c ∈ y from hc])⟩
    have h3 := part_sgs A l fun x hx => by
      obtain ⟨h1, h2⟩ := h x hx
      match x with
      | [] => simp at h1
      | a :: x => exact ⟨a, h2 a (by simp), rfl⟩
    have h4 : ∀ B : List UInt8, (B.map fun c => (l.filter fun x => x.head? == some c).length).sum ≤ B.length * A.length ^ n := by
      intro B
      induction B with
      | nil => simp
      | cons c B ih =>
        simp only [List.map_cons, List.sum_cons, List.length_cons, Nat.add_mul, Nat.one_mul]
        have := one c
        omega
    rw [Nat.pow_succ, Nat.mul_comm]
    exact Nat.le_trans h3 (h4 A)

/-- What is known lies in box B: texts of sums, and whether the player wins. -/
structure KnM (W : World) (B L : Nat) (ks : List (List UInt8)) (bs : List Bool) (vs vw : Value) : Prop where
  box : W.heap[B]? = some (.cells #[vs, vw] 64 (0, 0))
  row1 : W.ownsRow (B + 1) 9 1 vs ks.length (txs ks)
  row2 : W.ownsRow (B + 1) 4 1 vw ks.length (bs.map .bool)
  len : bs.length = ks.length
  val : ∀ i (h : i < ks.length), ∃ tm s, ks[i] = keyG tm s ∧ bs[i]'(by omega) = Wn tm s
  nodup : ks.Nodup
  sig : ∀ x ∈ ks, x.length = L + 2 ∧ ∀ c ∈ x, c ∈ sgsG
def KnW (W : World) (B L : Nat) (ks : List (List UInt8)) : Prop := ∃ bs vs vw, KnM W B L ks bs vs vw
section
variable {W : World} {B L : Nat} {ks : List (List UInt8)} {bs : List Bool} {vs vw : Value}
theorem KnM.lt (h : KnM W B L ks bs vs vw) : B < W.heap.size := (Array.getElem?_eq_some_iff.1 h.box).1
theorem KnM.few (h : KnM W B L ks bs vs vw) (hL : L ≤ 12) : ks.length ≤ 78364164096 := by
  have h1 := few_texts sgsG (L + 2) ks h.nodup h.sig
  have h2 : sgsG.length ^ (L + 2) ≤ 6 ^ 14 := Nat.pow_le_pow_right (by decide) (by omega)
  have h3 : (6 : Nat) ^ 14 = 78364164096 := by decide
  omega
theorem box_cell (hb : W.heap[B]? = some (.cells #[vs, vw] 64 (0, 0))) : W.cell? ⟨B, 0, none⟩ = some vs ∧ W.cell? ⟨B, 1, none⟩ = some vw ∧ ∀ o, 2 ≤ o → W.cell? ⟨B, o, none⟩ = none := by
  refine ⟨by simp [World.cell?, hb], by simp [World.cell?, hb], fun o ho => ?_⟩
  obtain ⟨j, rfl⟩ : ∃ j, o = j + 2 := ⟨o - 2, by omega⟩
  simp [World.cell?, hb]
theorem box_ex (hb : W.heap[B]? = some (.cells #[vs, vw] 64 (0, 0))) (k : Nat) : Ex B W k ↔ k = B ∨ vs.ownBlock = some k ∨ vw.ownBlock = some k := by
  obtain ⟨c0, c1, c2⟩ := box_cell hb
  constructor
  · rintro (h | ⟨o, v, hc, hv⟩)
    · exact .inl h
    · match o with
      | 0 => rw [c0] at hc; injection hc with hc; subst hc; exact .inr (.inl hv)
      | 1 => rw [c1] at hc; injection hc with hc; subst hc; exact .inr (.inr hv)
      | o + 2 => rw [c2 _ (by omega)] at hc; cases hc
  · rintro (h | h | h)
    · exact .inl h
    · exact .inr ⟨0, _, c0, h⟩
    · exact .inr ⟨1, _, c1, h⟩
theorem KnM.ex_in (h : KnM W B L ks bs vs vw) (k : Nat) (he : Ex B W k) : B ≤ k ∧ k < W.heap.size := by
  rcases (box_ex h.box k).1 he with rfl | h1 | h1
  · exact ⟨Nat.le_refl _, h.lt⟩
  · have := h.row1.lt k h1; omega
  · have := h.row2.lt k h1; omega
theorem KnM.below {W' : World} (h : KnM W B L ks bs vs vw) (hb : Below W.heap.size W W') : KnM W' B L ks bs vs vw :=
  ⟨(hb.block B h.lt).trans h.box, own_below h.row1 hb, own_below h.row2 hb, h.len, h.val, h.nodup, h.sig⟩
theorem KnW.below {W' : World} (h : KnW W B L ks) (hb : Below W.heap.size W W') : KnW W' B L ks := by
  obtain ⟨bs, vs, vw, h⟩ := h
  exact ⟨bs, vs, vw, h.below hb⟩
/-- Behind a call that touches nothing old, the box's memory is older than the call. -/
theorem KnM.ex_old {W' : World} (h : KnM W B L ks bs vs vw) (hb : Below W.heap.size W W') {k : Nat} (he : Ex B W' k) : k < W.heap.size :=
  (h.ex_in k ((box_ex h.box k).2 ((box_ex (h.below hb).box k).1 he))).2
/-- A new box. -/
theorem KnW.new (W : World) (L : Nat) : KnW (W.alloc (.cells #[.slice none 0 0, .slice none 0 0] 64)) W.heap.size L [] :=
  ⟨[], _, _, heap_alloc_new W _, World.ownsRow_nil _ _ _ _, World.ownsRow_nil _ _ _ _, rfl, fun i h => by simp at h, List.nodup_nil, fun x h => by simp at h⟩
end

section
variable {W w3 w5 : World} {B n m k : Nat} {vs vw v' : Value} {xs ys xs' : List Value} {o : Obj}
/-- Behind the first row's growing, and the store of its field. -/
theorem memo_one (hb : W.heap[B]? = some (.cells #[vs, vw] 64 (0, 0))) (h1 : W.ownsRow (B + 1) 9 1 vs n xs) (h2 : W.ownsRow (B + 1) 4 1 vw n ys)
    (hg : (W.alloc o).grownBy w3 vs.ownBlock) (h3 : w3.ownsRow (B + 1) 9 1 v' (n + 1) xs') :
    w3.heap[B]? = some (.cells #[vs, vw] 64 (0, 0)) ∧ (w3.setCell ⟨B, 0, none⟩ v').heap[B]? = some (.cells #[v', vw] 64 (0, 0)) ∧
      (w3.setCell ⟨B, 0, none⟩ v').ownsRow (B + 1) 9 1 v' (n + 1) xs' ∧ (w3.setCell ⟨B, 0, none⟩ v').ownsRow (B + 1) 4 1 vw n ys := by
  have hlt := (Array.getElem?_eq_some_iff.1 hb).1
  have b3 : w3.heap[B]? = some (.cells #[vs, vw] 64 (0, 0)) := by
    rw [hg.block B (by simp; omega) (box_apart h1), Below.heap_alloc _ _ _ hlt]; exact hb
  exact ⟨b3, heap_set0 b3, own_off h3 0 v', own_off ((h2.alloc o).kept hg (own_apart h2 h1 (by decide))) 0 v'⟩
/-- Behind the second one's. -/
theorem memo_two (hb : W.heap[B]? = some (.cells #[vs, vw] 64 (0, 0))) (h1 : W.ownsRow (B + 1) 9 1 vs n xs) (h2 : W.ownsRow (B + 1) 4 1 vw m ys)
    (hg : (W.alloc o).grownBy w3 vw.ownBlock) (h3 : w3.ownsRow (B + 1) 4 1 v' k xs') :
    w3.heap[B]? = some (.cells #[vs, vw] 64 (0, 0)) ∧ (w3.setCell ⟨B, 1, none⟩ v').heap[B]? = some (.cells #[vs, v'] 64 (0, 0)) ∧
      (w3.setCell ⟨B, 1, none⟩ v').ownsRow (B + 1) 9 1 vs n xs ∧ (w3.setCell ⟨B, 1, none⟩ v').ownsRow (B + 1) 4 1 v' k xs' := by
  have hlt := (Array.getElem?_eq_some_iff.1 hb).1
  have b3 : w3.heap[B]? = some (.cells #[vs, vw] 64 (0, 0)) := by
    rw [hg.block B (by simp; omega) (fun e => by have := h2.lt B e.symm; omega), Below.heap_alloc _ _ _ hlt]; exact hb
  exact ⟨b3, heap_set1 b3, own_off ((h1.alloc o).kept hg (own_apart h1 h2 (by decide))) 1 v', own_off h3 1 v'⟩
theorem box_hex0 {W W' : World} {u : Value} (hb : W.heap[B]? = some (.cells #[vs, vw] 64 (0, 0))) (hb' : W'.heap[B]? = some (.cells #[u, vw] 64 (0, 0))) : ∀ j v, W'.cell? ⟨B, j, none⟩ = some v → v = u ∨ W.cell? ⟨B, j, none⟩ = some v := by
  intro j v hc
  obtain ⟨c0, c1, c2⟩ := box_cell hb'
  match j with
  | 0 => rw [c0] at hc; injection hc with hc; exact .inl hc.symm
  | 1 => rw [c1] at hc; rw [(box_cell hb).2.1]; exact .inr hc
  | j + 2 => rw [c2 _ (by omega)] at hc; cases hc
theorem box_hex1 {W W' : World} {u : Value} (hb : W.heap[B]? = some (.cells #[vs, vw] 64 (0, 0))) (hb' : W'.heap[B]? = some (.cells #[vs, u] 64 (0, 0))) : ∀ j v, W'.cell? ⟨B, j, none⟩ = some v → v = u ∨ W.cell? ⟨B, j, none⟩ = some v := by
  intro j v hc
  obtain ⟨c0, c1, c2⟩ := box_cell hb'
  match j with
  | 0 => rw [c0] at hc; rw [(box_cell hb).1]; exact .inr hc
  | 1 => rw [c1] at hc; injection hc with hc; exact .inl hc.symm
  | j + 2 => rw [c2 _ (by omega)] at hc; cases hc
end
end Go.Proofs.Ytflpncdnneapmaa
