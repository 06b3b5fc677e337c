/- Games: the longest and the shortest one, and how many; what the model's known ones are in memory; no walk. -/
import Derived.Test.YtecmeppkggifeaaGmD
namespace Go.Proofs.Ytecmeppkggifeaa
open Go.RowKit

abbrev G3 := Nat × Nat × Int
def lgK (cs : List G3) : Nat := cs.foldl (fun a c => max a (c.1 + 1)) 0
def shK : List G3 → Nat
  | [] => 0
  | c :: r => r.foldl (fun a c => min a (c.2.1 + 1)) (c.2.1 + 1)
def mnK (cs : List G3) : Int := cs.foldl (fun a c => wrap64 (a + c.2.2)) 0
theorem lgK_snoc (l : List G3) (c : G3) : lgK (l ++ [c]) = max (lgK l) (c.1 + 1) := by simp [lgK, List.foldl_append]
theorem mnK_snoc (l : List G3) (c : G3) : mnK (l ++ [c]) = wrap64 (mnK l + c.2.2) := by simp [mnK, List.foldl_append]
theorem shK_snoc {l : List G3} (h : l ≠ []) (c : G3) : shK (l ++ [c]) = min (shK l) (c.2.1 + 1) := by
  cases l with
  | nil => exact absurd rfl h
  | cons d r => simp [shK, List.foldl_append]
theorem fold_max {n : Nat} : ∀ (l : List G3) (a : Nat), a ≤ n → (∀ c ∈ l, c.1 + 1 ≤ n) → l.foldl (fun a c => max a (c.1 + 1)) a ≤ n
  | [], _, h, _ => h
  | c :: l, a, h, hc => fold_max l _ (by have := hc c (by simp); show max a (c.1 + 1) ≤ n; omega) fun x hx => hc x (by simp [hx])
theorem fold_min {n : Nat} : ∀ (l : List G3) (a : Nat), a ≤ n → l.foldl (fun a c => min a (c.2.1 + 1)) a ≤ n
  | [], _, h => h
  | c :: l, a, h => fold_min l _ (by show min a (c.2.1 + 1) ≤ n; omega)
theorem lgK_le {n : Nat} (l : List G3) (h : ∀ c ∈ l, c.1 + 1 ≤ n) : lgK l ≤ n := fold_max l 0 (Nat.zero_le _) h
theorem shK_le {n : Nat} (l : List G3) (h : ∀ c ∈ l, c.2.1 + 1 ≤ n) : shK l ≤ n := by
  cases l with
  | nil => simp [shK]
  | cons c r => exact fold_min r _ (h c (by simp))
/-- All games from a text, out of those behind. -/
def gmR (tm : Bool) (s : List UInt8) (f : List UInt8 → G3) : G3 := if nxG tm s = [] then (0, 0, 1) else (lgK ((nxG tm s).map f), shK ((nxG tm s).map f), mnK ((nxG tm s).map f))
def Gm (tm : Bool) (s : List UInt8) : G3 := fixT (0, 0, 0) gmR tm s
/-- What is told of the texts behind. -/
def csG (tm : Bool) (s : List UInt8) : List G3 := (nxG tm s).map (Gm (!tm))
theorem Gm_eq (tm : Bool) {s : List UInt8} (hs : s.length ≤ 100) : Gm tm s = if nxG tm s = [] then (0, 0, 1) else (lgK (csG tm s), shK (csG tm s), mnK (csG tm s)) :=
  fixT_eq (fun tm s f g h => by
    unfold gmR
    rw [List.map_congr_left h]) tm hs
theorem Gm_le : ∀ (n : Nat) (tm : Bool) (s : List UInt8), s.length ≤ 100 → muG 0 s < n → (Gm tm s).1 ≤ muG 0 s ∧ (Gm tm s).2.1 ≤ muG 0 s
  | 0, _, _, _, h => by omega
  | n + 1, tm, s, hs, hn => by
    have key : ∀ c ∈ csG tm s, c.1 + 1 ≤ muG 0 s ∧ c.2.1 + 1 ≤ muG 0 s := fun c hc => by
      obtain ⟨x, hx, rfl⟩ := List.mem_map.1 hc
      obtain ⟨h1, h2⟩ := mu_less hs hx
      have := Gm_le n (!tm) x (by omega) (by omega)
      omega
    rw [Gm_eq tm hs]
    split
    · simp
    · exact ⟨lgK_le _ fun c hc => (key c hc).1, shK_le _ fun c hc => (key c hc).2⟩
theorem muG_le : ∀ (l : List UInt8) (i : Nat), i + l.length ≤ 199 → muG i l ≤ 200 * l.length
  | [], _, _ => by simp [muG]
  | c :: l, i, h => by
    simp only [List.length_cons] at h
    have := muG_le l (i + 1) (by omega)
    simp only [muG, List.length_cons]
    have : wtG c i ≤ 200 := by unfold wtG; split <;> (try split) <;> omega
    omega
theorem Gm_small (tm : Bool) {s : List UInt8} (hs : s.length ≤ 100) : (Gm tm s).1 ≤ 20000 ∧ (Gm tm s).2.1 ≤ 20000 := by
  have h1 := Gm_le _ tm s hs (Nat.lt_succ_self _)
  have h2 := muG_le s 0 (by omega)
  omega
/-- What has been told of the first k moves. -/
def csK (tm : Bool) (s : List UInt8) (k : Nat) : List G3 := (csG tm s).take k
theorem csG_len (tm : Bool) (s : List UInt8) : (csG tm s).length = (gmM tm s).length := by simp [csG, nxG]
theorem csK_step (tm : Bool) (s : List UInt8) (k : Nat) (h : k < (gmM tm s).length) : csK tm s (k + 1) = csK tm s k ++ [Gm (!tm) (behind (str s) (gmM tm s)[k].1 (gmM tm s)[k].2)] := by
  unfold csK
  rw [List.take_succ_eq_append_getElem (by rw [csG_len]; exact h)]
  simp [csG, nxG]
theorem csK_all (tm : Bool) (s : List UInt8) : csK tm s (gmM tm s).length = csG tm s := by
  unfold csK
  rw [← csG_len, List.take_length]
theorem csK_len {tm : Bool} {s : List UInt8} {k : Nat} (h : k ≤ (gmM tm s).length) : (csK tm s k).length = k := by
  unfold csK
  rw [List.length_take, csG_len]
  omega
theorem csK_zero (tm : Bool) (s : List UInt8) : csK tm s 0 = [] := rfl
theorem csK_small {tm : Bool} {s : List UInt8} (hs : s.length ≤ 100) (k : Nat) : lgK (csK tm s k) ≤ 20001 ∧ shK (csK tm s k) ≤ 20001 := by
  have key : ∀ c ∈ csK tm s k, c.1 + 1 ≤ 20001 ∧ c.2.1 + 1 ≤ 20001 := fun c hc => by
    obtain ⟨x, hx, rfl⟩ := List.mem_map.1 (List.mem_of_mem_take hc)
    have h2 := (mu_less hs hx).2
    have := Gm_small (!tm) (s := x) (by omega)
    omega
  exact ⟨lgK_le _ fun c hc => (key c hc).1, shK_le _ fun c hc => (key c hc).2⟩

/-! ### Four rows in the fields of one box -/
def upd {α : Type} (f : Nat → α) (i : Nat) (x : α) : Nat → α := fun j => if j = i then x else f j
structure Box4 (W : World) (B : Nat) (T : Nat → TypeId) (vs : Nat → Value) (n : Nat → Nat) (xs : Nat → List Value) : Prop where
  box : W.heap[B]? = some (.cells #[vs 0, vs 1, vs 2, vs 3] 87 (0, 0))
  row : ∀ i, i < 4 → W.ownsRow (B + 1) (T i) 1 (vs i) (n i) (xs i)
  ap : ∀ i j, i < 4 → j < 4 → i ≠ j → (vs i).ownBlock = none ∨ (vs i).ownBlock ≠ (vs j).ownBlock
section
variable {W w3 : World} {B : Nat} {T : Nat → TypeId} {vs : Nat → Value} {n : Nat → Nat} {xs : Nat → List Value}
theorem Box4.lt (h : Box4 W B T vs n xs) : B < W.heap.size := (Array.getElem?_eq_some_iff.1 h.box).1
theorem four_cell {a b c d : Value} (hb : W.heap[B]? = some (.cells #[a, b, c, d] 87 (0, 0))) : W.cell? ⟨B, 0, none⟩ = some a ∧ W.cell? ⟨B, 1, none⟩ = some b ∧ W.cell? ⟨B, 2, none⟩ = some c ∧ W.cell? ⟨B, 3, none⟩ = some d ∧ ∀ o, 4 ≤ o → W.cell? ⟨B, o, none⟩ = none := by
  refine ⟨by simp [World.cell?, hb], by simp [World.cell?, hb], by simp [World.cell?, hb], by simp [World.cell?, hb], fun o ho => ?_⟩
  obtain ⟨j, rfl⟩ : ∃ j, o = j + 4 := ⟨o - 4, by omega⟩
  simp [World.cell?, hb]
theorem Box4.cell (h : Box4 W B T vs n xs) (i : Nat) (hi : i < 4) : W.cell? ⟨B, i, none⟩ = some (vs i) := by
  obtain ⟨c0, c1, c2, c3, _⟩ := four_cell h.box
  match i, hi with
  | 0, _ => exact c0
  | 1, _ => exact c1
  | 2, _ => exact c2
  | 3, _ => exact c3
theorem Box4.ex (h : Box4 W B T vs n xs) (k : Nat) : Ex B W k ↔ k = B ∨ ∃ i, i < 4 ∧ (vs i).ownBlock = some k := by
  constructor
  · rintro (e | ⟨o, v, hc, hv⟩)
    · exact .inl e
    · by_cases ho : o < 4
      · rw [h.cell o ho] at hc; injection hc with hc; subst hc; exact .inr ⟨o, ho, hv⟩
      · rw [(four_cell h.box).2.2.2.2 o (by omega)] at hc; cases hc
  · rintro (e | ⟨i, hi, hv⟩)
    · exact .inl e
    · exact .inr ⟨i, _, h.cell i hi, hv⟩
theorem Box4.ex_in (h : Box4 W B T vs n xs) (k : Nat) (he : Ex B W k) : B ≤ k ∧ k < W.heap.size := by
  rcases (h.ex k).1 he with rfl | ⟨i, hi, hv⟩
  · exact ⟨Nat.le_refl _, h.lt⟩
  · have := (h.row i hi).lt k hv; omega
theorem Box4.below {W' : World} (h : Box4 W B T vs n xs) (hb : Below W.heap.size W W') : Box4 W' B T vs n xs :=
  ⟨(hb.block B h.lt).trans h.box, fun i hi => own_below (h.row i hi) hb, h.ap⟩
theorem Box4.ex_old {W' : World} (h : Box4 W B T vs n xs) (hb : Below W.heap.size W W') {k : Nat} (he : Ex B W' k) : k < W.heap.size :=
  (h.ex_in k ((h.ex k).2 (((h.below hb).ex k).1 he))).2
theorem four_set {T' : TypeId} {a b c d u : Value} (hb : W.heap[B]? = some (.cells #[a, b, c, d] T' (0, 0))) :
    (W.setCell ⟨B, 0, none⟩ u).heap[B]? = some (.cells #[u, b, c, d] T' (0, 0)) ∧ (W.setCell ⟨B, 1, none⟩ u).heap[B]? = some (.cells #[a, u, c, d] T' (0, 0)) ∧ (W.setCell ⟨B, 2, none⟩ u).heap[B]? = some (.cells #[a, b, u, d] T' (0, 0)) ∧ (W.setCell ⟨B, 3, none⟩ u).heap[B]? = some (.cells #[a, b, c, u] T' (0, 0)) := by
  refine ⟨?_, ?_, ?_, ?_⟩
  · simpa using heap_setCell_same W B 0 #[a, b, c, d] T' u hb
  · simpa using heap_setCell_same W B 1 #[a, b, c, d] T' u hb
  · simpa using heap_setCell_same W B 2 #[a, b, c, d] T' u hb
  · simpa using heap_setCell_same W B 3 #[a, b, c, d] T' u hb
/-- One row grown, and its field stored. -/
theorem Box4.grow {o : Obj} {v' : Value} {m : Nat} {ys : List Value} (h : Box4 W B T vs n xs) (i : Nat) (hi : i < 4) (hg : (W.alloc o).grownBy w3 (vs i).ownBlock) (ho : w3.ownsRow (B + 1) (T i) 1 v' m ys)
    (hat : v'.ownBlock = (vs i).ownBlock ∨ v'.ownBlock = some (W.alloc o).heap.size) :
    w3.heap[B]? = some (.cells #[vs 0, vs 1, vs 2, vs 3] 87 (0, 0)) ∧ Box4 (w3.setCell ⟨B, i, none⟩ v') B T (upd vs i v') (upd n i m) (upd xs i ys) ∧ KpX B W (w3.setCell ⟨B, i, none⟩ v') := by
  have hlt := h.lt
  have b3 : w3.heap[B]? = some (.cells #[vs 0, vs 1, vs 2, vs 3] 87 (0, 0)) := by
    rw [hg.block B (by simp; omega) (fun e => by have := (h.row i hi).lt B e.symm; omega), Below.heap_alloc _ _ _ hlt]; exact h.box
  have hs := four_set (u := v') b3
  have hbox : (w3.setCell ⟨B, i, none⟩ v').heap[B]? = some (.cells #[upd vs i v' 0, upd vs i v' 1, upd vs i v' 2, upd vs i v' 3] 87 (0, 0)) := by
    match i, hi with
    | 0, _ => exact hs.1
    | 1, _ => exact hs.2.1
    | 2, _ => exact hs.2.2.1
    | 3, _ => exact hs.2.2.2
  have hB4 : Box4 (w3.setCell ⟨B, i, none⟩ v') B T (upd vs i v') (upd n i m) (upd xs i ys) := by
    refine ⟨hbox, fun j hj => ?_, fun j k hj hk hne => ?_⟩
    · unfold upd
      by_cases e : j = i
      · subst e
        rw [if_pos rfl, if_pos rfl, if_pos rfl]
        exact own_off ho j v'
      · rw [if_neg e, if_neg e, if_neg e]
        exact own_off (((h.row j hj).alloc o).kept hg (h.ap j i hj hi e)) i v'
    · have old : ∀ q, q < 4 → (vs q).ownBlock ≠ some (W.alloc o).heap.size := fun q hq e => by
        have := ((h.row q hq).lt _ e).2
        simp at this
        omega
      unfold upd
      by_cases e : j = i
      · have e2 : k ≠ i := fun e3 => hne (e.trans e3.symm)
        rw [if_pos e, if_neg e2]
        rcases hat with h1 | h1
        · rw [h1]; exact h.ap i k hi hk (fun e3 => e2 e3.symm)
        · rw [h1]; exact .inr fun e3 => old k hk e3.symm
      · rw [if_neg e]
        by_cases e2 : k = i
        · rw [if_pos e2]
          rcases hat with h1 | h1
          · rw [h1]; exact h.ap j i hj hi e
          · rw [h1]; exact .inr (old j hj)
        · rw [if_neg e2]; exact h.ap j k hj hk hne
  refine ⟨b3, hB4, ?_⟩
  refine kp_step (h.cell i hi) hg hat fun j v hc => ?_
  by_cases hj : j < 4
  · rw [hB4.cell j hj] at hc
    injection hc with hc
    subst hc
    unfold upd
    by_cases e : j = i
    · rw [if_pos e]; exact .inl rfl
    · rw [if_neg e]; exact .inr (h.cell j hj)
  · rw [(four_cell hbox).2.2.2.2 j (by omega)] at hc; cases hc
end
/-- Four of a kind. -/
def fn4 {α : Type} (a b c d : α) : Nat → α := fun i => if i = 0 then a else if i = 1 then b else if i = 2 then c else d
theorem upd4_0 {α : Type} (a b c d x : α) : upd (fn4 a b c d) 0 x = fn4 x b c d := by funext i; unfold upd fn4; by_cases h : i = 0 <;> simp [h]
theorem upd4_1 {α : Type} (a b c d x : α) : upd (fn4 a b c d) 1 x = fn4 a x c d := by
  funext i; unfold upd fn4
  by_cases h : i = 0
  · subst h; rfl
  · by_cases h1 : i = 1 <;> simp [h, h1]
theorem upd4_2 {α : Type} (a b c d x : α) : upd (fn4 a b c d) 2 x = fn4 a b x d := by
  funext i; unfold upd fn4
  by_cases h : i = 0
  · subst h; rfl
  · by_cases h1 : i = 1
    · subst h1; rfl
    · by_cases h2 : i = 2 <;> simp [h, h1, h2]
abbrev intsL (gs : List G3) : List Value := gs.map fun c => .int .i64 (c.1 : Int)
abbrev intsS (gs : List G3) : List Value := gs.map fun c => .int .i64 (c.2.1 : Int)
abbrev intsM (gs : List G3) : List Value := gs.map fun c => .int .i64 c.2.2
/-- What is known of games lies in box B. -/
abbrev T4 : Nat → TypeId := fn4 9 3 3 3
structure KnL (W : World) (B L : Nat) (ks : List (List UInt8)) (gs : List G3) (v0 v1 v2 v3 : Value) : Prop where
  mem : Box4 W B T4 (fn4 v0 v1 v2 v3) (fn4 ks.length ks.length ks.length ks.length) (fn4 (txs ks) (intsL gs) (intsS gs) (intsM gs))
  len : gs.length = ks.length
  val : ∀ i (h : i < ks.length), ∃ tm s, ks[i] = keyG tm s ∧ gs[i]'(by omega) = Gm tm s
  nodup : ks.Nodup
  sig : ∀ x ∈ ks, x.length = L + 2 ∧ ∀ c ∈ x, c ∈ sgsG
def KnG (W : World) (B L : Nat) (ks : List (List UInt8)) : Prop := ∃ gs v0 v1 v2 v3, KnL W B L ks gs v0 v1 v2 v3
section
variable {W : World} {B L : Nat} {ks : List (List UInt8)} {gs : List G3} {v0 v1 v2 v3 : Value}
theorem KnL.few (h : KnL W B L ks gs v0 v1 v2 v3) (hL : L ≤ 12) : ks.length ≤ 78364164096 := by
  have h1 := few_texts sgsG (L + 2) ks h.nodup h.sig
  have h2 : sgsG.length ^ (L + 2) ≤ 6 ^ 14 := Nat.pow_le_pow_right (by decide) (by omega)
  have h3 : (6 : Nat) ^ 14 = 78364164096 := by decide
  omega
theorem KnL.below {W' : World} (h : KnL W B L ks gs v0 v1 v2 v3) (hb : Below W.heap.size W W') : KnL W' B L ks gs v0 v1 v2 v3 := ⟨h.mem.below hb, h.len, h.val, h.nodup, h.sig⟩
theorem KnG.below {W' : World} (h : KnG W B L ks) (hb : Below W.heap.size W W') : KnG W' B L ks := by
  obtain ⟨gs, v0, v1, v2, v3, h⟩ := h
  exact ⟨gs, v0, v1, v2, v3, h.below hb⟩
theorem KnL.row0 (h : KnL W B L ks gs v0 v1 v2 v3) : W.ownsRow (B + 1) 9 1 v0 ks.length (txs ks) := h.mem.row 0 (by decide)
theorem KnL.row1 (h : KnL W B L ks gs v0 v1 v2 v3) : W.ownsRow (B + 1) 3 1 v1 ks.length (intsL gs) := h.mem.row 1 (by decide)
theorem KnL.row2 (h : KnL W B L ks gs v0 v1 v2 v3) : W.ownsRow (B + 1) 3 1 v2 ks.length (intsS gs) := h.mem.row 2 (by decide)
theorem KnL.row3 (h : KnL W B L ks gs v0 v1 v2 v3) : W.ownsRow (B + 1) 3 1 v3 ks.length (intsM gs) := h.mem.row 3 (by decide)
theorem KnL.cells (h : KnL W B L ks gs v0 v1 v2 v3) : W.cell? ⟨B, 0, none⟩ = some v0 ∧ W.cell? ⟨B, 1, none⟩ = some v1 ∧ W.cell? ⟨B, 2, none⟩ = some v2 ∧ W.cell? ⟨B, 3, none⟩ = some v3 :=
  ⟨h.mem.cell 0 (by decide), h.mem.cell 1 (by decide), h.mem.cell 2 (by decide), h.mem.cell 3 (by decide)⟩
/-- A new box. -/
theorem KnG.new (W : World) (L : Nat) : KnG (W.alloc (.cells #[.slice none 0 0, .slice none 0 0, .slice none 0 0, .slice none 0 0] 87)) W.heap.size L [] := by
  refine ⟨[], .slice none 0 0, .slice none 0 0, .slice none 0 0, .slice none 0 0, ⟨heap_alloc_new W _, fun i hi => ?_, fun i j hi _ _ => .inl ?_⟩, rfl, fun i h => by simp at h, List.nodup_nil, fun x h => by simp at h⟩
  · match i, hi with
    | 0, _ => exact World.ownsRow_nil _ _ _ _
    | 1, _ => exact World.ownsRow_nil _ _ _ _
    | 2, _ => exact World.ownsRow_nil _ _ _ _
    | 3, _ => exact World.ownsRow_nil _ _ _ _
  · match i, hi with
    | 0, _ => rfl
    | 1, _ => rfl
    | 2, _ => rfl
    | 3, _ => rfl
/-- Where a key is known, what is told of it. -/
theorem KnL.at (h : KnL W B L ks gs v0 v1 v2 v3) {j : Nat} (hj : j < ks.length) {tm : Bool} {s : List UInt8} (e : ks[j] = keyG tm s) :
    ∃ g1 c1 g2 c2 g3 c3, v1 = .slice (some ⟨g1, 0, none⟩) ks.length c1 ∧ v2 = .slice (some ⟨g2, 0, none⟩) ks.length c2 ∧ v3 = .slice (some ⟨g3, 0, none⟩) ks.length c3 ∧
      W.cell? ⟨g1, j, none⟩ = some (.int .i64 ((Gm tm s).1 : Int)) ∧ W.cell? ⟨g2, j, none⟩ = some (.int .i64 ((Gm tm s).2.1 : Int)) ∧ W.cell? ⟨g3, j, none⟩ = some (.int .i64 (Gm tm s).2.2) := by
  obtain ⟨g1, c1, e1, _, _, _, _, h1⟩ := own_open h.row1 (by omega)
  obtain ⟨g2, c2, e2, _, _, _, _, h2⟩ := own_open h.row2 (by omega)
  obtain ⟨g3, c3, e3, _, _, _, _, h3⟩ := own_open h.row3 (by omega)
  have hl := h.len
  obtain ⟨tm', s', q1, q2⟩ := h.val j hj
  obtain ⟨rfl, rfl⟩ := keyG_inj (e.symm.trans q1)
  refine ⟨g1, c1, g2, c2, g3, c3, e1, e2, e3, ?_, ?_, ?_⟩
  · rw [h1 j (by simp; omega)]; simp [q2]
  · rw [h2 j (by simp; omega)]; simp [q2]
  · rw [h3 j (by simp; omega)]; simp [q2]
end
/-- How many games, of the first k moves; one if there is no move. -/
def mnF (tm : Bool) (s : List UInt8) (k : Nat) : Int := if (gmM tm s).length = 0 then 1 else mnK (csK tm s k)
theorem mnF_step (tm : Bool) (s : List UInt8) (k : Nat) (h : k < (gmM tm s).length) : mnF tm s (k + 1) = wrap64 (mnF tm s k + (Gm (!tm) (behind (str s) (gmM tm s)[k].1 (gmM tm s)[k].2)).2.2) := by
  unfold mnF
  rw [if_neg (by omega), if_neg (by omega), csK_step tm s k h, mnK_snoc]
theorem Gm_end (tm : Bool) {s : List UInt8} (hs : s.length ≤ 100) : Gm tm s = (lgK (csK tm s (gmM tm s).length), shK (csK tm s (gmM tm s).length), mnF tm s (gmM tm s).length) := by
  have hl : (nxG tm s).length = (gmM tm s).length := by simp [nxG]
  rw [Gm_eq tm hs, csK_all]
  unfold mnF
  by_cases h : nxG tm s = []
  · have h0 : (gmM tm s).length = 0 := by rw [← hl, h]; rfl
    have h1 : csG tm s = [] := by unfold csG; rw [h]; rfl
    rw [if_pos h, if_pos h0, h1]; rfl
  · have h0 : (gmM tm s).length ≠ 0 := fun e => h (List.eq_nil_of_length_eq_zero (by omega))
    rw [if_neg h, if_neg h0, csK_all]
end Go.Proofs.Ytecmeppkggifeaa
