/- What a call keeps that writes into the memory of one box alone; no walk. -/
import Derived.Test.YtfiifjcjmnhbnaaDoorSl
import Derived.Test.YtfiifjcjmnhbnaaDoorMoves
import Derived.Test.YtfiifjcjmnhbnaaDoorSwE
import Derived.Test.YtfiifjcjmnhbnaaDoorMove
namespace Go.Proofs.YtfiifjcjmnhbnaaDoor
open Go.RowKit

/-- What a row of its own holds. -/
theorem own_open {w : World} {base n : Nat} {e : TypeId} {v : Value} {vs : List Value} (ho : w.ownsRow base e 1 v n vs) (hn : 0 < n) : ∃ g cap, v = .slice (some ⟨g, 0, none⟩) n cap ∧ base ≤ g ∧ g < w.heap.size ∧ n ≤ cap ∧ cap ≤ maxLen ∧ ∀ k (h : k < vs.length), w.cell? ⟨g, k, none⟩ = some vs[k] := by
  obtain ⟨hlen, h2 | ⟨g, cap, cur, rfl, hb, hg, hle, hm, hs, ht⟩⟩ := ho
  · omega
  · have ho : w.ownsRow base e 1 (.slice (some ⟨g, 0, none⟩) n cap) n vs := ⟨hlen, .inr ⟨g, cap, cur, rfl, hb, hg, hle, hm, hs, ht⟩⟩
    refine ⟨g, cap, rfl, hb, (Array.getElem?_eq_some_iff.1 hg).1, hle, hm, fun k hk => ?_⟩
    have := ho.cells (g := g) rfl k vs[k] (by simp)
    rw [addr_add] at this
    exact this
/-- Block k is the memory of what lies in box B: the box itself, or a row of one of its fields. -/
def Ex (B : Nat) (W : World) (k : Nat) : Prop := k = B ∨ ∃ o v, W.cell? ⟨B, o, none⟩ = some v ∧ v.ownBlock = some k
/-- All blocks that were there and are no memory of the box lie as they lay. -/
structure KpX (B : Nat) (W W' : World) : Prop where
  os : W'.os = W.os
  tape : W'.tape = W.tape
  output : W'.output = W.output
  size : W.heap.size ≤ W'.heap.size
  keep : ∀ k, k < W.heap.size → ¬ Ex B W k → W'.heap[k]? = W.heap[k]?
  ex : ∀ k, k < W.heap.size → Ex B W' k → Ex B W k
theorem KpX.refl (B : Nat) (W : World) : KpX B W W := ⟨rfl, rfl, rfl, Nat.le_refl _, fun _ _ _ => rfl, fun _ _ h => h⟩
theorem KpX.trans {B : Nat} {a b c : World} (h : KpX B a b) (k : KpX B b c) : KpX B a c :=
  ⟨k.os.trans h.os, k.tape.trans h.tape, k.output.trans h.output, Nat.le_trans h.size k.size,
    fun i hi hn => (k.keep i (Nat.lt_of_lt_of_le hi h.size) fun he => hn (h.ex i hi he)).trans (h.keep i hi hn),
    fun i hi he => h.ex i hi (k.ex i (Nat.lt_of_lt_of_le hi h.size) he)⟩
theorem KpX.below {B : Nat} {W W' : World} (hB : B < W.heap.size) (h : Below W.heap.size W W') : KpX B W W' :=
  ⟨h.os, h.tape, h.output, h.size, fun k hk _ => h.block k hk, fun k _ he => by
    rcases he with he | ⟨o, v, hc, hv⟩
    · exact .inl he
    · exact .inr ⟨o, v, (h.cell (p := ⟨B, o, none⟩) hB).symm.trans hc, hv⟩⟩
theorem KpX.to_below {B : Nat} {W W' : World} (h : KpX B W W') (hB : B ≤ W.heap.size) (he : ∀ k, Ex B W k → B ≤ k) : Below B W W' :=
  ⟨h.os, h.tape, h.output, h.size, fun k hk => h.keep k (by omega) fun e => by have := he k e; omega⟩
theorem MvAt.kp {B : Nat} {w w' : World} {A : Option Addr} {l : List (Int × Int)} (h : MvAt w A l) (hf : KpX B w w') (hne : ∀ a, A = some a → ¬ Ex B w a.block) : MvAt w' A l := by
  intro k hk
  obtain ⟨g, a, b, c, d⟩ := h k hk
  have e : ∀ o, w'.cell? ⟨g, o, none⟩ = w.cell? ⟨g, o, none⟩ := fun o => World.cell?_of_block (a := ⟨g, o, none⟩) (hf.keep g b (hne _ a))
  exact ⟨g, a, Nat.lt_of_lt_of_le b hf.size, (e _).trans c, (e _).trans d⟩

section
variable {W : World}
/-- Rows of two kinds lie apart. -/
theorem own_apart {b b' : Nat} {e e' : TypeId} {n n' m m' : Nat} {v v' : Value} {xs xs' : List Value} (h : W.ownsRow b e m v n xs) (h' : W.ownsRow b' e' m' v' n' xs') (hne : e ≠ e') : v.ownBlock = none ∨ v.ownBlock ≠ v'.ownBlock := by
  rcases h.2 with ⟨hv, _⟩ | ⟨g, cap, cur, rfl, _, hg, _⟩
  · subst hv; exact .inl rfl
  · refine .inr fun e2 => ?_
    rcases h'.2 with ⟨hv, _⟩ | ⟨g', cap', cur', rfl, _, hg', _⟩
    · subst hv; cases e2
    · injection e2 with e2
      have e2 : g = g' := e2
      subst e2
      rw [hg] at hg'
      injection hg' with hg'
      injection hg' with _ h3 _
      exact hne h3
end
section
variable {W w3 w5 : World} {B n m k : Nat} {vs vw v' : Value} {xs ys xs' : List Value} {o : Obj}
theorem box_apart (h1 : W.ownsRow (B + 1) 9 1 vs n xs) : some B ≠ vs.ownBlock := fun e => by have := h1.lt B e.symm; omega
theorem heap_set0 {T : TypeId} {u : Value} (hb : W.heap[B]? = some (.cells #[vs, vw] T (0, 0))) : (W.setCell ⟨B, 0, none⟩ u).heap[B]? = some (.cells #[u, vw] T (0, 0)) := by
  have := heap_setCell_same W B 0 #[vs, vw] T u hb
  simpa using this
theorem heap_set1 {T : TypeId} {u : Value} (hb : W.heap[B]? = some (.cells #[vs, vw] T (0, 0))) : (W.setCell ⟨B, 1, none⟩ u).heap[B]? = some (.cells #[vs, u] T (0, 0)) := by
  have := heap_setCell_same W B 1 #[vs, vw] T u hb
  simpa using this
theorem own_off {e : TypeId} {m : Nat} (h : W.ownsRow (B + 1) e m vs n xs) (i : Nat) (u : Value) : (W.setCell ⟨B, i, none⟩ u).ownsRow (B + 1) e m vs n xs :=
  ownsRow_setCell_other h (fun e2 => by have := h.lt B e2; omega) u
/-- A block made, a row grown, a field stored: what it keeps. -/
theorem kp_step {i : Nat} {u u' : Value} (hi : W.cell? ⟨B, i, none⟩ = some u) (hg : (W.alloc o).grownBy w3 u.ownBlock)
    (hat : u'.ownBlock = u.ownBlock ∨ u'.ownBlock = some (W.alloc o).heap.size) (hex : ∀ j v, (w3.setCell ⟨B, i, none⟩ u').cell? ⟨B, j, none⟩ = some v → v = u' ∨ W.cell? ⟨B, j, none⟩ = some v) : KpX B W (w3.setCell ⟨B, i, none⟩ u') := by
  have hs := hg.size
  simp at hs
  refine ⟨hg.os, hg.tape, hg.output, by simp; omega, fun k hk hn => ?_, fun k hk he => ?_⟩
  · have hkB : k ≠ B := fun e => hn (.inl e)
    have hku : some k ≠ u.ownBlock := fun e => hn (.inr ⟨i, u, hi, e.symm⟩)
    rw [Below.heap_setCell _ _ _ _ hkB, hg.block k (by simp; omega) hku, Below.heap_alloc _ _ _ hk]
  · rcases he with he | ⟨j, v, hc, hv⟩
    · exact .inl he
    · rcases hex j v hc with rfl | h
      · rcases hat with h | h
        · exact .inr ⟨i, u, hi, by rw [← h]; exact hv⟩
        · rw [h] at hv; injection hv with hv; simp at hv; omega
      · exact .inr ⟨j, v, h, hv⟩
end
end Go.Proofs.YtfiifjcjmnhbnaaDoor
namespace Go.Proofs.YtfiifjcjmnhbnaaDoor
open Go.RowKit

/-- What is known lies in box B. -/
structure EnM (W : World) (B n : Nat) (ks : List (List UInt8)) (vs vw : Value) : Prop where
  box : W.heap[B]? = some (.cells #[vs, vw] 32 (0, 0))
  row1 : W.ownsRow (B + 1) 9 1 vs ks.length (txs ks)
  row2 : W.ownsRow (B + 1) 3 1 vw ks.length (ks.map fun k => .int .i64 (swN k : Int))
  nodup : ks.Nodup
  good : ∀ x ∈ ks, goodT n x
def EnW (W : World) (B n : Nat) (ks : List (List UInt8)) : Prop := ∃ vs vw, EnM W B n ks vs vw
section
variable {W : World} {B n : Nat} {ks : List (List UInt8)} {vs vw : Value}
theorem EnM.lt (h : EnM W B n ks vs vw) : B < W.heap.size := (Array.getElem?_eq_some_iff.1 h.box).1
theorem EnM.few (h : EnM W B n ks vs vw) : ks.length ≤ 59049 := few_good h.nodup h.good
theorem en_cell (hb : W.heap[B]? = some (.cells #[vs, vw] 32 (0, 0))) : W.cell? ⟨B, 0, none⟩ = some vs ∧ W.cell? ⟨B, 1, none⟩ = some vw ∧ ∀ o, 2 ≤ o → W.cell? ⟨B, o, none⟩ = none := by
  refine ⟨by simp [World.cell?, hb], by simp [World.cell?, hb], fun o ho => ?_⟩
  obtain ⟨j, rfl⟩ : ∃ j, o = j + 2 := ⟨o - 2, by omega⟩
  simp [World.cell?, hb]
theorem en_ex (hb : W.heap[B]? = some (.cells #[vs, vw] 32 (0, 0))) (k : Nat) : Ex B W k ↔ k = B ∨ vs.ownBlock = some k ∨ vw.ownBlock = some k := by
  obtain ⟨c0, c1, c2⟩ := en_cell hb
  constructor
  · rintro (h | ⟨o, v, hc, hv⟩)
    · exact .inl h
    · match o with
      | 0 => rw [c0] at hc; injection hc with hc; subst hc; exact .inr (.inl hv)
      | 1 => rw [c1] at hc; injection hc with hc; subst hc; exact .inr (.inr hv)
      | o + 2 => rw [c2 _ (by omega)] at hc; cases hc
  · rintro (h | h | h)
    · exact .inl h
    · exact .inr ⟨0, _, c0, h⟩
    · exact .inr ⟨1, _, c1, h⟩
theorem EnM.ex_in (h : EnM W B n ks vs vw) (k : Nat) (he : Ex B W k) : B ≤ k ∧ k < W.heap.size := by
  rcases (en_ex h.box k).1 he with rfl | h1 | h1
  · exact ⟨Nat.le_refl _, h.lt⟩
  · have := h.row1.lt k h1; omega
  · have := h.row2.lt k h1; omega
theorem EnM.below {W' : World} (h : EnM W B n ks vs vw) (hb : Below W.heap.size W W') : EnM W' B n ks vs vw :=
  ⟨(hb.block B h.lt).trans h.box, own_below h.row1 hb, own_below h.row2 hb, h.nodup, h.good⟩
theorem EnW.below {W' : World} (h : EnW W B n ks) (hb : Below W.heap.size W W') : EnW W' B n ks := by
  obtain ⟨vs, vw, h⟩ := h
  exact ⟨vs, vw, h.below hb⟩
theorem EnW.lt (h : EnW W B n ks) : B < W.heap.size := by
  obtain ⟨vs, vw, h⟩ := h
  exact h.lt
theorem EnW.ex_in (h : EnW W B n ks) (k : Nat) (he : Ex B W k) : B ≤ k ∧ k < W.heap.size := by
  obtain ⟨vs, vw, h⟩ := h
  exact h.ex_in k he
/-- Behind a call that touches nothing old, the box's memory is older than the call. -/
theorem EnW.ex_old {W' : World} (h : EnW W B n ks) (hb : Below W.heap.size W W') {k : Nat} (he : Ex B W' k) : k < W.heap.size := by
  obtain ⟨vs, vw, h⟩ := h
  exact (h.ex_in k ((en_ex h.box k).2 ((en_ex (h.below hb).box k).1 he))).2
/-- A new box. -/
theorem EnW.new (W : World) (n : Nat) : EnW (W.alloc (.cells #[.slice none 0 0, .slice none 0 0] 32)) W.heap.size n [] :=
  ⟨_, _, heap_alloc_new W _, World.ownsRow_nil _ _ _ _, World.ownsRow_nil _ _ _ _, List.nodup_nil, fun x h => by simp at h⟩
end
section
variable {W w3 w5 : World} {B n m k : Nat} {vs vw v' : Value} {xs ys xs' : List Value} {o : Obj}
/-- Behind the first row's growing, and the store of its field. -/
theorem en_one (hb : W.heap[B]? = some (.cells #[vs, vw] 32 (0, 0))) (h1 : W.ownsRow (B + 1) 9 1 vs n xs) (h2 : W.ownsRow (B + 1) 3 1 vw n ys)
    (hg : (W.alloc o).grownBy w3 vs.ownBlock) (h3 : w3.ownsRow (B + 1) 9 1 v' (n + 1) xs') :
    w3.heap[B]? = some (.cells #[vs, vw] 32 (0, 0)) ∧ (w3.setCell ⟨B, 0, none⟩ v').heap[B]? = some (.cells #[v', vw] 32 (0, 0)) ∧
      (w3.setCell ⟨B, 0, none⟩ v').ownsRow (B + 1) 9 1 v' (n + 1) xs' ∧ (w3.setCell ⟨B, 0, none⟩ v').ownsRow (B + 1) 3 1 vw n ys := by
  have hlt := (Array.getElem?_eq_some_iff.1 hb).1
  have b3 : w3.heap[B]? = some (.cells #[vs, vw] 32 (0, 0)) := by
    rw [hg.block B (by simp; omega) (box_apart h1), Below.heap_alloc _ _ _ hlt]; exact hb
  exact ⟨b3, heap_set0 b3, own_off h3 0 v', own_off ((h2.alloc o).kept hg (own_apart h2 h1 (by decide))) 0 v'⟩
/-- Behind the second one's. -/
theorem en_two (hb : W.heap[B]? = some (.cells #[vs, vw] 32 (0, 0))) (h1 : W.ownsRow (B + 1) 9 1 vs n xs) (h2 : W.ownsRow (B + 1) 3 1 vw m ys)
    (hg : (W.alloc o).grownBy w3 vw.ownBlock) (h3 : w3.ownsRow (B + 1) 3 1 v' k xs') :
    w3.heap[B]? = some (.cells #[vs, vw] 32 (0, 0)) ∧ (w3.setCell ⟨B, 1, none⟩ v').heap[B]? = some (.cells #[vs, v'] 32 (0, 0)) ∧
      (w3.setCell ⟨B, 1, none⟩ v').ownsRow (B + 1) 9 1 vs n xs ∧ (w3.setCell ⟨B, 1, none⟩ v').ownsRow (B + 1) 3 1 v' k xs' := by
  have hlt := (Array.getElem?_eq_some_iff.1 hb).1
  have b3 : w3.heap[B]? = some (.cells #[vs, vw] 32 (0, 0)) := by
    rw [hg.block B (by simp; omega) (fun e => by have := h2.lt B e.symm; omega), Below.heap_alloc _ _ _ hlt]; exact hb
  exact ⟨b3, heap_set1 b3, own_off ((h1.alloc o).kept hg (own_apart h1 h2 (by decide))) 1 v', own_off h3 1 v'⟩
theorem en_hex0 {W W' : World} {u : Value} (hb : W.heap[B]? = some (.cells #[vs, vw] 32 (0, 0))) (hb' : W'.heap[B]? = some (.cells #[u, vw] 32 (0, 0))) : ∀ j v, W'.cell? ⟨B, j, none⟩ = some v → v = u ∨ W.cell? ⟨B, j, none⟩ = some v := by
  intro j v hc
  obtain ⟨c0, c1, c2⟩ := en_cell hb'
  match j with
  | 0 => rw [c0] at hc; injection hc with hc; exact .inl hc.symm
  | 1 => rw [c1] at hc; rw [(en_cell hb).2.1]; exact .inr hc
  | j + 2 => rw [c2 _ (by omega)] at hc; cases hc
theorem en_hex1 {W W' : World} {u : Value} (hb : W.heap[B]? = some (.cells #[vs, vw] 32 (0, 0))) (hb' : W'.heap[B]? = some (.cells #[vs, u] 32 (0, 0))) : ∀ j v, W'.cell? ⟨B, j, none⟩ = some v → v = u ∨ W.cell? ⟨B, j, none⟩ = some v := by
  intro j v hc
  obtain ⟨c0, c1, c2⟩ := en_cell hb'
  match j with
  | 0 => rw [c0] at hc; rw [(en_cell hb).1]; exact .inr hc
  | 1 => rw [c1] at hc; injection hc with hc; exact .inl hc.symm
  | j + 2 => rw [c2 _ (by omega)] at hc; cases hc
end
/-- What a call of from leaves: more lines are known, none of them with a longer way, but those known before. -/
def EnP (B n N : Nat) (ks : List (List UInt8)) (W : World) (r : Nat) (e : Ending) (W' : World) : Prop :=
  e = .returned (.int .i64 (r : Int)) ∧ ∃ ks', EnW W' B n ks' ∧ (∀ x ∈ ks', x ∈ ks ∨ (wayL x).toNat ≤ N) ∧ KpX B W W'
/-- What is known while the moves are tried. -/
structure EnS (B n N : Nat) (ks : List (List UInt8)) (W wr : World) : Prop where
  kn : ∃ ks', EnW wr B n ks' ∧ ∀ x ∈ ks', x ∈ ks ∨ (wayL x).toNat < N
  kp : KpX B W wr
theorem en_fin {B n N : Nat} {s : List UInt8} {ks ks' : List (List UInt8)} {W w wa wb : World} {vs vw v1 v2 : Value} {o1 o2 : Obj} (hT : KpX B W w) (hM : EnM w B n ks' vs vw)
    (hk : ∀ x ∈ ks', x ∈ ks ∨ (wayL x).toNat < N) (hmu : (wayL s).toNat = N) (hno : s ∉ ks) (hg : goodT n s)
    (hg1 : (w.alloc o1).grownBy wa vs.ownBlock) (ho1 : wa.ownsRow (B + 1) 9 1 v1 (ks'.length + 1) (txs ks' ++ [.string (str s)])) (hat1 : v1.ownBlock = vs.ownBlock ∨ v1.ownBlock = some (w.alloc o1).heap.size)
    (hg2 : ((wa.setCell ⟨B, 0, none⟩ v1).alloc o2).grownBy wb vw.ownBlock) (ho2 : wb.ownsRow (B + 1) 3 1 v2 (ks'.length + 1) (ks'.map (fun k => Value.int .i64 (swN k : Int)) ++ [.int .i64 (swN s : Int)])) (hat2 : v2.ownBlock = vw.ownBlock ∨ v2.ownBlock = some ((wa.setCell ⟨B, 0, none⟩ v1).alloc o2).heap.size) :
    EnP B n N ks W (swN s) (.returned (.int .i64 (swN s : Int))) (wb.setCell ⟨B, 1, none⟩ v2) := by
  obtain ⟨a1, a2, a3, a4⟩ := en_one hM.box hM.row1 hM.row2 hg1 ho1
  obtain ⟨b1, b2, b3, b4⟩ := en_two a2 a3 a4 hg2 ho2
  have k1 : KpX B w (wa.setCell ⟨B, 0, none⟩ v1) := kp_step (en_cell hM.box).1 hg1 hat1 (en_hex0 hM.box a2)
  have k2 : KpX B (wa.setCell ⟨B, 0, none⟩ v1) (wb.setCell ⟨B, 1, none⟩ v2) := kp_step (en_cell a2).2.1 hg2 hat2 (en_hex1 a2 b2)
  refine ⟨rfl, ks' ++ [s], ⟨v1, v2, b2, ?_, ?_, ?_, fun x hx => ?_⟩, fun x hx => ?_, hT.trans (k1.trans k2)⟩
  · rw [List.length_append, txs_app]; exact b3
  · rw [List.length_append, List.map_append]; exact b4
  · refine List.nodup_append.2 ⟨hM.nodup, by simp, fun x hx y hy e => ?_⟩
    simp at hy
    subst hy
    subst e
    rcases hk _ hx with h | h
    · exact hno h
    · omega
  · rcases List.mem_append.1 hx with hx | hx
    · exact hM.good x hx
    · simp at hx; subst hx; exact hg
  · rcases List.mem_append.1 hx with hx | hx
    · rcases hk x hx with h | h
      · exact .inl h
      · exact .inr (by omega)
    · simp at hx; subst hx; exact .inr (by omega)
end Go.Proofs.YtfiifjcjmnhbnaaDoor
namespace Go.Proofs.YtfiifjcjmnhbnaaDoor
open Go.RowKit

theorem Tryd.infoSw : (Tryd.prog.info? 3).map (fun i => (i.zero, i.size, i.bytes)) = some (some (.int .i64 0), 1, 8) := by kernel_rfl
theorem sw_kinds (s : ByteArray) (n : Nat) : mvsTo (kindM true true s) s n = mvsTo (canM s) s n := mvsTo_eq _ _ s (fun f t => by simp [kindM]) n
set_option maxRecDepth 100000 in
set_option maxHeartbeats 4000000 in
theorem from_known (B n : Nat) (l : List UInt8) (W : World) (ks : List (List UInt8)) (hk : EnW W B n ks) (hin : l ∈ ks) :
    Calls Tryd.prog 11 #[.pointer (some ⟨B, 0, none⟩), .string (str l)] W fun e W' => e = .returned (.int .i64 (swN l : Int)) ∧ W' = W := by
  obtain ⟨vs, vw, hM⟩ := hk
  obtain ⟨i0, hi0, hix⟩ := List.getElem_of_mem hin
  have hfew := hM.few
  obtain ⟨c0, c1, _⟩ := en_cell hM.box
  obtain ⟨g1, p1, rfl, _, hg1, _, _, hr1⟩ := own_open hM.row1 (by omega)
  obtain ⟨g2, p2, rfl, _, hg2, _, _, hr2⟩ := own_open hM.row2 (by omega)
  have HK1 : Hid (∀ j (h : j < ks.length), W.cell? ⟨g1, j, none⟩ = some (.string (str ks[j]))) := Lib.hid fun j h => by
    have := hr1 j (by rw [txs_len]; exact h)
    simpa [txs] using this
  have HK2 : Hid (∀ j (h : j < ks.length), W.cell? ⟨g2, j, none⟩ = some (.int .i64 (swN ks[j] : Int))) := Lib.hid fun j h => by
    have := hr2 j (by simp; exact h)
    simpa using this
  have HIN := Lib.hid hix
  clear hr1 hr2 hM hix hin
  go_enter Tryd.func11, Tryd.ntmps11
  go_wp2_with fail
  go_loop [15] (fun i => ∃ k : Nat, k ≤ ks.length ∧ i = .int .i64 k ∧ k ≤ i0) (fun i => ks.length - (intOf i).toNat)
  case atStart => exact ⟨0, Nat.zero_le _, rfl, Nat.zero_le _⟩
  case round =>
    obtain ⟨k, hk, rfl, hk0⟩ := hrel
    have hlt : k < ks.length := by omega
    have d1 := HK1.out k hlt
    have d2 := HK2.out k hlt
    have HS := Lib.hid (same_str ks[k] l)
    have i1 : (0 : Int) ≤ (k : Int) := by omega
    have i2 : (k : Int) < (ks.length : Int) := by omega
    by_cases he : ks[k] = l
    · have hb : ((str ks[k]).toList == (str l).toList) = true := by rw [HS.out]; simp [he]
      have HE : Hid (swN ks[k] = swN l) := Lib.hid (by rw [he])
      clear he
      go_wp2
      go_ret
      exact ⟨by rw [HE.out]; rfl, rfl⟩
    · have hb : ((str ks[k]).toList == (str l).toList) = false := by rw [HS.out]; simp [he]
      have HE := Lib.hid he
      have hne : k ≠ i0 := fun e => by subst e; exact HE.out HIN.out
      clear he
      go_wp2
      go_round
      case rel => exact ⟨k + 1, by omega, by go_num, by omega⟩
      case measure => simp [intOf]; omega

set_option maxRecDepth 100000 in
set_option maxHeartbeats 8000000 in
theorem from_any : ∀ (N B n : Nat) (l : List UInt8) (W : World) (ks : List (List UInt8)), (wayL l).toNat = N → goodT n l → EnW W B n ks →
    Calls Tryd.prog 11 #[.pointer (some ⟨B, 0, none⟩), .string (str l)] W (EnP B n N ks W (swN l)) := by
  intro N
  induction N using Nat.strongRecOn with
  | ind N IH =>
  intro B n l W ks hmu hgl hk
  by_cases hin : l ∈ ks
  · refine (from_known B n l W ks hk hin).mono ?_
    rintro e w' ⟨rfl, rfl⟩
    exact ⟨rfl, ks, hk, fun x hx => .inl hx, KpX.refl _ _⟩
  obtain ⟨iS, hi, hz0, hz1, hz2⟩ := info_parts Tryd.infoS
  have HI := Lib.hid hi
  have HZ0 := Lib.hid hz0
  have HZ1 := Lib.hid hz1
  have HZ2 := Lib.hid hz2
  clear hi hz0 hz1 hz2
  obtain ⟨iB, hi, hz0, hz1, hz2⟩ := info_parts Tryd.infoSw
  have BI := Lib.hid hi
  have BZ0 := Lib.hid hz0
  have BZ1 := Lib.hid hz1
  have BZ2 := Lib.hid hz2
  clear hi hz0 hz1 hz2
  have hbox : ∃ vs vw, EnM W B n ks vs vw := hk
  obtain ⟨vs, vw, hM⟩ := hbox
  have hfew := hM.few
  obtain ⟨c0, c1, _⟩ := en_cell hM.box
  obtain ⟨A1, p1, hvs, _, _, hA1, _, _⟩ := st_own hM.row1
  have HK1 := Lib.hid hA1
  have HNO := Lib.hid hin
  have HMU := Lib.hid hmu
  have HIH := Lib.hid IH
  have HG := Lib.hid hgl
  have HK := Lib.hid hk
  have hl12 : (str l).size ≤ 12 := ((goodL_iff _).1 hgl.1).2.1
  have HMV := Lib.hid (fun wx => liMoves_all (str l) wx hgl.1)
  rw [sw_kinds, show mvsTo (canM (str l)) (str l) (str l).size = mvL l from rfl] at HMV
  have HLL := Lib.hid (fun wx => liLast_any (str l) wx (by omega))
  rw [byt_str] at HLL
  have HAT := Lib.hid (fun k (h : k < (mvL l).length) => mvL_at l k h)
  have HGET := Lib.hid (fun k (h : k < (mvL l).length) => nxL_mget l k h)
  have HNX : Hid (∀ k (h : k < (mvL l).length), behind (str l) (mvL l)[k].1 (mvL l)[k].2 ∈ nxL l) := Lib.hid fun k h => by
    rw [← HGET.out k h]; exact List.getElem_mem _
  have HLESS : Hid (∀ v ∈ nxL l, (wayL v).toNat < N ∧ goodT n v) := Lib.hid fun v hv => ⟨by have := nx_way hgl hv; omega, nx_good hgl hv⟩
  have hMl : (mvL l).length ≤ 12 := by have := mvL_le l; rw [str_size] at hl12; omega
  have HST : Hid (∀ k (h : k < (mvL l).length), (((nxL l).take (k + 1)).map swN).sum = (((nxL l).take k).map swN).sum + swN (behind (str l) (mvL l)[k].1 (mvL l)[k].2)) := Lib.hid fun k h => by
    rw [sum_take_next swN (nxL l) k (by rw [nxL_mlen]; exact h), HGET.out k h]
  have HSM : Hid (∀ k, (((nxL l).take k).map swN).sum < 9223372036854775808) := Lib.hid fun k => by have := swN_part hgl k; omega
  have HEND : Hid ((((nxL l).take (mvL l).length).map swN).sum = ((nxL l).map swN).sum) := Lib.hid (by rw [← nxL_mlen, List.take_length])
  have HEQ := Lib.hid (swN_eq hgl)
  subst hvs
  have HMM := Lib.hid hM
  clear IH hk hin hmu hM hA1 hgl
  have H1 : ∀ u ∈ [Value.string (str l)], u.oneCell' = true := fun u hu => by simp at hu; subst hu; rfl
  have HEN : Hid (EnW W B n ks) := HK
  go_enter Tryd.func11, Tryd.ntmps11
  go_wp2_with fail
  go_loop [15] (fun i => ∃ k : Nat, k ≤ ks.length ∧ i = .int .i64 k) (fun i => ks.length - (intOf i).toNat)
  case atStart => exact ⟨0, Nat.zero_le _, rfl⟩
  case round =>
    obtain ⟨k, hk, rfl⟩ := hrel
    by_cases hlt : k < ks.length
    · obtain ⟨g1, rfl, hg1, d1⟩ := HK1.out k hlt
      have hb : ((str ks[k]).toList == (str l).toList) = false := by
        rw [same_str, decide_eq_false_iff_not]
        intro e
        exact HNO.out (by rw [← e]; exact List.getElem_mem hlt)
      have i1 : (0 : Int) ≤ (k : Int) := by omega
      have i2 : (k : Int) < (ks.length : Int) := by omega
      go_wp2
      go_round
      case rel => exact ⟨k + 1, by omega, by go_num⟩
      case measure => simp [intOf]; omega
    · go_wp2_with fail
      refine (HLL.out _).mono ?_
      rintro e w1 ⟨rfl, rfl⟩
      by_cases hlast : l = lastL l
      · have hb : ((str l).toList == (str (lastL l)).toList) = true := by rw [same_str]; simpa using hlast
        have HV : Hid (swN l = 1) := Lib.hid (by rw [HEQ.out, if_pos hlast])
        clear hlast
        have hlt5 := HMM.out.lt
        have hfew5 := HMM.out.few
        have HR1 := Lib.hid HMM.out.row1
        have HR2 := Lib.hid HMM.out.row2
        have HB5 := Lib.hid HMM.out.box
        go_wp2_with (first
          | (at_builtin; refine wpList_append_own_at _ rfl _ _ 29 rfl (B + 1) 9 iS (.string ByteArray.empty) 1 16 Tryd.underlying29 HI.out HZ0.out HZ1.out HZ2.out rfl (by decide) (.slice A1 ks.length p1) ks.length (txs ks) rfl (HR1.out.alloc _) ⟨W.heap.size, 0, none⟩ 1 1 [.string (str l)] rfl rfl (cell_one_new _ _ _) H1 (by unfold maxLen; omega) (by omega) (by simp; omega) ?_; intro v3 w3 ho3 hg3 _ hat3; obtain ⟨g3, q3, rfl, _, _, _, _, _⟩ := own_open ho3 (by omega); have hm3 := en_one HB5.out HR1.out HR2.out hg3 ho3; obtain ⟨b31, b32, o31, o32⟩ := hm3; obtain ⟨d0, d1, _⟩ := en_cell b31; have f0 : w3.frozen? ⟨B, 0, none⟩ = false := by simp [World.frozen?, b31]
             have hl3 : B < w3.heap.size := (Array.getElem?_eq_some_iff.1 b31).1; have O31 := Lib.hid o31; have O32 := Lib.hid o32; have B32 := Lib.hid b32; have HO3 := Lib.hid ho3; have HG3 := Lib.hid hg3; have HAT3 := Lib.hid hat3; clear o31 o32 b31 b32 ho3 hg3 hat3)
          | (at_builtin; refine wpList_append_own_at _ rfl _ _ 30 rfl (B + 1) 3 iB (.int .i64 0) 1 8 Tryd.underlying30 BI.out BZ0.out BZ1.out BZ2.out rfl (by decide) vw ks.length (ks.map fun k => Value.int .i64 (swN k : Int)) rfl (O32.out.alloc _) ⟨w3.heap.size, 0, none⟩ 1 1 [.int .i64 1] rfl rfl (by have h := cell_one_new (w3.setCell ⟨B, 0, none⟩ (.slice (some ⟨g3, 0, none⟩) (ks.length + 1) q3)) (.int .i64 1) 3; simpa using h) (fun u hu => by simp at hu; subst hu; rfl) (by unfold maxLen; omega) (by omega) (by simp; omega) ?_; intro v4 w4 ho4 hg4 _ hat4; obtain ⟨g4, q4, rfl, _, _, _, _, _⟩ := own_open ho4 (by omega); have hm4 := en_two B32.out O31.out O32.out hg4 ho4; obtain ⟨b41, _, _, _⟩ := hm4; obtain ⟨e0, e1, _⟩ := en_cell b41; have f1 : w4.frozen? ⟨B, 1, none⟩ = false := by simp [World.frozen?, b41]
             have HO4 := Lib.hid ho4; have HG4 := Lib.hid hg4; have HAT4 := Lib.hid hat4; clear b41 ho4 hg4 hat4))
        go_ret
        refine cast ?_ (en_fin (s := l) (KpX.refl B W) HMM.out (fun x hx => .inl hx) HMU.out HNO.out HG.out HG3.out HO3.out HAT3.out HG4.out (by rw [HV.out]; exact HO4.out) HAT4.out)
        rw [HV.out]
        rfl
      · have hb : ((str l).toList == (str (lastL l)).toList) = false := by rw [same_str]; simpa using hlast
        have HV : Hid (swN l = ((nxL l).map swN).sum) := Lib.hid (by rw [HEQ.out, if_neg hlast])
        clear hlast
        go_wp2_with fail
        refine (HMV.out _).mono ?_
        rintro e w2 ⟨v2, rfl, ho2, hb2⟩
        obtain ⟨A2, cap2, rfl, AT2⟩ := at_of_own ho2
        have HA2 : Hid (∀ a, A2 = some a → W.heap.size ≤ a.block ∧ a.block < w2.heap.size) := Lib.hid fun a e => by
          subst e
          exact ho2.lt _ rfl
        have HT2 : Hid (EnS B n N ks W w2) := Lib.hid ⟨⟨ks, HEN.out.below hb2, fun x hx => .inl hx⟩, KpX.below HEN.out.lt hb2⟩
        have HX2 : Hid (∀ a, A2 = some a → ¬ Ex B w2 a.block) := Lib.hid fun a e he => by
          have := HEN.out.ex_old hb2 he
          have := (HA2.out a e).1
          omega
        have AT := Lib.hid AT2
        clear ho2 hb2 AT2
        go_wp2_with fail
        go_loopw [7, 38] (fun z t wq => ∃ j : Nat, j ≤ (mvL l).length ∧ t = .int .i64 j ∧ z = .int .i64 ((((nxL l).take j).map swN).sum : Nat) ∧ Hid (EnS B n N ks W wq) ∧ Hid (KpX B w2 wq)) (fun _ t _ => (mvL l).length - (intOf t).toNat)
        case atStart => exact ⟨0, Nat.zero_le _, rfl, rfl, HT2, Lib.hid (KpX.refl _ _)⟩
        case round =>
          obtain ⟨j, hj, rfl, rfl, HTQ, HKQ⟩ := hrel
          by_cases hltj : j < (mvL l).length
          · obtain ⟨gm, rfl, zz, p1, q1⟩ := (AT.out.kp HKQ.out HX2.out) j hltj
            have HSTJ := Lib.hid (HST.out j hltj)
            have HYN := HNX.out j hltj
            obtain ⟨a, b, e1, e2, hai, hbi, hneab, _⟩ := HAT.out j hltj
            rw [e1, e2, show behind (str l) (a : Int) (b : Int) = putL (str l) a b from rfl] at HSTJ HYN
            rw [e1] at p1
            rw [e2] at q1
            have hs0 := HSM.out j
            have hs1 := HSM.out (j + 1)
            rw [HSTJ.out] at hs1
            generalize (((nxL l).take j).map swN).sum = S0 at HSTJ hs0 hs1
            obtain ⟨hy1, hy2⟩ := HLESS.out _ HYN
            have HMK := Lib.hid (fun wx => liMake_any (str l) a b wx (by omega) hai hbi hneab)
            have HIHY := Lib.hid (fun wx kx h3 => HIH.out _ hy1 B n _ wx kx rfl hy2 h3)
            have HMUY := Lib.hid hy1
            clear e1 e2 HYN hy1 hy2
            generalize putL (str l) a b = y at HSTJ HMK HIHY HMUY hs1
            have j1 : (0 : Int) ≤ (j : Int) := by omega
            have j2 : (j : Int) < ((mvL l).length : Int) := by omega
            obtain ⟨⟨kq, hkq, hkqs⟩, hkpq⟩ := HTQ.out
            go_wp2_with fail
            refine (HMK.out _).mono ?_
            rintro e w3 ⟨rfl, hb3⟩
            have HB3 := Lib.hid (((Below.refl wr.heap.size wr).alloc (Nat.le_refl _) (mvB a b)).trans (hb3.mono (by simp)))
            have HKN : Hid (EnW w3 B n kq ∧ KpX B wr w3) := Lib.hid ⟨hkq.below HB3.out, KpX.below hkq.lt HB3.out⟩
            have HKQS := Lib.hid hkqs
            have HKPQ := Lib.hid hkpq
            clear hb3 p1 q1 hkq hkqs hkpq
            go_wp2_with fail
            refine (HIHY.out _ kq HKN.out.1).mono ?_
            rintro e w5 ⟨rfl, ky, hky, hkys, hkp5⟩
            have HT5 : Hid (EnS B n N ks W w5) := Lib.hid ⟨⟨ky, hky, fun z hz => by
              rcases hkys z hz with h | h
              · exact HKQS.out z h
              · have := HMUY.out; exact .inr (by omega)⟩, HKPQ.out.trans (HKN.out.2.trans hkp5)⟩
            have HK5' := Lib.hid (HKQ.out.trans (HKN.out.2.trans hkp5))
            clear hky hkys hkp5
            have hwr : IntKind.i64.wrap ((S0 : Int) + (swN y : Int)) = ((S0 + swN y : Nat) : Int) := by rw [IntKind.wrap_i64]; push_cast; omega
            go_wp2
            go_roundw
            case rel => exact ⟨j + 1, by omega, by go_num, by rw [HSTJ.out]; push_cast; rfl, HT5, HK5'⟩
            case measure => simp [intOf]; omega
          · obtain rfl : j = (mvL l).length := by omega
            rw [HEND.out, ← HV.out]
            have hsm : swN l < 9223372036854775808 := by have := HSM.out (mvL l).length; rw [HEND.out, ← HV.out] at this; exact this
            obtain ⟨⟨ks5, ⟨vs5, vw5, hM5⟩, hk5⟩, hkp5⟩ := HTQ.out
            have HM5 := Lib.hid hM5
            have HK5 := Lib.hid hk5
            have HKP5 := Lib.hid hkp5
            obtain ⟨c50, c51, _⟩ := en_cell hM5.box
            have hlt5 := hM5.lt
            have hfew5 := hM5.few
            have HR1 := Lib.hid hM5.row1
            have HR2 := Lib.hid hM5.row2
            have HB5 := Lib.hid hM5.box
            clear hM5 hk5 hkp5
            go_wp2_with (first
              | (at_builtin; refine wpList_append_own_at _ rfl _ _ 29 rfl (B + 1) 9 iS (.string ByteArray.empty) 1 16 Tryd.underlying29 HI.out HZ0.out HZ1.out HZ2.out rfl (by decide) vs5 ks5.length (txs ks5) rfl (HR1.out.alloc _) ⟨wr.heap.size, 0, none⟩ 1 1 [.string (str l)] rfl rfl (cell_one_new _ _ _) H1 (by unfold maxLen; omega) (by omega) (by simp; omega) ?_; intro v3 w3 ho3 hg3 _ hat3; obtain ⟨g3, q3, rfl, _, _, _, _, _⟩ := own_open ho3 (by omega); have hm3 := en_one HB5.out HR1.out HR2.out hg3 ho3; obtain ⟨b31, b32, o31, o32⟩ := hm3; obtain ⟨d0, d1, _⟩ := en_cell b31; have f0 : w3.frozen? ⟨B, 0, none⟩ = false := by simp [World.frozen?, b31]
                 have hl3 : B < w3.heap.size := (Array.getElem?_eq_some_iff.1 b31).1; have O31 := Lib.hid o31; have O32 := Lib.hid o32; have B32 := Lib.hid b32; have HO3 := Lib.hid ho3; have HG3 := Lib.hid hg3; have HAT3 := Lib.hid hat3; clear o31 o32 b31 b32 ho3 hg3 hat3)
              | (at_builtin; refine wpList_append_own_at _ rfl _ _ 30 rfl (B + 1) 3 iB (.int .i64 0) 1 8 Tryd.underlying30 BI.out BZ0.out BZ1.out BZ2.out rfl (by decide) vw5 ks5.length (ks5.map fun k => Value.int .i64 (swN k : Int)) rfl (O32.out.alloc _) ⟨w3.heap.size, 0, none⟩ 1 1 [.int .i64 (swN l : Int)] rfl rfl (by have h := cell_one_new (w3.setCell ⟨B, 0, none⟩ (.slice (some ⟨g3, 0, none⟩) (ks5.length + 1) q3)) (.int .i64 (swN l : Int)) 3; simpa using h) (fun u hu => by simp at hu; subst hu; rfl) (by unfold maxLen; omega) (by omega) (by simp; omega) ?_; intro v4 w4 ho4 hg4 _ hat4; obtain ⟨g4, q4, rfl, _, _, _, _, _⟩ := own_open ho4 (by omega); have hm4 := en_two B32.out O31.out O32.out hg4 ho4; obtain ⟨b41, _, _, _⟩ := hm4; obtain ⟨e0, e1, _⟩ := en_cell b41; have f1 : w4.frozen? ⟨B, 1, none⟩ = false := by simp [World.frozen?, b41]
                 have HO4 := Lib.hid ho4; have HG4 := Lib.hid hg4; have HAT4 := Lib.hid hat4; clear b41 ho4 hg4 hat4))
            go_ret
            exact en_fin (s := l) HKP5.out HM5.out HK5.out HMU.out HNO.out HG.out HG3.out HO3.out HAT3.out HG4.out HO4.out HAT4.out
end Go.Proofs.YtfiifjcjmnhbnaaDoor
