/- Contracts: clues without one, a clue added: the model's and the program's. -/
import Derived.Test.YthhmaohnibdbnaaGreatPzC
import Derived.Test.YthhmaohnibdbnaaGreatSl
import Derived.Lib.AppendZeros
import Derived.Deep.AppendLies
namespace Go.Proofs.YthhmaohnibdbnaaGreat
open Go.RowKit

theorem flat3_one (l : List Cl) : ∀ u ∈ flat3 l, u.oneCell' = true := by
  intro u hu
  simp only [flat3, List.mem_flatMap] at hu
  obtain ⟨p, _, hp⟩ := hu
  simp at hp
  rcases hp with rfl | rfl | rfl <;> rfl
theorem cl_news {w : World} {ad : Addr} {l : List Cl} (h : ClIn w (some ad) l) : ∀ j u, (flat3 l)[j]? = some u → w.cell? (ad.add j) = some u := by
  intro j u hj
  have hlt : j < l.length * 3 := by
    rw [← flat3_len]
    exact (List.getElem?_eq_some_iff.1 hj).1
  obtain ⟨g, o, e, _, c0, c1, c2⟩ := h (j / 3) (by omega)
  injection e with e
  subst e
  have f := flat3_at l (j / 3) (by omega)
  rw [addr_o3]
  rcases (by omega : j = j / 3 * 3 ∨ j = j / 3 * 3 + 1 ∨ j = j / 3 * 3 + 2) with h0 | h0 | h0
  · rw [h0] at hj ⊢
    rw [c0, ← f.1, hj]
  · rw [h0] at hj ⊢
    rw [← Nat.add_assoc, c1, ← f.2.1, hj]
  · rw [h0] at hj ⊢
    rw [← Nat.add_assoc, c2, ← f.2.2, hj]
theorem ClIn.take {w : World} {A : Option Addr} {l : List Cl} (h : ClIn w A l) (k : Nat) : ClIn w A (l.take k) := by
  intro j hj
  have hj' : j < l.length := by simp at hj; omega
  obtain ⟨g, o, e, hg, c0, c1, c2⟩ := h j hj'
  rw [List.getElem_take]
  exact ⟨g, o, e, hg, c0, c1, c2⟩
theorem ClIn.drop {w : World} {g o : Nat} {l : List Cl} (h : ClIn w (some ⟨g, o, none⟩) l) (k : Nat) : ClIn w (some ⟨g, o + k * 3, none⟩) (l.drop k) := by
  intro j hj
  have hj' : k + j < l.length := by simp at hj; omega
  obtain ⟨g', o', e, hg, c0, c1, c2⟩ := h (k + j) hj'
  injection e with e
  injection e with e1 e2
  subst e1; subst e2
  rw [List.getElem_drop]
  refine ⟨g, o + k * 3, rfl, hg, ?_, ?_, ?_⟩
  · rw [← c0]; congr 2; omega
  · rw [← c1]; congr 2; omega
  · rw [← c2]; congr 2; omega
theorem own_sliceC {w : World} {base : Nat} {e : TypeId} {size n : Nat} {v : Value} {xs : List Value} (h : w.ownsRow base e size v n xs) : ∃ p a c, v = .slice p a c := by
  rcases h.2 with ⟨hv, h0⟩ | ⟨g1, cap1, cur, rfl, hb, hh, hn, hm, hs, ht⟩
  · exact ⟨_, _, _, hv⟩
  · exact ⟨_, _, _, rfl⟩
/-- Clues without one. -/
def woC (l : List Cl) (k : Nat) : List Cl := l.take k ++ l.drop (k + 1)

/-- An empty row with room. -/
def GwPC (w : World) (e : Ending) (w' : World) : Prop := ∃ v, e = .returned v ∧ w'.ownsRow w.heap.size 69 3 v 0 [] ∧ Below w.heap.size w w'

set_option maxRecDepth 100000 in
set_option maxHeartbeats 1000000 in
theorem growC_any (n : Nat) (w : World) (hn : n ≤ 1000) :
    Calls Tryz.prog 83 #[.slice none 0 0, .int .i64 n] w (GwPC w) := by
  have hd0 : ¬ ((n : Int) < 0) := by omega
  by_cases h0 : n = 0
  · subst h0
    go_enter Tryz.func83, Tryz.ntmps83
    go_wp2
    go_ret
    exact ⟨_, rfl, World.ownsRow_nil _ _ _ _, Below.refl _ _⟩
  · obtain ⟨i0, hi, hz0, hz1, hz2⟩ := info_parts Tryz.infoC
    have hp : (0 : Int) < (n : Int) := by omega
    have hrun := Lib.run_append_nil_zeros (P := Tryz.prog) w 29 3 29 69 i0 (.agg #[.int .i64 0, .int .i64 0, .int .i64 0]) .i64 .i64 Tryz.underlying29 Tryz.underlying3 hi hz0 n (by omega) (by omega) (by omega) (by rw [hz2]; omega)
    have hge := grownCap_ge w n 0 69
    have hle := grownCap_le_maxLen w n 0 69 (by unfold maxLen; omega)
    generalize grownCap w n 0 69 = cap at hrun hge hle
    have hown : (w.drew.alloc (Obj.cells (Builtin.zeroCells (Value.agg #[.int .i64 0, .int .i64 0, .int .i64 0]).cells n ++ Builtin.zeroCells (Value.agg #[.int .i64 0, .int .i64 0, .int .i64 0]).cells (cap - n)) 69)).ownsRow w.heap.size 69 3 (.slice (some ⟨w.heap.size, 0, none⟩) 0 cap) 0 [] := by
      refine ⟨rfl, .inr ⟨w.heap.size, cap, _, rfl, Nat.le_refl _, heap_alloc_new w.drew _, Nat.zero_le _, hle, ?_, by simp⟩⟩
      rw [Array.size_append, size_zeroCells, size_zeroCells]
      show n * 3 + (cap - n) * 3 = cap * 3
      omega
    have hB : Below w.heap.size w (w.drew.alloc (Obj.cells (Builtin.zeroCells (Value.agg #[.int .i64 0, .int .i64 0, .int .i64 0]).cells n ++ Builtin.zeroCells (Value.agg #[.int .i64 0, .int .i64 0, .int .i64 0]).cells (cap - n)) 69)) := (Below.drew (Below.refl _ _)).alloc (Nat.le_refl _) _
    generalize w.drew.alloc (Obj.cells (Builtin.zeroCells (Value.agg #[.int .i64 0, .int .i64 0, .int .i64 0]).cells n ++ Builtin.zeroCells (Value.agg #[.int .i64 0, .int .i64 0, .int .i64 0]).cells (cap - n)) 69) = W2 at hrun hown hB
    have HO := Lib.hid hown
    have HB := Lib.hid hB
    have HR := Lib.hid hrun
    clear hown hB hrun hi hz0 hz1 hz2
    go_enter Tryz.func83, Tryz.ntmps83
    go_wp2_with (at_builtin; refine Lib.wpList_append_run _ rfl _ _ _ _ rfl _ _ rfl rfl _ _ HR.out ?_)
    go_ret
    exact ⟨_, rfl, HO.out, HB.out⟩

/-- What has come behind k lists. -/
def upCC (l1 l2 : List Cl) (k : Nat) : List Cl := if k = 0 then [] else if k = 1 then l1 else l1 ++ l2

set_option maxRecDepth 100000 in
set_option maxHeartbeats 2000000 in
theorem concatC_any (l1 l2 : List Cl) (g c : Nat) (a1 a2 : Addr) (cap1 cap2 : Nat) (w : World) (h1 : w.cell? ⟨g, 0, none⟩ = some (.slice (some a1) l1.length cap1)) (h2 : w.cell? ⟨g, 1, none⟩ = some (.slice (some a2) l2.length cap2)) (ho1 : ClIn w (some a1) l1) (ho2 : ClIn w (some a2) l2) (hg : g < w.heap.size) (hn1 : l1.length ≤ 300) (hn2 : l2.length ≤ 300) :
    Calls Tryz.prog 69 #[.slice (some ⟨g, 0, none⟩) 2 c] w fun e w' => ∃ v, e = .returned v ∧ w'.ownsRow w.heap.size 69 3 v (l1 ++ l2).length (flat3 (l1 ++ l2)) ∧ Below w.heap.size w w' := by
  obtain ⟨i0, hi, hz0, hz1, hz2⟩ := info_parts Tryz.infoC
  have HI := Lib.hid hi
  have HZ0 := Lib.hid hz0
  have HZ1 := Lib.hid hz1
  have HZ2 := Lib.hid hz2
  clear hi hz0 hz1 hz2
  have HO1 := Lib.hid ho1
  have HO2 := Lib.hid ho2
  have HG := Lib.hid (fun (n : Nat) (h : n ≤ 1000) => growC_any n w h)
  clear ho1 ho2
  go_enter Tryz.func69, Tryz.ntmps69
  go_wp2
  go_loop [3, 11] (fun t i => ∃ k : Nat, k ≤ 2 ∧ i = .int .i64 k ∧ t = .int .i64 ((if k = 0 then 0 else if k = 1 then l1.length else l1.length + l2.length : Nat) : Int)) (fun _ i => 2 - (intOf i).toNat)
  case atStart => exact ⟨0, by omega, rfl, rfl⟩
  case round =>
    obtain ⟨k, hk, rfl, rfl⟩ := hrel
    rcases (show k = 0 ∨ k = 1 ∨ k = 2 by omega) with rfl | rfl | rfl
    · have d : ¬ (((0 : Nat) : Int) + (l1.length : Int) < 0) := by omega
      go_wp2
      go_round
      case rel => exact ⟨1, by omega, by go_num, by simp⟩
      case measure => simp [intOf]
    · have d : ¬ ((l1.length : Int) + (l2.length : Int) < 0) := by omega
      go_wp2
      go_round
      case rel => exact ⟨2, by omega, by go_num, by simp⟩
      case measure => simp [intOf]
    · have HG2 := Lib.hid (HG.out (l1.length + l2.length) (by omega))
      clear HG
      have hcast : ((l1.length + l2.length : Nat) : Int) = (l1.length : Int) + (l2.length : Int) := by push_cast; rfl
      rw [hcast] at HG2
      clear hcast
      go_wp2_with fail
      refine HG2.out.mono ?_
      rintro e w1 ⟨v0, rfl, ho0, hb0⟩
      have HOO := Lib.hid ho0
      have HBB := Lib.hid hb0
      clear ho0 hb0
      go_wp2
      go_loopw [6, 27] (fun v i wr => ∃ k : Nat, k ≤ 2 ∧ i = .int .i64 k ∧ wr.ownsRow w.heap.size 69 3 v (upCC l1 l2 k).length (flat3 (upCC l1 l2 k)) ∧ Below w.heap.size w wr) (fun _ i _ => 2 - (intOf i).toNat)
      case atStart => exact ⟨0, by omega, rfl, HOO.out, HBB.out⟩
      case round =>
        obtain ⟨k, hk, rfl, hown, hB⟩ := hrel
        rcases (show k = 0 ∨ k = 1 ∨ k = 2 by omega) with rfl | rfl | rfl
        · have hown0 : wr.ownsRow w.heap.size 69 3 _ (([] : List Cl)).length (flat3 (([] : List Cl))) := hown
          have q1 := (hB.cell (p := ⟨g, 0, none⟩) hg).trans h1
          have hnews := cl_news (HO1.out.below hB)
          have H3 : (([] : List Cl)).length + l1.length ≤ maxLen := by unfold maxLen; (try simp); omega
          have H4 : ((([] : List Cl)).length + l1.length) * 24 ≤ 140737488355328 := by (try simp); omega
          have H5 : w.heap.size ≤ wr.heap.size := hB.size
          go_wp2_with (first | (at_builtin; refine wpList_append_st wr rfl _ _ 29 rfl w.heap.size 69 i0 (.agg #[.int .i64 0, .int .i64 0, .int .i64 0]) 3 24 Tryz.underlying29 HI.out HZ0.out HZ1.out HZ2.out rfl (by decide) _ _ _ rfl hown0 (some a1) l1.length cap1 (flat3 l1) rfl (fun e => by cases e) (flat3_len _) (fun ad e => by injection e with e; subst e; exact hnews) (flat3_one _) H3 H4 H5 ?_; intro v' w4 hown' hgrow))
          go_roundw
          case rel =>
            refine ⟨1, by omega, by go_num, ?_, hB.grown hgrow H5 fun j hj => (hown0.lt _ hj).1⟩
            rw [← flat3_app, ← List.length_append] at hown'
            exact hown'
          case measure => simp [intOf]
        · have hown0 : wr.ownsRow w.heap.size 69 3 _ (l1).length (flat3 (l1)) := hown
          have q1 := (hB.cell (p := ⟨g, 1, none⟩) hg).trans h2
          have hnews := cl_news (HO2.out.below hB)
          have H3 : (l1).length + l2.length ≤ maxLen := by unfold maxLen; (try simp); omega
          have H4 : ((l1).length + l2.length) * 24 ≤ 140737488355328 := by (try simp); omega
          have H5 : w.heap.size ≤ wr.heap.size := hB.size
          go_wp2_with (first | (at_builtin; refine wpList_append_st wr rfl _ _ 29 rfl w.heap.size 69 i0 (.agg #[.int .i64 0, .int .i64 0, .int .i64 0]) 3 24 Tryz.underlying29 HI.out HZ0.out HZ1.out HZ2.out rfl (by decide) _ _ _ rfl hown0 (some a2) l2.length cap2 (flat3 l2) rfl (fun e => by cases e) (flat3_len _) (fun ad e => by injection e with e; subst e; exact hnews) (flat3_one _) H3 H4 H5 ?_; intro v' w4 hown' hgrow))
          go_roundw
          case rel =>
            refine ⟨2, by omega, by go_num, ?_, hB.grown hgrow H5 fun j hj => (hown0.lt _ hj).1⟩
            rw [← flat3_app, ← List.length_append] at hown'
            exact hown'
          case measure => simp [intOf]
        · have HB := Lib.hid hB
          have hown0 : wr.ownsRow w.heap.size 69 3 _ (l1 ++ l2).length (flat3 (l1 ++ l2)) := hown
          clear hB hown
          go_wp2
          go_ret
          exact ⟨_, rfl, hown0, HB.out⟩

theorem concatC_at (l1 l2 : List Cl) (n1 n2 : Nat) (e1 : l1.length = n1) (e2 : l2.length = n2) (g c : Nat) (a1 a2 : Addr) (cap1 cap2 : Nat) (w : World) (h1 : w.cell? ⟨g, 0, none⟩ = some (.slice (some a1) n1 cap1)) (h2 : w.cell? ⟨g, 1, none⟩ = some (.slice (some a2) n2 cap2)) (ho1 : ClIn w (some a1) l1) (ho2 : ClIn w (some a2) l2) (hg : g < w.heap.size) (hn1 : n1 ≤ 300) (hn2 : n2 ≤ 300) :
    Calls Tryz.prog 69 #[.slice (some ⟨g, 0, none⟩) 2 c] w fun e w' => ∃ v, e = .returned v ∧ w'.ownsRow w.heap.size 69 3 v (l1 ++ l2).length (flat3 (l1 ++ l2)) ∧ Below w.heap.size w w' := by
  subst e1; subst e2
  exact concatC_any l1 l2 g c a1 a2 cap1 cap2 w h1 h2 ho1 ho2 hg hn1 hn2

set_option maxRecDepth 100000 in
set_option maxHeartbeats 1000000 in
theorem withoutClue_any (l : List Cl) (g o c k : Nat) (w : World) (hin : ClIn w (some ⟨g, o, none⟩) l) (hl : l.length ≤ 300) (hc : l.length ≤ c) (hc2 : c ≤ 1000) (hk : k < l.length) :
    Calls Tryz.prog 53 #[.slice (some ⟨g, o, none⟩) l.length c, .int .i64 k] w fun e w' => ∃ v, e = .returned v ∧ w'.ownsRow w.heap.size 69 3 v (woC l k).length (flat3 (woC l k)) ∧ Below w.heap.size w w' := by
  have k0 : (0 : Int) ≤ (k : Int) := by omega
  have k1 : (k : Int) ≤ (c : Int) := by omega
  have k2 : (0 : Int) ≤ (k : Int) + 1 := by omega
  have k3 : (k : Int) + 1 ≤ (l.length : Int) := by omega
  have k4 : (l.length : Int) ≤ (c : Int) := by omega
  have k5 : IntKind.i64.wrap ((k : Int) + 1) = (k : Int) + 1 := by rw [IntKind.wrap_i64]; omega
  have HIN := Lib.hid (hin.take k)
  have L1 := Lib.hid (show (l.take k).length = k by rw [List.length_take]; omega)
  have L2 := Lib.hid (show (l.drop (k + 1)).length = l.length - (k + 1) by rw [List.length_drop])
  by_cases hck : c = k + 1
  · subst hck
    have L20 := Lib.hid (show (l.drop (k + 1)).length = 0 by rw [List.length_drop]; omega)
    have HIN2 : Hid (ClIn w (some ⟨g, o, none⟩) (l.drop (k + 1))) := Lib.hid (by rw [List.drop_of_length_le (by omega)]; intro j hj; simp at hj)
    clear hin
    go_enter Tryz.func53, Tryz.ntmps53
    go_wp2_with fail
    go_region_with (go_at_call 69; (refine (concatC_at (l.take k) (l.drop (k + 1)) k 0 L1.out L20.out w.heap.size 2 ⟨g, o, none⟩ ⟨g, o, none⟩ (k + 1) 0 ((w.alloc (Obj.cells #[.slice (some ⟨g, o, none⟩) k (k + 1), .slice (some ⟨g, o, none⟩) 0 0] 29)).drew) (cell_new' w #[.slice (some ⟨g, o, none⟩) k (k + 1), .slice (some ⟨g, o, none⟩) 0 0] 29 _ 0 rfl) (cell_new' w #[.slice (some ⟨g, o, none⟩) k (k + 1), .slice (some ⟨g, o, none⟩) 0 0] 29 _ 1 rfl) (clin_drew (HIN.out.below ((Below.refl _ _).alloc (Nat.le_refl _) _))) (clin_drew (HIN2.out.below ((Below.refl _ _).alloc (Nat.le_refl _) _))) (by show w.heap.size < (w.alloc _).heap.size; simp) (by omega) (by omega)).mono ?_; rintro e w1 ⟨v, rfl, o1, hb1⟩))
    go_wp2
    go_ret
    exact ⟨v, rfl, own_lowerC o1 (by simp), by
      have h1 : Below w.heap.size w ((w.alloc (Obj.cells #[.slice (some ⟨g, o, none⟩) k (k + 1), .slice (some ⟨g, o, none⟩) 0 0] 29)).drew) := Below.drew ((Below.refl _ _).alloc (Nat.le_refl _) _)
      exact h1.trans (hb1.mono h1.size)⟩
  · have hce : (c == k + 1) = false := by simpa using hck
    have HIN2 : Hid (ClIn w (some ⟨g, o + (k + 1) * 3, none⟩) (l.drop (k + 1))) := Lib.hid (hin.drop (k + 1))
    clear hin
    go_enter Tryz.func53, Tryz.ntmps53
    go_wp2_with fail
    go_region_with (go_at_call 69; (refine (concatC_at (l.take k) (l.drop (k + 1)) k (l.length - (k + 1)) L1.out L2.out w.heap.size 2 ⟨g, o, none⟩ ⟨g, o + (k + 1) * 3, none⟩ c (c - (k + 1)) ((w.alloc (Obj.cells #[.slice (some ⟨g, o, none⟩) k c, .slice (some ⟨g, o + (k + 1) * 3, none⟩) (l.length - (k + 1)) (c - (k + 1))] 29)).drew) (cell_new' w #[.slice (some ⟨g, o, none⟩) k c, .slice (some ⟨g, o + (k + 1) * 3, none⟩) (l.length - (k + 1)) (c - (k + 1))] 29 _ 0 rfl) (cell_new' w #[.slice (some ⟨g, o, none⟩) k c, .slice (some ⟨g, o + (k + 1) * 3, none⟩) (l.length - (k + 1)) (c - (k + 1))] 29 _ 1 rfl) (clin_drew (HIN.out.below ((Below.refl _ _).alloc (Nat.le_refl _) _))) (clin_drew (HIN2.out.below ((Below.refl _ _).alloc (Nat.le_refl _) _))) (by show w.heap.size < (w.alloc _).heap.size; simp) (by omega) (by omega)).mono ?_; rintro e w1 ⟨v, rfl, o1, hb1⟩))
    go_wp2
    go_ret
    exact ⟨v, rfl, own_lowerC o1 (by simp), by
      have h1 : Below w.heap.size w ((w.alloc (Obj.cells #[.slice (some ⟨g, o, none⟩) k c, .slice (some ⟨g, o + (k + 1) * 3, none⟩) (l.length - (k + 1)) (c - (k + 1))] 29)).drew) := Below.drew ((Below.refl _ _).alloc (Nat.le_refl _) _)
      exact h1.trans (hb1.mono h1.size)⟩

theorem step_append_own {P : Program} (w : World) {ops : Array Oper} {o : Oper} {a : Act} {K : Act → World → Prop} {Q : Exit → Act → World → Prop} {E : Prop} (hgd : o.guard = none) (s x : Operand) (t : TypeId)
    (ho : o.op = .call { callee := .builtin .append, args := #[s, x], argTypes := #[t, t] })
    (base : Nat) (e : TypeId) (i : TypeInfo) (z : Value) (size bytes : Nat) (ht : P.underlying t = some (.slice e)) (hi : P.info? e = some i) (hz : i.zero = some z)
    (hsize : i.size = size) (hby : i.bytes = bytes) (hzs : z.cells.size = size) (hsz : 0 < size)
    (v : Value) (n : Nat) (xs : List Value) (hs : a.eval s = v) (hown : w.ownsRow base e size v n xs)
    (ad : Addr) (m c : Nat) (news : List Value) (hx : a.eval x = .slice (some ad) m c) (hl : news.length = m * size) (hnews : ∀ j u, news[j]? = some u → w.cell? (ad.add j) = some u) (h1 : ∀ u ∈ news, u.oneCell' = true)
    (h63 : n + m ≤ maxLen) (hbytes : (n + m) * bytes ≤ 140737488355328) (hbase : base ≤ w.heap.size)
    (h : ∀ v' w', w'.ownsRow base e size v' (n + m) (xs ++ news) → w.grownBy w' v.ownBlock → K (a.put o.dst v') w') :
    if Region.wanted o (yielded ops a.tmps) = true then Oper.wp P o a w K Q else E := by
  have hw : Region.wanted o (yielded ops a.tmps) = true := by simp [Region.wanted, hgd]
  rw [if_pos hw]
  exact wp_append_own w s x t ho base e i z size bytes ht hi hz hsize hby hzs hsz v n xs hs hown ad m c news hx hl hnews h1 h63 hbytes hbase fun v' w' h2 h3 _ => h v' w' h2 h3
theorem own_empty (w : World) (T : TypeId) (n : Nat) : (w.alloc (Obj.cells #[] T)).ownsRow w.heap.size T n (.slice (some ⟨w.heap.size, 0, none⟩) 0 0) 0 [] :=
  ⟨by simp, .inr ⟨w.heap.size, 0, #[], rfl, Nat.le_refl _, heap_alloc_new w _, Nat.le_refl _, Nat.zero_le _, by simp, by simp⟩⟩

set_option maxRecDepth 100000 in
set_option maxHeartbeats 2000000 in
theorem pzWithout_any (l : List Cl) (g o c k : Nat) (w : World) (hin : ClIn w (some ⟨g, o, none⟩) l) (hl : l.length ≤ 300) (hc : l.length ≤ c) (hc2 : c ≤ 1000) (hk : k < l.length) :
    Calls Tryz.prog 51 #[.slice (some ⟨g, o, none⟩) l.length c, .int .i64 k] w fun e w' => ∃ v, e = .returned v ∧ w'.ownsRow w.heap.size 69 3 v (woC l k).length (flat3 (woC l k)) ∧ Below w.heap.size w w' := by
  obtain ⟨i0, hi, hz0, hz1, hz2⟩ := info_parts Tryz.infoC
  have HI := Lib.hid hi
  have HZ0 := Lib.hid hz0
  have HZ1 := Lib.hid hz1
  have HZ2 := Lib.hid hz2
  clear hi hz0 hz1 hz2
  have k0 : (0 : Int) ≤ (k : Int) := by omega
  have k1 : (k : Int) ≤ (c : Int) := by omega
  have k2 : (0 : Int) ≤ (k : Int) + 1 := by omega
  have k3 : (k : Int) + 1 ≤ (l.length : Int) := by omega
  have k4 : (l.length : Int) ≤ (c : Int) := by omega
  have k5 : IntKind.i64.wrap ((k : Int) + 1) = (k : Int) + 1 := by rw [IntKind.wrap_i64]; omega
  have HIN := Lib.hid (hin.take k)
  have L1 := Lib.hid (show (l.take k).length = k by rw [List.length_take]; omega)
  have L2 := Lib.hid (show (l.drop (k + 1)).length = l.length - (k + 1) by rw [List.length_drop])
  by_cases hck : c = k + 1
  · subst hck
    have k6 : (k : Int) ≤ (k : Int) + 1 := by omega
    have L20 := Lib.hid (show (l.drop (k + 1)).length = 0 by rw [List.length_drop]; omega)
    have HIN2 : Hid (ClIn w (some ⟨g, o, none⟩) (l.drop (k + 1))) := Lib.hid (by rw [List.drop_of_length_le (by omega)]; intro j hj; simp at hj)
    clear hin
    have hB0 : Below w.heap.size w ((w.alloc (Obj.cells #[] 69)).drew) := Below.drew ((Below.refl _ _).alloc (Nat.le_refl _) _)
    have O0 : ((w.alloc (Obj.cells #[] 69)).drew).ownsRow w.heap.size 69 3 (.slice (some ⟨w.heap.size, 0, none⟩) 0 0) 0 [] := own_empty w _ _
    have hsz0 : w.heap.size ≤ ((w.alloc (Obj.cells #[] 69)).drew).heap.size := hB0.size
    go_enter Tryz.func51, Tryz.ntmps51
    go_wp2_with fail
    go_region_law (first
      | (refine step_append_own _ rfl _ _ 29 rfl w.heap.size 69 i0 (.agg #[.int .i64 0, .int .i64 0, .int .i64 0]) 3 24 Tryz.underlying29 HI.out HZ0.out HZ1.out HZ2.out rfl (by decide) _ 0 [] rfl O0 ⟨g, o, none⟩ k (k + 1) (flat3 (l.take k)) rfl (by rw [flat3_len, L1.out]) (cl_news (HIN.out.below hB0)) (flat3_one _) (by unfold maxLen; omega) (by omega) hsz0 ?_; intro v1 w1 o1 g1; have O1 := o1; have hB1 := hB0.grown g1 hsz0 (fun j hj => (O0.lt _ hj).1); have hsz1 := hB1.size; clear o1 g1)
      | (refine step_append_own _ rfl _ _ 29 rfl w.heap.size 69 i0 (.agg #[.int .i64 0, .int .i64 0, .int .i64 0]) 3 24 Tryz.underlying29 HI.out HZ0.out HZ1.out HZ2.out rfl (by decide) v1 (0 + k) _ rfl O1 ⟨g, o, none⟩ 0 0 (flat3 (l.drop (k + 1))) rfl (by rw [flat3_len, L20.out]) (cl_news (HIN2.out.below hB1)) (flat3_one _) (by unfold maxLen; omega) (by omega) hsz1 ?_; intro v2 w2 o2 g2; have O2 := o2; have hB2 := hB1.grown g2 hsz1 (fun j hj => (O1.lt _ hj).1); clear o2 g2))
    go_wp2
    go_ret
    refine ⟨v2, rfl, ?_, hB2⟩
    have e1 : (woC l k).length = 0 + k + 0 := by unfold woC; rw [List.length_append, L1.out, L20.out]; omega
    rw [e1]
    unfold woC
    rw [flat3_app]
    exact O2
  · have hce : (c == k + 1) = false := by simpa using hck
    have HIN2 := Lib.hid (hin.drop (k + 1))
    clear hin
    have hB0 : Below w.heap.size w ((w.alloc (Obj.cells #[] 69)).drew) := Below.drew ((Below.refl _ _).alloc (Nat.le_refl _) _)
    have O0 : ((w.alloc (Obj.cells #[] 69)).drew).ownsRow w.heap.size 69 3 (.slice (some ⟨w.heap.size, 0, none⟩) 0 0) 0 [] := own_empty w _ _
    have hsz0 : w.heap.size ≤ ((w.alloc (Obj.cells #[] 69)).drew).heap.size := hB0.size
    go_enter Tryz.func51, Tryz.ntmps51
    go_wp2_with fail
    go_region_law (first
      | (refine step_append_own _ rfl _ _ 29 rfl w.heap.size 69 i0 (.agg #[.int .i64 0, .int .i64 0, .int .i64 0]) 3 24 Tryz.underlying29 HI.out HZ0.out HZ1.out HZ2.out rfl (by decide) _ 0 [] rfl O0 ⟨g, o, none⟩ k c (flat3 (l.take k)) rfl (by rw [flat3_len, L1.out]) (cl_news (HIN.out.below hB0)) (flat3_one _) (by unfold maxLen; omega) (by omega) hsz0 ?_; intro v1 w1 o1 g1; have O1 := o1; have hB1 := hB0.grown g1 hsz0 (fun j hj => (O0.lt _ hj).1); have hsz1 := hB1.size; clear o1 g1)
      | (refine step_append_own _ rfl _ _ 29 rfl w.heap.size 69 i0 (.agg #[.int .i64 0, .int .i64 0, .int .i64 0]) 3 24 Tryz.underlying29 HI.out HZ0.out HZ1.out HZ2.out rfl (by decide) v1 (0 + k) _ rfl O1 ⟨g, o + (k + 1) * 3, none⟩ (l.length - (k + 1)) (c - (k + 1)) (flat3 (l.drop (k + 1))) rfl (by rw [flat3_len, L2.out]) (cl_news (HIN2.out.below hB1)) (flat3_one _) (by unfold maxLen; omega) (by omega) hsz1 ?_; intro v2 w2 o2 g2; have O2 := o2; have hB2 := hB1.grown g2 hsz1 (fun j hj => (O1.lt _ hj).1); clear o2 g2))
    go_wp2
    go_ret
    refine ⟨v2, rfl, ?_, hB2⟩
    have e1 : (woC l k).length = 0 + k + (l.length - (k + 1)) := by unfold woC; rw [List.length_append, L1.out, L2.out]; omega
    rw [e1]
    unfold woC
    rw [flat3_app]
    exact O2
end Go.Proofs.YthhmaohnibdbnaaGreat
