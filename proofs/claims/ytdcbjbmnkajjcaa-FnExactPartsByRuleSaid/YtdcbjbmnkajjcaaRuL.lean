/- Contract: search in breadth, the model's. -/
import Derived.Test.YtdcbjbmnkajjcaaRuJ
namespace Go.Proofs.Ytdcbjbmnkajjcaa
open Go.RowKit

def RrPost (o b l : Bool) (wl : List UInt8) (w : World) (e : Ending) (w' : World) : Prop :=
  ∃ va vb, e = .returned (.agg #[va, vb]) ∧ w'.ownsRow w.heap.size 9 1 va (bfsL (nxR o b l) wl).length (txs (keysF (bfsL (nxR o b l) wl))) ∧
    w'.ownsRow w.heap.size 3 1 vb (bfsL (nxR o b l) wl).length (nus (depF (bfsL (nxR o b l) wl))) ∧ Below w.heap.size w w'
theorem rrOne_yes {d : Nat} {L : Fnd} {x : List UInt8} (h : x ∈ keysF L) : bfsOne d L x = L := by unfold bfsOne; rw [if_pos h]
theorem rrOne_no {d : Nat} {L : Fnd} {x : List UInt8} (h : x ∉ keysF L) : bfsOne d L x = L ++ [(x, d)] := by unfold bfsOne; rw [if_neg h]
theorem rr_at {d k : Nat} {L : Fnd} {xs : List (List UInt8)} {p : List UInt8 × Nat} (h : L[k]? = some p) : (bfsIn d L xs)[k]? = some p ∧ p ∈ bfsIn d L xs ∧ k < (bfsIn d L xs).length := by
  obtain ⟨M, e, _⟩ := pre_bfsIn d xs L
  obtain ⟨hk, hp⟩ := List.getElem?_eq_some_iff.1 h
  rw [e]
  refine ⟨by rw [List.getElem?_append_left hk]; exact h, List.mem_append_left _ (hp ▸ List.getElem_mem hk), by rw [List.length_append]; omega⟩
theorem rrRow {W : World} {R0 k : Nat} {L : Fnd} {v : Value} {p : List UInt8 × Nat} (h : W.ownsRow R0 9 1 v L.length (txs (keysF L))) (hk : L[k]? = some p) : ∃ g cap, v = .slice (some ⟨g, 0, none⟩) L.length cap ∧ L.length ≤ cap ∧ cap ≤ maxLen ∧ R0 ≤ g ∧ g < W.heap.size ∧ W.cell? ⟨g, k, none⟩ = some (.string (str p.1)) := by
  obtain ⟨hk, hp⟩ := List.getElem?_eq_some_iff.1 hk
  rcases h.2 with ⟨_, h0⟩ | ⟨g, cap, cur, hv, hb, hg, hn, hm, _⟩
  · omega
  · have hlt : g < W.heap.size := (Array.getElem?_eq_some_iff.1 hg).1
    refine ⟨g, cap, hv, hn, hm, hb, hlt, ?_⟩
    have hh := h
    rw [hv] at hh
    have f : (txs (keysF L))[k]? = some (.string (str p.1)) := by simp [txs, keysF, hk, hp]
    exact (hh.cellAt k (by omega)).trans f
theorem rrRowI {W : World} {R0 k : Nat} {L : Fnd} {v : Value} {p : List UInt8 × Nat} (h : W.ownsRow R0 3 1 v L.length (nus (depF L))) (hk : L[k]? = some p) : ∃ g cap, v = .slice (some ⟨g, 0, none⟩) L.length cap ∧ L.length ≤ cap ∧ cap ≤ maxLen ∧ R0 ≤ g ∧ g < W.heap.size ∧ W.cell? ⟨g, k, none⟩ = some (.int .i64 (p.2 : Int)) := by
  obtain ⟨hk, hp⟩ := List.getElem?_eq_some_iff.1 hk
  rcases h.2 with ⟨_, h0⟩ | ⟨g, cap, cur, hv, hb, hg, hn, hm, _⟩
  · omega
  · have hlt : g < W.heap.size := (Array.getElem?_eq_some_iff.1 hg).1
    refine ⟨g, cap, hv, hn, hm, hb, hlt, ?_⟩
    have hh := h
    rw [hv] at hh
    have f : (nus (depF L))[k]? = some (.int .i64 (p.2 : Int)) := by simp [nus, depF, hk, hp]
    exact (hh.cellAt k (by omega)).trans f
theorem rrCell {W : World} {R0 k g cap m : Nat} {L : Fnd} {p : List UInt8 × Nat} (h : W.ownsRow R0 9 1 (.slice (some ⟨g, 0, none⟩) m cap) L.length (txs (keysF L))) (hk : L[k]? = some p) : W.cell? ⟨g, k, none⟩ = some (.string (str p.1)) := by
  obtain ⟨g', cap', e, _, _, _, _, hc⟩ := rrRow h hk
  injection e with e _ _
  injection e with e
  injection e with e
  rw [e]; exact hc
theorem rrCellI {W : World} {R0 k g cap m : Nat} {L : Fnd} {p : List UInt8 × Nat} (h : W.ownsRow R0 3 1 (.slice (some ⟨g, 0, none⟩) m cap) L.length (nus (depF L))) (hk : L[k]? = some p) : W.cell? ⟨g, k, none⟩ = some (.int .i64 (p.2 : Int)) := by
  obtain ⟨g', cap', e, _, _, _, _, hc⟩ := rrRowI h hk
  injection e with e _ _
  injection e with e
  injection e with e
  rw [e]; exact hc
theorem rrMv {s : ByteArray} {o b l : Bool} {k : Nat} (h : k < (ruTo s o b l s.size).length) : ∃ a c : Nat, (ruTo s o b l s.size)[k].1 = a ∧ (ruTo s o b l s.size)[k].2 = c ∧ a < s.size ∧ c < s.size ∧ a ≠ c := by
  have hm := List.getElem_mem h
  obtain ⟨a, c, e1, e2, h1, h2, h3⟩ := ruC_in ((mem_ruTo s o b l s.size _ _).1 (by exact hm)).2.2
  exact ⟨a, c, e1, e2, h1, h2, h3⟩
/-- What holds of the lines found, all the while. -/
structure FnG (c : Nat) (L : Fnd) : Prop where
  gd : ∀ x, x ∈ keysF L → goodT c x
  nd : (keysF L).Nodup
  dp : ∀ p ∈ L, p.2 ≤ 60000
theorem FnG.len {c : Nat} {L : Fnd} (h : FnG c L) : L.length ≤ 59049 := by
  rw [← keysF_len]
  exact few_good h.nd h.gd
theorem FnG.more {c d : Nat} {L : Fnd} {y : List UInt8} (h : FnG c L) (hy : y ∉ keysF L) (hgy : goodT c y) (hd : d ≤ 60000) : FnG c (L ++ [(y, d)]) := by
  refine ⟨fun x hx => ?_, ?_, fun p hp => ?_⟩
  · rw [keysF_app, List.mem_append] at hx
    rcases hx with hx | hx
    · exact h.gd x hx
    · have e : x = y := by simpa [keysF] using hx
      rw [e]; exact hgy
  · rw [keysF_app, List.nodup_append]
    refine ⟨h.nd, by simp [keysF], fun a ha b hb e => ?_⟩
    have e2 : b = y := by simpa [keysF] using hb
    exact hy (by rw [← e2, ← e]; exact ha)
  · rcases List.mem_append.1 hp with hp | hp
    · exact h.dp p hp
    · have e : p = (y, d) := by simpa using hp
      rw [e]; exact hd
theorem FnG.start {c : Nat} {wl : List UInt8} (hg : goodT c wl) : FnG c [(wl, 0)] := by
  refine ⟨fun x hx => ?_, by simp [keysF], fun p hp => ?_⟩
  · have e : x = wl := by simpa [keysF] using hx
    rw [e]; exact hg
  · have e : p = (wl, 0) := by simpa using hp
    rw [e]; exact Nat.zero_le _
theorem RuBx.grownR {W W' : World} {B : Nat} {o b l : Bool} {row : Option Nat} (h : RuBx W B o b l) (hg : W.grownBy W' row) (hne : some B ≠ row) : RuBx W' B o b l := by
  have hb := hg.block B h.lt hne
  exact ⟨Nat.lt_of_lt_of_le h.lt hg.size, (World.cell?_of_block (a := ⟨B, 0, none⟩) hb).trans h.c0, (World.cell?_of_block (a := ⟨B, 1, none⟩) hb).trans h.c1, (World.cell?_of_block (a := ⟨B, 2, none⟩) hb).trans h.c2⟩

theorem mvAt_same {W W' : World} {A : Option Addr} {l : List (Int × Int)} (h : MvAt W A l) (hs : W.heap.size ≤ W'.heap.size) (he : ∀ a, A = some a → W'.heap[a.block]? = W.heap[a.block]?) : MvAt W' A l := by
  intro k hk
  obtain ⟨g, a, b, c, d⟩ := h k hk
  have hb := he _ a
  exact ⟨g, a, Nat.lt_of_lt_of_le b hs, (World.cell?_of_block (a := ⟨g, k * 2, none⟩) hb).trans c, (World.cell?_of_block (a := ⟨g, k * 2 + 1, none⟩) hb).trans d⟩
theorem rrW_start (W2 : World) {wl : List UInt8} (b1 b2 B b4 : Nat) (h1 : b1 = W2.heap.size) (h2 : b2 = W2.heap.size + 1) (hB : B = W2.heap.size + 2) (h4 : b4 = W2.heap.size + 3) :
    RrW ((((W2.alloc (Obj.cells #[.string (str wl)] 9)).alloc (Obj.cells #[.int .i64 0] 3)).alloc (Obj.cells #[.slice (some ⟨b1, 0, none⟩) 1 1, .slice (some ⟨b2, 0, none⟩) 1 1] rrT)).alloc (Obj.cells #[.string (str wl)] 9)) W2.heap.size B [(wl, 0)] [wl] (.slice (some ⟨b1, 0, none⟩) 1 1) (.slice (some ⟨b2, 0, none⟩) 1 1) (.slice (some ⟨b4, 0, none⟩) 1 1) ∧
      Below W2.heap.size W2 ((((W2.alloc (Obj.cells #[.string (str wl)] 9)).alloc (Obj.cells #[.int .i64 0] 3)).alloc (Obj.cells #[.slice (some ⟨b1, 0, none⟩) 1 1, .slice (some ⟨b2, 0, none⟩) 1 1] rrT)).alloc (Obj.cells #[.string (str wl)] 9)) := by
  have e1 : (W2.alloc (Obj.cells #[.string (str wl)] 9)).heap.size = W2.heap.size + 1 := by simp
  have e2 : ((W2.alloc (Obj.cells #[.string (str wl)] 9)).alloc (Obj.cells #[.int .i64 0] 3)).heap.size = W2.heap.size + 2 := by simp
  have e3 : (((W2.alloc (Obj.cells #[.string (str wl)] 9)).alloc (Obj.cells #[.int .i64 0] 3)).alloc (Obj.cells #[.slice (some ⟨b1, 0, none⟩) 1 1, .slice (some ⟨b2, 0, none⟩) 1 1] rrT)).heap.size = W2.heap.size + 3 := by simp
  subst h1 h2 hB h4
  have la := own_one W2 W2.heap.size 9 (.string (str wl)) (Nat.le_refl _)
  have lb := own_one (W2.alloc (Obj.cells #[.string (str wl)] 9)) W2.heap.size 3 (.int .i64 0) (by simp)
  rw [e1] at lb
  refine ⟨⟨?_, by omega, ((la.alloc _).alloc _).alloc _, (lb.alloc _).alloc _, ?_, ?_, by simp, by simp [Rising], fun x => by simp [keysF]⟩, ?_⟩
  · rw [Below.heap_alloc _ _ _ (by rw [e3]; omega), ← e2]
    exact heap_alloc_new _ _
  · have := own_one (((W2.alloc (Obj.cells #[.string (str wl)] 9)).alloc (Obj.cells #[.int .i64 0] 3)).alloc (Obj.cells #[.slice (some ⟨W2.heap.size, 0, none⟩) 1 1, .slice (some ⟨W2.heap.size + 1, 0, none⟩) 1 1] rrT)) W2.heap.size 9 (.string (str wl)) (by rw [e3]; omega)
    rw [e3] at this
    exact this
  · intro e
    injection e with e
    have e : W2.heap.size + 3 = W2.heap.size := e
    omega
  · exact ((((Below.refl _ _).alloc (Nat.le_refl _) _).alloc (by simp) _).alloc (by simp; omega) _).alloc (by simp; omega) _
theorem RrW.forms {W : World} {R0 B : Nat} {L : Fnd} {S : List (List UInt8)} {va vb v6 : Value} (h : RrW W R0 B L S va vb v6) (hL : L ≠ []) :
    ∃ ga ca gb cb g6 c6, va = .slice (some ⟨ga, 0, none⟩) L.length ca ∧ vb = .slice (some ⟨gb, 0, none⟩) L.length cb ∧ v6 = .slice (some ⟨g6, 0, none⟩) S.length c6 ∧ R0 ≤ ga ∧ ga < W.heap.size ∧ R0 ≤ gb ∧ gb < W.heap.size ∧ R0 ≤ g6 ∧ g6 < W.heap.size ∧ S.length ≤ c6 ∧ c6 ≤ maxLen := by
  have hl : 0 < L.length := List.length_pos_iff.2 hL
  have hs : 0 < S.length := List.length_pos_iff.2 h.sne
  obtain ⟨ga, ca, ea, a1, a2⟩ := h.la.form hl
  obtain ⟨gb, cb, eb, b1, b2⟩ := h.lb.form hl
  rcases h.f6.2 with ⟨_, h0⟩ | ⟨g6, c6, cur, hv, hb, hg, hn, hm, _⟩
  · omega
  · exact ⟨ga, ca, gb, cb, g6, c6, ea, eb, hv, a1, a2, b1, b2, hb, (Array.getElem?_eq_some_iff.1 hg).1, hn, hm⟩
theorem rr_cells6 {W : World} {R0 B g6 c6 : Nat} {L : Fnd} {S : List (List UInt8)} {va vb : Value} (h : RrW W R0 B L S va vb (.slice (some ⟨g6, 0, none⟩) S.length c6)) : ∀ k (hk : k < S.length), W.cell? ⟨g6, k, none⟩ = some (.string (str S[k])) := by
  intro k hk
  have f : (txs S)[k]? = some (.string (str S[k])) := by simp [txs, hk]
  exact (h.f6.cellAt k (by omega)).trans f
/-- Behind both appends, and the stores of both fields. -/
theorem rr_two {X X4 : World} {R0 B d ga ca gb cb : Nat} {L : Fnd} {S' : List (List UInt8)} {vb v6' : Value} {y : List UInt8} (hbox : X.heap[B]? = some (.cells #[.slice (some ⟨ga, 0, none⟩) (L.length + 1) ca, vb] rrT (0, 0))) (hlow : R0 ≤ B)
    (hla : X.ownsRow R0 9 1 (.slice (some ⟨ga, 0, none⟩) (L.length + 1) ca) (L.length + 1) (txs (keysF L) ++ [.string (str y)])) (hlb : X.ownsRow R0 3 1 vb L.length (nus (depF L)))
    (hf6 : X.ownsRow R0 9 1 v6' S'.length (txs S')) (hap : v6'.ownBlock ≠ some ga) (hsne : S' ≠ []) (hri : Rising S') (hme : ∀ x, x ∈ S' ↔ x ∈ keysF L ∨ x = y) (o : Obj)
    (hg : (X.alloc o).grownBy X4 vb.ownBlock) (h4 : X4.ownsRow R0 3 1 (.slice (some ⟨gb, 0, none⟩) (L.length + 1) cb) (L.length + 1) (nus (depF L) ++ [.int .i64 (d : Int)])) :
    X4.heap[B]? = some (.cells #[.slice (some ⟨ga, 0, none⟩) (L.length + 1) ca, vb] rrT (0, 0)) ∧
      RrW (X4.setCell ⟨B, 1, none⟩ (.slice (some ⟨gb, 0, none⟩) (L.length + 1) cb)) R0 B (L ++ [(y, d)]) S' (.slice (some ⟨ga, 0, none⟩) (L.length + 1) ca) (.slice (some ⟨gb, 0, none⟩) (L.length + 1) cb) v6' := by
  have hlt := (Array.getElem?_eq_some_iff.1 hbox).1
  have hBb := own_ne_cells hlb hbox T_int
  have b4 : X4.heap[B]? = some (.cells #[.slice (some ⟨ga, 0, none⟩) (L.length + 1) ca, vb] rrT (0, 0)) := by
    rw [hg.block B (by simp; omega) (fun e => hBb e.symm), Below.heap_alloc _ _ _ hlt]; exact hbox
  have ka := (hla.alloc o).kept hg (by
    rcases rows_apart hla hlb T_si with h | h
    · exact .inl h
    · exact .inr h)
  have k6 := (hf6.alloc o).kept hg (by
    rcases rows_apart hf6 hlb T_si with h | h
    · exact .inl h
    · exact .inr h)
  have n4 := own_ne_cells h4 b4 T_int
  refine ⟨b4, ⟨set_box1 b4, hlow, ?_, ?_, own_setB k6 (own_ne_cells k6 b4 T_str) 1 _, hap, hsne, hri, fun x => ?_⟩⟩
  · have e : txs (keysF (L ++ [(y, d)])) = txs (keysF L) ++ [.string (str y)] := by rw [keysF_app, txs_app]; rfl
    rw [e, List.length_append]
    exact own_setB ka (own_ne_cells ka b4 T_str) 1 _
  · have e : nus (depF (L ++ [(y, d)])) = nus (depF L) ++ [.int .i64 (d : Int)] := by rw [depF_app, nus_app]; rfl
    rw [e, List.length_append]
    exact own_setB h4 n4 1 _
  · rw [hme, keysF_app, List.mem_append]
    simp [keysF]

end Go.Proofs.Ytdcbjbmnkajjcaa
