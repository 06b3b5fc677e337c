/- Contract: search in breadth, the model's. -/
import Derived.Test.YtcndlfoodbmgbaaRuJ
namespace Go.Proofs.Ytcndlfoodbmgbaa
open Go.RowKit

def RrPost (o b l : Bool) (wl : List UInt8) (w : World) (e : Ending) (w' : World) : Prop :=
  ∃ va vb, e = .returned (.agg #[va, vb]) ∧ w'.ownsRow w.heap.size 9 1 va (bfsL (nxR o b l) wl).length (txs (keysF (bfsL (nxR o b l) wl))) ∧
    w'.ownsRow w.heap.size 3 1 vb (bfsL (nxR o b l) wl).length (nus (depF (bfsL (nxR o b l) wl))) ∧ Below w.heap.size w w'
theorem rrOne_yes {d : Nat} {L : Fnd} {x : List UInt8} (h : x ∈ keysF L) : bfsOne d L x = L := by unfold bfsOne; rw [if_pos h]
theorem rrOne_no {d : Nat} {L : Fnd} {x : List UInt8} (h : x ∉ keysF L) : bfsOne d L x = L ++ [(x, d)] := by unfold bfsOne; rw [if_neg h]
theorem rr_at {d k : Nat} {L : Fnd} {xs : List (List UInt8)} {p : List UInt8 × Nat} (h : L[k]? = some p) : (bfsIn d L xs)[k]? = some p ∧ p ∈ bfsIn d L xs ∧ k < (bfsIn d L xs).length := by
  obtain ⟨M, e, _⟩ := pre_bfsIn d xs L
  obtain ⟨hk, hp⟩ := List.getElem?_eq_some_iff.1 h
  rw [e]
  refine ⟨by rw [List.getElem?_append_left hk]; exact h, List.mem_append_left _ (hp ▸ List.getElem_mem hk), by rw [List.length_append]; omega⟩
theorem rrRow {W : World} {R0 k : Nat} {L : Fnd} {v : Value} {p : List UInt8 × Nat} (h : W.ownsRow R0 9 1 v L.length (txs (keysF L))) (hk : L[k]? = some p) : ∃ g cap, v = .slice (some ⟨g, 0, none⟩) L.length cap ∧ L.length ≤ cap ∧ cap ≤ maxLen ∧ R0 ≤ g ∧ g < W.heap.size ∧ W.cell? ⟨g, k, none⟩ = some (.string (str p.1)) := by
  obtain ⟨hk, hp⟩ := List.getElem?_eq_some_iff.1 hk
  rcases h.2 with ⟨_, h0⟩ | ⟨g, cap, cur, hv, hb, hg, hn, hm, _⟩
  · omega
  · have hlt : g < W.heap.size := (Array.getElem?_eq_some_iff.1 hg).1
    refine ⟨g, cap, hv, hn, hm, hb, hlt, ?_⟩
    have hh := h
    rw [hv] at hh
    have f : (txs (keysF L))[k]? = some (.string (str p.1)) := by simp [txs, keysF, hk, hp]
    exact (hh.cellAt k (by omega)).trans f
theorem rrRowI {W : World} {R0 k : Nat} {L : Fnd} {v : Value} {p : List UInt8 × Nat} (h : W.ownsRow R0 3 1 v L.length (nus (depF L))) (hk : L[k]? = some p) : ∃ g cap, v = .slice (some ⟨g, 0, none⟩) L.length cap ∧ L.length ≤ cap ∧ cap ≤ maxLen ∧ R0 ≤ g ∧ g < W.heap.size ∧ W.cell? ⟨g, k, none⟩ = some (.int .i64 (p.2 : Int)) := by
  obtain ⟨hk, hp⟩ := List.getElem?_eq_some_iff.1 hk
  rcases h.2 with ⟨_, h0⟩ | ⟨g, cap, cur, hv, hb, hg, hn, hm, _⟩
  · omega
  · have hlt : g < W.heap.size := (Array.getElem?_eq_some_iff.1 hg).1
    refine ⟨g, cap, hv, hn, hm, hb, hlt, ?_⟩
    have hh := h
    rw [hv] at hh
    have f : (nus (depF L))[k]? = some (.int .i64 (p.2 : Int)) := by simp [nus, depF, hk, hp]
    exact (hh.cellAt k (by omega)).trans f
theorem rrCell {W : World} {R0 k g cap m : Nat} {L : Fnd} {p : List UInt8 × Nat} (h : W.ownsRow R0 9 1 (.slice (some ⟨g, 0, none⟩) m cap) L.length (txs (keysF L))) (hk : L[k]? = some p) : W.cell? ⟨g, k, none⟩ = some (.string (str p.1)) := by
  obtain ⟨g', cap', e, _, _, _, _, hc⟩ := rrRow h hk
  injection e with e _ _
  injection e with e
  injection e with e
  rw [e]; exact hc
theorem rrCellI {W : World} {R0 k g cap m : Nat} {L : Fnd} {p : List UInt8 × Nat} (h : W.ownsRow R0 3 1 (.slice (some ⟨g, 0, none⟩) m cap) L.length (nus (depF L))) (hk : L[k]? = some p) : W.cell? ⟨g, k, none⟩ = some (.int .i64 (p.2 : Int)) := by
  obtain ⟨g', cap', e, _, _, _, _, hc⟩ := rrRowI h hk
  injection e with e _ _
  injection e with e
  injection e with e
  rw [e]; exact hc
theorem rrMv {s : ByteArray} {o b l : Bool} {k : Nat} (h : k < (ruTo s o b l s.size).length) : ∃ a c : Nat, (ruTo s o b l s.size)[k].1 = a ∧ (ruTo s o b l s.size)[k].2 = c ∧ a < s.size ∧ c < s.size ∧ a ≠ c := by
  have hm := List.getElem_mem h
  obtain ⟨a, c, e1, e2, h1, h2, h3⟩ := ruC_in ((mem_ruTo s o b l s.size _ _).1 (by exact hm)).2.2
  exact ⟨a, c, e1, e2, h1, h2, h3⟩
/-- What holds of the lines found, all the while. -/
structure FnG (c : Nat) (L : Fnd) : Prop where
  gd : ∀ x, x ∈ keysF L → goodT c x
  nd : (keysF L).Nodup
  dp : ∀ p ∈ L, p.2 ≤ 60000
theorem FnG.len {c : Nat} {L : Fnd} (h : FnG c L) : L.length ≤ 59049 := by
  rw [← keysF_len]
  exact few_good h.nd h.gd
theorem FnG.more {c d : Nat} {L : Fnd} {y : List UInt8} (h : FnG c L) (hy : y ∉ keysF L) (hgy : goodT c y) (hd : d ≤ 60000) : FnG c (L ++ [(y, d)]) := by
  refine ⟨fun x hx => ?_, ?_, fun p hp => ?_⟩
  · rw [keysF_app, List.mem_append] at hx
    rcases hx with hx | hx
    · exact h.gd x hx
    · have e : x = y := by simpa [keysF] using hx
      rw [e]; exact hgy
  · rw [keysF_app, List.nodup_append]
    refine ⟨h.nd, by simp [keysF], fun a ha b hb e => ?_⟩
    have e2 : b = y := by simpa [keysF] using hb
    exact hy (by rw [← e2, ← e]; exact ha)
  · rcases List.mem_append.1 hp with hp | hp
    · exact h.dp p hp
    · have e : p = (y, d) := by simpa using hp
      rw [e]; exact hd
theorem FnG.start {c : Nat} {wl : List UInt8} (hg : goodT c wl) : FnG c [(wl, 0)] := by
  refine ⟨fun x hx => ?_, by simp [keysF], fun p hp => ?_⟩
  · have e : x = wl := by simpa [keysF] using hx
    rw [e]; exact hg
  · have e : p = (wl, 0) := by simpa using hp
    rw [e]; exact Nat.zero_le _
theorem RuBx.grownR {W W' : World} {B : Nat} {o b l : Bool} {row : Option Nat} (h : RuBx W B o b l) (hg : W.grownBy W' row) (hne : some B ≠ row) : RuBx W' B o b l := by
  have hb := hg.block B h.lt hne
  exact ⟨Nat.lt_of_lt_of_le h.lt hg.size, (World.cell?_of_block (a := ⟨B, 0, none⟩) hb).trans h.c0, (World.cell?_of_block (a := ⟨B, 1, none⟩) hb).trans h.c1, (World.cell?_of_block (a := ⟨B, 2, none⟩) hb).trans h.c2⟩

theorem mvAt_same {W W' : World} {A : Option Addr} {l : List (Int × Int)} (h : MvAt W A l) (hs : W.heap.size ≤ W'.heap.size) (he : ∀ a, A = some a → W'.heap[a.block]? = W.heap[a.block]?) : MvAt W' A l := by
  intro k hk
  obtain ⟨g, a, b, c, d⟩ := h k hk
  have hb := he _ a
  exact ⟨g, a, Nat.lt_of_lt_of_le b hs, (World.cell?_of_block (a := ⟨g, k * 2, none⟩) hb).trans c, (World.cell?_of_block (a := ⟨g, k * 2 + 1, none⟩) hb).trans d⟩
theorem rrW_start (W2 : World) {wl : List UInt8} (b1 b2 B b4 : Nat) (h1 : b1 = W2.heap.size) (h2 : b2 = W2.heap.size + 1) (hB : B = W2.heap.size + 2) (h4 : b4 = W2.heap.size + 3) :
    RrW ((((W2.alloc (Obj.cells #[.string (str wl)] 9)).alloc (Obj.cells #[.int .i64 0] 3)).alloc (Obj.cells #[.slice (some ⟨b1, 0, none⟩) 1 1, .slice (some ⟨b2, 0, none⟩) 1 1] rrT)).alloc (Obj.cells #[.string (str wl)] 9)) W2.heap.size B [(wl, 0)] [wl] (.slice (some ⟨b1, 0, none⟩) 1 1) (.slice (some ⟨b2, 0, none⟩) 1 1) (.slice (some ⟨b4, 0, none⟩) 1 1) ∧
      Below W2.heap.size W2 ((((W2.alloc (Obj.cells #[.string (str wl)] 9)).alloc (Obj.cells #[.int .i64 0] 3)).alloc (Obj.cells #[.slice (some ⟨b1, 0, none⟩) 1 1, .slice (some ⟨b2, 0, none⟩) 1 1] rrT)).alloc (Obj.cells #[.string (str wl)] 9)) := by
  have e1 : (W2.alloc (Obj.cells #[.string (str wl)] 9)).heap.size = W2.heap.size + 1 := by simp
  have e2 : ((W2.alloc (Obj.cells #[.string (str wl)] 9)).alloc (Obj.cells #[.int .i64 0] 3)).heap.size = W2.heap.size + 2 := by simp
  have e3 : (((W2.alloc (Obj.cells #[.string (str wl)] 9)).alloc (Obj.cells #[.int .i64 0] 3)).alloc (Obj.cells #[.slice (some ⟨b1, 0, none⟩) 1 1, .slice (some ⟨b2, 0, none⟩) 1 1] rrT)).heap.size = W2.heap.size + 3 := by simp
  subst h1 h2 hB h4
  have la := own_one W2 W2.heap.size 9 (.string (str wl)) (Nat.le_refl _)
  have lb := own_one (W2.alloc (Obj.cells #[.string (str wl)] 9)) W2.heap.size 3 (.int .i64 0) (by simp)
  rw [e1] at lb
  refine ⟨⟨?_, by omega, ((la.alloc _).alloc _).alloc _, (lb.alloc _).alloc _, ?_, ?_, by simp, by simp [Rising], fun x => by simp [keysF]⟩, ?_⟩
  · rw [Below.heap_alloc _ _ _ (by rw [e3]; omega), ← e2]
    exact heap_alloc_new _ _
  · have := own_one (((W2.alloc (Obj.cells #[.string (str wl)] 9)).alloc (Obj.cells #[.int .i64 0] 3)).alloc (Obj.cells #[.slice (some ⟨W2.heap.size, 0, none⟩) 1 1, .slice (some ⟨W2.heap.size + 1, 0, none⟩) 1 1] rrT)) W2.heap.size 9 (.string (str wl)) (by rw [e3]; omega)
    rw [e3] at this
    exact this
  · intro e
    injection e with e
    have e : W2.heap.size + 3 = W2.heap.size := e
    omega
  · exact ((((Below.refl _ _).alloc (Nat.le_refl _) _).alloc (by simp) _).alloc (by simp; omega) _).alloc (by simp; omega) _
theorem RrW.forms {W : World} {R0 B : Nat} {L : Fnd} {S : List (List UInt8)} {va vb v6 : Value} (h : RrW W R0 B L S va vb v6) (hL : L ≠ []) :
    ∃ ga ca gb cb g6 c6, va = .slice (some ⟨ga, 0, none⟩) L.length ca ∧ vb = .slice (some ⟨gb, 0, none⟩) L.length cb ∧ v6 = .slice (some ⟨g6, 0, none⟩) S.length c6 ∧ R0 ≤ ga ∧ ga < W.heap.size ∧ R0 ≤ gb ∧ gb < W.heap.size ∧ R0 ≤ g6 ∧ g6 < W.heap.size ∧ S.length ≤ c6 ∧ c6 ≤ maxLen := by
  have hl : 0 < L.length := List.length_pos_iff.2 hL
  have hs : 0 < S.length := List.length_pos_iff.2 h.sne
  obtain ⟨ga, ca, ea, a1, a2⟩ := h.la.form hl
  obtain ⟨gb, cb, eb, b1, b2⟩ := h.lb.form hl
  rcases h.f6.2 with ⟨_, h0⟩ | ⟨g6, c6, cur, hv, hb, hg, hn, hm, _⟩
  · omega
  · exact ⟨ga, ca, gb, cb, g6, c6, ea, eb, hv, a1, a2, b1, b2, hb, (Array.getElem?_eq_some_iff.1 hg).1, hn, hm⟩
theorem rr_cells6 {W : World} {R0 B g6 c6 : Nat} {L : Fnd} {S : List (List UInt8)} {va vb : Value} (h : RrW W R0 B L S va vb (.slice (some ⟨g6, 0, none⟩) S.length c6)) : ∀ k (hk : k < S.length), W.cell? ⟨g6, k, none⟩ = some (.string (str S[k])) := by
  intro k hk
  have f : (txs S)[k]? = some (.string (str S[k])) := by simp [txs, hk]
  exact (h.f6.cellAt k (by omega)).trans f
/-- Behind both appends, and the stores of both fields. -/
theorem rr_two {X X4 : World} {R0 B d ga ca gb cb : Nat} {L : Fnd} {S' : List (List UInt8)} {vb v6' : Value} {y : List UInt8} (hbox : X.heap[B]? = some (.cells #[.slice (some ⟨ga, 0, none⟩) (L.length + 1) ca, vb] rrT (0, 0))) (hlow : R0 ≤ B)
    (hla : X.ownsRow R0 9 1 (.slice (some ⟨ga, 0, none⟩) (L.length + 1) ca) (L.length + 1) (txs (keysF L) ++ [.string (str y)])) (hlb : X.ownsRow R0 3 1 vb L.length (nus (depF L)))
    (hf6 : X.ownsRow R0 9 1 v6' S'.length (txs S')) (hap : v6'.ownBlock ≠ some ga) (hsne : S' ≠ []) (hri : Rising S') (hme : ∀ x, x ∈ S' ↔ x ∈ keysF L ∨ x = y) (o : Obj)
    (hg : (X.alloc o).grownBy X4 vb.ownBlock) (h4 : X4.ownsRow R0 3 1 (.slice (some ⟨gb, 0, none⟩) (L.length + 1) cb) (L.length + 1) (nus (depF L) ++ [.int .i64 (d : Int)])) :
    X4.heap[B]? = some (.cells #[.slice (some ⟨ga, 0, none⟩) (L.length + 1) ca, vb] rrT (0, 0)) ∧
      RrW (X4.setCell ⟨B, 1, none⟩ (.slice (some ⟨gb, 0, none⟩) (L.length + 1) cb)) R0 B (L ++ [(y, d)]) S' (.slice (some ⟨ga, 0, none⟩) (L.length + 1) ca) (.slice (some ⟨gb, 0, none⟩) (L.length + 1) cb) v6' := by
  have hlt := (Array.getElem?_eq_some_iff.1 hbox).1
  have hBb := own_ne_cells hlb hbox T_int
  have b4 : X4.heap[B]? = some (.cells #[.slice (some ⟨ga, 0, none⟩) (L.length + 1) ca, vb] rrT (0, 0)) := by
    rw [hg.block B (by simp; omega) (fun e => hBb e.symm), Below.heap_alloc _ _ _ hlt]; exact hbox
  have ka := (hla.alloc o).kept hg (by
    rcases rows_apart hla hlb T_si with h | h
    · exact .inl h
    · exact .inr h)
  have k6 := (hf6.alloc o).kept hg (by
    rcases rows_apart hf6 hlb T_si with h | h
    · exact .inl h
    · exact .inr h)
  have n4 := own_ne_cells h4 b4 T_int
  refine ⟨b4, ⟨set_box1 b4, hlow, ?_, ?_, own_setB k6 (own_ne_cells k6 b4 T_str) 1 _, hap, hsne, hri, fun x => ?_⟩⟩
  · have e : txs (keysF (L ++ [(y, d)])) = txs (keysF L) ++ [.string (str y)] := by rw [keysF_app, txs_app]; rfl
    rw [e, List.length_append]
    exact own_setB ka (own_ne_cells ka b4 T_str) 1 _
  · have e : nus (depF (L ++ [(y, d)])) = nus (depF L) ++ [.int .i64 (d : Int)] := by rw [depF_app, nus_app]; rfl
    rw [e, List.length_append]
    exact own_setB h4 n4 1 _
  · rw [hme, keysF_app, List.mem_append]
    simp [keysF]

set_option maxRecDepth 100000 in
set_option maxHeartbeats 16000000 in
theorem ruReach_any (n : Nat) (o b l : Bool) (wl : List UInt8) (w : World) (hg : goodT n wl) :
    Calls Try.prog 75 #[.string (str wl), ruV o b l] w (RrPost o b l wl w) := by
  obtain ⟨i0, hi, hz0, hz1, hz2⟩ := info_parts Try.infoS
  have HI := Lib.hid hi
  have HZ0 := Lib.hid hz0
  have HZ1 := Lib.hid hz1
  have HZ2 := Lib.hid hz2
  clear hi hz0 hz1 hz2
  obtain ⟨iN, hi, hz0, hz1, hz2⟩ := info_parts Try.infoN
  have HIN := Lib.hid hi
  have HZN0 := Lib.hid hz0
  have HZN1 := Lib.hid hz1
  have HZN2 := Lib.hid hz2
  clear hi hz0 hz1 hz2
  have HEND := Lib.hid (fun k (h : (bfsAt (nxR o b l) wl k).length = k) => bfs_end o b l hg h)
  have HFND := Lib.hid (fun k => found_R o b l hg k)
  have HNX := Lib.hid (fun k (h : k < (bfsAt (nxR o b l) wl k).length) => bfsAt_next h)
  have HG := Lib.hid hg
  clear hg
  go_enter Try.func75, Try.ntmps75
  go_wp2
  obtain ⟨B, hBd⟩ : ∃ B, B = w.heap.size + 1 + 1 + 1 + 1 := ⟨_, rfl⟩
  rw [← hBd]
  obtain ⟨W2, hW2⟩ : ∃ W2, W2 = (w.alloc (ruO o b l)).alloc (Obj.cells #[.slice none 0 0, .slice none 0 0] rrT) := ⟨_, rfl⟩
  rw [← hW2]
  have hz2 : W2.heap.size = w.heap.size + 2 := by rw [hW2]; simp
  have HST := Lib.hid (rrW_start W2 (wl := wl) (w.heap.size + 1 + 1) (w.heap.size + 1 + 1 + 1) B (B + 1) (by omega) (by omega) (by omega) (by omega))
  have HBW2 : Hid (Below w.heap.size w W2) := Lib.hid (by rw [hW2]; exact ((Below.refl _ _).alloc (Nat.le_refl _) _).alloc (by simp) _)
  have HX2 : Hid (RuBx W2 w.heap.size o b l) := Lib.hid (by rw [hW2]; exact (RuBx.new w o b l 27).below ((Below.refl _ _).alloc (Nat.le_refl _) _))
  have HRB : Hid (W2.heap[w.heap.size + 1]? = some (.cells #[.slice none 0 0, .slice none 0 0] rrT (0, 0))) := Lib.hid (by
    rw [hW2]
    have e : w.heap.size + 1 = (w.alloc (ruO o b l)).heap.size := by simp
    rw [e]
    exact heap_alloc_new _ _)
  have hzl : W2.heap.size ≤ w.heap.size + 2 := by omega
  have hzg : w.heap.size + 2 ≤ W2.heap.size := by omega
  have HBD := Lib.hid hBd
  clear hW2 hz2 hBd
  go_loopw [6, 7] (fun v6 t wr => ∃ (k : Nat) (S : List (List UInt8)) (va vb : Value), k ≤ (bfsAt (nxR o b l) wl k).length ∧ t = .int .i64 k ∧ RrW wr W2.heap.size B (bfsAt (nxR o b l) wl k) S va vb v6 ∧ FnG n (bfsAt (nxR o b l) wl k) ∧ Below W2.heap.size W2 wr) (fun _ t _ => 60000 - (intOf t).toNat)
  case atStart => exact ⟨0, [wl], _, _, Nat.zero_le _, rfl, HST.out.1, FnG.start HG.out, HST.out.2⟩
  case round =>
    obtain ⟨k, S, va, vb, hk, rfl, hrr, hfn, hB⟩ := hrel
    obtain ⟨W, hW⟩ : ∃ W : World, W = wr := ⟨_, rfl⟩
    subst hW
    clear HST
    have hlen := hfn.len
    have HE := Lib.hid (HEND.out k)
    have HN := Lib.hid (HNX.out k)
    have HF := Lib.hid (HFND.out k)
    have hne : bfsAt (nxR o b l) wl k ≠ [] := by
      intro e
      have h1 := hrr.me
      rw [e] at h1
      obtain ⟨x, hx⟩ := List.exists_mem_of_ne_nil _ hrr.sne
      have := (h1 x).1 hx
      simp [keysF] at this
    obtain ⟨L1, hL1⟩ : ∃ L1, bfsAt (nxR o b l) wl (k + 1) = L1 := ⟨_, rfl⟩
    have HL1 := Lib.hid hL1
    rw [hL1] at HN
    clear hL1
    obtain ⟨L, hL⟩ : ∃ L, bfsAt (nxR o b l) wl k = L := ⟨_, rfl⟩
    have HFIN : Hid (k = L.length → L = bfsL (nxR o b l) wl) := Lib.hid (fun e => by have := HE.out (by rw [hL, e]); rwa [hL] at this)
    rw [hL] at hrr hlen HN HF hk hfn hne
    clear hL HE
    obtain ⟨ga, ca, gb, cb, g6, c6, rfl, rfl, rfl, a1, a2, b1, b2, s1, s2, s3, s4⟩ := hrr.forms hne
    obtain ⟨y0, y1, yf0, yf1⟩ := box_cells hrr.box
    by_cases hlt : k < L.length
    · have HN := Lib.hid (HN.out hlt)
      have hgx := hfn.gd L[k].1 (List.mem_map_of_mem (List.getElem_mem hlt))
      have hdx := HF.out.deep L[k] (List.getElem_mem hlt)
      have HAT : Hid (L[k]? = some L[k]) := Lib.hid (List.getElem?_eq_getElem hlt)
      obtain ⟨x, hx⟩ : ∃ x, x = L[k].1 := ⟨_, rfl⟩
      obtain ⟨d, hd⟩ : ∃ d, d = L[k].2 := ⟨_, rfl⟩
      have HP : Hid (L[k] = (x, d)) := Lib.hid (by rw [hx, hd])
      rw [← hx] at hgx
      rw [← hx, ← hd] at HN
      rw [← hd] at hdx
      rw [HP.out] at HAT
      clear hx hd HP
      have hgl : goodL (str x) = true := hgx.1
      have hxl : x.length ≤ 10 := by have := hgx.2; omega
      have hline := rrCell hrr.la HAT.out
      have hbx := HX2.out.below hB
      obtain ⟨z0, q0, q1, q2⟩ := hbx
      have hl1 : (k : Int) < (L.length : Int) := by omega
      have hlB := hrr.lt
      have HRR := Lib.hid hrr
      have HBW := Lib.hid hB
      have HFN := Lib.hid hfn
      clear hrr hB hfn
      go_wp2
      go_region_held3 (fun w' => w'.cell? ⟨B, 0, none⟩ = some (.slice (some ⟨ga, 0, none⟩) L.length ca) ∧ w'.cell? ⟨ga, k, none⟩ = some (.string (str x)) ∧ w'.cell? ⟨w.heap.size, 0, none⟩ = some (.bool o) ∧ w'.cell? ⟨w.heap.size, 1, none⟩ = some (.bool b) ∧ w'.cell? ⟨w.heap.size, 2, none⟩ = some (.bool l)) (first | exact ⟨y0, hline, q0, q1, q2⟩ | exact ⟨(hb2.cell hlB).trans y0, (hb2.cell a2).trans hline, (hb2.cell z0).trans q0, (hb2.cell z0).trans q1, (hb2.cell z0).trans q2⟩) (first | (go_at_call 57; refine (ruMoves_any (str x) o b l _ hgl).mono ?_; rintro e w2 ⟨v2, rfl, ho2, hb2⟩; obtain ⟨A2, cap2, rfl, at2⟩ := at_of_own ho2))
      have hb2w : Below W.heap.size W w2 := (Below.drew (Below.refl W.heap.size W)).trans hb2
      have HRR2 := Lib.hid (HRR.out.below hb2w)
      have HB2 := Lib.hid (HBW.out.trans (hb2w.mono HBW.out.size))
      have AT2 := Lib.hid at2
      have HA2 : Hid (∀ a, A2 = some a → W.heap.size ≤ a.block) := Lib.hid fun a e => (ho2.lt a.block (by rw [e]; rfl)).1
      have HLEN2 : Hid ((nxR o b l x).length = (ruTo (str x) o b l (str x).size).length) := Lib.hid (nxR_len o b l x)
      have hNle : (ruTo (str x) o b l (str x).size).length ≤ 1000 := by
        have h1 := ruTo_le (str x) o b l (str x).size
        have h2 : (str x).size ≤ 10 := by rw [str_size]; exact hxl
        have : (str x).size * (str x).size ≤ 10 * 10 := Nat.mul_le_mul h2 h2
        omega
      have HYS : Hid (∀ i (h : i < (ruTo (str x) o b l (str x).size).length), ∃ a c : Nat, (ruTo (str x) o b l (str x).size)[i] = ((a : Int), (c : Int)) ∧ a < (str x).size ∧ c < (str x).size ∧ a ≠ c ∧ (nxR o b l x)[i]? = some (putL (str x) a c)) := Lib.hid fun i h => by
        obtain ⟨a, c, e1, e2, h1, h2, h3⟩ := rrMv h
        refine ⟨a, c, Prod.ext e1 e2, h1, h2, h3, ?_⟩
        unfold nxR
        rw [List.getElem?_map, List.getElem?_eq_getElem h]
        simp only [Option.map_some]
        rw [show behind (str x) _ _ = putL (str x) a c by rw [e1, e2]; rfl]
      have HGY : Hid (∀ y, y ∈ nxR o b l x → goodT n y) := Lib.hid fun y hy => nxR_good hgx hy
      have hx1000 : (str x).size ≤ 1000 := by rw [str_size]; omega
      generalize ruTo (str x) o b l (str x).size = N at at2 AT2 HLEN2 HYS hNle ho2 ⊢
      have HGA := Lib.hid a2
      have HGB := Lib.hid b2
      have HLB := Lib.hid hlB
      clear at2 ho2 hb2 hb2w HRR HBW q0 q1 q2 hline z0 y0 y1 yf0 yf1 a1 a2 b1 b2 s1 s2 s3 s4 hlB
      rename_i hHeld
      clear hHeld
      go_wp2
      go_loopw [6, 33] (fun v6 t wr => ∃ (i : Nat) (S : List (List UInt8)) (va vb : Value), i ≤ N.length ∧ t = .int .i64 i ∧ RrW wr W2.heap.size B (bfsIn (d + 1) L ((nxR o b l x).take i)) S va vb v6 ∧ FnG n (bfsIn (d + 1) L ((nxR o b l x).take i)) ∧ MvAt wr A2 N ∧ (∀ a, A2 = some a → va.ownBlock ≠ some a.block ∧ vb.ownBlock ≠ some a.block ∧ a.block ≠ B) ∧ Below W2.heap.size W2 wr) (fun _ t _ => N.length - (intOf t).toNat)
      case atStart =>
        refine ⟨0, S, _, _, Nat.zero_le _, rfl, by rw [List.take_zero, bfsIn_nil]; exact HRR2.out, by rw [List.take_zero, bfsIn_nil]; exact HFN.out, AT2.out, fun a e => ⟨fun e2 => ?_, fun e2 => ?_, fun e2 => ?_⟩, HB2.out⟩
        · have h1 := HA2.out a e
          injection e2 with e2
          have e2 : ga = a.block := e2
          have := HGA.out
          omega
        · have h1 := HA2.out a e
          injection e2 with e2
          have e2 : gb = a.block := e2
          have := HGB.out
          omega
        · have h1 := HA2.out a e
          have := HLB.out
          omega
      case round =>
        obtain ⟨i, Si, va, vb, hi, rfl, hrr, hfn, hmv, hap, hB⟩ := hrel
        obtain ⟨V, hV⟩ : ∃ V : World, V = wr := ⟨_, rfl⟩
        subst hV
        clear HRR2 HB2 AT2
        by_cases hlti : i < N.length
        · obtain ⟨a, c, hac, ha, hc, hnac, hy⟩ := HYS.out i hlti
          have hyl : i < (nxR o b l x).length := by rw [HLEN2.out]; exact hlti
          have hye : (nxR o b l x)[i] = putL (str x) a c := by rw [List.getElem?_eq_getElem hyl] at hy; injection hy
          have HSTP : Hid (bfsIn (d + 1) L ((nxR o b l x).take (i + 1)) = bfsOne (d + 1) (bfsIn (d + 1) L ((nxR o b l x).take i)) (putL (str x) a c)) := Lib.hid (by rw [bfsIn_next _ _ _ _ hyl, hye])
          have hgy := HGY.out (putL (str x) a c) (by rw [← hye]; exact List.getElem_mem hyl)
          obtain ⟨gm, hgm, hml, m0, m1⟩ := hmv i hlti
          rw [hac] at m0 m1
          obtain ⟨hp1, hp2, hp3⟩ := rr_at (d := d + 1) (xs := (nxR o b l x).take i) HAT.out
          have hneL : bfsIn (d + 1) L ((nxR o b l x).take i) ≠ [] := List.ne_nil_of_mem hp2
          have hlen' := hfn.len
          have hSl : Si.length ≤ 59049 := few_good (rising_nodup hrr.ri) fun z hz => hfn.gd z ((hrr.me z).1 hz)
          generalize bfsIn (d + 1) L ((nxR o b l x).take i) = L' at hrr hfn HSTP hp1 hp2 hp3 hlen' hneL
          obtain ⟨ga, ca, gb, cb, g6, c6, rfl, rfl, rfl, a1, a2, b1, b2, s1, s2, s3, s4⟩ := hrr.forms hneL
          have hline := rrCell hrr.la hp1
          have HP1 := Lib.hid hp1
          obtain ⟨y0, y1, yf0, yf1⟩ := box_cells hrr.box
          have hl1 : (k : Int) < (L'.length : Int) := by omega
          have hlB := hrr.lt
          have HS6 := Lib.hid (rr_cells6 hrr)
          have HRI := Lib.hid hrr.ri
          have HSNE := Lib.hid hrr.sne
          have HME := Lib.hid hrr.me
          have HRR := Lib.hid hrr
          have HFN' := Lib.hid hfn
          have HMV := Lib.hid hmv
          have HAP := Lib.hid hap
          have HB := Lib.hid hB
          clear hac hyl hye hy hp1 hp2 hrr hfn hmv hap hB yf0 yf1 y1
          subst hgm
          have HHB : Hid (∃ V1, V1 = V.alloc (mvB a c)) := Lib.hid ⟨_, rfl⟩
          go_wp2
          obtain ⟨V1, hV1⟩ := HHB.out
          rw [← hV1]
          have d0 : V1.cell? ⟨V.heap.size, 0, none⟩ = some (.int .i64 a) := by rw [hV1, World.cell?_alloc_new]; rfl
          have d1 : V1.cell? ⟨V.heap.size, 1, none⟩ = some (.int .i64 c) := by rw [hV1, World.cell?_alloc_new]; rfl
          have d2 : V1.cell? ⟨ga, k, none⟩ = some (.string (str x)) := by rw [hV1, cell_below _ _ _ _ a2]; exact hline
          have d3 : V1.cell? ⟨B, 0, none⟩ = some (.slice (some ⟨ga, 0, none⟩) L'.length ca) := by rw [hV1, cell_below _ _ _ _ hlB]; exact y0
          have z1 : V.heap.size < V1.heap.size := by rw [hV1]; simp
          have z2 : ga < V1.heap.size := by omega
          have z3 : B < V1.heap.size := by omega
          have HBV : Hid (Below V.heap.size V V1) := Lib.hid (by rw [hV1]; exact (Below.refl _ _).alloc (Nat.le_refl _) _)
          have HML := Lib.hid hml
          clear hV1 HHB m0 m1 hline hml y0
          go_region_held3 (fun w' => w'.cell? ⟨V.heap.size, 0, none⟩ = some (.int .i64 a) ∧ w'.cell? ⟨V.heap.size, 1, none⟩ = some (.int .i64 c) ∧ w'.cell? ⟨ga, k, none⟩ = some (.string (str x)) ∧ w'.cell? ⟨B, 0, none⟩ = some (.slice (some ⟨ga, 0, none⟩) L'.length ca)) (first | exact ⟨d0, d1, d2, d3⟩ | exact ⟨(hb4.cell z1).trans d0, (hb4.cell z1).trans d1, (hb4.cell z2).trans d2, (hb4.cell z3).trans d3⟩) (first | (go_at_call 64; refine (liMake_any (str x) a c _ hx1000 ha hc hnac).mono ?_; rintro e w4 ⟨rfl, hb4⟩))
          have hbv : Below V.heap.size V w4 := HBV.out.trans (((Below.drew (Below.refl V1.heap.size V1)).trans hb4).mono HBV.out.size)
          have HRR4 := Lib.hid (HRR.out.below hbv)
          have HMV4 := Lib.hid (HMV.out.below hbv)
          have HB4 := Lib.hid (HB.out.trans (hbv.mono HB.out.size))
          have HVS : Hid (V.heap.size ≤ w4.heap.size) := Lib.hid hbv.size
          have hc6 := Lib.hid (rr_cells6 HRR4.out)
          have hg6 : g6 < w4.heap.size := by have := HVS.out; omega
          rename_i hHeld
          clear hHeld hb4 hbv HRR HMV HB HBV d0 d1 d2 d3 z1 z2 z3 HS6
          generalize putL (str x) a c = y at hgy HSTP ⊢
          go_wp2_with fail
          refine (reAddF_any Si y g6 c6 _ HRI.out HSNE.out s3 s4 hg6 hc6.out (by omega)).mono ?_
          rintro e w5 ⟨v6', rfl, hcase, hb5⟩
          rcases hcase with ⟨hins, rfl⟩ | ⟨hinsl, ho6⟩
          · have hin : y ∈ Si := by have := (mem_ins y y Si).2 (.inl rfl); rwa [hins] at this
            have HR : Hid (bfsIn (d + 1) L ((nxR o b l x).take (i + 1)) = L') := Lib.hid (by rw [HSTP.out, rrOne_yes ((HME.out y).1 hin)])
            have HRR5 := Lib.hid (HRR4.out.below hb5)
            have HMV5 := Lib.hid (HMV4.out.below hb5)
            have HB5 := Lib.hid (HB4.out.trans (hb5.mono HB4.out.size))
            clear hin hins hb5
            go_wp2
            go_roundw
            case rel => exact ⟨i + 1, Si, _, _, by omega, by go_num, by rw [HR.out]; exact HRR5.out, by rw [HR.out]; exact HFN'.out, HMV5.out, HAP.out, HB5.out⟩
            case measure => simp [intOf]; omega
          · have hnin : y ∉ Si := fun h => by
              have h2 : ∀ z, z ∈ ins y Si ↔ z ∈ Si := fun z => by
                rw [mem_ins]
                exact ⟨fun h3 => h3.elim (fun e => e ▸ h) id, .inr⟩
              have h3 := rising_ext (ins_rising y Si HRI.out) HRI.out h2
              rw [h3] at hinsl
              omega
            have HR : Hid (bfsIn (d + 1) L ((nxR o b l x).take (i + 1)) = L' ++ [(y, d + 1)]) := Lib.hid (by rw [HSTP.out, rrOne_no (fun h => hnin ((HME.out y).2 h))])
            have HME2 : Hid (∀ z, z ∈ ins y Si ↔ z ∈ keysF L' ∨ z = y) := Lib.hid (fun z => by rw [mem_ins, HME.out z]; exact Or.comm)
            have HRI2 := Lib.hid (ins_rising y Si HRI.out)
            have hins0 : ins y Si ≠ [] := fun e => by rw [e] at hinsl; simp at hinsl
            have HINS := Lib.hid hins0
            have hleq : (((ins y Si).length : Int) == (Si.length : Int)) = false := by rw [hinsl]; simp; omega
            have HYN : Hid (y ∉ keysF L') := Lib.hid (fun h => hnin ((HME.out y).2 h))
            obtain ⟨g6', c6', rfl, _, _⟩ := ho6.form (List.length_pos_iff.2 hins0)
            have HO6 := Lib.hid ho6
            have HB5' := Lib.hid hb5
            have HRR5 := Lib.hid (HRR4.out.below hb5)
            have HMV5 := Lib.hid (HMV4.out.below hb5)
            have HB5 := Lib.hid (HB4.out.trans (hb5.mono HB4.out.size))
            have hla5 := HRR5.out.la
            obtain ⟨p0, p1, pf0, pf1⟩ := box_cells HRR5.out.box
            have hw5 : W2.heap.size ≤ w5.heap.size := HB5.out.size
            have hln' : L'.length + 1 ≤ maxLen := by unfold maxLen; omega
            have hln2 : (L'.length + 1) * 16 ≤ 140737488355328 := by omega
            have hln3 : (L'.length + 1) * 8 ≤ 140737488355328 := by omega
            clear hins0 hnin hinsl ho6 hb5
            generalize ins y Si = S2 at HME2 HRI2 HINS hleq HO6 ⊢
            go_wp2_with (first
              | (at_builtin; refine wpList_append_lies _ rfl _ _ 77 rfl W2.heap.size 9 i0 (.string ByteArray.empty) 1 16 Try.underlying77 HI.out HZ0.out HZ1.out HZ2.out rfl (by decide) _ L'.length _ rfl (hla5.alloc _) ⟨w5.heap.size, 0, none⟩ 1 1 [.string (str y)] rfl rfl (cell_one_at _ _ (by simp) _ _) (fun u hu => by simp at hu; subst hu; rfl) (by decide) hln' hln2 (by simp <;> omega) _ rfl ?_; intro ga2 ca2 w6 hrow6 hg6w hat6 hlt6; obtain ⟨b6, box7, la7, lb7, f67, n67⟩ := rr_one HRR4.out _ HB5'.out HO6.out HINS.out hg6w hrow6 hat6; obtain ⟨p20, p21, pf20, pf21⟩ := box_cells b6))
            obtain ⟨X, hX⟩ : ∃ X, X = w6.setCell ⟨B, 0, none⟩ (.slice (some ⟨ga2, 0, none⟩) (L'.length + 1) ca2) := ⟨_, rfl⟩
            have hrowB : W2.heap.size ≤ B := HRR4.out.low
            have hXg : ∀ b, b ≠ B → X.heap[b]? = w6.heap[b]? := fun b hb => by rw [hX]; exact Below.heap_setCell _ _ _ b hb
            have hXs : X.heap.size = w6.heap.size := by rw [hX]; simp
            have HB7 : Hid (Below W2.heap.size W2 X) := Lib.hid (by rw [hX]; exact ((HB5.out.alloc hw5 (Obj.cells #[.string (str y)] 9)).grown hg6w (by simp; omega) (fun j hj => by have := (hla5.lt j hj).1; omega)).setCell hrowB _)
            rw [← hX] at box7 la7 lb7 f67 ⊢
            obtain ⟨r0, r1, rf0, rf1⟩ := box_cells box7
            have hstep := rrCellI lb7 HP1.out
            have hBX : B < X.heap.size := (Array.getElem?_eq_some_iff.1 box7).1
            have r1a := (cell_below X (Obj.cells #[.int .i64 ((d : Int) + 1)] 3) B 1 hBX).trans r1
            have r1b : ((X.alloc (Obj.cells #[.int .i64 ((d : Int) + 1)] 3)).drew).cell? ⟨B, 1, none⟩ = some (.slice (some ⟨gb, 0, none⟩) L'.length cb) := r1a
            have HBOX7 := Lib.hid box7
            have HLA7 := Lib.hid la7
            have HLB7 := Lib.hid lb7
            have HF67 := Lib.hid f67
            have HXG := Lib.hid hXg
            have HXS := Lib.hid hXs
            have HG6 := Lib.hid hg6w
            have HAT6 : Hid (some ga = some ga2 ∨ ga2 = w5.heap.size + 1) := Lib.hid (by
              rcases hat6 with h | h
              · exact .inl h
              · exact .inr (by simpa using h))
            have hwd : IntKind.i64.wrap ((d : Int) + 1) = (d : Int) + 1 := by rw [IntKind.wrap_i64]; omega
            have hdd : (0 : Int) ≤ (d : Int) := by omega
            have hdd2 : (d : Int) ≤ 60000 := by omega
            have hX2 : W2.heap.size ≤ X.heap.size := HB7.out.size
            clear hX hXg hXs box7 la7 lb7 f67 b6 p0 p1 pf0 pf1 p20 p21 pf20 pf21 hla5 hrow6 hg6w hat6
            go_region_law (first | (refine step_append_lies _ rfl _ _ 78 rfl W2.heap.size 3 iN (.int .i64 0) 1 8 Try.underlying78 HIN.out HZN0.out HZN1.out HZN2.out rfl (by decide) _ L'.length _ rfl (show ((X.alloc (Obj.cells #[.int .i64 ((d : Int) + 1)] 3)).drew).ownsRow W2.heap.size 3 1 (.slice (some ⟨gb, 0, none⟩) L'.length cb) L'.length (nus (depF L')) from HLB7.out.alloc _) ⟨X.heap.size, 0, none⟩ 1 1 [.int .i64 ((d : Int) + 1)] rfl rfl (fun j u h => cell_one_at X X.heap.size rfl (.int .i64 ((d : Int) + 1)) 3 j u h) (fun u hu => by simp at hu; subst hu; rfl) (by decide) hln' hln3 (by simp <;> omega) _ rfl ?_; intro gb2 cb2 w8 hrow8 hg8 hat8 hlt8; obtain ⟨b8, hrr8⟩ := rr_two HBOX7.out HRR4.out.low HLA7.out HLB7.out HF67.out n67 HINS.out HRI2.out HME2.out (Obj.cells #[.int .i64 ((d : Int) + 1)] 3) ⟨hg8.os, hg8.tape, hg8.output, hg8.size, hg8.block⟩ hrow8; obtain ⟨p80, p81, pf80, pf81⟩ := box_cells b8))
            all_goals
              rename_i hHeld0
              have HRR8 := Lib.hid hrr8
              have hgx : (X.alloc (Obj.cells #[.int .i64 ((d : Int) + 1)] 3)).grownBy w8 (Value.slice (some ⟨gb, 0, none⟩) L'.length cb).ownBlock := ⟨hg8.os, hg8.tape, hg8.output, hg8.size, hg8.block⟩
              have HB8 : Hid (Below W2.heap.size W2 (w8.setCell ⟨B, 1, none⟩ (.slice (some ⟨gb2, 0, none⟩) (L'.length + 1) cb2))) := Lib.hid (((HB7.out.alloc hX2 (Obj.cells #[.int .i64 ((d : Int) + 1)] 3)).grown hgx (by simp; omega) (fun j hj => by have := (HLB7.out.lt j hj).1; omega)).setCell hrowB _)
              have hs5 := HVS.out
              have hml5 := HML.out
              have hz5 := HB5'.out.size
              have hz6 := HG6.out.size
              have hz8 := hgx.size
              have hat8' : some gb = some gb2 ∨ gb2 = X.heap.size + 1 := by
                rcases hat8 with h | h
                · exact .inl h
                · exact .inr (by simpa using h)
              have HMV8 : Hid (MvAt (w8.setCell ⟨B, 1, none⟩ (.slice (some ⟨gb2, 0, none⟩) (L'.length + 1) cb2)) (some ⟨gm, 0, none⟩) N) := Lib.hid (mvAt_same HMV5.out (by simp at hz6 hz8 ⊢; have := HXS.out; omega) (fun a0 e => by
                obtain ⟨n1, n2, n3⟩ := HAP.out a0 e
                injection e with e
                subst e
                rw [Below.heap_setCell _ _ _ _ (fun e => n3 e), hgx.block _ (by simp; have := HXS.out; simp at hz6; omega) (fun e => n2 e.symm), Below.heap_alloc _ _ _ (by have := HXS.out; simp at hz6; show gm < _; omega), HXG.out _ n3, HG6.out.block _ (by simp; omega) (fun e => n1 e.symm), Below.heap_alloc _ _ _ (by show gm < _; omega)]))
              have HAP8 : Hid (∀ a0 : Addr, some (⟨gm, 0, none⟩ : Addr) = some a0 → (Value.slice (some ⟨ga2, 0, none⟩) (L'.length + 1) ca2).ownBlock ≠ some a0.block ∧ (Value.slice (some ⟨gb2, 0, none⟩) (L'.length + 1) cb2).ownBlock ≠ some a0.block ∧ a0.block ≠ B) := Lib.hid (fun a0 e => by
                obtain ⟨n1, n2, n3⟩ := HAP.out a0 e
                injection e with e
                subst e
                refine ⟨fun e2 => ?_, fun e2 => ?_, n3⟩
                · rcases HAT6.out with h | h
                  · exact n1 (h.trans e2)
                  · injection e2 with e2
                    have e2 : ga2 = gm := e2
                    omega
                · rcases hat8' with h | h
                  · exact n2 (h.trans e2)
                  · injection e2 with e2
                    have e2 : gb2 = gm := e2
                    have := HXS.out
                    simp at hz6
                    omega)
              clear hrr8 hrow8 hg8 hat8 hlt8 b8 p80 p81 pf80 pf81 hgx hat8' hs5 hml5 hz5 hz6 hz8 r0 r1 r1a r1b rf0 rf1 hstep
              go_wp2
              go_roundw
              case rel => exact ⟨i + 1, S2, _, _, by omega, by go_num, by rw [HR.out]; exact HRR8.out, by rw [HR.out]; exact HFN'.out.more HYN.out hgy (by omega), HMV8.out, HAP8.out, HB8.out⟩
              case measure => simp [intOf]; omega
        · have HE : Hid (bfsIn (d + 1) L ((nxR o b l x).take i) = L1) := Lib.hid (by rw [HN.out, List.take_of_length_le (by rw [HLEN2.out]; omega)])
          rw [HE.out] at hrr hfn
          have HRR := Lib.hid hrr
          have HFNE := Lib.hid hfn
          clear hrr hfn hmv hap
          have hk1 : k + 1 ≤ L1.length := by
            obtain ⟨M, e, _⟩ := pre_bfsIn (d + 1) (nxR o b l x) L
            rw [HN.out, e, List.length_append]
            omega
          go_wp2
          go_roundw
          case rel => exact ⟨k + 1, Si, va, vb, by rw [HL1.out]; exact hk1, by go_num, by rw [HL1.out]; exact HRR.out, by rw [HL1.out]; exact HFNE.out, hB⟩
          case measure => simp [intOf]; omega
    · have e : k = L.length := by omega
      have HFIN := Lib.hid (HFIN.out e)
      have hnl : ¬ ((k : Int) < (L.length : Int)) := by omega
      have HRR := Lib.hid hrr
      have h80 : W.heap[w.heap.size + 1]? = some (.cells #[.slice none 0 0, .slice none 0 0] rrT (0, 0)) := (hB.block (w.heap.size + 1) (by omega)).trans HRB.out
      obtain ⟨u0, u1, uf0, uf1⟩ := box_cells h80
      have HBB := Lib.hid hB
      have HLA := Lib.hid HRR.out.la
      have HLB := Lib.hid HRR.out.lb
      have H80 := Lib.hid h80
      clear hrr h80 hB
      go_wp2
      have la1 := own_setB HLA.out (own_ne_cells HLA.out H80.out T_str) 0 (.slice (some ⟨ga, 0, none⟩) L.length ca)
      have lb1 := own_setB HLB.out (own_ne_cells HLB.out H80.out T_int) 0 (.slice (some ⟨ga, 0, none⟩) L.length ca)
      have box1 := set_box0 (u := .slice (some ⟨ga, 0, none⟩) L.length ca) H80.out
      have la2 := own_setB la1 (own_ne_cells la1 box1 T_str) 1 (.slice (some ⟨gb, 0, none⟩) L.length cb)
      have lb2 := own_setB lb1 (own_ne_cells lb1 box1 T_int) 1 (.slice (some ⟨gb, 0, none⟩) L.length cb)
      obtain ⟨t0, t1, _, _⟩ := box_cells (set_box1 (u := .slice (some ⟨gb, 0, none⟩) L.length cb) box1)
      have hBF : Below w.heap.size w ((W.setCell ⟨w.heap.size + 1, 0, none⟩ (.slice (some ⟨ga, 0, none⟩) L.length ca)).setCell ⟨w.heap.size + 1, 1, none⟩ (.slice (some ⟨gb, 0, none⟩) L.length cb)) := ((HBW2.out.trans (HBB.out.mono HBW2.out.size)).setCell (by simp) _).setCell (by simp) _
      obtain ⟨WF, hWF⟩ : ∃ WF, WF = (W.setCell ⟨w.heap.size + 1, 0, none⟩ (.slice (some ⟨ga, 0, none⟩) L.length ca)).setCell ⟨w.heap.size + 1, 1, none⟩ (.slice (some ⟨gb, 0, none⟩) L.length cb) := ⟨_, rfl⟩
      rw [← hWF] at la2 lb2 t0 t1 hBF ⊢
      refine bodyPost_ret (v := .agg #[.slice (some ⟨ga, 0, none⟩) L.length ca, .slice (some ⟨gb, 0, none⟩) L.length cb]) (by simp [results, Try.results75, go_sem, t0, t1]) rfl ?_
      rw [HFIN.out] at la2 lb2 ⊢
      exact ⟨_, _, rfl, own_base la2 (by omega), own_base lb2 (by omega), hBF⟩
end Go.Proofs.Ytcndlfoodbmgbaa
