/- Contract: search in breadth, the program's. -/
import Derived.Test.YtdcbjbmnkajjcaaRuG
import Derived.Test.YtdcbjbmnkajjcaaArrA
import Derived.Test.YtdcbjbmnkajjcaaSl
import Derived.Deep.AppendLies
import Derived.WalkMore
import Derived.StringKeys
namespace Go.Proofs.Ytdcbjbmnkajjcaa
open Go.RowKit Go.Maps

theorem zeroIn (w : World) : (zeroValue 3).run Try.prog w = .ok (.int .i64 0) w := by kernel_rfl
theorem keyS {x : List UInt8} (h : x.length ≤ maxLen) : keyOf Try.prog 9 (.string (str x)) = some (.string x) := WideMaps.keyOf_string_mk Try.underlying9 (by rw [str_size]; exact h)
theorem intR_n (n : Nat) (h : n ≤ 1000000) : intR (.int .i64 (n : Int)) = some (.lit (.int .i64 (n : Int)), []) := by
  have := intR_mk n
  rwa [wr_small n (by omega)] at this
/-- An entry of a map's literal, at the operation. -/
theorem wpList_insert_r {P : Program} (w : World) {ops : Array Oper} {rest : List Oper} {o : Oper} {a : Act} {Q : Exit → Act → World → Prop}
    (hg : o.guard = none) (m x v : Operand) (t : TypeId) (hop : o.op = Op.insert t m x v)
    (k e : TypeId) (K : Keyed P k) (ht : P.underlying t = some (.map k e)) (R : Value → Option (DataW Unit × List MemPlace)) (b n : Nat) (D : DataW Unit)
    (hm : a.eval m = .map (some b)) (hown : w.ownsMap P k R b n D) (hn : n < maxLen) (key val : Value) (kl : Lit) (hx : a.eval x = key) (hv : a.eval v = val) (hkey : keyOf P k key = some kl)
    (d : DataW Unit) (ps : List MemPlace) (hval : R val = some (d, ps))
    (hK : ∀ w', w'.ownsMap P k R b (n + 1) (D.put kl d) → w.grownBy w' (some b) → wpList P ops Q rest (a.put o.dst undef) w') :
    wpList P ops Q (o :: rest) a w := by
  refine wpList_plain hg fun K' hK' => ?_
  obtain ⟨w', hrun, r1, r2⟩ := hown.update K ht hn hkey hval
  unfold Oper.wp
  simp [execOp, hop, hm, hx, hv, hrun, Result.andThen]
  exact hK' _ _ (hK w' r1 r2)
/-- The map tells the lines found, with their steps. -/
def FndV (D : DataW Unit) (L : Fnd) : Prop :=
  (∀ p, p ∈ L → hasV D p.1 (.lit (.int .i64 (p.2 : Int)))) ∧ ∀ v, Maps.has D (.string v) = true → v ∈ keysF L
theorem fndV_put {D : DataW Unit} {L : Fnd} {x : List UInt8} {d : Nat} (hD : IsMap D) (h : FndV D L) (hx : x ∉ keysF L) : FndV (D.put (.string x) (.lit (.int .i64 (d : Int)))) (L ++ [(x, d)]) := by
  refine ⟨fun p hp => ?_, fun v hv => ?_⟩
  · rcases List.mem_append.1 hp with hp | hp
    · exact hasV_other _ (h.1 p hp) (fun e => hx (e ▸ List.mem_map_of_mem hp))
    · obtain rfl : p = (x, d) := by simpa using hp
      exact hasV_same hD _ _
  · rw [keysF_app, List.mem_append]
    rcases has_put hv with rfl | hv
    · exact .inr (by simp [keysF])
    · exact .inl (h.2 v hv)
theorem fndV_one {D : DataW Unit} (hD : IsMap D) (hz : ∀ v, Maps.has D (.string v) = false) (x : List UInt8) : FndV (D.put (.string x) (.lit (.int .i64 0))) [(x, 0)] := by
  have := fndV_put (L := []) (x := x) (d := 0) hD ⟨fun p hp => by simp at hp, fun v hv => by rw [hz v] at hv; cases hv⟩ (by simp [keysF])
  simpa using this
/-- Whether a line is found. -/
theorem fndV_has {D : DataW Unit} {L : Fnd} (h : FndV D L) (x : List UInt8) : Maps.has D (.string x) = decide (x ∈ keysF L) := by
  rw [Bool.eq_iff_iff, decide_eq_true_iff]
  constructor
  · exact h.2 x
  · intro hx
    obtain ⟨p, hp, rfl⟩ := List.mem_map.1 hx
    exact (h.1 p hp).1
theorem fndV_few {c : Nat} {w : World} {b n : Nat} {D : DataW Unit} {L : Fnd} (h : w.ownsMap Try.prog 9 intR b n D) (hf : FndV D L) (hg : ∀ x, x ∈ keysF L → goodT c x) : w.ownsMap Try.prog 9 intR b 59049 D :=
  own_few (c := c) h Try.keysS Try.underlying9 fun v hv => hg v (hf.2 v hv)
theorem own_ne_map {W : World} {b B n m k : Nat} {e : TypeId} {v : Value} {xs : List Value} {P : Program} {t : TypeId} {R : Value → Option (DataW Unit × List MemPlace)} {D : DataW Unit} (h : W.ownsRow b e m v n xs) (hB : W.ownsMap P t R B k D) : v.ownBlock ≠ some B := by
  obtain ⟨es, clock, hb, _⟩ := hB
  rcases h.2 with ⟨hv, _⟩ | ⟨g, cap, cur, rfl, _, hg, _⟩
  · subst hv; intro h; cases h
  · intro e2
    injection e2 with e2
    have e2 : g = B := e2
    subst e2
    rw [hg] at hb
    cases hb
/-- A list of moves elsewhere stays. -/
theorem mvAt_grown {W W' : World} {A : Option Addr} {l : List (Int × Int)} {row : Option Nat} (h : MvAt W A l) (hg : W.grownBy W' row) (hne : ∀ a, A = some a → some a.block ≠ row) : MvAt W' A l := by
  intro k hk
  obtain ⟨g, a, b, c, d⟩ := h k hk
  have hb := hg.block g b (hne _ a)
  exact ⟨g, a, Nat.lt_of_lt_of_le b hg.size, (World.cell?_of_block (a := ⟨g, k * 2, none⟩) hb).trans c, (World.cell?_of_block (a := ⟨g, k * 2 + 1, none⟩) hb).trans d⟩
theorem ru_at {s : ByteArray} {o b l : Bool} {k : Nat} (h : k < (ruTo s o b l s.size).length) : ∃ a c : Nat, (ruTo s o b l s.size)[k].1 = a ∧ (ruTo s o b l s.size)[k].2 = c ∧ a < s.size ∧ c < s.size ∧ a ≠ c := by
  have hm := List.getElem_mem h
  obtain ⟨a, c, e1, e2, h1, h2, h3⟩ := ruC_in ((mem_ruTo s o b l s.size _ _).1 (by exact hm)).2.2
  exact ⟨a, c, e1, e2, h1, h2, h3⟩
theorem own_oneK (W : World) (b : Nat) (e : TypeId) (x : Value) (hb : b ≤ W.heap.size) : (W.alloc (.cells #[x] e)).ownsRow b e 1 (.slice (some ⟨W.heap.size, 0, none⟩) 1 1) 1 [x] :=
  ⟨rfl, .inr ⟨W.heap.size, 1, #[x], rfl, hb, heap_alloc_new W _, Nat.le_refl _, by decide, rfl, rfl⟩⟩
/-- The lines that are waiting lie in a row. -/
theorem row_line {W : World} {R0 : Nat} {L : Fnd} {v : Value} (h : W.ownsRow R0 9 1 v L.length (txs (keysF L))) {k : Nat} (hk : k < L.length) : ∃ g cap, v = .slice (some ⟨g, 0, none⟩) L.length cap ∧ L.length ≤ cap ∧ cap ≤ maxLen ∧ R0 ≤ g ∧ g < W.heap.size ∧ W.cell? ⟨g, k, none⟩ = some (.string (str L[k].1)) := by
  rcases h.2 with ⟨_, h0⟩ | ⟨g, cap, cur, hv, hb, hg, hn, hm, _⟩
  · omega
  · have hlt : g < W.heap.size := (Array.getElem?_eq_some_iff.1 hg).1
    refine ⟨g, cap, hv, hn, hm, hb, hlt, ?_⟩
    have hh := h
    rw [hv] at hh
    have f : (txs (keysF L))[k]? = some (.string (str L[k].1)) := by simp [txs, keysF, hk]
    exact (hh.cellAt k (by omega)).trans f

theorem RuBx.grown {W W' : World} {B : Nat} {o b l : Bool} {row : Option Nat} (h : RuBx W B o b l) (hg : W.grownBy W' row) (hne : some B ≠ row) : RuBx W' B o b l := by
  have hb := hg.block B h.lt hne
  exact ⟨Nat.lt_of_lt_of_le h.lt hg.size, (World.cell?_of_block (a := ⟨B, 0, none⟩) hb).trans h.c0, (World.cell?_of_block (a := ⟨B, 1, none⟩) hb).trans h.c1, (World.cell?_of_block (a := ⟨B, 2, none⟩) hb).trans h.c2⟩
theorem atKey_one {D : DataW Unit} {k : Lit} {z : DataW Unit} {a b : Int} (h : D.atKey k z = .lit (.int .i64 a)) (h2 : D.atKey k z = .lit (.int .i64 b)) : b = a := by
  rw [h] at h2
  injection h2 with h2
  injection h2 with _ h2
  exact h2.symm
/-- Where the run stands within one line's moves. -/
structure RdW (W : World) (R0 bm c : Nat) (L : Fnd) (D : DataW Unit) (v6 : Value) : Prop where
  map : W.ownsMap Try.prog 9 intR bm 59049 D
  low : R0 ≤ bm
  fv : FndV D L
  row : W.ownsRow R0 9 1 v6 L.length (txs (keysF L))
  gd : ∀ x, x ∈ keysF L → goodT c x
  nd : (keysF L).Nodup
  dp : ∀ p ∈ L, p.2 ≤ 60000
theorem RdW.below {W W' : World} {R0 bm c : Nat} {L : Fnd} {D : DataW Unit} {v6 : Value} (h : RdW W R0 bm c L D v6) (hb : Below W.heap.size W W') : RdW W' R0 bm c L D v6 :=
  ⟨h.map.kept (grown_of_below hb) (by simp), h.low, h.fv, own_below h.row hb, h.gd, h.nd, h.dp⟩
theorem RdW.len {W : World} {R0 bm c : Nat} {L : Fnd} {D : DataW Unit} {v6 : Value} (h : RdW W R0 bm c L D v6) : L.length ≤ 59049 := by
  rw [← keysF_len]
  exact few_good h.nd h.gd
theorem RdW.form {W : World} {R0 bm c : Nat} {L : Fnd} {D : DataW Unit} {v6 : Value} (h : RdW W R0 bm c L D v6) : ∃ A cap, v6 = .slice A L.length cap := by
  rcases h.row.2 with ⟨hv, h0⟩ | ⟨g, cap, cur, hv, _⟩
  · exact ⟨none, 0, by rw [hv, h0]⟩
  · exact ⟨_, cap, hv⟩
theorem rdW_start {c bm R0 : Nat} {wl : List UInt8} {W : World} (hmap : W.ownsMap Try.prog 9 intR bm (0 + 1) (DataW.put (.map []) (.string wl) (.lit (.int .i64 0)))) (hb : R0 ≤ bm) (hz : R0 ≤ W.heap.size) (hg : goodT c wl) :
    RdW (W.alloc (Obj.cells #[.string (str wl)] 9)) R0 bm c [(wl, 0)] (DataW.put (.map []) (.string wl) (.lit (.int .i64 0))) (.slice (some ⟨W.heap.size, 0, none⟩) 1 1) where
  map := (hmap.mono (by decide)).alloc _
  low := hb
  fv := fndV_one ⟨[], rfl⟩ (fun v => by simp [Maps.has]) wl
  row := own_oneK W _ _ _ hz
  gd := by
    intro x hx
    have e : x = wl := by simpa [keysF] using hx
    rw [e]; exact hg
  nd := by simp [keysF]
  dp := by
    intro p hp
    have e : p = (wl, 0) := by simpa using hp
    rw [e]; exact Nat.zero_le _
/-- One more line found. -/
theorem rdW_more {W w5 w6 : World} {R0 bm c : Nat} {L : Fnd} {D : DataW Unit} {v6 : Value} {y : List UInt8} {d g cap : Nat} (h : RdW W R0 bm c L D v6) (hy : y ∉ keysF L) (hgy : goodT c y) (hd : d ≤ 60000)
    (h5 : w5.ownsMap Try.prog 9 intR bm (59049 + 1) (D.put (.string y) (.lit (.int .i64 (d : Int))))) (hne : v6.ownBlock ≠ some bm) (o : Obj) (hg6 : (w5.alloc o).grownBy w6 v6.ownBlock)
    (h6 : w6.ownsRow R0 9 1 (.slice (some ⟨g, 0, none⟩) (L.length + 1) cap) (L.length + 1) (txs (keysF L) ++ [.string (str y)])) : RdW w6 R0 bm c (L ++ [(y, d)]) (D.put (.string y) (.lit (.int .i64 (d : Int)))) (.slice (some ⟨g, 0, none⟩) (L.length + 1) cap) := by
  have hfv := fndV_put h.map.isMap h.fv hy (d := d)
  have hgd : ∀ x, x ∈ keysF (L ++ [(y, d)]) → goodT c x := fun x hx => by
    rw [keysF_app, List.mem_append] at hx
    rcases hx with hx | hx
    · exact h.gd x hx
    · have e : x = y := by simpa [keysF] using hx
      rw [e]; exact hgy
  refine ⟨fndV_few ((h5.alloc o).kept hg6 (fun e => hne e.symm)) hfv hgd, h.low, hfv, ?_, hgd, ?_, ?_⟩
  · have e : txs (keysF (L ++ [(y, d)])) = txs (keysF L) ++ [.string (str y)] := by rw [keysF_app, txs_app]; rfl
    rw [e, List.length_append]
    exact h6
  · rw [keysF_app, List.nodup_append]
    refine ⟨h.nd, by simp [keysF], fun a ha b hb e => ?_⟩
    have e2 : b = y := by simpa [keysF] using hb
    exact hy (by rw [← e2, ← e]; exact ha)
  · intro p hp
    rcases List.mem_append.1 hp with hp | hp
    · exact h.dp p hp
    · have e : p = (y, d) := by simpa using hp
      rw [e]; exact hd

def DfPost (o b l : Bool) (wl : List UInt8) (w : World) (e : Ending) (w' : World) : Prop :=
  ∃ bm D, e = .returned (.map (some bm)) ∧ w.heap.size ≤ bm ∧ w'.ownsMap Try.prog 9 intR bm 59049 D ∧ FndV D (bfsL (nxR o b l) wl) ∧ Below w.heap.size w w'
theorem bfsOne_yes {d : Nat} {L : Fnd} {x : List UInt8} (h : x ∈ keysF L) : bfsOne d L x = L := by unfold bfsOne; rw [if_pos h]
theorem bfsOne_no {d : Nat} {L : Fnd} {x : List UInt8} (h : x ∉ keysF L) : bfsOne d L x = L ++ [(x, d)] := by unfold bfsOne; rw [if_neg h]
theorem pre_at {d k : Nat} {L : Fnd} {xs : List (List UInt8)} {p : List UInt8 × Nat} (h : L[k]? = some p) : (bfsIn d L xs)[k]? = some p ∧ p ∈ bfsIn d L xs ∧ k < (bfsIn d L xs).length := by
  obtain ⟨M, e, _⟩ := pre_bfsIn d xs L
  obtain ⟨hk, hp⟩ := List.getElem?_eq_some_iff.1 h
  rw [e]
  refine ⟨by rw [List.getElem?_append_left hk]; exact h, List.mem_append_left _ (hp ▸ List.getElem_mem hk), by rw [List.length_append]; omega⟩
theorem row_line2 {W : World} {R0 k : Nat} {L : Fnd} {v : Value} {p : List UInt8 × Nat} (h : W.ownsRow R0 9 1 v L.length (txs (keysF L))) (hk : L[k]? = some p) : ∃ g cap, v = .slice (some ⟨g, 0, none⟩) L.length cap ∧ L.length ≤ cap ∧ cap ≤ maxLen ∧ R0 ≤ g ∧ g < W.heap.size ∧ W.cell? ⟨g, k, none⟩ = some (.string (str p.1)) := by
  obtain ⟨hk, hp⟩ := List.getElem?_eq_some_iff.1 hk
  have := row_line h hk
  rwa [hp] at this

set_option maxRecDepth 100000 in
set_option maxHeartbeats 16000000 in
theorem depthsFrom_any (n : Nat) (o b l : Bool) (wl : List UInt8) (w : World) (hg : goodT n wl) :
    Calls Try.prog 35 #[ruV o b l, .string (str wl)] w (DfPost o b l wl w) := by
  obtain ⟨i0, hi, hz0, hz1, hz2⟩ := info_parts Try.infoS
  have HI := Lib.hid hi
  have HZ0 := Lib.hid hz0
  have HZ1 := Lib.hid hz1
  have HZ2 := Lib.hid hz2
  clear hi hz0 hz1 hz2
  have HEND := Lib.hid (fun k (h : (bfsAt (nxR o b l) wl k).length = k) => bfs_end o b l hg h)
  have HFND := Lib.hid (fun k => found_R o b l hg k)
  have HNX := Lib.hid (fun k (h : k < (bfsAt (nxR o b l) wl k).length) => bfsAt_next h)
  have hln := hg.2.2
  have hwl : wl.length ≤ 10 := by have := hg.2.1; omega
  have hkw := keyS (x := wl) (by unfold maxLen; omega)
  have hw0 : intR (.int .i64 0) = some (.lit (.int .i64 0), []) := intR_n 0 (by decide)
  have hmm := @run_makeMap Try.prog
  have HG := Lib.hid hg
  clear hg
  go_enter Try.func35, Try.ntmps35
  go_wp2_with (first
    | (refine wpList_insert_r _ rfl _ _ _ 51 rfl 9 3 Try.keysS Try.underlying51 intR (w.heap.size + 1) 0 (.map []) rfl ?_ (by decide) _ _ (.string wl) rfl rfl hkw _ [] hw0 ?_; rotate_right; intro w1 hown1 hg1))
  · have hz1 : w.heap.size + 2 ≤ w1.heap.size := by have := hg1.size; simp at this; omega
    have hbx0 : RuBx ((w.alloc (paO o b l)).alloc (Obj.map #[] 0)) w.heap.size o b l := (RuBx.new w o b l 48).below ((Below.refl _ _).alloc (Nat.le_refl _) _)
    have HX1 : Hid (RuBx w1 w.heap.size o b l) := Lib.hid (hbx0.grown hg1 (by simp))
    have HB1 : Hid (Below w.heap.size w w1) := Lib.hid ((((Below.refl w.heap.size w).alloc (Nat.le_refl _) (paO o b l)).alloc (by simp) (Obj.map #[] 0)).grown hg1 (by simp; omega) (fun j hj => by injection hj with hj; omega))
    have HRD1 := Lib.hid (rdW_start (R0 := w.heap.size + 1) hown1 (Nat.le_refl _) (by omega) HG.out)
    clear hown1 hg1 hkw hw0 hbx0
    go_loopw [6, 7] (fun v6 t wr => ∃ (k : Nat) (D : DataW Unit), k ≤ (bfsAt (nxR o b l) wl k).length ∧ t = .int .i64 k ∧ RdW wr (w.heap.size + 1) (w.heap.size + 1) n (bfsAt (nxR o b l) wl k) D v6 ∧ RuBx wr w.heap.size o b l ∧ Below w.heap.size w wr) (fun _ t _ => 60000 - (intOf t).toNat)
    case atStart => exact ⟨0, _, Nat.zero_le _, rfl, HRD1.out, HX1.out.below ((Below.refl _ _).alloc (Nat.le_refl _) _), HB1.out.alloc HB1.out.size _⟩
    case round =>
      obtain ⟨k, D, hk, rfl, hrd, hbx, hB⟩ := hrel
      obtain ⟨W, hW⟩ : ∃ W : World, W = wr := ⟨_, rfl⟩
      subst hW
      clear HRD1 HX1 HB1
      have hlen := hrd.len
      have HE := Lib.hid (HEND.out k)
      have HN := Lib.hid (HNX.out k)
      have HF := Lib.hid (HFND.out k)
      have HF1 := Lib.hid (HFND.out (k + 1))
      obtain ⟨L1, hL1⟩ : ∃ L1, bfsAt (nxR o b l) wl (k + 1) = L1 := ⟨_, rfl⟩
      have HL1 := Lib.hid hL1
      rw [hL1] at HN HF1
      clear hL1
      obtain ⟨L, hL⟩ : ∃ L, bfsAt (nxR o b l) wl k = L := ⟨_, rfl⟩
      have HFIN : Hid (k = L.length → L = bfsL (nxR o b l) wl) := Lib.hid (fun e => by have := HE.out (by rw [hL, e]); rwa [hL] at this)
      rw [hL] at hrd hlen HN HF hk
      clear hL HE
      by_cases hlt : k < L.length
      · have HN := Lib.hid (HN.out hlt)
        obtain ⟨g, cap, rfl, hc1, hc2, hc3, hc4, hline⟩ := row_line hrd.row hlt
        have hgx := hrd.gd L[k].1 (List.mem_map_of_mem (List.getElem_mem hlt))
        have hdx := HF.out.deep L[k] (List.getElem_mem hlt)
        have HMEM : Hid (L[k] ∈ L) := Lib.hid (List.getElem_mem hlt)
        have HAT : Hid (L[k]? = some L[k]) := Lib.hid (List.getElem?_eq_getElem hlt)
        obtain ⟨x, hx⟩ : ∃ x, x = L[k].1 := ⟨_, rfl⟩
        obtain ⟨d, hd⟩ : ∃ d, d = L[k].2 := ⟨_, rfl⟩
        have HP : Hid (L[k] = (x, d)) := Lib.hid (by rw [hx, hd])
        rw [← hx] at hgx hline
        rw [← hx, ← hd] at HN
        rw [← hd] at hdx
        rw [HP.out] at HMEM HAT
        clear hx hd HP
        have hgl : goodL (str x) = true := hgx.1
        have hxl : x.length ≤ 10 := by have := hgx.2; omega
        obtain ⟨_, q0, q1, q2⟩ := hbx
        have z0 : w.heap.size < W.heap.size := by have := hrd.map.lt; omega
        have hl1 : (k : Int) < (L.length : Int) := by omega
        have HRD := Lib.hid hrd
        have HBW := Lib.hid hB
        clear hrd hB
        go_wp2
        go_region_held3 (fun w' => w'.cell? ⟨w.heap.size, 0, none⟩ = some (.bool o) ∧ w'.cell? ⟨w.heap.size, 1, none⟩ = some (.bool b) ∧ w'.cell? ⟨w.heap.size, 2, none⟩ = some (.bool l) ∧ w'.cell? ⟨g, k, none⟩ = some (.string (str x))) (first | exact ⟨q0, q1, q2, hline⟩ | exact ⟨(hb2.cell z0).trans q0, (hb2.cell z0).trans q1, (hb2.cell z0).trans q2, (hb2.cell hc4).trans hline⟩) (first | (go_at_call 22; refine (rmoves_any (str x) o b l _ hgl).mono ?_; rintro e w2 ⟨v2, rfl, ho2, hb2⟩; obtain ⟨A2, cap2, rfl, at2⟩ := at_of_own ho2))
        have hb2w : Below W.heap.size W w2 := (Below.drew (Below.refl W.heap.size W)).trans hb2
        have HRD2 := Lib.hid (HRD.out.below hb2w)
        have HX2 : Hid (RuBx w2 w.heap.size o b l) := Lib.hid ((RuBx.mk z0 q0 q1 q2).below hb2w)
        have HB2 := Lib.hid (HBW.out.trans (hb2w.mono HBW.out.size))
        have AT2 := Lib.hid at2
        have HA2 : Hid (∀ a, A2 = some a → W.heap.size ≤ a.block) := Lib.hid fun a e => (ho2.lt a.block (by rw [e]; rfl)).1
        have HLEN2 : Hid ((nxR o b l x).length = (ruTo (str x) o b l (str x).size).length) := Lib.hid (nxR_len o b l x)
        have hNle : (ruTo (str x) o b l (str x).size).length ≤ 1000 := by
          have h1 := ruTo_le (str x) o b l (str x).size
          have h2 : (str x).size ≤ 10 := by rw [str_size]; exact hxl
          have : (str x).size * (str x).size ≤ 10 * 10 := Nat.mul_le_mul h2 h2
          omega
        have HYS : Hid (∀ i (h : i < (ruTo (str x) o b l (str x).size).length), ∃ a c : Nat, (ruTo (str x) o b l (str x).size)[i] = ((a : Int), (c : Int)) ∧ a < (str x).size ∧ c < (str x).size ∧ a ≠ c ∧ (nxR o b l x)[i]? = some (putL (str x) a c)) := Lib.hid fun i h => by
          obtain ⟨a, c, e1, e2, h1, h2, h3⟩ := ru_at h
          refine ⟨a, c, Prod.ext e1 e2, h1, h2, h3, ?_⟩
          unfold nxR
          rw [List.getElem?_map, List.getElem?_eq_getElem h]
          simp only [Option.map_some]
          rw [show behind (str x) _ _ = putL (str x) a c by rw [e1, e2]; rfl]
        have HGY : Hid (∀ y, y ∈ nxR o b l x → goodT n y) := Lib.hid fun y hy => nxR_good hgx hy
        generalize ruTo (str x) o b l (str x).size = N at at2 AT2 HLEN2 HYS hNle ho2 ⊢
        have HCG := Lib.hid hc4
        have HMW : Hid (w.heap.size + 1 < W.heap.size) := Lib.hid HRD.out.map.lt
        clear at2 ho2 hb2 hb2w HRD HBW q0 q1 q2 hline hc1 hc2 hc3 hc4 z0
        rename_i hHeld
        clear hHeld
        go_wp2
        go_loopw [6, 31] (fun v6 t wr => ∃ (i : Nat) (D : DataW Unit), i ≤ N.length ∧ t = .int .i64 i ∧ RdW wr (w.heap.size + 1) (w.heap.size + 1) n (bfsIn (d + 1) L ((nxR o b l x).take i)) D v6 ∧ RuBx wr w.heap.size o b l ∧ MvAt wr A2 N ∧ (∀ a, A2 = some a → v6.ownBlock ≠ some a.block) ∧ Below w.heap.size w wr) (fun _ t _ => N.length - (intOf t).toNat)
        case atStart =>
          refine ⟨0, D, Nat.zero_le _, rfl, ?_, HX2.out, AT2.out, fun a e e2 => ?_, HB2.out⟩
          · rw [List.take_zero, bfsIn_nil]; exact HRD2.out
          · have h1 := HA2.out a e
            injection e2 with e2
            have e2 : g = a.block := e2
            have := HCG.out
            omega
        case round =>
          obtain ⟨i, Di, hi, rfl, hrd, hbx, hmv, hap, hB⟩ := hrel
          obtain ⟨V, hV⟩ : ∃ V : World, V = wr := ⟨_, rfl⟩
          subst hV
          clear HRD2 HX2 HB2 AT2
          by_cases hlti : i < N.length
          · obtain ⟨a, c, hac, ha, hc, hne, hy⟩ := HYS.out i hlti
            have hyl : i < (nxR o b l x).length := by rw [HLEN2.out]; exact hlti
            have hye : (nxR o b l x)[i] = putL (str x) a c := by rw [List.getElem?_eq_getElem hyl] at hy; injection hy
            have HST : Hid (bfsIn (d + 1) L ((nxR o b l x).take (i + 1)) = bfsOne (d + 1) (bfsIn (d + 1) L ((nxR o b l x).take i)) (putL (str x) a c)) := Lib.hid (by rw [bfsIn_next _ _ _ _ hyl, hye])
            have hgy := HGY.out (putL (str x) a c) (by rw [← hye]; exact List.getElem_mem hyl)
            obtain ⟨gm, hgm, hml, m0, m1⟩ := hmv i hlti
            rw [hac] at m0 m1
            obtain ⟨hp1, hp2, hp3⟩ := pre_at (d := d + 1) (xs := (nxR o b l x).take i) HAT.out
            obtain ⟨g6, cap6, rfl, hc1, hc2, hc3, hc4, hline⟩ := row_line2 hrd.row hp1
            have HFV := Lib.hid (hrd.fv.1 _ hp2)
            have hlen' := hrd.len
            generalize bfsIn (d + 1) L ((nxR o b l x).take i) = L' at hrd HST hp1 hp2 hp3 hlen' hc1
            have hl1 : (k : Int) < (L'.length : Int) := by omega
            have HRD := Lib.hid hrd
            have HBX := Lib.hid hbx
            have HMV := Lib.hid hmv
            have HAP := Lib.hid hap
            have HB := Lib.hid hB
            clear hac hyl hye hy hp1 hp2 hrd hbx hmv hap hB
            subst hgm
            have HHB : Hid (∃ V1, V1 = V.alloc (mvB a c)) := Lib.hid ⟨_, rfl⟩
            go_wp2
            obtain ⟨V1, hV1⟩ := HHB.out
            rw [← hV1]
            have d0 : V1.cell? ⟨V.heap.size, 0, none⟩ = some (.int .i64 a) := by rw [hV1, World.cell?_alloc_new]; rfl
            have d1 : V1.cell? ⟨V.heap.size, 1, none⟩ = some (.int .i64 c) := by rw [hV1, World.cell?_alloc_new]; rfl
            have d2 : V1.cell? ⟨g6, k, none⟩ = some (.string (str x)) := by rw [hV1, cell_below _ _ _ _ hc4]; exact hline
            have z1 : V.heap.size < V1.heap.size := by rw [hV1]; simp
            have z2 : g6 < V1.heap.size := by omega
            have HBV : Hid (Below V.heap.size V V1) := Lib.hid (by rw [hV1]; exact (Below.refl _ _).alloc (Nat.le_refl _) _)
            have HML := Lib.hid hml
            clear hV1 HHB m0 m1 hline hml
            go_region_held3 (fun w' => w'.cell? ⟨V.heap.size, 0, none⟩ = some (.int .i64 a) ∧ w'.cell? ⟨V.heap.size, 1, none⟩ = some (.int .i64 c) ∧ w'.cell? ⟨g6, k, none⟩ = some (.string (str x))) (first | exact ⟨d0, d1, d2⟩ | exact ⟨(hb4.cell z1).trans d0, (hb4.cell z1).trans d1, (hb4.cell z2).trans d2⟩) (first | (go_at_call 25; refine (lineBehind_any (str x) a c _ ha hc hne).mono ?_; rintro e w4 ⟨rfl, hb4⟩))
            have hbv : Below V.heap.size V w4 := HBV.out.trans (((Below.drew (Below.refl V1.heap.size V1)).trans hb4).mono HBV.out.size)
            have e2 : w4.cell? ⟨g6, k, none⟩ = some (.string (str x)) := (hb4.cell z2).trans d2
            have HRD4 := Lib.hid (HRD.out.below hbv)
            have HBX4 := Lib.hid (HBX.out.below hbv)
            have HMV4 := Lib.hid (HMV.out.below hbv)
            have HB4 := Lib.hid (HB.out.trans (hbv.mono HB.out.size))
            have HVS : Hid (V.heap.size ≤ w4.heap.size) := Lib.hid hbv.size
            have hz4 : g6 < w4.heap.size := by have := hb4.size; simp at this; omega
            rename_i hHeld
            clear hHeld hb4 hbv HRD HBX HMV HB HBV d0 d1 d2 z1 z2
            have hky := keyS (x := putL (str x) a c) (by have := hgy.2; unfold maxLen; omega)
            have hkx := keyS (x := x) (by unfold maxLen; omega)
            generalize putL (str x) a c = y at hgy HST hky ⊢
            have hmap := HRD4.out.map
            have hhas := fndV_has HRD4.out.fv y
            by_cases hyk : y ∈ keysF L'
            · rw [decide_eq_true hyk] at hhas
              have HR : Hid (bfsIn (d + 1) L ((nxR o b l x).take (i + 1)) = L') := Lib.hid (by rw [HST.out, bfsOne_yes hyk])
              clear hyk
              go_wp2_with (first
                | (at_lookup; refine wpList_lookup_own_ok_int _ rfl _ _ 51 rfl 9 3 .i64 Try.keysS Try.underlying51 Try.underlying3 (zeroIn _) (w.heap.size + 1) 59049 Di rfl hmap _ (.string y) rfl hky ?_; intro cc _ _; rw [hhas]))
              go_roundw
              case rel => exact ⟨i + 1, Di, by omega, by go_num, by rw [HR.out]; exact HRD4.out, HBX4.out, HMV4.out, HAP.out, HB4.out⟩
              case measure => simp [intOf]; omega
            · rw [decide_eq_false hyk] at hhas
              have HR : Hid (bfsIn (d + 1) L ((nxR o b l x).take (i + 1)) = L' ++ [(y, d + 1)]) := Lib.hid (by rw [HST.out, bfsOne_no hyk])
              have HYK := Lib.hid hyk
              have hval : intR (.int .i64 ((d : Int) + 1)) = some (.lit (.int .i64 ((d + 1 : Nat) : Int)), []) := by
                have := intR_n (d + 1) (by omega)
                rwa [show ((d + 1 : Nat) : Int) = (d : Int) + 1 by omega] at this ⊢
              have hatx := HFV.out.2 (.lit (.int .i64 0))
              have hds : (d : Int) ≤ 60000 := by omega
              have hd0 : (0 : Int) ≤ (d : Int) := by omega
              have hln' : L'.length + 1 ≤ maxLen := by unfold maxLen; omega
              have hln2 : (L'.length + 1) * 16 ≤ 140737488355328 := by omega
              have hrow := HRD4.out.row
              have hnm := own_ne_map hrow hmap
              clear hyk
              go_wp2_with (first
                | (at_lookup; refine wpList_lookup_own_ok_int _ rfl _ _ 51 rfl 9 3 .i64 Try.keysS Try.underlying51 Try.underlying3 (zeroIn _) (w.heap.size + 1) 59049 Di rfl hmap _ (.string y) rfl hky ?_; intro cc _ _; rw [hhas])
                | (at_lookup; refine wpList_lookup_own_int _ rfl _ _ 51 rfl 9 3 .i64 Try.keysS Try.underlying51 Try.underlying3 (zeroIn _) (w.heap.size + 1) 59049 Di rfl hmap _ (.string x) rfl hkx ?_; intro cx hcx _; obtain rfl : cx = (d : Int) := atKey_one hatx hcx)
                | (at_mapUpdate; refine wpList_mapUpdate_own _ rfl _ _ _ 51 rfl 9 3 Try.keysS Try.underlying51 intR (w.heap.size + 1) 59049 Di rfl hmap (by decide) _ _ (.string y) rfl rfl hky _ [] hval ?_; intro w5 hmap5 hg5; have hrow5 := hrow.kept hg5 (.inr hnm))
                | (at_builtin; refine wpList_append_lies _ rfl _ _ 36 rfl (w.heap.size + 1) 9 i0 (.string ByteArray.empty) 1 16 Try.underlying36 HI.out HZ0.out HZ1.out HZ2.out rfl (by decide) _ L'.length _ rfl (hrow5.alloc _) ⟨w5.heap.size, 0, none⟩ 1 1 [.string (str y)] rfl rfl (cell_one_at _ _ (by simp) _ _) (fun u hu => by simp at hu; subst hu; rfl) (by decide) hln' hln2 ?_ _ rfl ?_; rotate_right; intro g7 cap7 w6 hrow6 hg6 hat6 hlt6))
              · have HRD6 := Lib.hid (rdW_more HRD4.out HYK.out hgy (by omega : d + 1 ≤ 60000) (by rw [show ((d + 1 : Nat) : Int) = (d : Int) + 1 by omega]; exact hmap5) hnm _ hg6 hrow6)
                have hz5 := hg5.size
                have hml4 : gm < w4.heap.size := Nat.lt_of_lt_of_le HML.out HVS.out
                have hbx5 := (HBX4.out.grown hg5 (by simp)).below ((Below.refl w5.heap.size w5).alloc (Nat.le_refl _) (Obj.cells #[.string (str y)] 9))
                have HBX6 := Lib.hid (hbx5.grown hg6 (fun e => by have := (hrow5.lt _ e.symm).1; omega))
                have hnb : ∀ a0 : Addr, some (⟨gm, 0, none⟩ : Addr) = some a0 → some a0.block ≠ some (w.heap.size + 1) := fun a0 e e2 => by
                  have h1 := HA2.out a0 e
                  injection e2 with e2
                  have := HMW.out
                  omega
                have hmv5 := mvAt_grown (mvAt_grown HMV4.out hg5 hnb) (World.grownBy_alloc w5 (Obj.cells #[.string (str y)] 9) none) (fun a0 _ => by simp)
                have HMV6 := Lib.hid (mvAt_grown hmv5 hg6 (fun a0 e e2 => HAP.out a0 e e2.symm))
                have HB6 := Lib.hid (((HB4.out.grown hg5 HB4.out.size (fun j hj => by injection hj with hj; omega)).alloc (by have := HB4.out.size; omega) (.cells #[.string (str y)] 9)).grown hg6 (by have := HB4.out.size; simp; omega) (fun j hj => by have := (hrow5.lt j hj).1; omega))
                have hgml : gm < w5.heap.size := by omega
                have HAP6 : Hid (∀ a0 : Addr, some (⟨gm, 0, none⟩ : Addr) = some a0 → Value.ownBlock (.slice (some ⟨g7, 0, none⟩) (L'.length + 1) cap7) ≠ some a0.block) := Lib.hid (fun a0 e e2 => by
                  injection e2 with e2
                  have e2 : g7 = a0.block := e2
                  rcases hat6 with h | h
                  · exact HAP.out a0 e (by rw [← e2]; exact h)
                  · injection e with e
                    subst e
                    have e2 : g7 = gm := e2
                    simp at h
                    omega)
                clear hmap hmap5 hg5 hg6 hrow hrow5 hrow6 hat6
                go_roundw
                case rel =>
                  refine ⟨i + 1, _, by omega, by go_num, by rw [HR.out]; exact HRD6.out, HBX6.out, HMV6.out, HAP6.out, HB6.out⟩
                case measure => simp [intOf]; omega
              · have h1 := hmap.lt
                have h2 := hg5.size
                simp
                omega
          · have HE : Hid (bfsIn (d + 1) L ((nxR o b l x).take i) = L1) := Lib.hid (by rw [HN.out, List.take_of_length_le (by rw [HLEN2.out]; omega)])
            rw [HE.out] at hrd
            have HRD := Lib.hid hrd
            have HBX := Lib.hid hbx
            clear hrd hbx hmv hap
            have hk1 : k + 1 ≤ L1.length := by
              obtain ⟨M, e, _⟩ := pre_bfsIn (d + 1) (nxR o b l x) L
              rw [HN.out, e, List.length_append]
              omega
            go_wp2
            go_roundw
            case rel => exact ⟨k + 1, Di, by rw [HL1.out]; exact hk1, by go_num, by rw [HL1.out]; exact HRD.out, HBX.out, hB⟩
            case measure => simp [intOf]; omega
      · have e : k = L.length := by omega
        have HFIN := Lib.hid (HFIN.out e)
        obtain ⟨A6, cap6, rfl⟩ := hrd.form
        have HR := Lib.hid hrd
        have hnl : ¬ ((k : Int) < (L.length : Int)) := by omega
        clear hrd
        go_wp2
        go_ret
        exact ⟨_, D, rfl, by omega, HR.out.map, by have := HR.out.fv; rwa [HFIN.out] at this, hB⟩
  · have := World.ownsMap_made (H := Unit) (w.alloc (paO o b l)) Try.prog 9 intR
    rwa [World.size_alloc] at this
end Go.Proofs.Ytdcbjbmnkajjcaa
