/- Contracts: the program looks for the gap on one side of an animal. -/
import Derived.Test.YtdcbjbmnkajjcaaRuA
import Derived.Lib.IndexAny
import Derived.RangeFuncRecord
namespace Go.Proofs.Ytdcbjbmnkajjcaa
open Go.RowKit

theorem Try.infoN : (Try.prog.info? 3).map (fun i => (i.zero, i.size, i.bytes)) = some (some (.int .i64 0), 1, 8) := by kernel_rfl
theorem is_or2' (c d : UInt8) (n : Int) (hn : (d.toNat : Int) = n) : (c = d ∧ ((c.toNat : Int) == n) = true ∧ ((c.toNat : Int) != n) = false) ∨ (c ≠ d ∧ ((c.toNat : Int) == n) = false ∧ ((c.toNat : Int) != n) = true) := by
  by_cases h : c = d
  · exact .inl ⟨h, by rw [h, hn]; simp, by rw [h, hn]; simp⟩
  · have h2 : ((c.toNat : Int) == n) = false := by rw [← hn]; exact bne_u8 h
    exact .inr ⟨h, h2, by simp only [bne, h2]; rfl⟩
/-- Numbers, as cells. -/
def nus (l : List Int) : List Value := l.map fun x => .int .i64 x
theorem nus_len (l : List Int) : (nus l).length = l.length := by simp [nus]
/-- The cells of a slice's address hold numbers. -/
def NuAt (w : World) (A : Option Addr) (l : List Int) : Prop :=
  ∀ k (h : k < l.length), ∃ g, A = some ⟨g, 0, none⟩ ∧ g < w.heap.size ∧ w.cell? ⟨g, k, none⟩ = some (.int .i64 l[k])
theorem NuAt.below {w w' : World} {A : Option Addr} {l : List Int} (h : NuAt w A l) (hb : Below w.heap.size w w') : NuAt w' A l := by
  intro k hk
  obtain ⟨g, a, b, c⟩ := h k hk
  exact ⟨g, a, Nat.lt_of_lt_of_le b hb.size, (hb.cell (p := ⟨g, k, none⟩) b).trans c⟩
theorem nu_of_own {w : World} {base : Nat} {v : Value} {l : List Int} (h : w.ownsRow base 3 1 v l.length (nus l)) : ∃ A cap, v = .slice A l.length cap ∧ NuAt w A l := by
  rcases h.2 with ⟨hv, h0⟩ | ⟨g, cap, cur, rfl, hg, hh, hn, hm, _⟩
  · have h2 : l.length = 0 := by have h3 := nus_len l; have h4 := h.1; omega
    exact ⟨none, 0, by rw [hv, h2], fun k hk => by omega⟩
  · refine ⟨_, cap, rfl, fun k hk => ⟨g, rfl, ?_, ?_⟩⟩
    · by_cases hlt : g < w.heap.size
      · exact hlt
      · rw [Array.getElem?_eq_none (by omega)] at hh; cases hh
    · have f : (nus l)[k]? = some (.int .i64 l[k]) := by simp [nus, hk]
      exact (h.cellAt k (by omega)).trans f
theorem cell_one_new (w : World) (a : Value) (t : TypeId) : ∀ j u, [a][j]? = some u → (w.alloc (.cells #[a] t)).cell? ((⟨w.heap.size, 0, none⟩ : Addr).add j) = some u := by
  intro j u h
  rw [addr_add, World.cell?_alloc_new]
  simpa using h
theorem cell_one_at (w : World) (n : Nat) (hn : n = w.heap.size) (a : Value) (t : TypeId) : ∀ j u, [a][j]? = some u → (w.alloc (.cells #[a] t)).cell? ((⟨n, 0, none⟩ : Addr).add j) = some u := by
  subst hn
  exact cell_one_new w a t
/-- The block of a move, whole. -/
def BlM (W : World) (B : Nat) (x y : Int) : Prop := W.heap[B]? = some (.cells #[.int .i64 x, .int .i64 y] 44 (0, 0))
theorem BlM.new (W : World) (x y : Int) : BlM (W.alloc (.cells #[.int .i64 x, .int .i64 y] 44)) W.heap.size x y := World.alloc_heap_new W _
theorem BlM.cell0 {W : World} {B : Nat} {x y : Int} (h : BlM W B x y) : W.cell? ⟨B, 0, none⟩ = some (.int .i64 x) := by simp [World.cell?, show W.heap[B]? = _ from h]
theorem BlM.cell1 {W : World} {B : Nat} {x y : Int} (h : BlM W B x y) : W.cell? ⟨B, 1, none⟩ = some (.int .i64 y) := by simp [World.cell?, show W.heap[B]? = _ from h]
theorem BlM.frozen {W : World} {B : Nat} {x y : Int} (h : BlM W B x y) (k : Nat) : W.frozen? ⟨B, k, none⟩ = false := by simp [World.frozen?, show W.heap[B]? = _ from h]
theorem BlM.kept {W W' : World} {row : Option Nat} {B : Nat} {x y : Int} (h : BlM W B x y) (hg : W.grownBy W' row) (hne : some B ≠ row) : BlM W' B x y := (hg.block B (Array.getElem?_eq_some_iff.1 h).1 hne).trans h
theorem BlM.alloc {W : World} {B : Nat} {x y : Int} (h : BlM W B x y) (o : Obj) : BlM (W.alloc o) B x y := (Below.heap_alloc W o B (Array.getElem?_eq_some_iff.1 h).1).trans h
theorem own_ne_low {W : World} {base : Nat} {e : TypeId} {size n : Nat} {v : Value} {xs : List Value} (h : W.ownsRow (base + 1) e size v n xs) : some base ≠ v.ownBlock := fun e => by have := (h.lt base e.symm).1; omega
theorem app_keep {w W w' : World} {v : Value} {n : Nat} {xs : List Value} (own : W.ownsRow (w.heap.size + 1) 3 1 v n xs) (hm : BlM W w.heap.size 0 0) (hb : Below w.heap.size w W) (hg : W.grownBy w' v.ownBlock) :
    Hid (BlM w' w.heap.size 0 0) ∧ Hid (Below w.heap.size w w') ∧ w.heap.size + 1 ≤ w'.heap.size := by
  have hlt := (Array.getElem?_eq_some_iff.1 hm).1
  refine ⟨Lib.hid (hm.kept hg (own_ne_low own)), Lib.hid (hb.grown hg hb.size fun j hj => by have := (own.lt j hj).1; omega), ?_⟩
  have := hg.size
  omega
theorem app_first (w : World) (x : Int) : ((w.alloc (mvB 0 0)).alloc (.cells #[.int .i64 x] 3)).ownsRow (w.heap.size + 1) 3 1 (.slice none 0 0) 0 (nus []) ∧ BlM ((w.alloc (mvB 0 0)).alloc (.cells #[.int .i64 x] 3)) w.heap.size 0 0 ∧ Below w.heap.size w ((w.alloc (mvB 0 0)).alloc (.cells #[.int .i64 x] 3)) :=
  ⟨World.ownsRow_nil _ _ _ _, (BlM.new w 0 0).alloc _, ((Below.refl _ _).alloc (Nat.le_refl _) _).alloc (by simp) _⟩
theorem app_next {w W : World} {v : Value} {n : Nat} {xs : List Value} (x : Int) (own : W.ownsRow (w.heap.size + 1) 3 1 v n xs) (hm : Hid (BlM W w.heap.size 0 0)) (hb : Hid (Below w.heap.size w W)) :
    (W.alloc (.cells #[.int .i64 x] 3)).ownsRow (w.heap.size + 1) 3 1 v n xs ∧ BlM (W.alloc (.cells #[.int .i64 x] 3)) w.heap.size 0 0 ∧ Below w.heap.size w (W.alloc (.cells #[.int .i64 x] 3)) :=
  ⟨own.alloc _, hm.out.alloc _, hb.out.alloc hb.out.size _⟩
/-- There is a move to the gap. -/
def gapB (s : ByteArray) (f step : Int) (j : Nat) : Bool := !(sgAt s f == 46) && (sgAt s (f + ((j : Int) + 1) * step) == 46)
def GapPost (s : ByteArray) (f step : Int) (w : World) (e : Ending) (w' : World) : Prop :=
  ∃ (j : Nat) (p : Int), p = f + ((j : Int) + 1) * step ∧ RunS s f step j ∧ Below w.heap.size w w' ∧
    ((gapB s f step j = true ∧ ∃ v, e = .returned (.tuple #[.agg #[.int .i64 f, .int .i64 p], v, .bool true]) ∧ w'.ownsRow w.heap.size 3 1 v (needR s f step j).length (nus (needR s f step j))) ∨
      (gapB s f step j = false ∧ e = .returned (.tuple #[.agg #[.int .i64 0, .int .i64 0], .slice none 0 0, .bool false])))
theorem results_gap (tmps : Array Value) (w : World) (g : Nat) (x y : Value) (hp : tmps.getD 6 undef = .pointer (some ⟨g, 0, none⟩)) (c0 : w.cell? ⟨g, 0, none⟩ = some x) (c1 : w.cell? ⟨g, 1, none⟩ = some y) :
    (results Try.f43 tmps).run Try.prog w = .ok (.tuple #[.agg #[x, y], tmps.getD 7 undef, tmps.getD 8 undef]) w := by
  have hr : Try.f43.results = #[.cell 6 44, .tmp 7, .tmp 8] := rfl
  unfold results
  rw [hr]
  simp at hp
  simp [hp, asAddr, c0, c1, go_sem]
theorem isAn_no {c : UInt8} (h1 : c ≠ 84) (h2 : c ≠ 70) : isAn c = false := by unfold isAn; simp [h1, h2]
/-- Where a byte of a piece stands. -/
theorem mem_piece (s : ByteArray) (a b : Nat) (hb : b ≤ s.size) (c : UInt8) : c ∈ (s.extract a b).data.toList ↔ ∃ i : Nat, ∃ h : i < s.size, a ≤ i ∧ i < b ∧ s[i] = c := by
  have e : (s.extract a b).data.toList = ((byt s).take b).drop a := by rw [ext_str]; exact byt_str _
  rw [e, List.mem_iff_getElem]
  constructor
  · rintro ⟨k, hk, rfl⟩
    rw [List.length_drop, List.length_take, byt_len] at hk
    refine ⟨a + k, by omega, by omega, by omega, ?_⟩
    rw [List.getElem_drop, List.getElem_take]
    rfl
  · rintro ⟨i, hi, h1, h2, rfl⟩
    refine ⟨i - a, by rw [List.length_drop, List.length_take, byt_len]; omega, ?_⟩
    rw [List.getElem_drop, List.getElem_take]
    show s[a + (i - a)]'(by omega) = s[i]
    congr 1
    omega

theorem own_right (s : ByteArray) (f j : Nat) (p : Int) (hf : f < s.size) (hp : p = f + ((j : Int) + 1) * 1) (h0 : 0 ≤ p ∧ p < s.size) : decide (0 ≤ Lib.indexByte (s.extract (f + 1) (p.toNat)).data.toList s[f]) = owR s f (1) j := by
  rw [← Lib.contains_iff_indexByte, Bool.eq_iff_iff]
  unfold owR
  rw [List.contains_iff_mem, mem_piece s _ _ (by omega), List.any_eq_true]
  have hff := sgAt_in s f hf
  constructor
  · rintro ⟨i, hi, h1, h2, h3⟩
    refine ⟨i - (f + 1), List.mem_range.2 (by omega), ?_⟩
    have e : (f : Int) + (((i - (f + 1) : Nat) : Int) + 1) * 1 = (i : Nat) := by omega
    rw [e, sgAt_in s i hi, h3, hff]
    simp
  · rintro ⟨k, hk, h⟩
    have hk := List.mem_range.1 hk
    have hi : f + (k + 1) < s.size := by omega
    refine ⟨f + (k + 1), hi, by omega, by omega, ?_⟩
    have e : (f : Int) + ((k : Int) + 1) * 1 = ((f + (k + 1) : Nat) : Int) := by omega
    rw [e, sgAt_in s _ hi, hff] at h
    simpa using h
set_option maxRecDepth 100000 in
set_option maxHeartbeats 8000000 in
theorem gap_right (s : ByteArray) (f : Nat) (w : World) (hs : s.size ≤ 1000) (hf : f < s.size) :
    Calls Try.prog 43 #[.string s, .int .i64 f, .int .i64 (1)] w (GapPost s f (1) w) := by
  obtain ⟨i0, hi, hz0, hz1, hz2⟩ := info_parts Try.infoN
  have HI := Lib.hid hi
  have HZ0 := Lib.hid hz0
  have HZ1 := Lib.hid hz1
  have HZ2 := Lib.hid hz2
  clear hi hz0 hz1 hz2
  have hff := Lib.hid (sgAt_in s f hf)
  have HIX := Lib.hid (fun (x : ByteArray) (c : UInt8) (wx : World) => (Try.strings_IndexByte x c.toNat wx).mono (fun e w' (h : e = .returned (.int .i64 (Lib.indexByte x.data.toList ((c.toNat : Int)).toNat.toUInt8)) ∧ w' = wx) => show e = .returned (.int .i64 (Lib.indexByte x.data.toList ((c.toNat : Int)).toNat.toUInt8)) ∧ wx = w' from ⟨h.1, h.2.symm⟩))
  have HE : ∀ c : UInt8, ((c.toNat : Int)).toNat.toUInt8 = c := fun c => by simp
  have HEE := Lib.hid HE
  clear HE
  go_enter Try.func43, Try.ntmps43
  go_wp2
  go_loop [10] (fun t => ∃ (j : Nat) (p : Int), t = .int .i64 p ∧ Hid (p = f + ((j : Int) + 1) * 1) ∧ -1 ≤ p ∧ p ≤ s.size ∧ Hid (∀ k : Nat, k < j → isAn (sgAt s (f + ((k : Int) + 1) * 1)) = true)) (fun t => ((s.size : Int) + 1 - intOf t).toNat)
  case atStart => exact ⟨0, _, rfl, Lib.hid (by omega), by omega, by omega, Lib.hid fun k hk => absurd hk (by omega)⟩
  case round =>
    obtain ⟨j, p, rfl, hP, hp1, hp2, hR⟩ := hrel
    rcases is_or2' (sgAt s p) 84 84 rfl with ⟨ha, hv, hvn⟩ | ⟨ha, hv, hvn⟩
    · skip
      obtain ⟨_, _⟩ := sg_range s p (by rw [ha]; decide)
      have HA : Hid (isAn (sgAt s p) = true) := Lib.hid (by rw [ha]; decide)
      clear ha
      go_wp2_with (go_at_call 55; refine (signIn_any _ _ _).mono ?_; rintro e w' ⟨rfl, rfl⟩)
      go_round
      case rel =>
        refine ⟨j + 1, _, rfl, Lib.hid (by have := hP.out; push_cast; omega), by omega, by omega, Lib.hid fun k hk => ?_⟩
        by_cases e : k = j
        · subst e; rw [← hP.out]; exact HA.out
        · exact hR.out k (by omega)
      case measure => simp [intOf]; omega
    · rcases is_or2' (sgAt s p) 70 70 rfl with ⟨ha2, hv2, hvn2⟩ | ⟨ha2, hv2, hvn2⟩
      · have ha := ha2
        clear ha2
        obtain ⟨_, _⟩ := sg_range s p (by rw [ha]; decide)
        have HA : Hid (isAn (sgAt s p) = true) := Lib.hid (by rw [ha]; decide)
        clear ha
        go_wp2_with (go_at_call 55; refine (signIn_any _ _ _).mono ?_; rintro e w' ⟨rfl, rfl⟩)
        go_round
        case rel =>
          refine ⟨j + 1, _, rfl, Lib.hid (by have := hP.out; push_cast; omega), by omega, by omega, Lib.hid fun k hk => ?_⟩
          by_cases e : k = j
          · subst e; rw [← hP.out]; exact HA.out
          · exact hR.out k (by omega)
        case measure => simp [intOf]; omega
      · have RUN : Hid (RunS s f (1) j) := Lib.hid ⟨hR.out, by rw [← hP.out]; exact isAn_no ha ha2⟩
        clear ha ha2
        rcases is_or2' s[f] 46 46 rfl with ⟨h46, hw1, hw2⟩ | ⟨h46, hw1, hw2⟩
        · have HG : Hid (gapB s f (1) j = false) := Lib.hid (by unfold gapB; rw [hff.out, h46]; rfl)
          clear h46
          go_wp2_with (go_at_call 55; refine (signIn_any _ _ _).mono ?_; rintro e w' ⟨rfl, rfl⟩)
          (try simp only [Exit.inBlock, Exit.then]); refine bodyPost_ret (results_gap _ _ w.heap.size (.int .i64 0) (.int .i64 0) rfl (by simp [World.cell?_alloc_new]) (by simp [World.cell?_alloc_new])) rfl ?_
          exact ⟨j, p, hP.out, RUN.out, (Below.refl _ _).alloc (Nat.le_refl _) _, .inr ⟨HG.out, rfl⟩⟩
        · rcases is_or2' (sgAt s p) 46 46 rfl with ⟨hg46, hx1, hx2⟩ | ⟨hg46, hx1, hx2⟩
          · have HG : Hid (gapB s f (1) j = true) := Lib.hid (by unfold gapB; rw [hff.out, ← hP.out, hg46]; simpa using h46)
            obtain ⟨hp0, hps⟩ := sg_range s p (by rw [hg46]; decide)
            clear h46 hg46
            have hmin : (min (f : Int) p + 1).toNat = f + 1 := by have := hP.out; omega
            have hmax : (max (f : Int) p).toNat = p.toNat := by have := hP.out; omega
            obtain ⟨sub, hsub⟩ : ∃ sub, s.extract (min (f : Int) p + 1).toNat (max (f : Int) p).toNat = sub := ⟨_, rfl⟩
            have hsub0 : sub = s.extract (f + 1) (p.toNat) := by rw [← hsub, hmin, hmax]
            clear hmin hmax
            have HOW := Lib.hid (own_right s f j p hf hP.out ⟨hp0, hps⟩)
            rw [← hsub0] at HOW
            have hsz : Hid (sub.size = j) := Lib.hid (by have := hP.out; rw [hsub0, ByteArray.size_extract]; omega)
            have hrel1 : (f : Int) < p := by have := hP.out; omega
            have hrel2 : (f : Int) + 1 ≤ p := by have := hP.out; omega
            have hzz : sub.size ≤ 1000 := by have := hsz.out; have := hP.out; omega
            have hmm1 : 0 ≤ min (f : Int) p + 1 := by omega
            have hmm2 : min (f : Int) p + 1 ≤ max (f : Int) p := by omega
            have hmm3 : max (f : Int) p ≤ (s.size : Int) := by omega
            clear hsub0
            have hzc : sub.size = 0 ∨ 0 ≤ sub.size := by omega
            clear hzc
            have HNL : Hid (needR s f (1) j = needL (bkR s f (1)) (owR s f (1) j) (decide (1 < j))) := Lib.hid rfl
            rcases is_or2' s[f] 84 84 rfl with ⟨h84, hy1, hy2⟩ | ⟨h84, hy1, hy2⟩
            · have HBK : Hid (bkR s f (1) = false) := Lib.hid (by unfold bkR; rw [hff.out]; simp [h84])
              clear h84
              cases how : owR s f (1) j
              · have HO := Lib.hid how
                have HI0 : ¬ (0 ≤ Lib.indexByte sub.data.toList s[f]) := by have h := HOW.out; rw [how] at h; simpa using h
                clear how
                by_cases hlo : 1 < j
                · have HL : Hid (needR s f (1) j = [2]) := Lib.hid (by rw [HNL.out, HBK.out, HO.out, decide_eq_true hlo]; rfl)
                  have hlen : (1 : Int) < (sub.size : Int) := by rw [hsz.out]; omega
                  clear hlo
                  go_wp2_with (first | (go_at_call 55; refine (signIn_any _ _ _).mono ?_; rintro e w' ⟨rfl, rfl⟩) | (go_at_call 53; refine (HIX.out _ _ _).mono ?_; rintro e w' ⟨rfl, rfl⟩; rw [HEE.out]) | (at_builtin; refine wpList_append_own _ rfl _ _ 37 rfl (w.heap.size + 1) 3 i0 (.int .i64 0) 1 8 Try.underlying37 HI.out HZ0.out HZ1.out HZ2.out rfl (by decide) _ 0 (nus []) rfl (app_first w 2).1 ⟨w.heap.size + 1, 0, none⟩ 1 1 [.int .i64 2] rfl rfl (cell_one_at _ _ (by simp) _ _) (fun u hu => by simp at hu; subst hu; rfl) (by decide) (by decide) (by simp <;> omega) ?_; intro v1 w1 ho1 hg1 _; obtain ⟨hm1, hb1, hz1⟩ := app_keep (app_first w 2).1 (app_first w 2).2.1 (app_first w 2).2.2 hg1; have c0 := hm1.out.cell0; have c1 := hm1.out.cell1; have f0 := hm1.out.frozen 0; have f1 := hm1.out.frozen 1))
                  (try simp only [Exit.inBlock, Exit.then]); refine bodyPost_ret (results_gap _ _ w.heap.size (.int .i64 f) (.int .i64 p) rfl (by rw [World.cell?_setCell_other _ _ _ _ (by simp), World.cell?_setCell_same _ _ _ c0]) (by rw [World.cell?_setCell_same _ _ _ (by rw [World.cell?_setCell_other _ _ _ _ (by simp)]; exact c1)])) rfl ?_
                  refine ⟨j, p, hP.out, RUN.out, (hb1.out.setCell (Nat.le_refl _) _).setCell (Nat.le_refl _) _, .inl ⟨HG.out, _, rfl, ?_⟩⟩
                  rw [HL.out]
                  exact own_base (own_farB ho1 (((FarB.refl (some w.heap.size) _).set 0 _).set 1 _) (fun g hg e => own_ne_low ho1 (e.symm.trans hg.symm))) (by omega)
                · have HL : Hid (needR s f (1) j = []) := Lib.hid (by rw [HNL.out, HBK.out, HO.out, decide_eq_false hlo]; rfl)
                  have hlen : ¬ ((1 : Int) < (sub.size : Int)) := by rw [hsz.out]; omega
                  clear hlo
                  go_wp2_with (first | (go_at_call 55; refine (signIn_any _ _ _).mono ?_; rintro e w' ⟨rfl, rfl⟩) | (go_at_call 53; refine (HIX.out _ _ _).mono ?_; rintro e w' ⟨rfl, rfl⟩; rw [HEE.out]))
                  (try simp only [Exit.inBlock, Exit.then]); refine bodyPost_ret (results_gap _ _ w.heap.size (.int .i64 f) (.int .i64 p) rfl (by simp [World.cell?_alloc_new]) (by simp [World.cell?_alloc_new])) rfl ?_
                  exact ⟨j, p, hP.out, RUN.out, (Below.refl _ _).alloc (Nat.le_refl _) _, .inl ⟨HG.out, _, rfl, by rw [HL.out]; exact World.ownsRow_nil _ _ _ _⟩⟩
              · have HO := Lib.hid how
                have HI0 : 0 ≤ Lib.indexByte sub.data.toList s[f] := by have h := HOW.out; rw [how] at h; simpa using h
                clear how
                by_cases hlo : 1 < j
                · have HL : Hid (needR s f (1) j = [0, 2]) := Lib.hid (by rw [HNL.out, HBK.out, HO.out, decide_eq_true hlo]; rfl)
                  have hlen : (1 : Int) < (sub.size : Int) := by rw [hsz.out]; omega
                  clear hlo
                  go_wp2_with (first | (go_at_call 55; refine (signIn_any _ _ _).mono ?_; rintro e w' ⟨rfl, rfl⟩) | (go_at_call 53; refine (HIX.out _ _ _).mono ?_; rintro e w' ⟨rfl, rfl⟩; rw [HEE.out]) | (at_builtin; refine wpList_append_own _ rfl _ _ 37 rfl (w.heap.size + 1) 3 i0 (.int .i64 0) 1 8 Try.underlying37 HI.out HZ0.out HZ1.out HZ2.out rfl (by decide) _ 0 (nus []) rfl (app_first w 0).1 ⟨w.heap.size + 1, 0, none⟩ 1 1 [.int .i64 0] rfl rfl (cell_one_at _ _ (by simp) _ _) (fun u hu => by simp at hu; subst hu; rfl) (by decide) (by decide) (by simp <;> omega) ?_; intro v1 w1 ho1 hg1 _; obtain ⟨hm1, hb1, hz1⟩ := app_keep (app_first w 0).1 (app_first w 0).2.1 (app_first w 0).2.2 hg1) | (at_builtin; refine wpList_append_own _ rfl _ _ 37 rfl (w.heap.size + 1) 3 i0 (.int .i64 0) 1 8 Try.underlying37 HI.out HZ0.out HZ1.out HZ2.out rfl (by decide) _ 1 (nus [(0 : Int)]) rfl (app_next 2 ho1 hm1 hb1).1 ⟨w1.heap.size, 0, none⟩ 1 1 [.int .i64 2] rfl rfl (cell_one_at _ _ (by simp) _ _) (fun u hu => by simp at hu; subst hu; rfl) (by decide) (by decide) (by simp <;> omega) ?_; intro v2 w2 ho2 hg2 _; obtain ⟨hm2, hb2, hz2⟩ := app_keep (app_next 2 ho1 hm1 hb1).1 (app_next 2 ho1 hm1 hb1).2.1 (app_next 2 ho1 hm1 hb1).2.2 hg2; have c0 := hm2.out.cell0; have c1 := hm2.out.cell1; have f0 := hm2.out.frozen 0; have f1 := hm2.out.frozen 1))
                  (try simp only [Exit.inBlock, Exit.then]); refine bodyPost_ret (results_gap _ _ w.heap.size (.int .i64 f) (.int .i64 p) rfl (by rw [World.cell?_setCell_other _ _ _ _ (by simp), World.cell?_setCell_same _ _ _ c0]) (by rw [World.cell?_setCell_same _ _ _ (by rw [World.cell?_setCell_other _ _ _ _ (by simp)]; exact c1)])) rfl ?_
                  refine ⟨j, p, hP.out, RUN.out, (hb2.out.setCell (Nat.le_refl _) _).setCell (Nat.le_refl _) _, .inl ⟨HG.out, _, rfl, ?_⟩⟩
                  rw [HL.out]
                  exact own_base (own_farB ho2 (((FarB.refl (some w.heap.size) _).set 0 _).set 1 _) (fun g hg e => own_ne_low ho2 (e.symm.trans hg.symm))) (by omega)
                · have HL : Hid (needR s f (1) j = [0]) := Lib.hid (by rw [HNL.out, HBK.out, HO.out, decide_eq_false hlo]; rfl)
                  have hlen : ¬ ((1 : Int) < (sub.size : Int)) := by rw [hsz.out]; omega
                  clear hlo
                  go_wp2_with (first | (go_at_call 55; refine (signIn_any _ _ _).mono ?_; rintro e w' ⟨rfl, rfl⟩) | (go_at_call 53; refine (HIX.out _ _ _).mono ?_; rintro e w' ⟨rfl, rfl⟩; rw [HEE.out]) | (at_builtin; refine wpList_append_own _ rfl _ _ 37 rfl (w.heap.size + 1) 3 i0 (.int .i64 0) 1 8 Try.underlying37 HI.out HZ0.out HZ1.out HZ2.out rfl (by decide) _ 0 (nus []) rfl (app_first w 0).1 ⟨w.heap.size + 1, 0, none⟩ 1 1 [.int .i64 0] rfl rfl (cell_one_at _ _ (by simp) _ _) (fun u hu => by simp at hu; subst hu; rfl) (by decide) (by decide) (by simp <;> omega) ?_; intro v1 w1 ho1 hg1 _; obtain ⟨hm1, hb1, hz1⟩ := app_keep (app_first w 0).1 (app_first w 0).2.1 (app_first w 0).2.2 hg1; have c0 := hm1.out.cell0; have c1 := hm1.out.cell1; have f0 := hm1.out.frozen 0; have f1 := hm1.out.frozen 1))
                  (try simp only [Exit.inBlock, Exit.then]); refine bodyPost_ret (results_gap _ _ w.heap.size (.int .i64 f) (.int .i64 p) rfl (by rw [World.cell?_setCell_other _ _ _ _ (by simp), World.cell?_setCell_same _ _ _ c0]) (by rw [World.cell?_setCell_same _ _ _ (by rw [World.cell?_setCell_other _ _ _ _ (by simp)]; exact c1)])) rfl ?_
                  refine ⟨j, p, hP.out, RUN.out, (hb1.out.setCell (Nat.le_refl _) _).setCell (Nat.le_refl _) _, .inl ⟨HG.out, _, rfl, ?_⟩⟩
                  rw [HL.out]
                  exact own_base (own_farB ho1 (((FarB.refl (some w.heap.size) _).set 0 _).set 1 _) (fun g hg e => own_ne_low ho1 (e.symm.trans hg.symm))) (by omega)
            · have HBK : Hid (bkR s f (1) = true) := Lib.hid (by unfold bkR; rw [hff.out]; simp [h84])
              clear h84
              cases how : owR s f (1) j
              · have HO := Lib.hid how
                have HI0 : ¬ (0 ≤ Lib.indexByte sub.data.toList s[f]) := by have h := HOW.out; rw [how] at h; simpa using h
                clear how
                by_cases hlo : 1 < j
                · have HL : Hid (needR s f (1) j = [1, 2]) := Lib.hid (by rw [HNL.out, HBK.out, HO.out, decide_eq_true hlo]; rfl)
                  have hlen : (1 : Int) < (sub.size : Int) := by rw [hsz.out]; omega
                  clear hlo
                  go_wp2_with (first | (go_at_call 55; refine (signIn_any _ _ _).mono ?_; rintro e w' ⟨rfl, rfl⟩) | (go_at_call 53; refine (HIX.out _ _ _).mono ?_; rintro e w' ⟨rfl, rfl⟩; rw [HEE.out]) | (at_builtin; refine wpList_append_own _ rfl _ _ 37 rfl (w.heap.size + 1) 3 i0 (.int .i64 0) 1 8 Try.underlying37 HI.out HZ0.out HZ1.out HZ2.out rfl (by decide) _ 0 (nus []) rfl (app_first w 1).1 ⟨w.heap.size + 1, 0, none⟩ 1 1 [.int .i64 1] rfl rfl (cell_one_at _ _ (by simp) _ _) (fun u hu => by simp at hu; subst hu; rfl) (by decide) (by decide) (by simp <;> omega) ?_; intro v1 w1 ho1 hg1 _; obtain ⟨hm1, hb1, hz1⟩ := app_keep (app_first w 1).1 (app_first w 1).2.1 (app_first w 1).2.2 hg1) | (at_builtin; refine wpList_append_own _ rfl _ _ 37 rfl (w.heap.size + 1) 3 i0 (.int .i64 0) 1 8 Try.underlying37 HI.out HZ0.out HZ1.out HZ2.out rfl (by decide) _ 1 (nus [(1 : Int)]) rfl (app_next 2 ho1 hm1 hb1).1 ⟨w1.heap.size, 0, none⟩ 1 1 [.int .i64 2] rfl rfl (cell_one_at _ _ (by simp) _ _) (fun u hu => by simp at hu; subst hu; rfl) (by decide) (by decide) (by simp <;> omega) ?_; intro v2 w2 ho2 hg2 _; obtain ⟨hm2, hb2, hz2⟩ := app_keep (app_next 2 ho1 hm1 hb1).1 (app_next 2 ho1 hm1 hb1).2.1 (app_next 2 ho1 hm1 hb1).2.2 hg2; have c0 := hm2.out.cell0; have c1 := hm2.out.cell1; have f0 := hm2.out.frozen 0; have f1 := hm2.out.frozen 1))
                  (try simp only [Exit.inBlock, Exit.then]); refine bodyPost_ret (results_gap _ _ w.heap.size (.int .i64 f) (.int .i64 p) rfl (by rw [World.cell?_setCell_other _ _ _ _ (by simp), World.cell?_setCell_same _ _ _ c0]) (by rw [World.cell?_setCell_same _ _ _ (by rw [World.cell?_setCell_other _ _ _ _ (by simp)]; exact c1)])) rfl ?_
                  refine ⟨j, p, hP.out, RUN.out, (hb2.out.setCell (Nat.le_refl _) _).setCell (Nat.le_refl _) _, .inl ⟨HG.out, _, rfl, ?_⟩⟩
                  rw [HL.out]
                  exact own_base (own_farB ho2 (((FarB.refl (some w.heap.size) _).set 0 _).set 1 _) (fun g hg e => own_ne_low ho2 (e.symm.trans hg.symm))) (by omega)
                · have HL : Hid (needR s f (1) j = [1]) := Lib.hid (by rw [HNL.out, HBK.out, HO.out, decide_eq_false hlo]; rfl)
                  have hlen : ¬ ((1 : Int) < (sub.size : Int)) := by rw [hsz.out]; omega
                  clear hlo
                  go_wp2_with (first | (go_at_call 55; refine (signIn_any _ _ _).mono ?_; rintro e w' ⟨rfl, rfl⟩) | (go_at_call 53; refine (HIX.out _ _ _).mono ?_; rintro e w' ⟨rfl, rfl⟩; rw [HEE.out]) | (at_builtin; refine wpList_append_own _ rfl _ _ 37 rfl (w.heap.size + 1) 3 i0 (.int .i64 0) 1 8 Try.underlying37 HI.out HZ0.out HZ1.out HZ2.out rfl (by decide) _ 0 (nus []) rfl (app_first w 1).1 ⟨w.heap.size + 1, 0, none⟩ 1 1 [.int .i64 1] rfl rfl (cell_one_at _ _ (by simp) _ _) (fun u hu => by simp at hu; subst hu; rfl) (by decide) (by decide) (by simp <;> omega) ?_; intro v1 w1 ho1 hg1 _; obtain ⟨hm1, hb1, hz1⟩ := app_keep (app_first w 1).1 (app_first w 1).2.1 (app_first w 1).2.2 hg1; have c0 := hm1.out.cell0; have c1 := hm1.out.cell1; have f0 := hm1.out.frozen 0; have f1 := hm1.out.frozen 1))
                  (try simp only [Exit.inBlock, Exit.then]); refine bodyPost_ret (results_gap _ _ w.heap.size (.int .i64 f) (.int .i64 p) rfl (by rw [World.cell?_setCell_other _ _ _ _ (by simp), World.cell?_setCell_same _ _ _ c0]) (by rw [World.cell?_setCell_same _ _ _ (by rw [World.cell?_setCell_other _ _ _ _ (by simp)]; exact c1)])) rfl ?_
                  refine ⟨j, p, hP.out, RUN.out, (hb1.out.setCell (Nat.le_refl _) _).setCell (Nat.le_refl _) _, .inl ⟨HG.out, _, rfl, ?_⟩⟩
                  rw [HL.out]
                  exact own_base (own_farB ho1 (((FarB.refl (some w.heap.size) _).set 0 _).set 1 _) (fun g hg e => own_ne_low ho1 (e.symm.trans hg.symm))) (by omega)
              · have HO := Lib.hid how
                have HI0 : 0 ≤ Lib.indexByte sub.data.toList s[f] := by have h := HOW.out; rw [how] at h; simpa using h
                clear how
                by_cases hlo : 1 < j
                · have HL : Hid (needR s f (1) j = [1, 0, 2]) := Lib.hid (by rw [HNL.out, HBK.out, HO.out, decide_eq_true hlo]; rfl)
                  have hlen : (1 : Int) < (sub.size : Int) := by rw [hsz.out]; omega
                  clear hlo
                  go_wp2_with (first | (go_at_call 55; refine (signIn_any _ _ _).mono ?_; rintro e w' ⟨rfl, rfl⟩) | (go_at_call 53; refine (HIX.out _ _ _).mono ?_; rintro e w' ⟨rfl, rfl⟩; rw [HEE.out]) | (at_builtin; refine wpList_append_own _ rfl _ _ 37 rfl (w.heap.size + 1) 3 i0 (.int .i64 0) 1 8 Try.underlying37 HI.out HZ0.out HZ1.out HZ2.out rfl (by decide) _ 0 (nus []) rfl (app_first w 1).1 ⟨w.heap.size + 1, 0, none⟩ 1 1 [.int .i64 1] rfl rfl (cell_one_at _ _ (by simp) _ _) (fun u hu => by simp at hu; subst hu; rfl) (by decide) (by decide) (by simp <;> omega) ?_; intro v1 w1 ho1 hg1 _; obtain ⟨hm1, hb1, hz1⟩ := app_keep (app_first w 1).1 (app_first w 1).2.1 (app_first w 1).2.2 hg1) | (at_builtin; refine wpList_append_own _ rfl _ _ 37 rfl (w.heap.size + 1) 3 i0 (.int .i64 0) 1 8 Try.underlying37 HI.out HZ0.out HZ1.out HZ2.out rfl (by decide) _ 1 (nus [(1 : Int)]) rfl (app_next 0 ho1 hm1 hb1).1 ⟨w1.heap.size, 0, none⟩ 1 1 [.int .i64 0] rfl rfl (cell_one_at _ _ (by simp) _ _) (fun u hu => by simp at hu; subst hu; rfl) (by decide) (by decide) (by simp <;> omega) ?_; intro v2 w2 ho2 hg2 _; obtain ⟨hm2, hb2, hz2⟩ := app_keep (app_next 0 ho1 hm1 hb1).1 (app_next 0 ho1 hm1 hb1).2.1 (app_next 0 ho1 hm1 hb1).2.2 hg2) | (at_builtin; refine wpList_append_own _ rfl _ _ 37 rfl (w.heap.size + 1) 3 i0 (.int .i64 0) 1 8 Try.underlying37 HI.out HZ0.out HZ1.out HZ2.out rfl (by decide) _ 2 (nus [(1 : Int), (0 : Int)]) rfl (app_next 2 ho2 hm2 hb2).1 ⟨w2.heap.size, 0, none⟩ 1 1 [.int .i64 2] rfl rfl (cell_one_at _ _ (by simp) _ _) (fun u hu => by simp at hu; subst hu; rfl) (by decide) (by decide) (by simp <;> omega) ?_; intro v3 w3 ho3 hg3 _; obtain ⟨hm3, hb3, hz3⟩ := app_keep (app_next 2 ho2 hm2 hb2).1 (app_next 2 ho2 hm2 hb2).2.1 (app_next 2 ho2 hm2 hb2).2.2 hg3; have c0 := hm3.out.cell0; have c1 := hm3.out.cell1; have f0 := hm3.out.frozen 0; have f1 := hm3.out.frozen 1))
                  (try simp only [Exit.inBlock, Exit.then]); refine bodyPost_ret (results_gap _ _ w.heap.size (.int .i64 f) (.int .i64 p) rfl (by rw [World.cell?_setCell_other _ _ _ _ (by simp), World.cell?_setCell_same _ _ _ c0]) (by rw [World.cell?_setCell_same _ _ _ (by rw [World.cell?_setCell_other _ _ _ _ (by simp)]; exact c1)])) rfl ?_
                  refine ⟨j, p, hP.out, RUN.out, (hb3.out.setCell (Nat.le_refl _) _).setCell (Nat.le_refl _) _, .inl ⟨HG.out, _, rfl, ?_⟩⟩
                  rw [HL.out]
                  exact own_base (own_farB ho3 (((FarB.refl (some w.heap.size) _).set 0 _).set 1 _) (fun g hg e => own_ne_low ho3 (e.symm.trans hg.symm))) (by omega)
                · have HL : Hid (needR s f (1) j = [1, 0]) := Lib.hid (by rw [HNL.out, HBK.out, HO.out, decide_eq_false hlo]; rfl)
                  have hlen : ¬ ((1 : Int) < (sub.size : Int)) := by rw [hsz.out]; omega
                  clear hlo
                  go_wp2_with (first | (go_at_call 55; refine (signIn_any _ _ _).mono ?_; rintro e w' ⟨rfl, rfl⟩) | (go_at_call 53; refine (HIX.out _ _ _).mono ?_; rintro e w' ⟨rfl, rfl⟩; rw [HEE.out]) | (at_builtin; refine wpList_append_own _ rfl _ _ 37 rfl (w.heap.size + 1) 3 i0 (.int .i64 0) 1 8 Try.underlying37 HI.out HZ0.out HZ1.out HZ2.out rfl (by decide) _ 0 (nus []) rfl (app_first w 1).1 ⟨w.heap.size + 1, 0, none⟩ 1 1 [.int .i64 1] rfl rfl (cell_one_at _ _ (by simp) _ _) (fun u hu => by simp at hu; subst hu; rfl) (by decide) (by decide) (by simp <;> omega) ?_; intro v1 w1 ho1 hg1 _; obtain ⟨hm1, hb1, hz1⟩ := app_keep (app_first w 1).1 (app_first w 1).2.1 (app_first w 1).2.2 hg1) | (at_builtin; refine wpList_append_own _ rfl _ _ 37 rfl (w.heap.size + 1) 3 i0 (.int .i64 0) 1 8 Try.underlying37 HI.out HZ0.out HZ1.out HZ2.out rfl (by decide) _ 1 (nus [(1 : Int)]) rfl (app_next 0 ho1 hm1 hb1).1 ⟨w1.heap.size, 0, none⟩ 1 1 [.int .i64 0] rfl rfl (cell_one_at _ _ (by simp) _ _) (fun u hu => by simp at hu; subst hu; rfl) (by decide) (by decide) (by simp <;> omega) ?_; intro v2 w2 ho2 hg2 _; obtain ⟨hm2, hb2, hz2⟩ := app_keep (app_next 0 ho1 hm1 hb1).1 (app_next 0 ho1 hm1 hb1).2.1 (app_next 0 ho1 hm1 hb1).2.2 hg2; have c0 := hm2.out.cell0; have c1 := hm2.out.cell1; have f0 := hm2.out.frozen 0; have f1 := hm2.out.frozen 1))
                  (try simp only [Exit.inBlock, Exit.then]); refine bodyPost_ret (results_gap _ _ w.heap.size (.int .i64 f) (.int .i64 p) rfl (by rw [World.cell?_setCell_other _ _ _ _ (by simp), World.cell?_setCell_same _ _ _ c0]) (by rw [World.cell?_setCell_same _ _ _ (by rw [World.cell?_setCell_other _ _ _ _ (by simp)]; exact c1)])) rfl ?_
                  refine ⟨j, p, hP.out, RUN.out, (hb2.out.setCell (Nat.le_refl _) _).setCell (Nat.le_refl _) _, .inl ⟨HG.out, _, rfl, ?_⟩⟩
                  rw [HL.out]
                  exact own_base (own_farB ho2 (((FarB.refl (some w.heap.size) _).set 0 _).set 1 _) (fun g hg e => own_ne_low ho2 (e.symm.trans hg.symm))) (by omega)
          · have HG : Hid (gapB s f (1) j = false) := Lib.hid (by unfold gapB; rw [← hP.out]; simp [hg46])
            clear h46 hg46
            go_wp2_with (go_at_call 55; refine (signIn_any _ _ _).mono ?_; rintro e w' ⟨rfl, rfl⟩)
            (try simp only [Exit.inBlock, Exit.then]); refine bodyPost_ret (results_gap _ _ w.heap.size (.int .i64 0) (.int .i64 0) rfl (by simp [World.cell?_alloc_new]) (by simp [World.cell?_alloc_new])) rfl ?_
            exact ⟨j, p, hP.out, RUN.out, (Below.refl _ _).alloc (Nat.le_refl _) _, .inr ⟨HG.out, rfl⟩⟩
theorem own_left (s : ByteArray) (f j : Nat) (p : Int) (hf : f < s.size) (hp : p = f + ((j : Int) + 1) * -1) (h0 : 0 ≤ p ∧ p < s.size) : decide (0 ≤ Lib.indexByte (s.extract (p.toNat + 1) (f)).data.toList s[f]) = owR s f (-1) j := by
  rw [← Lib.contains_iff_indexByte, Bool.eq_iff_iff]
  unfold owR
  rw [List.contains_iff_mem, mem_piece s _ _ (by omega), List.any_eq_true]
  have hff := sgAt_in s f hf
  constructor
  · rintro ⟨i, hi, h1, h2, h3⟩
    refine ⟨f - 1 - i, List.mem_range.2 (by omega), ?_⟩
    have e : (f : Int) + (((f - 1 - i : Nat) : Int) + 1) * -1 = (i : Nat) := by omega
    rw [e, sgAt_in s i hi, h3, hff]
    simp
  · rintro ⟨k, hk, h⟩
    have hk := List.mem_range.1 hk
    have hi : f - (k + 1) < s.size := by omega
    refine ⟨f - (k + 1), hi, by omega, by omega, ?_⟩
    have e : (f : Int) + ((k : Int) + 1) * -1 = ((f - (k + 1) : Nat) : Int) := by omega
    rw [e, sgAt_in s _ hi, hff] at h
    simpa using h
set_option maxRecDepth 100000 in
set_option maxHeartbeats 8000000 in
theorem gap_left (s : ByteArray) (f : Nat) (w : World) (hs : s.size ≤ 1000) (hf : f < s.size) :
    Calls Try.prog 43 #[.string s, .int .i64 f, .int .i64 (-1)] w (GapPost s f (-1) w) := by
  obtain ⟨i0, hi, hz0, hz1, hz2⟩ := info_parts Try.infoN
  have HI := Lib.hid hi
  have HZ0 := Lib.hid hz0
  have HZ1 := Lib.hid hz1
  have HZ2 := Lib.hid hz2
  clear hi hz0 hz1 hz2
  have hff := Lib.hid (sgAt_in s f hf)
  have HIX := Lib.hid (fun (x : ByteArray) (c : UInt8) (wx : World) => (Try.strings_IndexByte x c.toNat wx).mono (fun e w' (h : e = .returned (.int .i64 (Lib.indexByte x.data.toList ((c.toNat : Int)).toNat.toUInt8)) ∧ w' = wx) => show e = .returned (.int .i64 (Lib.indexByte x.data.toList ((c.toNat : Int)).toNat.toUInt8)) ∧ wx = w' from ⟨h.1, h.2.symm⟩))
  have HE : ∀ c : UInt8, ((c.toNat : Int)).toNat.toUInt8 = c := fun c => by simp
  have HEE := Lib.hid HE
  clear HE
  go_enter Try.func43, Try.ntmps43
  go_wp2
  go_loop [10] (fun t => ∃ (j : Nat) (p : Int), t = .int .i64 p ∧ Hid (p = f + ((j : Int) + 1) * -1) ∧ -1 ≤ p ∧ p ≤ s.size ∧ Hid (∀ k : Nat, k < j → isAn (sgAt s (f + ((k : Int) + 1) * -1)) = true)) (fun t => (intOf t + 1).toNat)
  case atStart => exact ⟨0, _, rfl, Lib.hid (by omega), by omega, by omega, Lib.hid fun k hk => absurd hk (by omega)⟩
  case round =>
    obtain ⟨j, p, rfl, hP, hp1, hp2, hR⟩ := hrel
    rcases is_or2' (sgAt s p) 84 84 rfl with ⟨ha, hv, hvn⟩ | ⟨ha, hv, hvn⟩
    · skip
      obtain ⟨_, _⟩ := sg_range s p (by rw [ha]; decide)
      have HA : Hid (isAn (sgAt s p) = true) := Lib.hid (by rw [ha]; decide)
      clear ha
      go_wp2_with (go_at_call 55; refine (signIn_any _ _ _).mono ?_; rintro e w' ⟨rfl, rfl⟩)
      go_round
      case rel =>
        refine ⟨j + 1, _, rfl, Lib.hid (by have := hP.out; push_cast; omega), by omega, by omega, Lib.hid fun k hk => ?_⟩
        by_cases e : k = j
        · subst e; rw [← hP.out]; exact HA.out
        · exact hR.out k (by omega)
      case measure => simp [intOf]; omega
    · rcases is_or2' (sgAt s p) 70 70 rfl with ⟨ha2, hv2, hvn2⟩ | ⟨ha2, hv2, hvn2⟩
      · have ha := ha2
        clear ha2
        obtain ⟨_, _⟩ := sg_range s p (by rw [ha]; decide)
        have HA : Hid (isAn (sgAt s p) = true) := Lib.hid (by rw [ha]; decide)
        clear ha
        go_wp2_with (go_at_call 55; refine (signIn_any _ _ _).mono ?_; rintro e w' ⟨rfl, rfl⟩)
        go_round
        case rel =>
          refine ⟨j + 1, _, rfl, Lib.hid (by have := hP.out; push_cast; omega), by omega, by omega, Lib.hid fun k hk => ?_⟩
          by_cases e : k = j
          · subst e; rw [← hP.out]; exact HA.out
          · exact hR.out k (by omega)
        case measure => simp [intOf]; omega
      · have RUN : Hid (RunS s f (-1) j) := Lib.hid ⟨hR.out, by rw [← hP.out]; exact isAn_no ha ha2⟩
        clear ha ha2
        rcases is_or2' s[f] 46 46 rfl with ⟨h46, hw1, hw2⟩ | ⟨h46, hw1, hw2⟩
        · have HG : Hid (gapB s f (-1) j = false) := Lib.hid (by unfold gapB; rw [hff.out, h46]; rfl)
          clear h46
          go_wp2_with (go_at_call 55; refine (signIn_any _ _ _).mono ?_; rintro e w' ⟨rfl, rfl⟩)
          (try simp only [Exit.inBlock, Exit.then]); refine bodyPost_ret (results_gap _ _ w.heap.size (.int .i64 0) (.int .i64 0) rfl (by simp [World.cell?_alloc_new]) (by simp [World.cell?_alloc_new])) rfl ?_
          exact ⟨j, p, hP.out, RUN.out, (Below.refl _ _).alloc (Nat.le_refl _) _, .inr ⟨HG.out, rfl⟩⟩
        · rcases is_or2' (sgAt s p) 46 46 rfl with ⟨hg46, hx1, hx2⟩ | ⟨hg46, hx1, hx2⟩
          · have HG : Hid (gapB s f (-1) j = true) := Lib.hid (by unfold gapB; rw [hff.out, ← hP.out, hg46]; simpa using h46)
            obtain ⟨hp0, hps⟩ := sg_range s p (by rw [hg46]; decide)
            clear h46 hg46
            have hmin : (min (f : Int) p + 1).toNat = p.toNat + 1 := by have := hP.out; omega
            have hmax : (max (f : Int) p).toNat = f := by have := hP.out; omega
            obtain ⟨sub, hsub⟩ : ∃ sub, s.extract (min (f : Int) p + 1).toNat (max (f : Int) p).toNat = sub := ⟨_, rfl⟩
            have hsub0 : sub = s.extract (p.toNat + 1) (f) := by rw [← hsub, hmin, hmax]
            clear hmin hmax
            have HOW := Lib.hid (own_left s f j p hf hP.out ⟨hp0, hps⟩)
            rw [← hsub0] at HOW
            have hsz : Hid (sub.size = j) := Lib.hid (by have := hP.out; rw [hsub0, ByteArray.size_extract]; omega)
            have hrel1 : p < (f : Int) := by have := hP.out; omega
            have hrel2 : p + 1 ≤ (f : Int) := by have := hP.out; omega
            have hzz : sub.size ≤ 1000 := by have := hsz.out; have := hP.out; omega
            have hmm1 : 0 ≤ min (f : Int) p + 1 := by omega
            have hmm2 : min (f : Int) p + 1 ≤ max (f : Int) p := by omega
            have hmm3 : max (f : Int) p ≤ (s.size : Int) := by omega
            clear hsub0
            have hzc : sub.size = 0 ∨ 0 ≤ sub.size := by omega
            clear hzc
            have HNL : Hid (needR s f (-1) j = needL (bkR s f (-1)) (owR s f (-1) j) (decide (1 < j))) := Lib.hid rfl
            rcases is_or2' s[f] 84 84 rfl with ⟨h84, hy1, hy2⟩ | ⟨h84, hy1, hy2⟩
            · have HBK : Hid (bkR s f (-1) = true) := Lib.hid (by unfold bkR; rw [hff.out]; simp [h84])
              clear h84
              cases how : owR s f (-1) j
              · have HO := Lib.hid how
                have HI0 : ¬ (0 ≤ Lib.indexByte sub.data.toList s[f]) := by have h := HOW.out; rw [how] at h; simpa using h
                clear how
                by_cases hlo : 1 < j
                · have HL : Hid (needR s f (-1) j = [1, 2]) := Lib.hid (by rw [HNL.out, HBK.out, HO.out, decide_eq_true hlo]; rfl)
                  have hlen : (1 : Int) < (sub.size : Int) := by rw [hsz.out]; omega
                  clear hlo
                  go_wp2_with (first | (go_at_call 55; refine (signIn_any _ _ _).mono ?_; rintro e w' ⟨rfl, rfl⟩) | (go_at_call 53; refine (HIX.out _ _ _).mono ?_; rintro e w' ⟨rfl, rfl⟩; rw [HEE.out]) | (at_builtin; refine wpList_append_own _ rfl _ _ 37 rfl (w.heap.size + 1) 3 i0 (.int .i64 0) 1 8 Try.underlying37 HI.out HZ0.out HZ1.out HZ2.out rfl (by decide) _ 0 (nus []) rfl (app_first w 1).1 ⟨w.heap.size + 1, 0, none⟩ 1 1 [.int .i64 1] rfl rfl (cell_one_at _ _ (by simp) _ _) (fun u hu => by simp at hu; subst hu; rfl) (by decide) (by decide) (by simp <;> omega) ?_; intro v1 w1 ho1 hg1 _; obtain ⟨hm1, hb1, hz1⟩ := app_keep (app_first w 1).1 (app_first w 1).2.1 (app_first w 1).2.2 hg1) | (at_builtin; refine wpList_append_own _ rfl _ _ 37 rfl (w.heap.size + 1) 3 i0 (.int .i64 0) 1 8 Try.underlying37 HI.out HZ0.out HZ1.out HZ2.out rfl (by decide) _ 1 (nus [(1 : Int)]) rfl (app_next 2 ho1 hm1 hb1).1 ⟨w1.heap.size, 0, none⟩ 1 1 [.int .i64 2] rfl rfl (cell_one_at _ _ (by simp) _ _) (fun u hu => by simp at hu; subst hu; rfl) (by decide) (by decide) (by simp <;> omega) ?_; intro v2 w2 ho2 hg2 _; obtain ⟨hm2, hb2, hz2⟩ := app_keep (app_next 2 ho1 hm1 hb1).1 (app_next 2 ho1 hm1 hb1).2.1 (app_next 2 ho1 hm1 hb1).2.2 hg2; have c0 := hm2.out.cell0; have c1 := hm2.out.cell1; have f0 := hm2.out.frozen 0; have f1 := hm2.out.frozen 1))
                  (try simp only [Exit.inBlock, Exit.then]); refine bodyPost_ret (results_gap _ _ w.heap.size (.int .i64 f) (.int .i64 p) rfl (by rw [World.cell?_setCell_other _ _ _ _ (by simp), World.cell?_setCell_same _ _ _ c0]) (by rw [World.cell?_setCell_same _ _ _ (by rw [World.cell?_setCell_other _ _ _ _ (by simp)]; exact c1)])) rfl ?_
                  refine ⟨j, p, hP.out, RUN.out, (hb2.out.setCell (Nat.le_refl _) _).setCell (Nat.le_refl _) _, .inl ⟨HG.out, _, rfl, ?_⟩⟩
                  rw [HL.out]
                  exact own_base (own_farB ho2 (((FarB.refl (some w.heap.size) _).set 0 _).set 1 _) (fun g hg e => own_ne_low ho2 (e.symm.trans hg.symm))) (by omega)
                · have HL : Hid (needR s f (-1) j = [1]) := Lib.hid (by rw [HNL.out, HBK.out, HO.out, decide_eq_false hlo]; rfl)
                  have hlen : ¬ ((1 : Int) < (sub.size : Int)) := by rw [hsz.out]; omega
                  clear hlo
                  go_wp2_with (first | (go_at_call 55; refine (signIn_any _ _ _).mono ?_; rintro e w' ⟨rfl, rfl⟩) | (go_at_call 53; refine (HIX.out _ _ _).mono ?_; rintro e w' ⟨rfl, rfl⟩; rw [HEE.out]) | (at_builtin; refine wpList_append_own _ rfl _ _ 37 rfl (w.heap.size + 1) 3 i0 (.int .i64 0) 1 8 Try.underlying37 HI.out HZ0.out HZ1.out HZ2.out rfl (by decide) _ 0 (nus []) rfl (app_first w 1).1 ⟨w.heap.size + 1, 0, none⟩ 1 1 [.int .i64 1] rfl rfl (cell_one_at _ _ (by simp) _ _) (fun u hu => by simp at hu; subst hu; rfl) (by decide) (by decide) (by simp <;> omega) ?_; intro v1 w1 ho1 hg1 _; obtain ⟨hm1, hb1, hz1⟩ := app_keep (app_first w 1).1 (app_first w 1).2.1 (app_first w 1).2.2 hg1; have c0 := hm1.out.cell0; have c1 := hm1.out.cell1; have f0 := hm1.out.frozen 0; have f1 := hm1.out.frozen 1))
                  (try simp only [Exit.inBlock, Exit.then]); refine bodyPost_ret (results_gap _ _ w.heap.size (.int .i64 f) (.int .i64 p) rfl (by rw [World.cell?_setCell_other _ _ _ _ (by simp), World.cell?_setCell_same _ _ _ c0]) (by rw [World.cell?_setCell_same _ _ _ (by rw [World.cell?_setCell_other _ _ _ _ (by simp)]; exact c1)])) rfl ?_
                  refine ⟨j, p, hP.out, RUN.out, (hb1.out.setCell (Nat.le_refl _) _).setCell (Nat.le_refl _) _, .inl ⟨HG.out, _, rfl, ?_⟩⟩
                  rw [HL.out]
                  exact own_base (own_farB ho1 (((FarB.refl (some w.heap.size) _).set 0 _).set 1 _) (fun g hg e => own_ne_low ho1 (e.symm.trans hg.symm))) (by omega)
              · have HO := Lib.hid how
                have HI0 : 0 ≤ Lib.indexByte sub.data.toList s[f] := by have h := HOW.out; rw [how] at h; simpa using h
                clear how
                by_cases hlo : 1 < j
                · have HL : Hid (needR s f (-1) j = [1, 0, 2]) := Lib.hid (by rw [HNL.out, HBK.out, HO.out, decide_eq_true hlo]; rfl)
                  have hlen : (1 : Int) < (sub.size : Int) := by rw [hsz.out]; omega
                  clear hlo
                  go_wp2_with (first | (go_at_call 55; refine (signIn_any _ _ _).mono ?_; rintro e w' ⟨rfl, rfl⟩) | (go_at_call 53; refine (HIX.out _ _ _).mono ?_; rintro e w' ⟨rfl, rfl⟩; rw [HEE.out]) | (at_builtin; refine wpList_append_own _ rfl _ _ 37 rfl (w.heap.size + 1) 3 i0 (.int .i64 0) 1 8 Try.underlying37 HI.out HZ0.out HZ1.out HZ2.out rfl (by decide) _ 0 (nus []) rfl (app_first w 1).1 ⟨w.heap.size + 1, 0, none⟩ 1 1 [.int .i64 1] rfl rfl (cell_one_at _ _ (by simp) _ _) (fun u hu => by simp at hu; subst hu; rfl) (by decide) (by decide) (by simp <;> omega) ?_; intro v1 w1 ho1 hg1 _; obtain ⟨hm1, hb1, hz1⟩ := app_keep (app_first w 1).1 (app_first w 1).2.1 (app_first w 1).2.2 hg1) | (at_builtin; refine wpList_append_own _ rfl _ _ 37 rfl (w.heap.size + 1) 3 i0 (.int .i64 0) 1 8 Try.underlying37 HI.out HZ0.out HZ1.out HZ2.out rfl (by decide) _ 1 (nus [(1 : Int)]) rfl (app_next 0 ho1 hm1 hb1).1 ⟨w1.heap.size, 0, none⟩ 1 1 [.int .i64 0] rfl rfl (cell_one_at _ _ (by simp) _ _) (fun u hu => by simp at hu; subst hu; rfl) (by decide) (by decide) (by simp <;> omega) ?_; intro v2 w2 ho2 hg2 _; obtain ⟨hm2, hb2, hz2⟩ := app_keep (app_next 0 ho1 hm1 hb1).1 (app_next 0 ho1 hm1 hb1).2.1 (app_next 0 ho1 hm1 hb1).2.2 hg2) | (at_builtin; refine wpList_append_own _ rfl _ _ 37 rfl (w.heap.size + 1) 3 i0 (.int .i64 0) 1 8 Try.underlying37 HI.out HZ0.out HZ1.out HZ2.out rfl (by decide) _ 2 (nus [(1 : Int), (0 : Int)]) rfl (app_next 2 ho2 hm2 hb2).1 ⟨w2.heap.size, 0, none⟩ 1 1 [.int .i64 2] rfl rfl (cell_one_at _ _ (by simp) _ _) (fun u hu => by simp at hu; subst hu; rfl) (by decide) (by decide) (by simp <;> omega) ?_; intro v3 w3 ho3 hg3 _; obtain ⟨hm3, hb3, hz3⟩ := app_keep (app_next 2 ho2 hm2 hb2).1 (app_next 2 ho2 hm2 hb2).2.1 (app_next 2 ho2 hm2 hb2).2.2 hg3; have c0 := hm3.out.cell0; have c1 := hm3.out.cell1; have f0 := hm3.out.frozen 0; have f1 := hm3.out.frozen 1))
                  (try simp only [Exit.inBlock, Exit.then]); refine bodyPost_ret (results_gap _ _ w.heap.size (.int .i64 f) (.int .i64 p) rfl (by rw [World.cell?_setCell_other _ _ _ _ (by simp), World.cell?_setCell_same _ _ _ c0]) (by rw [World.cell?_setCell_same _ _ _ (by rw [World.cell?_setCell_other _ _ _ _ (by simp)]; exact c1)])) rfl ?_
                  refine ⟨j, p, hP.out, RUN.out, (hb3.out.setCell (Nat.le_refl _) _).setCell (Nat.le_refl _) _, .inl ⟨HG.out, _, rfl, ?_⟩⟩
                  rw [HL.out]
                  exact own_base (own_farB ho3 (((FarB.refl (some w.heap.size) _).set 0 _).set 1 _) (fun g hg e => own_ne_low ho3 (e.symm.trans hg.symm))) (by omega)
                · have HL : Hid (needR s f (-1) j = [1, 0]) := Lib.hid (by rw [HNL.out, HBK.out, HO.out, decide_eq_false hlo]; rfl)
                  have hlen : ¬ ((1 : Int) < (sub.size : Int)) := by rw [hsz.out]; omega
                  clear hlo
                  go_wp2_with (first | (go_at_call 55; refine (signIn_any _ _ _).mono ?_; rintro e w' ⟨rfl, rfl⟩) | (go_at_call 53; refine (HIX.out _ _ _).mono ?_; rintro e w' ⟨rfl, rfl⟩; rw [HEE.out]) | (at_builtin; refine wpList_append_own _ rfl _ _ 37 rfl (w.heap.size + 1) 3 i0 (.int .i64 0) 1 8 Try.underlying37 HI.out HZ0.out HZ1.out HZ2.out rfl (by decide) _ 0 (nus []) rfl (app_first w 1).1 ⟨w.heap.size + 1, 0, none⟩ 1 1 [.int .i64 1] rfl rfl (cell_one_at _ _ (by simp) _ _) (fun u hu => by simp at hu; subst hu; rfl) (by decide) (by decide) (by simp <;> omega) ?_; intro v1 w1 ho1 hg1 _; obtain ⟨hm1, hb1, hz1⟩ := app_keep (app_first w 1).1 (app_first w 1).2.1 (app_first w 1).2.2 hg1) | (at_builtin; refine wpList_append_own _ rfl _ _ 37 rfl (w.heap.size + 1) 3 i0 (.int .i64 0) 1 8 Try.underlying37 HI.out HZ0.out HZ1.out HZ2.out rfl (by decide) _ 1 (nus [(1 : Int)]) rfl (app_next 0 ho1 hm1 hb1).1 ⟨w1.heap.size, 0, none⟩ 1 1 [.int .i64 0] rfl rfl (cell_one_at _ _ (by simp) _ _) (fun u hu => by simp at hu; subst hu; rfl) (by decide) (by decide) (by simp <;> omega) ?_; intro v2 w2 ho2 hg2 _; obtain ⟨hm2, hb2, hz2⟩ := app_keep (app_next 0 ho1 hm1 hb1).1 (app_next 0 ho1 hm1 hb1).2.1 (app_next 0 ho1 hm1 hb1).2.2 hg2; have c0 := hm2.out.cell0; have c1 := hm2.out.cell1; have f0 := hm2.out.frozen 0; have f1 := hm2.out.frozen 1))
                  (try simp only [Exit.inBlock, Exit.then]); refine bodyPost_ret (results_gap _ _ w.heap.size (.int .i64 f) (.int .i64 p) rfl (by rw [World.cell?_setCell_other _ _ _ _ (by simp), World.cell?_setCell_same _ _ _ c0]) (by rw [World.cell?_setCell_same _ _ _ (by rw [World.cell?_setCell_other _ _ _ _ (by simp)]; exact c1)])) rfl ?_
                  refine ⟨j, p, hP.out, RUN.out, (hb2.out.setCell (Nat.le_refl _) _).setCell (Nat.le_refl _) _, .inl ⟨HG.out, _, rfl, ?_⟩⟩
                  rw [HL.out]
                  exact own_base (own_farB ho2 (((FarB.refl (some w.heap.size) _).set 0 _).set 1 _) (fun g hg e => own_ne_low ho2 (e.symm.trans hg.symm))) (by omega)
            · have HBK : Hid (bkR s f (-1) = false) := Lib.hid (by unfold bkR; rw [hff.out]; simp [h84])
              clear h84
              cases how : owR s f (-1) j
              · have HO := Lib.hid how
                have HI0 : ¬ (0 ≤ Lib.indexByte sub.data.toList s[f]) := by have h := HOW.out; rw [how] at h; simpa using h
                clear how
                by_cases hlo : 1 < j
                · have HL : Hid (needR s f (-1) j = [2]) := Lib.hid (by rw [HNL.out, HBK.out, HO.out, decide_eq_true hlo]; rfl)
                  have hlen : (1 : Int) < (sub.size : Int) := by rw [hsz.out]; omega
                  clear hlo
                  go_wp2_with (first | (go_at_call 55; refine (signIn_any _ _ _).mono ?_; rintro e w' ⟨rfl, rfl⟩) | (go_at_call 53; refine (HIX.out _ _ _).mono ?_; rintro e w' ⟨rfl, rfl⟩; rw [HEE.out]) | (at_builtin; refine wpList_append_own _ rfl _ _ 37 rfl (w.heap.size + 1) 3 i0 (.int .i64 0) 1 8 Try.underlying37 HI.out HZ0.out HZ1.out HZ2.out rfl (by decide) _ 0 (nus []) rfl (app_first w 2).1 ⟨w.heap.size + 1, 0, none⟩ 1 1 [.int .i64 2] rfl rfl (cell_one_at _ _ (by simp) _ _) (fun u hu => by simp at hu; subst hu; rfl) (by decide) (by decide) (by simp <;> omega) ?_; intro v1 w1 ho1 hg1 _; obtain ⟨hm1, hb1, hz1⟩ := app_keep (app_first w 2).1 (app_first w 2).2.1 (app_first w 2).2.2 hg1; have c0 := hm1.out.cell0; have c1 := hm1.out.cell1; have f0 := hm1.out.frozen 0; have f1 := hm1.out.frozen 1))
                  (try simp only [Exit.inBlock, Exit.then]); refine bodyPost_ret (results_gap _ _ w.heap.size (.int .i64 f) (.int .i64 p) rfl (by rw [World.cell?_setCell_other _ _ _ _ (by simp), World.cell?_setCell_same _ _ _ c0]) (by rw [World.cell?_setCell_same _ _ _ (by rw [World.cell?_setCell_other _ _ _ _ (by simp)]; exact c1)])) rfl ?_
                  refine ⟨j, p, hP.out, RUN.out, (hb1.out.setCell (Nat.le_refl _) _).setCell (Nat.le_refl _) _, .inl ⟨HG.out, _, rfl, ?_⟩⟩
                  rw [HL.out]
                  exact own_base (own_farB ho1 (((FarB.refl (some w.heap.size) _).set 0 _).set 1 _) (fun g hg e => own_ne_low ho1 (e.symm.trans hg.symm))) (by omega)
                · have HL : Hid (needR s f (-1) j = []) := Lib.hid (by rw [HNL.out, HBK.out, HO.out, decide_eq_false hlo]; rfl)
                  have hlen : ¬ ((1 : Int) < (sub.size : Int)) := by rw [hsz.out]; omega
                  clear hlo
                  go_wp2_with (first | (go_at_call 55; refine (signIn_any _ _ _).mono ?_; rintro e w' ⟨rfl, rfl⟩) | (go_at_call 53; refine (HIX.out _ _ _).mono ?_; rintro e w' ⟨rfl, rfl⟩; rw [HEE.out]))
                  (try simp only [Exit.inBlock, Exit.then]); refine bodyPost_ret (results_gap _ _ w.heap.size (.int .i64 f) (.int .i64 p) rfl (by simp [World.cell?_alloc_new]) (by simp [World.cell?_alloc_new])) rfl ?_
                  exact ⟨j, p, hP.out, RUN.out, (Below.refl _ _).alloc (Nat.le_refl _) _, .inl ⟨HG.out, _, rfl, by rw [HL.out]; exact World.ownsRow_nil _ _ _ _⟩⟩
              · have HO := Lib.hid how
                have HI0 : 0 ≤ Lib.indexByte sub.data.toList s[f] := by have h := HOW.out; rw [how] at h; simpa using h
                clear how
                by_cases hlo : 1 < j
                · have HL : Hid (needR s f (-1) j = [0, 2]) := Lib.hid (by rw [HNL.out, HBK.out, HO.out, decide_eq_true hlo]; rfl)
                  have hlen : (1 : Int) < (sub.size : Int) := by rw [hsz.out]; omega
                  clear hlo
                  go_wp2_with (first | (go_at_call 55; refine (signIn_any _ _ _).mono ?_; rintro e w' ⟨rfl, rfl⟩) | (go_at_call 53; refine (HIX.out _ _ _).mono ?_; rintro e w' ⟨rfl, rfl⟩; rw [HEE.out]) | (at_builtin; refine wpList_append_own _ rfl _ _ 37 rfl (w.heap.size + 1) 3 i0 (.int .i64 0) 1 8 Try.underlying37 HI.out HZ0.out HZ1.out HZ2.out rfl (by decide) _ 0 (nus []) rfl (app_first w 0).1 ⟨w.heap.size + 1, 0, none⟩ 1 1 [.int .i64 0] rfl rfl (cell_one_at _ _ (by simp) _ _) (fun u hu => by simp at hu; subst hu; rfl) (by decide) (by decide) (by simp <;> omega) ?_; intro v1 w1 ho1 hg1 _; obtain ⟨hm1, hb1, hz1⟩ := app_keep (app_first w 0).1 (app_first w 0).2.1 (app_first w 0).2.2 hg1) | (at_builtin; refine wpList_append_own _ rfl _ _ 37 rfl (w.heap.size + 1) 3 i0 (.int .i64 0) 1 8 Try.underlying37 HI.out HZ0.out HZ1.out HZ2.out rfl (by decide) _ 1 (nus [(0 : Int)]) rfl (app_next 2 ho1 hm1 hb1).1 ⟨w1.heap.size, 0, none⟩ 1 1 [.int .i64 2] rfl rfl (cell_one_at _ _ (by simp) _ _) (fun u hu => by simp at hu; subst hu; rfl) (by decide) (by decide) (by simp <;> omega) ?_; intro v2 w2 ho2 hg2 _; obtain ⟨hm2, hb2, hz2⟩ := app_keep (app_next 2 ho1 hm1 hb1).1 (app_next 2 ho1 hm1 hb1).2.1 (app_next 2 ho1 hm1 hb1).2.2 hg2; have c0 := hm2.out.cell0; have c1 := hm2.out.cell1; have f0 := hm2.out.frozen 0; have f1 := hm2.out.frozen 1))
                  (try simp only [Exit.inBlock, Exit.then]); refine bodyPost_ret (results_gap _ _ w.heap.size (.int .i64 f) (.int .i64 p) rfl (by rw [World.cell?_setCell_other _ _ _ _ (by simp), World.cell?_setCell_same _ _ _ c0]) (by rw [World.cell?_setCell_same _ _ _ (by rw [World.cell?_setCell_other _ _ _ _ (by simp)]; exact c1)])) rfl ?_
                  refine ⟨j, p, hP.out, RUN.out, (hb2.out.setCell (Nat.le_refl _) _).setCell (Nat.le_refl _) _, .inl ⟨HG.out, _, rfl, ?_⟩⟩
                  rw [HL.out]
                  exact own_base (own_farB ho2 (((FarB.refl (some w.heap.size) _).set 0 _).set 1 _) (fun g hg e => own_ne_low ho2 (e.symm.trans hg.symm))) (by omega)
                · have HL : Hid (needR s f (-1) j = [0]) := Lib.hid (by rw [HNL.out, HBK.out, HO.out, decide_eq_false hlo]; rfl)
                  have hlen : ¬ ((1 : Int) < (sub.size : Int)) := by rw [hsz.out]; omega
                  clear hlo
                  go_wp2_with (first | (go_at_call 55; refine (signIn_any _ _ _).mono ?_; rintro e w' ⟨rfl, rfl⟩) | (go_at_call 53; refine (HIX.out _ _ _).mono ?_; rintro e w' ⟨rfl, rfl⟩; rw [HEE.out]) | (at_builtin; refine wpList_append_own _ rfl _ _ 37 rfl (w.heap.size + 1) 3 i0 (.int .i64 0) 1 8 Try.underlying37 HI.out HZ0.out HZ1.out HZ2.out rfl (by decide) _ 0 (nus []) rfl (app_first w 0).1 ⟨w.heap.size + 1, 0, none⟩ 1 1 [.int .i64 0] rfl rfl (cell_one_at _ _ (by simp) _ _) (fun u hu => by simp at hu; subst hu; rfl) (by decide) (by decide) (by simp <;> omega) ?_; intro v1 w1 ho1 hg1 _; obtain ⟨hm1, hb1, hz1⟩ := app_keep (app_first w 0).1 (app_first w 0).2.1 (app_first w 0).2.2 hg1; have c0 := hm1.out.cell0; have c1 := hm1.out.cell1; have f0 := hm1.out.frozen 0; have f1 := hm1.out.frozen 1))
                  (try simp only [Exit.inBlock, Exit.then]); refine bodyPost_ret (results_gap _ _ w.heap.size (.int .i64 f) (.int .i64 p) rfl (by rw [World.cell?_setCell_other _ _ _ _ (by simp), World.cell?_setCell_same _ _ _ c0]) (by rw [World.cell?_setCell_same _ _ _ (by rw [World.cell?_setCell_other _ _ _ _ (by simp)]; exact c1)])) rfl ?_
                  refine ⟨j, p, hP.out, RUN.out, (hb1.out.setCell (Nat.le_refl _) _).setCell (Nat.le_refl _) _, .inl ⟨HG.out, _, rfl, ?_⟩⟩
                  rw [HL.out]
                  exact own_base (own_farB ho1 (((FarB.refl (some w.heap.size) _).set 0 _).set 1 _) (fun g hg e => own_ne_low ho1 (e.symm.trans hg.symm))) (by omega)
          · have HG : Hid (gapB s f (-1) j = false) := Lib.hid (by unfold gapB; rw [← hP.out]; simp [hg46])
            clear h46 hg46
            go_wp2_with (go_at_call 55; refine (signIn_any _ _ _).mono ?_; rintro e w' ⟨rfl, rfl⟩)
            (try simp only [Exit.inBlock, Exit.then]); refine bodyPost_ret (results_gap _ _ w.heap.size (.int .i64 0) (.int .i64 0) rfl (by simp [World.cell?_alloc_new]) (by simp [World.cell?_alloc_new])) rfl ?_
            exact ⟨j, p, hP.out, RUN.out, (Below.refl _ _).alloc (Nat.le_refl _) _, .inr ⟨HG.out, rfl⟩⟩
end Go.Proofs.Ytdcbjbmnkajjcaa
