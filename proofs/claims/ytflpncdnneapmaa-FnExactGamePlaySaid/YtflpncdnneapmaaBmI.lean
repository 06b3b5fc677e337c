/- GamePlay: the play, and the model's side. -/
import Derived.Test.YtflpncdnneapmaaBmG
import Derived.Deep.LoopGhost
namespace Go.Proofs.Ytflpncdnneapmaa
open Go.RowKit Go.Maps Go.Shelf

/-- The moves of a game, at most n. -/
def gpl : Nat → Bool → List UInt8 → List (Int × Int)
  | 0, _, _ => []
  | n + 1, tm, s =>
    match gmvO tm s with
    | none => []
    | some m => m :: gpl n (!tm) (behind (str s) m.1 m.2)
theorem gpl_len : ∀ n tm s, (gpl n tm s).length ≤ n
  | 0, _, _ => by simp [gpl]
  | n + 1, tm, s => by
    unfold gpl
    split
    · simp
    · have := gpl_len n (!tm) (behind (str s) (‹Int × Int›).1 (‹Int × Int›).2)
      simp only [List.length_cons]
      omega
theorem gpl_none {n : Nat} {tm : Bool} {s : List UInt8} (h : gmvO tm s = none) : gpl n tm s = [] := by
  cases n with
  | zero => rfl
  | succ n => unfold gpl; rw [h]
theorem gpl_some {n : Nat} {tm : Bool} {s : List UInt8} {m : Int × Int} (h : gmvO tm s = some m) (hn : 0 < n) : gpl n tm s = m :: gpl (n - 1) (!tm) (behind (str s) m.1 m.2) := by
  cases n with
  | zero => omega
  | succ n =>
    rw [gpl, h]
    rfl
theorem keepG_mem {α : Type} {p : Nat → Bool} {L : List α} {x : α} : ∀ k, x ∈ keepG p L k → x ∈ L
  | 0, h => by cases h
  | k + 1, h => by
    rw [keepG, List.mem_append] at h
    rcases h with h | h
    · exact keepG_mem k h
    · split at h
      · rename_i y hy
        split at h
        · cases h
        · simp at h
          subst h
          exact List.mem_of_getElem? hy
      · cases h
theorem gmvO_mem {tm : Bool} {s : List UInt8} {m : Int × Int} (h : gmvO tm s = some m) : m ∈ gmM tm s := by
  unfold gmvO at h
  split at h
  · rename_i m' r hb
    injection h with h
    subst h
    exact keepG_mem _ (show m' ∈ bestM tm s by rw [hb]; simp)
  · exact List.mem_of_head? h
theorem gmvO_at {tm : Bool} {s : List UInt8} {m : Int × Int} (h : gmvO tm s = some m) : ∃ a b : Nat, m = ((a : Int), (b : Int)) ∧ a < s.length ∧ b < s.length ∧ a ≠ b ∧ putL (str s) a b ∈ nxG tm s ∧ behind (str s) m.1 m.2 = putL (str s) a b := by
  obtain ⟨j, hj, rfl⟩ := List.getElem_of_mem (gmvO_mem h)
  obtain ⟨a, b, e1, e2, ha, hb, hne, hx, hy⟩ := gm_at j hj
  exact ⟨a, b, Prod.ext e1 e2, ha, hb, hne, hx, hy.symm⟩
theorem muP_le : ∀ (l : List UInt8) (i : Nat), i + l.length ≤ 199 → muG i l ≤ 200 * l.length
  | [], _, _ => by simp [muG]
  | c :: l, i, h => by
    simp only [List.length_cons] at h
    have := muP_le l (i + 1) (by omega)
    simp only [muG, List.length_cons]
    have : wtG c i ≤ 200 := by unfold wtG; split <;> (try split) <;> omega
    omega
theorem few_next {tm : Bool} {s x : List UInt8} (h : fewB (str s) = true) (hx : x ∈ nxG tm s) : fewB (str x) = true ∧ muG 0 x < muG 0 s ∧ x.length = s.length := by
  have hg : goodL (str s) = true := by unfold fewB at h; rw [Bool.and_eq_true] at h; exact h.1
  have hl : (str s).size ≤ 10 := by unfold fewB at h; rw [Bool.and_eq_true] at h; simpa using h.2
  rw [str_size] at hl
  obtain ⟨h1, h2⟩ := mu_less (by omega) hx
  refine ⟨?_, h1, h2⟩
  unfold fewB
  rw [nxG_good hg hx, Bool.true_and, decide_eq_true_iff, str_size]
  omega
theorem cell_two_a9 (w : World) (n : Nat) (hn : n = w.heap.size) (a b : Value) (t : TypeId) : ∀ j u, [a, b][j]? = some u → (w.alloc (.cells #[a, b] t)).cell? ((⟨n, 0, none⟩ : Addr).add j) = some u := by
  subst hn
  exact cell_two_new w a b t
/-- The play of a line, as both sides answer it. -/
def gpL (tm : Bool) (wl : List UInt8) : List (Int × Int) := if fewB (str wl) = true then gpl (muG 0 wl + 1) tm wl else []
theorem few_mu {s : List UInt8} (h : fewB (str s) = true) : muG 0 s ≤ 2000 ∧ s.length ≤ 10 := by
  have hl : (str s).size ≤ 10 := by unfold fewB at h; rw [Bool.and_eq_true] at h; simpa using h.2
  rw [str_size] at hl
  have := muP_le s 0 (by omega)
  omega
theorem gpL_len (tm : Bool) (wl : List UInt8) : (gpL tm wl).length ≤ 2001 := by
  unfold gpL
  split
  · rename_i h
    have h1 := gpl_len (muG 0 wl + 1) tm wl
    have h2 := (few_mu h).1
    omega
  · simp
set_option maxRecDepth 100000 in
set_option maxHeartbeats 4000000 in
theorem sGamePlay_any (wl : List UInt8) (tm : Bool) (w : World) (hs : (str wl).size ≤ maxLen) :
    Calls Try.prog 19 #[.string (str wl), .bool tm] w (BvP (gpL tm wl) (fewB (str wl)) w) := by
  have HF := Lib.hid (fun wx => gaFew_any (str wl) wx hs)
  cases hf : fewB (str wl)
  · have e0 : gpL tm wl = [] := by unfold gpL; rw [hf]; rfl
    rw [hf] at HF
    rw [e0]
    clear hf e0 hs
    go_enter Try.func19, Try.ntmps19
    go_wp2_with fail
    refine (HF.out _).mono ?_
    rintro e w1 ⟨rfl, rfl⟩
    go_wp2
    go_ret2
    exact ⟨_, rfl, World.ownsRow_nil _ _ _ _, Below.refl _ _⟩
  · obtain ⟨i0, hi, hz0, hz1, hz2⟩ := info_parts Try.infoM
    have HI := Lib.hid hi
    have HZ0 := Lib.hid hz0
    have HZ1 := Lib.hid hz1
    have HZ2 := Lib.hid hz2
    clear hi hz0 hz1 hz2
    have e0 : gpL tm wl = gpl (muG 0 wl + 1) tm wl := by unfold gpL; rw [if_pos hf]
    have HTL := Lib.hid (gpL_len tm wl)
    rw [hf] at HF
    rw [e0] at HTL ⊢
    have HFW := Lib.hid hf
    generalize hT : gpl (muG 0 wl + 1) tm wl = T at HTL ⊢
    have HT0 : Hid ([] ++ gpl (muG 0 wl + 1) tm wl = T) := Lib.hid hT
    have hk0 := KnW.new w wl.length
    have HX : Hid (∀ k, Ex w.heap.size (w.alloc knB) k → w.heap.size ≤ k) := Lib.hid fun k he => (hk0.ex he).1
    have HK0 : Hid (∃ ks, KnW (w.alloc knB) w.heap.size wl.length ks) := Lib.hid ⟨_, hk0⟩
    clear hf e0 hs hk0 hT
    go_enter Try.func19, Try.ntmps19
    go_wp2_with fail
    refine (HF.out _).mono ?_
    rintro e w1 ⟨rfl, rfl⟩
    go_wp2_with fail
    obtain ⟨W2, hW2⟩ : ∃ W2, W2 = w.alloc knB := ⟨_, rfl⟩
    rw [← hW2]
    have HO2 : Hid (OgW W2 w.heap.size wl.length (w.heap.size + 1) [] (.slice none 0 0)) := Lib.hid ⟨by rw [hW2]; exact HK0.out, World.ownsRow_nil _ _ _ _⟩
    have HB2 : Hid (Below w.heap.size w W2) := Lib.hid (by rw [hW2]; exact (Below.refl _ _).alloc (Nat.le_refl _) _)
    clear hW2 HX HK0
    go_loopg [0, 1, 7] (muG 0 wl + 1) (fun gk s t v wr => ∃ (ut : List UInt8) (tt : Bool) (F : List (Int × Int)), s = .string (str ut) ∧ t = .bool tt ∧ Hid (F ++ gpl gk tt ut = T) ∧ muG 0 ut < gk ∧ Hid (fewB (str ut) = true) ∧ ut.length = wl.length ∧ Hid (OgW wr w.heap.size wl.length (w.heap.size + 1) F v) ∧ Hid (Below w.heap.size w wr))
    case atStart => exact ⟨wl, tm, [], rfl, rfl, HT0, Nat.lt_succ_self _, HFW, rfl, HO2, HB2⟩
    case round =>
      obtain ⟨ut, tt, F, rfl, rfl, HT, hmu, HFU, hul, HO, HB⟩ := hrel
      obtain ⟨W, hW⟩ : ∃ W : World, W = wr := ⟨_, rfl⟩
      subst hW
      obtain ⟨G, hG⟩ : ∃ G : Nat, G = gk := ⟨_, rfl⟩
      subst hG
      have HGM := Lib.hid (fun wx hk => gaMove_any w.heap.size ut tt wx HFU.out hk)
      rw [hul] at HGM
      clear HO2 HB2
      have hxu : ∀ k, Ex w.heap.size W k → w.heap.size ≤ k := fun k he => by
        obtain ⟨ks, hk⟩ := HO.out.kn
        exact (hk.ex he).1
      have HXU := Lib.hid hxu
      clear hxu
      cases hg : gmvO tt ut with
      | none =>
        have HR : gmvR (gmvO tt ut) = .tuple #[.agg #[.int .i64 0, .int .i64 0], .bool false] := by rw [hg]; rfl
        rw [HR] at HGM
        have HTF : Hid (F = T) := Lib.hid (by have := HT.out; rw [gpl_none hg, List.append_nil] at this; exact this)
        clear HR hg
        go_wp2_with fail
        refine (HGM.out _ HO.out.kn).mono ?_
        rintro e w3 ⟨rfl, hkn, hkp⟩
        have HO3 := Lib.hid (HO.out.kp hkp hkn)
        have HB3 : Hid (Below w.heap.size w w3) := Lib.hid (HB.out.trans (hkp.to_below (by have := HO.out.lt; omega) HXU.out))
        have hz3 := HB3.out.size
        clear hkp hkn
        go_wp2
        go_ret2
        refine ⟨_, rfl, ?_, HB3.out.alloc hz3 _⟩
        rw [← HTF.out]
        exact own_lowerD (HO3.out.row.alloc _) (by omega)
      | some m =>
        obtain ⟨a, b, rfl, hai, hbi, hneab, hxn, hbe⟩ := gmvO_at hg
        have HR : gmvR (gmvO tt ut) = .tuple #[.agg #[.int .i64 a, .int .i64 b], .bool true] := by rw [hg]; rfl
        rw [HR] at HGM
        obtain ⟨hf1, hf2, hf3⟩ := few_next HFU.out hxn
        have HT1 : Hid ((F ++ [((a : Int), (b : Int))]) ++ gpl (G - 1) (!tt) (putL (str ut) a b) = T) := Lib.hid (by
          have := HT.out
          rw [gpl_some hg (by omega), hbe] at this
          rw [List.append_assoc]
          exact this)
        have hFl : F.length + 1 ≤ 2001 := by
          have h1 := HTL.out
          rw [← HT1.out, List.length_append, List.length_append, List.length_singleton] at h1
          omega
        have hl10 := (few_mu HFU.out).2
        have HMK := Lib.hid (fun wx => liMake_any (str ut) a b wx (by rw [str_size]; omega) (by rw [str_size]; exact hai) (by rw [str_size]; exact hbi) hneab)
        have HF1 := Lib.hid hf1
        clear HR hg hxn hbe hf1 hneab
        generalize putL (str ut) a b = y at *
        go_wp2_with fail
        refine (HGM.out _ HO.out.kn).mono ?_
        rintro e w3 ⟨rfl, hkn, hkp⟩
        have HO3 := Lib.hid (HO.out.kp hkp hkn)
        have HB3 : Hid (Below w.heap.size w w3) := Lib.hid (HB.out.trans (hkp.to_below (by have := HO.out.lt; omega) HXU.out))
        have hz3 := HB3.out.size
        have hb34 : Below w3.heap.size w3 ((w3.alloc (Obj.cells #[.int .i64 a, .int .i64 b] 31)).alloc (Obj.cells #[.int .i64 a, .int .i64 b] 31)) := ((Below.refl _ _).alloc (Nat.le_refl _) _).alloc (by simp) _
        have HO4 := Lib.hid (HO3.out.below hb34)
        have HB4 := Lib.hid (HB3.out.trans (hb34.mono hz3))
        have hz4 : ((w3.alloc (Obj.cells #[.int .i64 a, .int .i64 b] 31)).alloc (Obj.cells #[.int .i64 a, .int .i64 b] 31)).heap.size = w3.heap.size + 2 := by simp
        have c0 : ((w3.alloc (Obj.cells #[.int .i64 a, .int .i64 b] 31)).alloc (Obj.cells #[.int .i64 a, .int .i64 b] 31)).cell? ⟨w3.heap.size, 0, none⟩ = some (.int .i64 a) := by rw [cell_old _ _ _ _ (by simp), World.cell?_alloc_new]; rfl
        have c1 : ((w3.alloc (Obj.cells #[.int .i64 a, .int .i64 b] 31)).alloc (Obj.cells #[.int .i64 a, .int .i64 b] 31)).cell? ⟨w3.heap.size, 1, none⟩ = some (.int .i64 b) := by rw [cell_old _ _ _ _ (by simp), World.cell?_alloc_new]; rfl
        have HLT : Hid (∀ k, u7.ownBlock = some k → w.heap.size + 1 ≤ k ∧ k < w3.heap.size) := Lib.hid fun k hk => HO3.out.row.lt k hk
        have H1 : ∀ u ∈ [Value.int .i64 (a : Int), Value.int .i64 (b : Int)], u.oneCell' = true := fun u hu => by simp at hu; rcases hu with rfl | rfl <;> rfl
        have H3 : F.length + 1 ≤ maxLen := by unfold maxLen; omega
        have H4 : (F.length + 1) * 16 ≤ 140737488355328 := by omega
        have HC0 := Lib.hid c0
        have HC1 := Lib.hid c1
        have hlw : w.heap.size < w3.heap.size := HO3.out.lt
        clear hkp hkn hb34 c0 c1 HO HB HO3 HB3 HT HGM
        go_wp2_with (first | (at_builtin; refine wpList_append_st _ rfl _ _ 22 rfl (w.heap.size + 1) 31 i0 (.agg #[.int .i64 0, .int .i64 0]) 2 16 Try.underlying22 HI.out HZ0.out HZ1.out HZ2.out rfl (by decide) _ _ _ rfl HO4.out.row (some ⟨w3.heap.size + 1, 0, none⟩) 1 1 [Value.int .i64 (a : Int), Value.int .i64 (b : Int)] rfl (fun e => by cases e) rfl (fun ad e j' u h => by injection e with e; subst e; exact cell_two_a9 (w3.alloc (Obj.cells #[.int .i64 a, .int .i64 b] 31)) (w3.heap.size + 1) (by simp) _ _ 31 j' u h) H1 H3 H4 (by rw [hz4]; omega) ?_; intro v8 w8 hown8 hg8; have d0 : w8.cell? ⟨w3.heap.size, 0, none⟩ = some (.int .i64 a) := (World.cell?_of_block (a := ⟨w3.heap.size, 0, none⟩) (hg8.block w3.heap.size (by rw [hz4]; omega) (fun e => by have := (HLT.out _ e.symm).2; omega))).trans HC0.out; have d1 : w8.cell? ⟨w3.heap.size, 1, none⟩ = some (.int .i64 b) := (World.cell?_of_block (a := ⟨w3.heap.size, 1, none⟩) (hg8.block w3.heap.size (by rw [hz4]; omega) (fun e => by have := (HLT.out _ e.symm).2; omega))).trans HC1.out))
        have HO8 : Hid (OgW w8 w.heap.size wl.length (w.heap.size + 1) (F ++ [((a : Int), (b : Int))]) v8) := Lib.hid (HO4.out.more hg8 (by rw [List.length_append, flat_app]; exact hown8))
        have HB8 : Hid (Below w.heap.size w w8) := Lib.hid (HB4.out.grown hg8 (by rw [hz4]; omega) (fun k hk => by have := (HLT.out k hk).1; omega))
        have hz8 : w3.heap.size < w8.heap.size := by have := hg8.size; rw [hz4] at this; omega
        clear hown8 hg8 HO4 HB4 HC0 HC1
        refine (HMK.out _).mono ?_
        rintro e w9 ⟨rfl, hb9⟩
        have HO9 := Lib.hid (HO8.out.below hb9)
        have HB9 := Lib.hid (HB8.out.trans (hb9.mono (by omega)))
        clear hb9 HO8 HB8
        go_wp2
        go_roundg (G - 1)
        case measure => omega
        case rel => exact ⟨y, !tt, F ++ [((a : Int), (b : Int))], rfl, rfl, HT1, by omega, HF1, by omega, HO9, HB9⟩
end Go.Proofs.Ytflpncdnneapmaa
