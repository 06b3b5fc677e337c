/- Contract: the program's MakeOnBoard. -/
import Derived.Test.YtoiaklnaecghnabGreatDoorBdPq
import Derived.Test.YtoiaklnaecghnabGreatDoorBdPm
namespace Go.Proofs.YtoiaklnaecghnabGreatDoor
open Go.RowKit

theorem flat_setB : ∀ (R : List (List UInt8)) (wd y x : Nat) (c : UInt8), (∀ r ∈ R, r.length = wd) → y < R.length → x < wd → (R.set y ((R.getD y []).set x c)).flatten = R.flatten.set (y * wd + x) c
  | [], _, _, _, _, _, h, _ => by simp at h
  | r :: R, wd, 0, x, c, h, _, hx => by
    have e := h r (by simp)
    simp only [List.set_cons_zero, List.flatten_cons, Nat.zero_mul, Nat.zero_add]
    rw [List.set_append_left _ _ (by omega)]
    rfl
  | r :: R, wd, y + 1, x, c, h, hy, hx => by
    have e := h r (by simp)
    have ih := flat_setB R wd y x c (fun q hq => h q (by simp [hq])) (by simpa using hy) hx
    simp only [List.set_cons_succ, List.flatten_cons]
    rw [List.set_append_right _ _ (by rw [e, Nat.add_mul]; omega), show (y + 1) * wd + x - r.length = y * wd + x by rw [e, Nat.add_mul]; omega, ← ih]
    rfl
theorem boC_ne {R : List (List UInt8)} {wd : Nat} (G : GoodR R wd) {F T : Nat} (hF : F < R.length * wd) (hT : T < R.length * wd) (h : boC R wd F T = true) : F ≠ T := by
  obtain ⟨e1, hx, hy⟩ := split_num G hF
  obtain ⟨e2, hu, hv⟩ := split_num G hT
  rw [e1, e2, boC_num G hx hy hu hv] at h
  intro e
  subst e
  rcases (boCN_iff G hx hy hu hv).1 h with ⟨_, hc⟩ | ⟨_, hc⟩ <;>
  · obtain ⟨a, b, q1, q2, _, _, hne⟩ := canM_in hc
    omega
theorem mbR_flat {R : List (List UInt8)} {wd : Nat} (G : GoodR R wd) {F T : Nat} (hF : F < R.length * wd) (hT : T < R.length * wd) (hne : F ≠ T) : (mbR R wd F T).flatten = mvF R.flatten F T := by
  obtain ⟨e1, hx, hy⟩ := split_num G hF
  obtain ⟨e2, hu, hv⟩ := split_num G hT
  unfold mbR mkR mvF
  rw [Int.toNat_natCast, Int.toNat_natCast]
  have h1 : ∀ r ∈ mkR1 R (F % wd) (F / wd), r.length = wd := set_rows G.hl _ _ _
  rw [flat_setB _ wd _ _ _ h1 (by rw [mkR1_len]; exact hv) hu, ← e2]
  have h2 : (mkR1 R (F % wd) (F / wd)).flatten = R.flatten.set F 46 := by
    unfold mkR1
    rw [flat_setB _ wd _ _ _ G.hl hy hx, ← e1]
  rw [h2, ← flat_get R wd (F / wd) (F % wd) G.hl hy hx, ← e1, List.set_comm _ _ (by omega)]
theorem bm_mem {R : List (List UInt8)} {wd : Nat} (G : GoodR R wd) (f t : Int) : (f, t) ∈ bmL R wd R.length ↔ boC R wd f t = true := by
  rw [bm_same G, mem_bmS]
  constructor
  · rintro ⟨a, b, _, _, h, e⟩
    injection e with e1 e2
    subst e1; subst e2
    exact h
  · intro h
    obtain ⟨F, T, rfl, rfl, hF, hT⟩ := boC_in G h
    exact ⟨F, T, hF, hT, h, rfl⟩
theorem bmL_few {R : List (List UInt8)} {wd : Nat} (G : GoodR R wd) : (bmL R wd R.length).length ≤ 1000 := by
  have h := gaL_le R wd R.length G.hw.2 G.hh.2
  have hlen : (bmL R wd R.length).length = (gaL R wd R.length).length := List.length_mergeSort _
  rw [hlen]
  unfold gaL
  rw [List.length_append]
  omega
/-- One move made on a board's cells. -/
def mk1 (R : List (List UInt8)) (wd : Nat) (F : List UInt8) (a b : Int) : Option (List UInt8) := if boC R wd a b then some (mvF F a.toNat b.toNat) else none
theorem mk1_ok {R : List (List UInt8)} {wd : Nat} (G : GoodR R wd) (f t : Int) : MkB2 wd R.flatten.length [(f, t)] (mk1 R wd) (fun k F => k = 0 → F = R.flatten) where
  call k hk F hI g cap wx hc hg hb := by
    obtain rfl : k = 0 := by simpa using hk
    obtain rfl := hI rfl
    have HM : Hid (MvC R.flatten (bmL R wd R.length) wd g cap) := Lib.hid fun wy h1 h2 => moves_any R wd R.length R.flatten.length g cap wy rfl rfl G.hw.1 G.hw.2 G.hh.1 G.hh.2 G.hl G.gr G.gc hc h1 h2
    show Calls Tryz.prog 18 #[.agg #[.int .i64 wd, .slice (some ⟨g, 0, none⟩) R.flatten.length cap], .agg #[.int .i64 f, .int .i64 t]] wx (BhO wx wd R.flatten.length (mk1 R wd R.flatten f t))
    unfold mk1
    by_cases h : boC R wd f t = true
    · rw [if_pos h]
      obtain ⟨F, T, rfl, rfl, hF, hT⟩ := boC_in G h
      have hfl : R.flatten.length = R.length * wd := flat_eq R wd G.hl
      have h25 : R.length * wd ≤ 5 * 5 := Nat.mul_le_mul G.hh.2 G.hw.2
      exact behind_yes R.flatten _ wd g cap F T wx hg hb (bmL_few G) (by omega) (by omega) (by omega) (boC_ne G hF hT h) ((bm_mem G _ _).2 h) HM
    · rw [if_neg h]
      exact behind_no R.flatten _ wd g cap f t wx hg hb (bmL_few G) (fun hm => h ((bm_mem G _ _).1 hm)) HM
  keep _ _ _ _ _ _ := by intro h; omega
theorem play1 (R : List (List UInt8)) (wd : Nat) (F : List UInt8) (f t : Int) : playF (mk1 R wd) F [(f, t)] = if boC R wd f t then (mvF F f.toNat t.toNat, 1) else (F, 0) := by
  unfold playF mk1
  by_cases h : boC R wd f t = true
  · simp [h, playF]
  · simp [h]
end Go.Proofs.YtoiaklnaecghnabGreatDoor
namespace Go.Proofs.YtoiaklnaecghnabGreatDoor
open Go.RowKit

theorem goodL_of {l : List UInt8} (h1 : 1 ≤ l.length) (h2 : l.length ≤ 12) (h3 : ∀ c ∈ l, isSign c = true) : goodL (str l) = true := by
  rw [goodL_iff, str_size, byt_str]
  exact ⟨h1, h2, List.all_eq_true.2 h3⟩
theorem goodL_mem {l : List UInt8} (h : goodL (str l) = true) : ∀ c ∈ l, isSign c = true := fun c hc => List.all_eq_true.1 (by simpa [byt_str] using ((goodL_iff (str l)).1 h).2.2) c hc
theorem set_signs {R : List (List UInt8)} (h : ∀ r ∈ R, ∀ c ∈ r, isSign c = true) (y x : Nat) (d : UInt8) (hd : isSign d = true) : ∀ r ∈ R.set y ((R.getD y []).set x d), ∀ c ∈ r, isSign c = true := by
  intro r hr c hc
  by_cases hy : y < R.length
  · rcases List.mem_or_eq_of_mem_set hr with h1 | rfl
    · exact h _ h1 _ hc
    · rcases List.mem_or_eq_of_mem_set hc with h2 | rfl
      · rw [getD_is hy] at h2
        exact h _ (List.getElem_mem hy) _ h2
      · exact hd
  · rw [List.set_eq_of_length_le (by omega)] at hr
    exact h _ hr _ hc
theorem getD_memB {l : List UInt8} {i : Nat} (h : i < l.length) : l.getD i 0 ∈ l := by
  rw [List.getD_eq_getElem?_getD, List.getElem?_eq_getElem h]
  exact List.getElem_mem h
/-- A board behind a move that can be made is a board. -/
theorem mb_good {R : List (List UInt8)} {wd : Nat} (G : GoodR R wd) {f t : Int} (h : boC R wd f t = true) : GoodR (mbR R wd f t) wd := by
  obtain ⟨F, T, rfl, rfl, hF, hT⟩ := boC_in G h
  obtain ⟨_, hx, hy⟩ := split_num G hF
  have hl := mbR_rows G.hl (F : Int) (T : Int)
  have hlen := mbR_len R wd (F : Int) (T : Int)
  have s0 : ∀ r ∈ R, ∀ c ∈ r, isSign c = true := fun r hr => goodL_mem (G.gr r hr)
  have hs : ∀ r ∈ mbR R wd (F : Int) (T : Int), ∀ c ∈ r, isSign c = true := by
    unfold mbR mkR
    rw [Int.toNat_natCast, Int.toNat_natCast]
    refine set_signs (set_signs s0 _ _ _ (by decide)) _ _ _ ?_
    rw [getD_is hy]
    exact s0 _ (List.getElem_mem hy) _ (getD_memB (by rw [G.hl _ (List.getElem_mem hy)]; exact hx))
  have hh : 1 ≤ (mbR R wd (F : Int) (T : Int)).length ∧ (mbR R wd (F : Int) (T : Int)).length ≤ 5 := by rw [hlen]; exact G.hh
  have hw := G.hw
  refine ⟨hl, G.hw, hh, fun r hr => goodL_of (by rw [hl r hr]; omega) (by rw [hl r hr]; omega) (hs r hr), fun r hr => ?_⟩
  obtain ⟨x, hx2, rfl⟩ := List.mem_map.1 hr
  have hx3 : x < wd := by simpa using hx2
  refine goodL_of (by rw [colC_len]; omega) (by rw [colC_len]; omega) fun c hc => ?_
  obtain ⟨y2, hy2, rfl⟩ := List.mem_map.1 hc
  have hy3 : y2 < (mbR R wd (F : Int) (T : Int)).length := by simpa using hy2
  rw [flat_get _ wd y2 x hl hy3 hx3, getD_is hy3]
  exact hs _ (List.getElem_mem hy3) _ (getD_memB (by rw [hl _ (List.getElem_mem hy3)]; exact hx3))
/-- The rows behind the moves that can be made, and how many they are. -/
def brdP (wd : Nat) : List (List UInt8) → List (Int × Int) → List (List UInt8) × Nat
  | R, [] => (R, 0)
  | R, p :: r => if boC R wd p.1 p.2 then ((brdP wd (mbR R wd p.1 p.2) r).1, (brdP wd (mbR R wd p.1 p.2) r).2 + 1) else (R, 0)
theorem brdP_le (wd : Nat) : ∀ (l : List (Int × Int)) (R : List (List UInt8)), (brdP wd R l).2 ≤ l.length
  | [], R => Nat.le_refl _
  | p :: r, R => by
    unfold brdP
    split
    · have := brdP_le wd r (mbR R wd p.1 p.2); simp; omega
    · simp
theorem brdP_good {wd : Nat} : ∀ (l : List (Int × Int)) {R : List (List UInt8)}, GoodR R wd → GoodR (brdP wd R l).1 wd ∧ (brdP wd R l).1.length = R.length
  | [], R, G => ⟨G, rfl⟩
  | p :: r, R, G => by
    unfold brdP
    split
    · rename_i h
      have h2 := brdP_good r (mb_good G h)
      rw [mbR_len] at h2
      exact h2
    · exact ⟨G, rfl⟩
theorem brdP_step (wd : Nat) (R : List (List UInt8)) (l : List (Int × Int)) (k : Nat) (h : k < l.length) (hc : boC R wd l[k].1 l[k].2 = true) :
    brdP wd R (l.drop k) = ((brdP wd (mbR R wd l[k].1 l[k].2) (l.drop (k + 1))).1, (brdP wd (mbR R wd l[k].1 l[k].2) (l.drop (k + 1))).2 + 1) := by
  rw [List.drop_eq_getElem_cons h, brdP, if_pos hc]
theorem brdP_stop (wd : Nat) (R : List (List UInt8)) (l : List (Int × Int)) (k : Nat) (h : k < l.length) (hc : boC R wd l[k].1 l[k].2 = false) : brdP wd R (l.drop k) = (R, 0) := by
  rw [List.drop_eq_getElem_cons h, brdP, if_neg (by rw [hc]; exact Bool.false_ne_true)]
/-- Rows out of their cells. -/
def unfl (wd : Nat) : Nat → List UInt8 → List (List UInt8)
  | 0, _ => []
  | h + 1, F => F.take wd :: unfl wd h (F.drop wd)
theorem unfl_flat (wd : Nat) : ∀ (R : List (List UInt8)), (∀ r ∈ R, r.length = wd) → unfl wd R.length R.flatten = R
  | [], _ => rfl
  | r :: R, h => by
    have e := h r (by simp)
    have ih := unfl_flat wd R fun q hq => h q (by simp [hq])
    simp only [List.length_cons, List.flatten_cons, unfl]
    rw [← e, List.take_left, List.drop_left, e, ih]
/-- One move made on a board's cells, by its rows. -/
def mkW (wd h : Nat) (F : List UInt8) (a b : Int) : Option (List UInt8) := if boC (unfl wd h F) wd a b then some (mvF F a.toNat b.toNat) else none
theorem mkW_is {R : List (List UInt8)} {wd : Nat} (G : GoodR R wd) (a b : Int) : mkW wd R.length R.flatten a b = mk1 R wd R.flatten a b := by
  unfold mkW mk1
  rw [unfl_flat wd R G.hl]
theorem mk1_next {R : List (List UInt8)} {wd : Nat} (G : GoodR R wd) {a b : Int} (h : boC R wd a b = true) : mvF R.flatten a.toNat b.toNat = (mbR R wd a b).flatten := by
  obtain ⟨F, T, rfl, rfl, hF, hT⟩ := boC_in G h
  rw [mbR_flat G hF hT (boC_ne G hF hT h)]
  rfl
theorem mkW_ok {wd h : Nat} (n : Nat) (hn : n = h * wd) (l : List (Int × Int)) : MkB2 wd n l (mkW wd h) (fun _ F => ∃ R, GoodR R wd ∧ R.length = h ∧ F = R.flatten) where
  call k hk F hI g cap wx hc hg hb := by
    obtain ⟨R, G, rfl, rfl⟩ := hI
    have hfl : R.flatten.length = n := by rw [flat_eq R wd G.hl, hn]
    rw [mkW_is G]
    have h2 := (mk1_ok G l[k].1 l[k].2).call 0 (by simp) R.flatten (fun _ => rfl) g cap wx (by rw [hfl]; exact hc) hg hb
    rw [hfl] at h2
    exact h2
  keep k hk F F' hI he := by
    obtain ⟨R, G, rfl, rfl⟩ := hI
    rw [mkW_is G] at he
    unfold mk1 at he
    by_cases hb : boC R wd l[k].1 l[k].2 = true
    · rw [if_pos hb] at he
      injection he with he
      exact ⟨_, mb_good G hb, mbR_len _ _ _ _, by rw [← he, mk1_next G hb]⟩
    · rw [if_neg hb] at he
      cases he
theorem playW {wd : Nat} : ∀ (l : List (Int × Int)) {R : List (List UInt8)}, GoodR R wd → playF (mkW wd R.length) R.flatten l = ((brdP wd R l).1.flatten, (brdP wd R l).2)
  | [], R, G => rfl
  | p :: r, R, G => by
    unfold playF brdP
    rw [mkW_is G]
    unfold mk1
    by_cases hb : boC R wd p.1 p.2 = true
    · rw [if_pos hb, if_pos hb]
      have ih := playW r (mb_good G hb)
      rw [mbR_len, ← mk1_next G hb] at ih
      simp only [ih]
    · rw [if_neg hb, if_neg hb]
end Go.Proofs.YtoiaklnaecghnabGreatDoor
namespace Go.Proofs.YtoiaklnaecghnabGreatDoor
open Go.RowKit

set_option maxRecDepth 100000 in
set_option maxHeartbeats 4000000 in
theorem boardToPlay_big (s : ByteArray) (A : Option Addr) (n c : Nat) (w : World) (hn : 200 < n) :
    Calls Tryz.prog 16 #[.string s, .slice A n c] w (BoN w) := by
  have hlt : ((200 : Int) < (n : Int)) := by omega
  obtain ⟨W0, hW0⟩ : ∃ W0, W0 = w.alloc (Obj.cells #[.int .i64 0, .slice none 0 0] 44) := ⟨_, rfl⟩
  have hB : Below w.heap.size w W0 := by rw [hW0]; exact (Below.refl _ _).alloc (Nat.le_refl _) _
  have p0 : W0.cell? ⟨w.heap.size, 0, none⟩ = some (.int .i64 0) := by rw [hW0, World.cell?_alloc_new]; rfl
  have p1 : W0.cell? ⟨w.heap.size, 1, none⟩ = some (.slice none 0 0) := by rw [hW0, World.cell?_alloc_new]; rfl
  have q0 : W0.frozen? ⟨w.heap.size, 0, none⟩ = false := by rw [hW0]; exact frz_new8 _ _ _ _
  have q1 : W0.frozen? ⟨w.heap.size, 1, none⟩ = false := by rw [hW0]; exact frz_new8 _ _ _ _
  have z0 : w.heap.size < W0.heap.size := by rw [hW0]; simp
  have z1 : w.heap.size < W0.heap.size + 1 := Nat.lt_succ_of_lt z0
  have HB := Lib.hid hB
  clear hB
  go_enter Tryz.func16, Tryz.ntmps16
  go_wp2_with fail
  rw [← hW0]
  clear hW0
  go_wp2_with fail
  (try simp only [Exit.inBlock, Exit.then])
  refine bodyPost_ret (results_boT _ _ w.heap.size (.int .i64 0) (.slice none 0 0) rfl ?_ ?_) rfl ⟨rfl, ?_⟩
  · exact p0
  · exact p1
  · exact HB.out
set_option maxRecDepth 100000 in
set_option maxHeartbeats 4000000 in
theorem playOnBoard_big (s : ByteArray) (A : Option Addr) (n c : Nat) (w : World) (hn : 200 < n) :
    Calls Tryz.prog 8 #[.string s, .slice A n c] w fun e w' => e = .returned (tbV [] false) ∧ Below w.heap.size w w' := by
  have HR := Lib.hid (fun wx => boardToPlay_big s A n c wx hn)
  go_enter Tryz.func8, Tryz.ntmps8
  go_wp2_with fail
  refine (HR.out _).mono ?_
  rintro e w1 ⟨rfl, hb1⟩
  have HB1 := Lib.hid hb1
  clear hb1
  go_wp2_with fail
  go_ret2
  exact ⟨rfl, HB1.out.alloc HB1.out.size _⟩

/-- The rows behind all moves, and how many could be made. -/
def pbR (l : List UInt8) (ms : List (Int × Int)) : List (List UInt8) × Nat := brdP ((spl l).headD []).length (spl l) ms
def pbAsk (l : List UInt8) (n : Nat) : Bool := goodB l && decide (n ≤ 200)
def pbOk (l : List UInt8) (ms : List (Int × Int)) : Bool := pbAsk l ms.length && ((pbR l ms).2 == ms.length)
def pbT (l : List UInt8) (ms : List (Int × Int)) : List UInt8 := if pbOk l ms then Lib.join (pbR l ms).1 [47] else []
/-- The index of the move that fails. -/
def pbN (l : List UInt8) (ms : List (Int × Int)) : Value := if pbAsk l ms.length && !((pbR l ms).2 == ms.length) then .tuple #[.int .i64 (pbR l ms).2, .bool true] else .tuple #[.int .i64 0, .bool false]

def pbV (l : List UInt8) (ms : List (Int × Int)) : Value := tbV (pbT l ms) (pbOk l ms)
theorem PlayOnB_any (s : ByteArray) (l : List (Int × Int)) (A : Option Addr) (c : Nat) (w : World) (hs : s.size ≤ 2000000) (hat : MvAt w A l) :
    Calls Tryz.prog 8 #[.string s, .slice A l.length c] w fun e w' => e = .returned (pbV (byt s) l) ∧ Below w.heap.size w w' := by
  unfold pbV
  by_cases hl : l.length ≤ 200
  · cases hg : goodB (byt s)
    · have e : pbOk (byt s) l = false := by unfold pbOk pbAsk; rw [hg]; rfl
      unfold pbT
      rw [e]
      exact playOnBoard_bad s A l.length c w hs hg hl
    · have G := good_R hg
      have e : pbOk (byt s) l = ((pbR (byt s) l).2 == l.length) := by unfold pbOk pbAsk; rw [hg]; simp [hl]
      obtain ⟨G2, hlen⟩ := brdP_good l G
      unfold pbT
      rw [e]
      refine playOnBoard_good s l A c ((spl (byt s)).headD []).length (spl (byt s)).flatten.length (spl (byt s)).flatten (pbR (byt s) l).1 _ w hs hg hl hat rfl rfl rfl ?_ ?_ G.hw.1 G.hw.2 G2.hh.1 G2.hh.2 G2.hl
      · intro wx g cap h1 h2 h3 h4
        refine (playAllB_any _ _ l _ _ (mkW_ok (h := (spl (byt s)).length) _ (flat_eq _ _ G.hl) l) _ ⟨_, G, rfl, rfl⟩ g cap A c wx h1 h2 h3 h4 (by omega)).mono ?_
        intro e w' h
        rw [playW l G] at h
        unfold PaO at h
        by_cases h5 : (pbR (byt s) l).2 = l.length
        · have h6 : (pbR (byt s) l).2 = l.length := h5
          unfold pbR at h6
          rw [if_pos h6] at h
          rw [if_pos (by simpa using h5)]
          exact h
        · have h6 : ¬ (pbR (byt s) l).2 = l.length := h5
          unfold pbR at h6
          rw [if_neg h6] at h
          rw [if_neg (by simpa using h5)]
          exact h
      · show _ = (pbR (byt s) l).1.length * _
        unfold pbR
        rw [hlen]
        exact flat_eq _ _ G.hl
  · have e : pbOk (byt s) l = false := by unfold pbOk pbAsk; simp [hl]
    unfold pbT
    rw [e]
    exact playOnBoard_big s A l.length c w (by omega)

set_option maxRecDepth 100000 in
set_option maxHeartbeats 4000000 in
theorem moveFailsB_any (wd n : Nat) (l : List (Int × Int)) (mk : List UInt8 → Int → Int → Option (List UInt8)) (Inv : Nat → List UInt8 → Prop) (hmk : MkB2 wd n l mk Inv) (F0 : List UInt8) (h0 : Inv 0 F0) (g0 cap0 : Nat) (A : Option Addr) (c : Nat) (w : World)
    (hc0 : n ≤ cap0) (hg0 : g0 < w.heap.size) (hb0 : BsAt w g0 F0) (hat : MvAt w A l) (hl : l.length ≤ 1000) :
    Calls Tryz.prog 22 #[.agg #[.int .i64 wd, .slice (some ⟨g0, 0, none⟩) n cap0], .slice A l.length c, .func (.func 18) #[] #[]] w fun e w' => e = .returned (if (playF mk F0 l).2 == l.length then .tuple #[.int .i64 0, .bool false] else .tuple #[.int .i64 (playF mk F0 l).2, .bool true]) ∧ Below w.heap.size w w' := by
  have HC := Lib.hid (fun wx (hb : Below w.heap.size w wx) => playOnB_any wd n l mk Inv hmk F0 h0 g0 cap0 A c wx hc0 (Nat.lt_of_lt_of_le hg0 hb.size) (hb0.below hg0 hb) (hat.below hb) hl)
  have hle := playF_le mk l F0
  clear hmk h0 hb0 hat
  generalize playF mk F0 l = r at HC hle ⊢
  by_cases he : r.2 = l.length
  · have hV : Hid ((if r.2 == l.length then Value.tuple #[.int .i64 0, .bool false] else .tuple #[.int .i64 r.2, .bool true]) = .tuple #[.int .i64 0, .bool false]) := Lib.hid (by rw [if_pos (by simpa using he)])
    rw [hV.out]
    have he1 : (r.2 : Int) = (l.length : Int) := by omega
    have he2 := Lib.hid he1
    clear hV he he1 hle
    go_enter Tryz.func22, Tryz.ntmps22
    go_wp2_with fail
    refine (HC.out _ ((Below.refl _ _).alloc (Nat.le_refl _) _)).mono ?_
    rintro e w1 ⟨g, cap, rfl, a1, a2, a3, hb1, hgg⟩
    rw [he2.out]
    have HB1 := Lib.hid (((Below.refl w.heap.size w).alloc (Nat.le_refl _) (Obj.cells #[.int .i64 wd, .slice (some ⟨g0, 0, none⟩) n cap0] 44)).trans (hb1.mono (by simp)))
    clear hb1 a3 hgg he2
    go_wp2_with fail
    go_ret2
    exact ⟨rfl, HB1.out.alloc HB1.out.size _⟩
  · have hV : Hid ((if r.2 == l.length then Value.tuple #[.int .i64 0, .bool false] else .tuple #[.int .i64 r.2, .bool true]) = .tuple #[.int .i64 r.2, .bool true]) := Lib.hid (by rw [if_neg (by simpa using he)])
    rw [hV.out]
    have he1 : ((r.2 : Int) == (l.length : Int)) = false := by simp; omega
    clear hV he
    go_enter Tryz.func22, Tryz.ntmps22
    go_wp2_with fail
    refine (HC.out _ ((Below.refl _ _).alloc (Nat.le_refl _) _)).mono ?_
    rintro e w1 ⟨g, cap, rfl, a1, a2, a3, hb1, hgg⟩
    have HB1 := Lib.hid (((Below.refl w.heap.size w).alloc (Nat.le_refl _) (Obj.cells #[.int .i64 wd, .slice (some ⟨g0, 0, none⟩) n cap0] 44)).trans (hb1.mono (by simp)))
    clear hb1 a3 hgg
    go_wp2_with fail
    go_ret2
    exact ⟨rfl, HB1.out.alloc HB1.out.size _⟩
end Go.Proofs.YtoiaklnaecghnabGreatDoor
