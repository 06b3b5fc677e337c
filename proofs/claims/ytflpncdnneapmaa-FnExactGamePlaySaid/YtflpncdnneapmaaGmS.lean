/- Contracts: the program tells who wins: the closures, and the map that they keep. -/
import Derived.Test.YtflpncdnneapmaaGmR
import Derived.Deep.RegionHeld3
namespace Go.Proofs.Ytflpncdnneapmaa
open Go.RowKit Go.Maps Go.Shelf

/-- The closure that tells. -/
abbrev telV (Bt Br Bs : Nat) : Value := .func (.func 99) #[] #[.pointer (some ⟨Bt, 0, none⟩), .pointer (some ⟨Br, 0, none⟩), .pointer (some ⟨Bs, 0, none⟩)]
/-- What telling of a turn gives. -/
def TellP (L B Bt Br Bs : Nat) (tm : Bool) (s : List UInt8) (W : World) (e : Ending) (W' : World) : Prop :=
  e = .returned (.bool (Wn tm s)) ∧ TellI W' L B Bt Br Bs ∧ KpM B W W'
/-- The turns behind are told of rightly. -/
def TellNext (L B Bt Br Bs : Nat) (tm : Bool) (s : List UInt8) : Prop :=
  ∀ x ∈ nxG tm s, ∀ W, TellI W L B Bt Br Bs → Calls Try.prog 99 #[tnV (!tm) x, .pointer (some ⟨Bt, 0, none⟩), .pointer (some ⟨Br, 0, none⟩), .pointer (some ⟨Bs, 0, none⟩)] W (TellP L B Bt Br Bs (!tm) x W)

set_option maxRecDepth 100000 in
set_option maxHeartbeats 4000000 in
theorem pred_any (L B Bt Br Bs : Nat) (tm : Bool) (s : List UInt8) (a b Bw Bu : Nat) (W : World) (ha : a < s.length) (hb : b < s.length) (hne : a ≠ b) (hx : putL (str s) a b ∈ nxG tm s) (hN : TellNext L B Bt Br Bs tm s) (hI : TellI W L B Bt Br Bs)
    (hw : W.cell? ⟨Bw, 0, none⟩ = some (telV Bt Br Bs)) (hu0 : W.cell? ⟨Bu, 0, none⟩ = some (.string (str s))) (hu1 : W.cell? ⟨Bu, 1, none⟩ = some (.int .u8 (kd tm).toNat)) (hlw : Bw < W.heap.size) (hlu : Bu < W.heap.size) (hwB : Bw ≠ B) (huB : Bu ≠ B) :
    Calls Try.prog 78 #[.agg #[.int .i64 a, .int .i64 b], .pointer (some ⟨Bw, 0, none⟩), .pointer (some ⟨Bu, 0, none⟩)] W fun e W' => e = .returned (.bool (!Wn (!tm) (putL (str s) a b))) ∧ TellI W' L B Bt Br Bs ∧ KpM B W W' := by
  have HBH := Lib.hid (fun wx => tnBehind_any tm s a b wx ha hb hne)
  have HT := Lib.hid (fun wx => hN _ hx wx)
  have HI := Lib.hid hI
  have hBl := hI.map.lt
  clear hN hx hI
  generalize putL (str s) a b = y at HBH HT
  go_enter Try.func78, Try.ntmps78
  go_wp2
  obtain ⟨W1, hW1⟩ : ∃ W1, W1 = W.alloc (mvB a b) := ⟨_, rfl⟩
  rw [← hW1]
  have c0 : W1.cell? ⟨Bw, 0, none⟩ = some (telV Bt Br Bs) := by rw [hW1, cell_old _ _ _ _ hlw]; exact hw
  have c1 : W1.cell? ⟨Bu, 0, none⟩ = some (.string (str s)) := by rw [hW1, cell_old _ _ _ _ hlu]; exact hu0
  have c2 : W1.cell? ⟨Bu, 1, none⟩ = some (.int .u8 (kd tm).toNat) := by rw [hW1, cell_old _ _ _ _ hlu]; exact hu1
  have c3 : W1.cell? ⟨W.heap.size, 0, none⟩ = some (.int .i64 a) := by rw [hW1, World.cell?_alloc_new]; rfl
  have c4 : W1.cell? ⟨W.heap.size, 1, none⟩ = some (.int .i64 b) := by rw [hW1, World.cell?_alloc_new]; rfl
  have hz : W1.heap.size = W.heap.size + 1 := by rw [hW1]; simp
  have HB1 : Hid (Below W.heap.size W W1) := by rw [hW1]; exact Lib.hid ((Below.refl _ _).alloc (Nat.le_refl _) _)
  have z0 : Bw < W1.heap.size := by omega
  have z1 : Bu < W1.heap.size := by omega
  have z2 : W.heap.size < W1.heap.size := by omega
  have zB : W.heap.size ≠ B := by omega
  clear hW1 hw hu0 hu1
  go_region_held3 (fun w' => w'.cell? ⟨Bw, 0, none⟩ = some (telV Bt Br Bs) ∧ w'.cell? ⟨Bu, 0, none⟩ = some (.string (str s)) ∧ w'.cell? ⟨Bu, 1, none⟩ = some (.int .u8 (kd tm).toNat) ∧ w'.cell? ⟨W.heap.size, 0, none⟩ = some (.int .i64 a) ∧ w'.cell? ⟨W.heap.size, 1, none⟩ = some (.int .i64 b)) (first | exact ⟨c0, c1, c2, c3, c4⟩ | exact ⟨(hb2.cell z0).trans c0, (hb2.cell z1).trans c1, (hb2.cell z1).trans c2, (hb2.cell z2).trans c3, (hb2.cell z2).trans c4⟩ | exact ⟨(hk3.cell (Nat.lt_of_lt_of_le z0 hb2.size) hwB).trans ((hb2.cell z0).trans c0), (hk3.cell (Nat.lt_of_lt_of_le z1 hb2.size) huB).trans ((hb2.cell z1).trans c1), (hk3.cell (Nat.lt_of_lt_of_le z1 hb2.size) huB).trans ((hb2.cell z1).trans c2), (hk3.cell (Nat.lt_of_lt_of_le z2 hb2.size) zB).trans ((hb2.cell z2).trans c3), (hk3.cell (Nat.lt_of_lt_of_le z2 hb2.size) zB).trans ((hb2.cell z2).trans c4)⟩) (first | (go_at_call 42; refine (HBH.out _).mono ?_; rintro e w2 ⟨rfl, hb2⟩) | (go_at_call 99; refine (HT.out _ (by first | exact HI.out.below ((Below.drew HB1.out).trans (hb2.mono (by simp; omega))) | exact HI.out.below (HB1.out.trans (hb2.mono (by omega))))).mono ?_; rintro e w3 ⟨rfl, hI3, hk3⟩))
  go_wp2
  go_ret
  refine ⟨rfl, hI3, ?_⟩
  exact (KpM.below ((Below.drew HB1.out).trans (hb2.mono (by simp; omega)))).trans hk3

/-- Whether the player wins by the j-th move. -/
def prW (tm : Bool) (s : List UInt8) (j : Nat) : Bool := !Wn (!tm) ((nxG tm s).getD j [])
theorem nxG_len (tm : Bool) (s : List UInt8) : (nxG tm s).length = (gmM tm s).length := by simp [nxG]
theorem prW_at {tm : Bool} {s : List UInt8} {j : Nat} (h : j < (gmM tm s).length) : prW tm s j = !Wn (!tm) (behind (str s) (gmM tm s)[j].1 (gmM tm s)[j].2) := by
  have h2 : j < (nxG tm s).length := by rw [nxG_len]; exact h
  unfold prW
  rw [List.getD_eq_getElem?_getD, List.getElem?_eq_getElem h2]
  simp [nxG]
theorem prW_any {tm : Bool} {s : List UInt8} (hs : s.length ≤ 100) (r : Bool) (h : r = true ↔ ∃ j, j < (gmM tm s).length ∧ prW tm s j = true) : r = Wn tm s := by
  rw [Bool.eq_iff_iff, h, Wn_eq tm hs, List.any_eq_true]
  constructor
  · rintro ⟨j, hj, hp⟩
    rw [prW_at hj] at hp
    exact ⟨_, List.mem_map.2 ⟨_, List.getElem_mem hj, rfl⟩, hp⟩
  · rintro ⟨x, hx, hp⟩
    obtain ⟨m, hm, rfl⟩ := List.mem_map.1 hx
    obtain ⟨j, hj, rfl⟩ := List.getElem_of_mem hm
    exact ⟨j, hj, by rw [prW_at hj]; exact hp⟩

set_option maxRecDepth 100000 in
set_option maxHeartbeats 4000000 in
theorem rule_any (L B Bt Br Bs : Nat) (tm : Bool) (s : List UInt8) (W : World) (hL : L ≤ 12) (hs : sigT L s) (hN : TellNext L B Bt Br Bs tm s) (hI : TellI W L B Bt Br Bs) :
    Calls Try.prog 76 #[tnV tm s, telV Bt Br Bs] W (TellP L B Bt Br Bs tm s W) := by
  have hl100 : s.length ≤ 100 := by have := hs.1; omega
  have hBl := hI.map.lt
  have HN := Lib.hid hN
  have HI := Lib.hid hI
  have HM := Lib.hid (fun wx => tnMoves_any tm s wx hl100)
  have hml := gmM_le tm s
  clear hN hI
  go_enter Try.func76, Try.ntmps76
  go_wp2_with fail
  refine (HM.out _).mono ?_
  rintro e w3 ⟨v, rfl, ho3, hb3⟩
  obtain ⟨A, cap, rfl, AT⟩ := at_of_own ho3
  obtain ⟨W2, hW2⟩ : ∃ W2, W2 = (W.alloc (tnB tm s)).alloc (.cells #[telV Bt Br Bs] 70) := ⟨_, rfl⟩
  have hz2 : W2.heap.size = W.heap.size + 2 := by rw [hW2]; simp
  have hB2 : Below W.heap.size W W2 := by rw [hW2]; exact ((Below.refl _ _).alloc (Nat.le_refl _) _).alloc (by simp) _
  have e1 : (W.alloc (tnB tm s)).heap.size = W.heap.size + 1 := by simp
  have c0 : W2.cell? ⟨W.heap.size, 0, none⟩ = some (.string (str s)) := by rw [hW2, cell_old _ _ _ _ (by omega), World.cell?_alloc_new]; rfl
  have c1 : W2.cell? ⟨W.heap.size, 1, none⟩ = some (.int .u8 (kd tm).toNat) := by rw [hW2, cell_old _ _ _ _ (by omega), World.cell?_alloc_new]; rfl
  have c2 : W2.cell? ⟨W.heap.size + 1, 0, none⟩ = some (telV Bt Br Bs) := by rw [hW2, ← e1, World.cell?_alloc_new]; rfl
  rw [← hW2] at ho3 hb3
  have hz3 := hb3.size
  have hA : ∀ a, A = some a → a.block ≠ B := fun a e he => by
    subst e
    have := (ho3.lt _ rfl).1
    omega
  have HI3 : Hid (TellI w3 L B Bt Br Bs) := Lib.hid (HI.out.below (hB2.trans (hb3.mono (by omega))))
  have hpred : PredM 78 #[.pointer (some ⟨W.heap.size + 1, 0, none⟩), .pointer (some ⟨W.heap.size, 0, none⟩)] B (fun w => TellI w L B Bt Br Bs) (gmM tm s) (prW tm s) w3 := by
    intro j hj W' hI' hK
    obtain ⟨a, b, q1, q2, ha, hb, hne, hy, hy2⟩ := gm_at j hj
    rw [prW_at hj, ← hy2, q1, q2]
    refine pred_any L B Bt Br Bs tm s a b (W.heap.size + 1) W.heap.size W' ha hb hne hy HN.out hI' ?_ ?_ ?_ ?_ ?_ ?_ ?_
    · rw [hK.cell (by omega) (by omega), hb3.cell (p := ⟨W.heap.size + 1, 0, none⟩) (by show W.heap.size + 1 < _; omega)]; exact c2
    · rw [hK.cell (by omega) (by omega), hb3.cell (p := ⟨W.heap.size, 0, none⟩) (by show W.heap.size < _; omega)]; exact c0
    · rw [hK.cell (by omega) (by omega), hb3.cell (p := ⟨W.heap.size, 1, none⟩) (by show W.heap.size < _; omega)]; exact c1
    · have := hK.size; omega
    · have := hK.size; omega
    · omega
    · omega
  have HC := Lib.hid (containsM_any 78 #[.pointer (some ⟨W.heap.size + 1, 0, none⟩), .pointer (some ⟨W.heap.size, 0, none⟩)] (enters_of Try.func78 (by kernel_rfl) rfl) B (fun w => TellI w L B Bt Br Bs) (gmM tm s) (prW tm s) A cap w3 hpred (by omega) AT hA HI3.out)
  have HB3 := Lib.hid (hB2.trans (hb3.mono (by omega)))
  clear hpred ho3 hb3 hB2 hW2 c0 c1 c2 AT
  go_wp2_with fail
  refine HC.out.mono ?_
  rintro e w4 ⟨r, rfl, hr, hI4, hK4⟩
  have HR := Lib.hid hr
  have HI4 := Lib.hid hI4
  have HK4 := Lib.hid hK4
  clear hr hI4 hK4
  go_wp2
  go_ret
  refine ⟨?_, HI4.out, (KpM.below HB3.out).trans HK4.out⟩
  rw [← prW_any hl100 r HR.out]
  rfl

theorem tell_map {L B Bt Br Bs : Nat} {tm : Bool} {s : List UInt8} {W : World} (hL : L ≤ 12) (hs : sigT L s) (hI : TellI W L B Bt Br Bs) :
    ∃ W', (Instr.mapUpdate 136 (.map (some B)) (tnV tm s) (.bool (Wn tm s))).run Try.prog W = .ok () W' ∧ TellI W' L B Bt Br Bs ∧ KpM B W W' := by
  obtain ⟨D, h1, h2⟩ := hI.map
  have hm : s.length ≤ maxLen := by have := hs.1; unfold maxLen; omega
  obtain ⟨W', hrun, r1, r2⟩ := h1.store Try.keysT Try.underlying136 (by decide) (keyT tm hm) (boR_mk (Wn tm s))
  have hg := r2.grown
  have hK : KpM B W W' := ⟨hg.os, hg.tape, hg.output, hg.size, fun k hne hk => hg.block k hk hne⟩
  have hD2 := toldD_put hL h1.isMap h2 tm hs
  exact ⟨W', hrun, ⟨⟨_, told_few hL r1 hD2.2, hD2⟩, hI.box.kp hK⟩, hK⟩

set_option maxRecDepth 100000 in
set_option maxHeartbeats 4000000 in
theorem tell_any (L B Bt Br Bs : Nat) (hL : L ≤ 12) : ∀ (N : Nat) (tm : Bool) (s : List UInt8) (W : World), muG 0 s = N → sigT L s → TellI W L B Bt Br Bs →
    Calls Try.prog 99 #[tnV tm s, .pointer (some ⟨Bt, 0, none⟩), .pointer (some ⟨Br, 0, none⟩), .pointer (some ⟨Bs, 0, none⟩)] W (TellP L B Bt Br Bs tm s W) := by
  intro N
  induction N using Nat.strongRecOn with
  | ind N IH =>
  intro tm s W hmu hs hI
  have hl100 : s.length ≤ 100 := by have := hs.1; omega
  have hN : TellNext L B Bt Br Bs tm s := fun x hx W' hI' => IH (muG 0 x) (by rw [← hmu]; exact (mu_less hl100 hx).1) (!tm) x W' rfl (sigT_next hs hx) hI'
  have HRULE := Lib.hid (fun wx h => rule_any L B Bt Br Bs tm s wx hL hs hN h)
  have HMAP := Lib.hid (fun wx (h : TellI wx L B Bt Br Bs) => tell_map (tm := tm) hL hs h)
  clear IH hN
  obtain ⟨W1, hW1⟩ : ∃ W1, W1 = W.alloc (tnB tm s) := ⟨_, rfl⟩
  have hB1 : Below W.heap.size W W1 := by rw [hW1]; exact (Below.refl _ _).alloc (Nat.le_refl _) _
  have hI1 := hI.below hB1
  have hBl := hI.map.lt
  have hz : W1.heap.size = W.heap.size + 1 := by rw [hW1]; simp
  have x0 : W1.cell? ⟨W.heap.size, 0, none⟩ = some (.string (str s)) := by rw [hW1, World.cell?_alloc_new]; rfl
  have x1 : W1.cell? ⟨W.heap.size, 1, none⟩ = some (.int .u8 (kd tm).toNat) := by rw [hW1, World.cell?_alloc_new]; rfl
  have c0 := hI1.box.told
  have c1 := hI1.box.rule
  have c2 := hI1.box.tell
  have hm : s.length ≤ maxLen := by unfold maxLen; omega
  obtain ⟨D, hown, hD⟩ := hI1.map
  obtain ⟨v, ps, hrun, hv⟩ := hown.look_ok Try.keysT Try.underlying136 (zeroBo W1) (boR_mk false) (keyT tm hm)
  obtain ⟨b, rfl, hb⟩ := boR_inv hv
  injection hb with hb _
  have hDT := hD.1 tm s hs
  have HI1 := Lib.hid hI1
  have HB1 := Lib.hid hB1
  clear hI hs hown hv hB1 hI1 hD
  cases hk : Maps.has D (.string (kbT tm s))
  · rw [hk] at hrun
    clear hk hDT hb
    subst hW1
    go_enter Try.func99, Try.ntmps99
    go_wp2_with fail
    refine (HRULE.out _ HI1.out).mono ?_
    rintro e w5 ⟨rfl, hI5, hK5⟩
    have y0 := (hK5.cell (b := W.heap.size) (o := 0) (by omega) (by omega)).trans x0
    have y1 := (hK5.cell (b := W.heap.size) (o := 1) (by omega) (by omega)).trans x1
    have d0 := hI5.box.told
    obtain ⟨w6, hrun6, hI6, hK6⟩ := HMAP.out w5 hI5
    have HK := Lib.hid ((KpM.below HB1.out).trans (hK5.trans hK6))
    clear hI5 hK5 hK6 hrun x0 x1 c0 c1 c2
    go_wp2
    go_ret
    exact ⟨rfl, hI6, HK.out⟩
  · rw [hk] at hrun
    have hbv : b = Wn tm s := by
      have := (hDT hk).2 (.lit (.bool false))
      rw [hb] at this
      injection this with this
      injection this
    subst hbv
    clear hk hDT hb
    subst hW1
    go_enter Try.func99, Try.ntmps99
    go_wp2
    go_ret
    exact ⟨rfl, HI1.out, KpM.below HB1.out⟩
end Go.Proofs.Ytflpncdnneapmaa
