/- Contract: the model tells of all games from a line. -/
import Derived.Test.YtecmeppkggifeaaGmE
namespace Go.Proofs.Ytecmeppkggifeaa
open Go.RowKit

theorem Try.infoI : (Try.prog.info? 3).map (fun i => (i.zero, i.size, i.bytes)) = some (some (.int .i64 0), 1, 8) := by kernel_rfl
set_option maxHeartbeats 400000 in
theorem l1Most_any (a b : Nat) (w : World) :
    Calls Try.prog 104 #[.int .i64 (a : Int), .int .i64 (b : Int)] w fun e w' => e = .returned (.int .i64 ((max a b : Nat) : Int)) ∧ w = w' := by
  by_cases h : (a : Int) > (b : Int)
  · have hm : max a b = a := by omega
    rw [hm]
    go_enter Try.func104, Try.ntmps104
    go_wp2
    go_ret
    exact ⟨rfl, rfl⟩
  · have hm : max a b = b := by omega
    rw [hm]
    go_enter Try.func104, Try.ntmps104
    go_wp2
    go_ret
    exact ⟨rfl, rfl⟩
/-- What a call of 'of' leaves. -/
def OfP (B L N : Nat) (ks : List (List UInt8)) (W : World) (tm : Bool) (s : List UInt8) (e : Ending) (W' : World) : Prop :=
  ∃ (ks' : List (List UInt8)) (j : Nat) (h : j < ks'.length), e = .returned (.int .i64 (j : Int)) ∧ ks'[j] = keyG tm s ∧ KnG W' B L ks' ∧ (∀ x ∈ ks', x ∈ ks ∨ muK x ≤ N) ∧ KpX B W W'
def OfK (ks : List (List UInt8)) (key : List UInt8) (W : World) (e : Ending) (W' : World) : Prop :=
  ∃ (j : Nat) (h : j < ks.length), e = .returned (.int .i64 (j : Int)) ∧ ks[j] = key ∧ Below W.heap.size W W'
structure GmSo (B L N : Nat) (ks : List (List UInt8)) (W wr : World) : Prop where
  kn : ∃ ks', KnG wr B L ks' ∧ ∀ x ∈ ks', x ∈ ks ∨ muK x < N
  kp : KpX B W wr
theorem one_key {s : List UInt8} (tm : Bool) (hg : goodL (str s) = true) (w : World) :
    Calls Try.prog 85 #[.slice (some ⟨w.heap.size, 0, none⟩) 1 1, .bool tm] (w.alloc (.cells #[.string (str s)] 9)) fun e w' => e = .returned (.string (str (keyG tm s))) ∧ w.alloc (.cells #[.string (str s)] 9) = w' := by
  have hA : StO (w.alloc (.cells #[.string (str s)] 9)) (some ⟨w.heap.size, 0, none⟩) [s] := fun k hk => by
    obtain rfl : k = 0 := by simpa using hk
    exact ⟨w.heap.size, 0, rfl, by simp, by rw [World.cell?_alloc_new]; rfl⟩
  have h12 := ((goodL_iff _).1 hg).2.1
  rw [str_size] at h12
  exact gaKey_any tm [s] _ 1 _ hA (by simp) (by simp) (fun x hx => by simp at hx; subst hx; exact h12)

set_option maxRecDepth 100000 in
set_option maxHeartbeats 4000000 in
theorem of_known (B L : Nat) (tm : Bool) (s : List UInt8) (W : World) (ks : List (List UInt8)) (hL : L ≤ 12) (hg : goodL (str s) = true) (hk : KnG W B L ks) (hin : keyG tm s ∈ ks) :
    Calls Try.prog 83 #[.pointer (some ⟨B, 0, none⟩), .string (str s), .bool tm] W (OfK ks (keyG tm s) W) := by
  obtain ⟨gs, v0, v1, v2, v3, hM0⟩ := hk
  have hb : Below W.heap.size W (W.alloc (.cells #[.string (str s)] 9)) := (Below.refl _ _).alloc (Nat.le_refl _) _
  have hM := hM0.below hb
  obtain ⟨i0, hi0, hix⟩ := List.getElem_of_mem hin
  have hfew := hM.few hL
  obtain ⟨c0, _, _, _⟩ := hM.cells
  obtain ⟨g1, p1, rfl, _, hg1, _, _, hr1⟩ := own_open hM.row0 (by omega)
  have HK1 : Hid (∀ j (h : j < ks.length), (W.alloc (.cells #[.string (str s)] 9)).cell? ⟨g1, j, none⟩ = some (.string (str ks[j]))) := Lib.hid fun j h => by
    have := hr1 j (by rw [txs_len]; exact h)
    simpa [txs] using this
  have HIN := Lib.hid hix
  have HKEY := Lib.hid (one_key tm hg W)
  clear hr1 hM hM0 hix hin hg
  generalize keyG tm s = key at HKEY HIN ⊢
  go_enter Try.func83, Try.ntmps83
  go_wp2_with fail
  refine HKEY.out.mono ?_
  rintro e w1 ⟨rfl, rfl⟩
  go_wp2
  go_loop [26] (fun i => ∃ k : Nat, k ≤ ks.length ∧ i = .int .i64 k ∧ k ≤ i0) (fun i => ks.length - (intOf i).toNat)
  case atStart => exact ⟨0, Nat.zero_le _, rfl, Nat.zero_le _⟩
  case round =>
    obtain ⟨k, hk, rfl, hk0⟩ := hrel
    have hlt : k < ks.length := by omega
    have d1 := HK1.out k hlt
    have HS := Lib.hid (same_str ks[k] key)
    have i1 : (0 : Int) ≤ (k : Int) := by omega
    have i2 : (k : Int) < (ks.length : Int) := by omega
    by_cases he : ks[k] = key
    · have hb1 : ((str ks[k]).toList == (str key).toList) = true := by rw [HS.out]; simp [he]
      have HE := Lib.hid he
      clear he
      go_wp2
      go_ret
      exact ⟨k, hlt, rfl, HE.out, hb⟩
    · have hb1 : ((str ks[k]).toList == (str key).toList) = false := by rw [HS.out]; simp [he]
      have HE := Lib.hid he
      have hne : k ≠ i0 := fun e => by subst e; exact HE.out HIN.out
      clear he
      go_wp2
      go_round
      case rel => exact ⟨k + 1, by omega, by go_num, by omega⟩
      case measure => simp [intOf]; omega

/-- The four fields grown: what is known then. -/
theorem of_fin {B L N : Nat} {tm : Bool} {s : List UInt8} {ks ks' : List (List UInt8)} {gs : List G3} {W w a0 a1 a2 a3 : World} {v0 v1 v2 v3 u0 u1 u2 u3 : Value} {o0 o1 o2 o3 : Obj} (hT : KpX B W w) (hM : KnL w B L ks' gs v0 v1 v2 v3)
    (hk : ∀ x ∈ ks', x ∈ ks ∨ muK x < N) (hmu : muG 0 s = N) (hno : keyG tm s ∉ ks) (hsig : (keyG tm s).length = L + 2 ∧ ∀ c ∈ keyG tm s, c ∈ sgsG)
    (hg0 : (w.alloc o0).grownBy a0 v0.ownBlock) (ho0 : a0.ownsRow (B + 1) 9 1 u0 (ks'.length + 1) (txs ks' ++ [.string (str (keyG tm s))])) (hat0 : u0.ownBlock = v0.ownBlock ∨ u0.ownBlock = some (w.alloc o0).heap.size)
    (hg1 : ((a0.setCell ⟨B, 0, none⟩ u0).alloc o1).grownBy a1 v1.ownBlock) (ho1 : a1.ownsRow (B + 1) 3 1 u1 (ks'.length + 1) (intsL gs ++ [.int .i64 ((Gm tm s).1 : Int)])) (hat1 : u1.ownBlock = v1.ownBlock ∨ u1.ownBlock = some ((a0.setCell ⟨B, 0, none⟩ u0).alloc o1).heap.size)
    (hg2 : ((a1.setCell ⟨B, 1, none⟩ u1).alloc o2).grownBy a2 v2.ownBlock) (ho2 : a2.ownsRow (B + 1) 3 1 u2 (ks'.length + 1) (intsS gs ++ [.int .i64 ((Gm tm s).2.1 : Int)])) (hat2 : u2.ownBlock = v2.ownBlock ∨ u2.ownBlock = some ((a1.setCell ⟨B, 1, none⟩ u1).alloc o2).heap.size)
    (hg3 : ((a2.setCell ⟨B, 2, none⟩ u2).alloc o3).grownBy a3 v3.ownBlock) (ho3 : a3.ownsRow (B + 1) 3 1 u3 (ks'.length + 1) (intsM gs ++ [.int .i64 (Gm tm s).2.2])) (hat3 : u3.ownBlock = v3.ownBlock ∨ u3.ownBlock = some ((a2.setCell ⟨B, 2, none⟩ u2).alloc o3).heap.size) :
    OfP B L N ks W tm s (.returned (.int .i64 (ks'.length : Int))) (a3.setCell ⟨B, 3, none⟩ u3) := by
  obtain ⟨_, m0, k0⟩ := hM.mem.grow (o := o0) 0 (by decide) hg0 ho0 hat0
  rw [upd4_0, upd4_0, upd4_0] at m0
  obtain ⟨_, m1, k1⟩ := m0.grow (o := o1) 1 (by decide) hg1 ho1 hat1
  rw [upd4_1, upd4_1, upd4_1] at m1
  obtain ⟨_, m2, k2⟩ := m1.grow (o := o2) 2 (by decide) hg2 ho2 hat2
  rw [upd4_2, upd4_2, upd4_2] at m2
  obtain ⟨_, m3, k3⟩ := m2.grow (o := o3) 3 (by decide) hg3 ho3 hat3
  have hl := hM.len
  have e1 : upd (fn4 u0 u1 u2 v3) 3 u3 0 = u0 := rfl
  refine ⟨ks' ++ [keyG tm s], ks'.length, by simp, rfl, by simp, ⟨gs ++ [Gm tm s], u0, u1, u2, u3, ⟨⟨m3.box, fun i hi => ?_, fun i j hi hj hne => ?_⟩, by simp [hl], fun i h => ?_, ?_, fun x hx => ?_⟩⟩, fun x hx => ?_, hT.trans (k0.trans (k1.trans (k2.trans k3)))⟩
  · have r := m3.row i hi
    match i, hi, r with
    | 0, _, r => rw [List.length_append, txs_app]; exact r
    | 1, _, r => rw [List.length_append, intsL, List.map_append]; exact r
    | 2, _, r => rw [List.length_append, intsS, List.map_append]; exact r
    | 3, _, r => rw [List.length_append, intsM, List.map_append]; exact r
  · have r := m3.ap i j hi hj hne
    match i, hi, j, hj, r with
    | 0, _, 0, _, r => exact r
    | 0, _, 1, _, r => exact r
    | 0, _, 2, _, r => exact r
    | 0, _, 3, _, r => exact r
    | 1, _, 0, _, r => exact r
    | 1, _, 1, _, r => exact r
    | 1, _, 2, _, r => exact r
    | 1, _, 3, _, r => exact r
    | 2, _, 0, _, r => exact r
    | 2, _, 1, _, r => exact r
    | 2, _, 2, _, r => exact r
    | 2, _, 3, _, r => exact r
    | 3, _, 0, _, r => exact r
    | 3, _, 1, _, r => exact r
    | 3, _, 2, _, r => exact r
    | 3, _, 3, _, r => exact r
  · by_cases hi : i < ks'.length
    · obtain ⟨tm', s', e1, e2⟩ := hM.val i hi
      exact ⟨tm', s', by rw [List.getElem_append_left hi]; exact e1, by rw [List.getElem_append_left (by omega)]; exact e2⟩
    · obtain rfl : i = ks'.length := by simp at h; omega
      refine ⟨tm, s, by simp, ?_⟩
      rw [List.getElem_append_right (by omega)]
      simp
  · refine List.nodup_append.2 ⟨hM.nodup, by simp, fun x hx y hy e => ?_⟩
    simp at hy
    subst hy
    subst e
    rcases hk _ hx with h | h
    · exact hno h
    · rw [muK_key] at h; omega
  · rw [List.mem_append] at hx
    rcases hx with hx | hx
    · exact hM.sig x hx
    · simp at hx; subst hx; exact hsig
  · rw [List.mem_append] at hx
    rcases hx with hx | hx
    · rcases hk x hx with h | h
      · exact .inl h
      · exact .inr (by omega)
    · simp at hx; subst hx; exact .inr (by rw [muK_key]; omega)
set_option maxRecDepth 100000 in
set_option maxHeartbeats 8000000 in
theorem ofGm_any : ∀ (N B L : Nat) (tm : Bool) (s : List UInt8) (W : World) (ks : List (List UInt8)), muG 0 s = N → goodL (str s) = true → s.length = L → KnG W B L ks →
    Calls Try.prog 83 #[.pointer (some ⟨B, 0, none⟩), .string (str s), .bool tm] W (OfP B L N ks W tm s) := by
  intro N
  induction N using Nat.strongRecOn with
  | ind N IH =>
  intro B L tm s W ks hmu hg hsL hk
  have hL12 : L ≤ 12 := by have := ((goodL_iff _).1 hg).2.1; rw [str_size] at this; omega
  by_cases hin : keyG tm s ∈ ks
  · refine (of_known B L tm s W ks hL12 hg hk hin).mono ?_
    rintro e w' ⟨j, hj, rfl, hkj, hb⟩
    have hBl : B < W.heap.size := by obtain ⟨_, _, _, _, _, h⟩ := hk; exact h.mem.lt
    exact ⟨ks, j, hj, rfl, hkj, hk.below hb, fun x hx => .inl hx, KpX.below hBl hb⟩
  obtain ⟨iS, hi, hz0, hz1, hz2⟩ := info_parts Try.infoS
  have HI := Lib.hid hi
  have HZ0 := Lib.hid hz0
  have HZ1 := Lib.hid hz1
  have HZ2 := Lib.hid hz2
  clear hi hz0 hz1 hz2
  obtain ⟨iI, hi, hz0, hz1, hz2⟩ := info_parts Try.infoI
  have JI := Lib.hid hi
  have JZ0 := Lib.hid hz0
  have JZ1 := Lib.hid hz1
  have JZ2 := Lib.hid hz2
  clear hi hz0 hz1 hz2
  have hs100 : s.length ≤ 100 := by omega
  have hb : Below W.heap.size W (W.alloc (.cells #[.string (str s)] 9)) := (Below.refl _ _).alloc (Nat.le_refl _) _
  obtain ⟨gs, v0, v1, v2, v3, hM0⟩ := hk
  have hM := hM0.below hb
  have hBl := hM0.mem.lt
  have hfew := hM.few hL12
  obtain ⟨c0, _, _, _⟩ := hM.cells
  obtain ⟨A1, p1, hv0, _, _, hA1, _, _⟩ := st_own hM.row0
  have HK1 := Lib.hid hA1
  have HKEY := Lib.hid (one_key tm hg W)
  have HSO : Hid (GmSo B L N ks W (W.alloc (.cells #[.string (str s)] 9))) := Lib.hid ⟨⟨ks, ⟨gs, v0, v1, v2, v3, hM⟩, fun x hx => .inl hx⟩, KpX.below hBl hb⟩
  have HSIG : Hid ((keyG tm s).length = L + 2 ∧ ∀ c ∈ keyG tm s, c ∈ sgsG) := Lib.hid (by
    refine ⟨by simp [keyG, hsL], fun c hc => ?_⟩
    have := (SumG.key (L := L) (ls := [s]) ⟨by simp, by simp, fun x hx => by simp at hx; subst hx; exact hg, hsL, hL12⟩ tm).2 c hc
    exact this)
  have HNO := Lib.hid hin
  have HMU := Lib.hid hmu
  have HIH := Lib.hid IH
  have HMV := Lib.hid (fun wx => liMoves_kd tm s wx hg)
  have HAT := Lib.hid (fun (j : Nat) (h : j < (gmM tm s).length) => gm_at (tm := tm) (s := s) j h)
  have hMl := gmM_le tm s
  have HLESS : Hid (∀ x ∈ nxG tm s, muG 0 x < N ∧ x.length = L ∧ goodL (str x) = true) := Lib.hid fun x hx => by
    have := mu_less hs100 hx
    exact ⟨by rw [← hmu]; exact this.1, by omega, nxG_good hg hx⟩
  have HCS := Lib.hid (csK_step tm s)
  have HCL : Hid (∀ k, k ≤ (gmM tm s).length → (csK tm s k).length = k) := Lib.hid fun k h => csK_len h
  have HMN := Lib.hid (mnF_step tm s)
  have HSM := Lib.hid (csK_small (tm := tm) hs100)
  have HGS : Hid (∀ x ∈ nxG tm s, (Gm (!tm) x).1 ≤ 20000 ∧ (Gm (!tm) x).2.1 ≤ 20000) := Lib.hid fun x hx => Gm_small (!tm) (by have := (mu_less hs100 hx).2; omega)
  have HEND := Lib.hid (Gm_end tm hs100)
  have HM0 : Hid (mnF tm s 0 = if (gmM tm s).length = 0 then 1 else 0) := Lib.hid (by unfold mnF; rfl)
  subst hv0
  clear IH hM hM0 hin hmu hA1 hsL
  go_enter Try.func83, Try.ntmps83
  go_wp2_with fail
  refine HKEY.out.mono ?_
  rintro e w1 ⟨rfl, rfl⟩
  go_wp2
  go_loop [26] (fun i => ∃ k : Nat, k ≤ ks.length ∧ i = .int .i64 k) (fun i => ks.length - (intOf i).toNat)
  case atStart => exact ⟨0, Nat.zero_le _, rfl⟩
  case round =>
    obtain ⟨k, hk, rfl⟩ := hrel
    by_cases hlt : k < ks.length
    · obtain ⟨g1, rfl, hg1, d1⟩ := HK1.out k hlt
      have hb1 : ((str ks[k]).toList == (str (keyG tm s)).toList) = false := by
        rw [same_str, decide_eq_false_iff_not]
        intro e
        exact HNO.out (by rw [← e]; exact List.getElem_mem hlt)
      have i1 : (0 : Int) ≤ (k : Int) := by omega
      have i2 : (k : Int) < (ks.length : Int) := by omega
      go_wp2
      go_round
      case rel => exact ⟨k + 1, by omega, by go_num⟩
      case measure => simp [intOf]; omega
    · go_wp2_with fail
      refine (HMV.out _).mono ?_
      rintro e w2 ⟨vm, rfl, ho2, hb2⟩
      obtain ⟨A2, cap2, rfl, AT2⟩ := at_of_own ho2
      have HA2 : Hid (∀ a, A2 = some a → (W.alloc (.cells #[.string (str s)] 9)).heap.size ≤ a.block ∧ a.block < w2.heap.size) := Lib.hid fun a e => by
        subst e
        exact ho2.lt _ rfl
      have HT2 : Hid (GmSo B L N ks W w2 ∧ ∀ a, A2 = some a → ¬ Ex B w2 a.block) := by
        obtain ⟨⟨ks', hkn, hks⟩, hkp⟩ := HSO.out
        obtain ⟨gs', u0, u1, u2, u3, hM'⟩ := hkn
        refine Lib.hid ⟨⟨⟨ks', ⟨gs', u0, u1, u2, u3, hM'.below hb2⟩, hks⟩, hkp.trans (KpX.below hM'.mem.lt hb2)⟩, fun a e he => ?_⟩
        have := hM'.mem.ex_old hb2 he
        have := (HA2.out a e).1
        omega
      have AT := Lib.hid AT2
      clear ho2 hb2 AT2
      generalize hMM : gmM tm s = M at HAT HCS HCL HMN HEND HM0 hMl AT
      clear hMM
      cases hMc : ((M.length : Int) == 0)
      all_goals
        have HMS := HM0.out
        (first | rw [if_pos (by have h := hMc; simp at h; (first | omega | exact List.length_eq_zero_iff.2 h))] at HMS | rw [if_neg (by have h := hMc; simp at h; (first | omega | (intro e; exact h (List.length_eq_zero_iff.1 e))))] at HMS)
        go_wp2
        go_loopw [10, 11, 12, 46] (fun a b c t wr => ∃ j : Nat, j ≤ M.length ∧ t = .int .i64 j ∧ a = .int .i64 (lgK (csK tm s j) : Int) ∧ b = .int .i64 (shK (csK tm s j) : Int) ∧ c = .int .i64 (mnF tm s j) ∧ Hid (GmSo B L N ks W wr) ∧ Hid (KpX B w2 wr)) (fun _ _ _ t _ => M.length - (intOf t).toNat)
        case atStart => exact ⟨0, Nat.zero_le _, rfl, rfl, rfl, by rw [HMS], Lib.hid HT2.out.1, Lib.hid (KpX.refl _ _)⟩
        case round =>
          obtain ⟨j, hj, rfl, rfl, rfl, rfl, HTQ, HKQ⟩ := hrel
          by_cases hltj : j < M.length
          · (try (exfalso; have h := hMc; simp at h; first | omega | (rw [h] at hltj; simp at hltj)))
            all_goals
              obtain ⟨gm, rfl, zz, p1, q1⟩ := (AT.out.kp HKQ.out HT2.out.2) j hltj
              obtain ⟨a, b, e1, e2, hai, hbi, hneab, hyn, hy⟩ := HAT.out j hltj
              rw [e1] at p1
              rw [e2] at q1
              have hS0 := HCS.out j hltj
              have hN0 := HMN.out j hltj
              rw [← hy] at hS0 hN0
              obtain ⟨hmu1, hmu2, hmu3⟩ := HLESS.out _ hyn
              obtain ⟨hgs1, hgs2⟩ := HGS.out _ hyn
              obtain ⟨hsm1, hsm2⟩ := HSM.out j
              have hcl := HCL.out j hj
              have HMK := Lib.hid (fun wx => liMake_any (str s) a b wx (by rw [str_size]; omega) (by rw [str_size]; exact hai) (by rw [str_size]; exact hbi) hneab)
              have HIHY := Lib.hid (fun wx kx h => HIH.out _ hmu1 B L (!tm) (putL (str s) a b) wx kx rfl hmu3 hmu2 h)
              have HMUY := Lib.hid hmu1
              have HS := Lib.hid hS0
              have HN := Lib.hid hN0
              clear e1 e2 hy hyn hS0 hN0 hmu1 hmu2 hmu3
              have j1 : (0 : Int) ≤ (j : Int) := by omega
              have j2 : (j : Int) < (M.length : Int) := by omega
              go_wp2_with fail
              refine (HMK.out _).mono ?_
              rintro e w3 ⟨rfl, hb3⟩
              have HB3 := Lib.hid (((Below.refl wr.heap.size wr).alloc (Nat.le_refl _) (mvB a b)).trans (hb3.mono (by simp)))
              clear hb3 p1 q1
              obtain ⟨⟨kq, hkq, hkqs⟩, hkpq⟩ := HTQ.out
              have HKN : Hid (KnG w3 B L kq ∧ KpX B wr w3) := by
                obtain ⟨gq, u0, u1, u2, u3, hMq⟩ := hkq
                exact Lib.hid ⟨⟨gq, u0, u1, u2, u3, hMq.below HB3.out⟩, KpX.below hMq.mem.lt HB3.out⟩
              have HKQS := Lib.hid hkqs
              have HKPQ := Lib.hid hkpq
              clear hkq hkqs hkpq
              go_wp2_with fail
              refine (HIHY.out _ kq HKN.out.1).mono ?_
              rintro e w5 ⟨ky, jy, hjy, rfl, hkey, hkn5, hnew5, hkp5⟩
              have HT5 : Hid (GmSo B L N ks W w5) := Lib.hid ⟨⟨ky, hkn5, fun z hz => by
                rcases hnew5 z hz with h | h
                · exact HKQS.out z h
                · have := HMUY.out; exact .inr (by omega)⟩, HKPQ.out.trans (HKN.out.2.trans hkp5)⟩
              have HK5' := Lib.hid (HKQ.out.trans (HKN.out.2.trans hkp5))
              obtain ⟨g5, u0, u1, u2, u3, hM5⟩ := hkn5
              obtain ⟨x1, y1, x2, y2, x3, y3, rfl, rfl, rfl, d1, d2, d3⟩ := hM5.at hjy hkey
              obtain ⟨_, c51, c52, c53⟩ := hM5.cells
              clear hnew5 hkp5 hM5 hkey
              generalize Gm (!tm) (putL (str s) a b) = c at HS HN hgs1 hgs2 d1 d2 d3
              obtain ⟨ca, cb, cc⟩ := c
              simp only at d1 d2 d3 hgs1 hgs2
              have HMOST : Hid (∀ wx, Calls Try.prog 104 #[.int .i64 (lgK (csK tm s j) : Int), .int .i64 ((ca : Int) + 1)] wx fun e w' => e = .returned (.int .i64 ((max (lgK (csK tm s j)) (ca + 1) : Nat) : Int)) ∧ wx = w') := Lib.hid fun wx => l1Most_any (lgK (csK tm s j)) (ca + 1) wx
              have HL : Hid (lgK (csK tm s (j + 1)) = max (lgK (csK tm s j)) (ca + 1)) := Lib.hid (by rw [HS.out, lgK_snoc])
              have k1 : (0 : Int) ≤ (jy : Int) := by omega
              have k2 : (jy : Int) < (ky.length : Int) := by omega
              by_cases hj0 : j = 0
              · have hd : ((j : Int) == 0) = true := by simp [hj0]
                have HSH : Hid (shK (csK tm s (j + 1)) = cb + 1) := Lib.hid (by rw [HS.out, hj0, csK_zero]; rfl)
                clear hj0
                go_wp2_with fail
                refine (HMOST.out _).mono ?_
                rintro e w6 ⟨rfl, rfl⟩
                go_wp2
                go_roundw
                case rel => exact ⟨j + 1, by omega, by go_num, by rw [HL.out], by rw [HSH.out]; go_num, by rw [HN.out], HT5, HK5'⟩
                case measure => simp [intOf]; omega
              · have hd : ((j : Int) == 0) = false := by simp [hj0]
                have hne : csK tm s j ≠ [] := fun e => by rw [e] at hcl; exact hj0 hcl.symm
                by_cases hless : ((cb : Int) + 1 < (shK (csK tm s j) : Int))
                · have HSH : Hid (shK (csK tm s (j + 1)) = cb + 1) := Lib.hid (by rw [HS.out, shK_snoc hne]; show min _ (cb + 1) = _; omega)
                  clear hj0 hne
                  go_wp2_with fail
                  refine (HMOST.out _).mono ?_
                  rintro e w6 ⟨rfl, rfl⟩
                  go_wp2
                  go_roundw
                  case rel => exact ⟨j + 1, by omega, by go_num, by rw [HL.out], by rw [HSH.out]; go_num, by rw [HN.out], HT5, HK5'⟩
                  case measure => simp [intOf]; omega
                · have HSH : Hid (shK (csK tm s (j + 1)) = shK (csK tm s j)) := Lib.hid (by rw [HS.out, shK_snoc hne]; show min _ (cb + 1) = _; omega)
                  clear hj0 hne
                  go_wp2_with fail
                  refine (HMOST.out _).mono ?_
                  rintro e w6 ⟨rfl, rfl⟩
                  go_wp2
                  go_roundw
                  case rel => exact ⟨j + 1, by omega, by go_num, by rw [HL.out], by rw [HSH.out], by rw [HN.out], HT5, HK5'⟩
                  case measure => simp [intOf]; omega
          · obtain rfl : j = M.length := by omega
            have HE := Lib.hid (HEND.out)
            obtain ⟨⟨ks5, ⟨gs5, v50, v51, v52, v53, hM5⟩, hk5⟩, hkp5⟩ := HTQ.out
            have HM5 := Lib.hid hM5
            have HK5 := Lib.hid hk5
            have HKP5 := Lib.hid hkp5
            obtain ⟨c50, c51, c52, c53⟩ := hM5.cells
            have hlt5 := hM5.mem.lt
            have hfew5 := hM5.few hL12
            clear hM5 hk5 hkp5
            generalize hla : lgK (csK tm s M.length) = la at HE
            generalize hsa : shK (csK tm s M.length) = sa at HE
            generalize hma : mnF tm s M.length = ma at HE
            clear hla hsa hma
            go_wp2_with (first
              | (at_builtin; refine wpList_append_own_at _ rfl _ _ 38 rfl (B + 1) 9 iS (.string ByteArray.empty) 1 16 Try.underlying38 HI.out HZ0.out HZ1.out HZ2.out rfl (by decide) v50 ks5.length _ rfl (HM5.out.row0.alloc _) ⟨wr.heap.size, 0, none⟩ 1 1 [.string (str (keyG tm s))] rfl rfl (cell_one_new _ _ _) (fun u hu => by simp at hu; subst hu; rfl) (by unfold maxLen; omega) (by omega) (by simp; omega) ?_; intro u0 a0 ho0 hg0 _ hat0; obtain ⟨g0, q0, rfl, _, _, _, _, _⟩ := own_open ho0 (by omega); have hG := HM5.out.mem.grow 0 (by decide) hg0 ho0 hat0; rw [upd4_0, upd4_0, upd4_0] at hG; obtain ⟨b30, hB0, _⟩ := hG; have HB0 := Lib.hid hB0
                 obtain ⟨d00, _, _, _, _⟩ := four_cell b30; have f00 : a0.frozen? ⟨B, 0, none⟩ = false := by simp [World.frozen?, b30]
                 have e00 := hB0.cell 0 (by decide); have e01 := hB0.cell 1 (by decide); have e01' : a0.cell? ⟨B, 1, none⟩ = some v51 := (four_cell b30).2.1; have hl0 : B < a0.heap.size := (Array.getElem?_eq_some_iff.1 b30).1
                 have HO0 := Lib.hid ho0; have HG0 := Lib.hid hg0; have HAT0 := Lib.hid hat0; clear hB0 b30 ho0 hg0 hat0)
              | (at_builtin; refine wpList_append_own_at _ rfl _ _ 53 rfl (B + 1) 3 iI (.int .i64 0) 1 8 Try.underlying53 JI.out JZ0.out JZ1.out JZ2.out rfl (by decide) v51 ks5.length (intsL gs5) rfl ((show (a0.setCell ⟨B, 0, none⟩ _).ownsRow (B + 1) 3 1 v51 ks5.length (intsL gs5) from HB0.out.row 1 (by decide)).alloc _) ⟨a0.heap.size, 0, none⟩ 1 1 [.int .i64 (la : Int)] rfl rfl (by have h := cell_one_new (a0.setCell ⟨B, 0, none⟩ (.slice (some ⟨g0, 0, none⟩) (ks5.length + 1) q0)) (.int .i64 (la : Int)) 3; simpa using h) (fun u hu => by simp at hu; subst hu; rfl) (by unfold maxLen; omega) (by omega) (by simp; omega) ?_; intro u1 a1 ho1 hg1 _ hat1; obtain ⟨g1, q1, rfl, _, _, _, _, _⟩ := own_open ho1 (by omega); have hG := HB0.out.grow 1 (by decide) hg1 ho1 hat1; rw [upd4_1, upd4_1, upd4_1] at hG; obtain ⟨b31, hB1, _⟩ := hG; have HB1 := Lib.hid hB1
                 have d11 : a1.cell? ⟨B, 1, none⟩ = some v51 := (four_cell b31).2.1; have f11 : a1.frozen? ⟨B, 1, none⟩ = false := by simp [World.frozen?, b31]
                 have e12 : a1.cell? ⟨B, 2, none⟩ = some v52 := (four_cell b31).2.2.1; have hl1 : B < a1.heap.size := (Array.getElem?_eq_some_iff.1 b31).1
                 have HO1 := Lib.hid ho1; have HG1 := Lib.hid hg1; have HAT1 := Lib.hid hat1; clear hB1 b31 ho1 hg1 hat1)
              | (at_builtin; refine wpList_append_own_at _ rfl _ _ 53 rfl (B + 1) 3 iI (.int .i64 0) 1 8 Try.underlying53 JI.out JZ0.out JZ1.out JZ2.out rfl (by decide) v52 ks5.length (intsS gs5) rfl ((show (a1.setCell ⟨B, 1, none⟩ _).ownsRow (B + 1) 3 1 v52 ks5.length (intsS gs5) from HB1.out.row 2 (by decide)).alloc _) ⟨a1.heap.size, 0, none⟩ 1 1 [.int .i64 (sa : Int)] rfl rfl (by have h := cell_one_new (a1.setCell ⟨B, 1, none⟩ (.slice (some ⟨g1, 0, none⟩) (ks5.length + 1) q1)) (.int .i64 (sa : Int)) 3; simpa using h) (fun u hu => by simp at hu; subst hu; rfl) (by unfold maxLen; omega) (by omega) (by simp; omega) ?_; intro u2 a2 ho2 hg2 _ hat2; obtain ⟨g2, q2, rfl, _, _, _, _, _⟩ := own_open ho2 (by omega); have hG := HB1.out.grow 2 (by decide) hg2 ho2 hat2; rw [upd4_2, upd4_2, upd4_2] at hG; obtain ⟨b32, hB2, _⟩ := hG; have HB2 := Lib.hid hB2
                 have d22 : a2.cell? ⟨B, 2, none⟩ = some v52 := (four_cell b32).2.2.1; have f22 : a2.frozen? ⟨B, 2, none⟩ = false := by simp [World.frozen?, b32]
                 have e23 : a2.cell? ⟨B, 3, none⟩ = some v53 := (four_cell b32).2.2.2.1; have hl2 : B < a2.heap.size := (Array.getElem?_eq_some_iff.1 b32).1
                 have HO2 := Lib.hid ho2; have HG2 := Lib.hid hg2; have HAT2 := Lib.hid hat2; clear hB2 b32 ho2 hg2 hat2)
              | (at_builtin; refine wpList_append_own_at _ rfl _ _ 53 rfl (B + 1) 3 iI (.int .i64 0) 1 8 Try.underlying53 JI.out JZ0.out JZ1.out JZ2.out rfl (by decide) v53 ks5.length (intsM gs5) rfl ((show (a2.setCell ⟨B, 2, none⟩ _).ownsRow (B + 1) 3 1 v53 ks5.length (intsM gs5) from HB2.out.row 3 (by decide)).alloc _) ⟨a2.heap.size, 0, none⟩ 1 1 [.int .i64 ma] rfl rfl (by have h := cell_one_new (a2.setCell ⟨B, 2, none⟩ (.slice (some ⟨g2, 0, none⟩) (ks5.length + 1) q2)) (.int .i64 ma) 3; simpa using h) (fun u hu => by simp at hu; subst hu; rfl) (by unfold maxLen; omega) (by omega) (by simp; omega) ?_; intro u3 a3 ho3 hg3 _ hat3; obtain ⟨g3, q3, rfl, _, _, _, _, _⟩ := own_open ho3 (by omega); have hG := HB2.out.grow 3 (by decide) hg3 ho3 hat3; obtain ⟨b33, _, _⟩ := hG
                 have d33 : a3.cell? ⟨B, 3, none⟩ = some v53 := (four_cell b33).2.2.2.1; have f33 : a3.frozen? ⟨B, 3, none⟩ = false := by simp [World.frozen?, b33]
                 have e30 : a3.cell? ⟨B, 0, none⟩ = some (.slice (some ⟨g0, 0, none⟩) (ks5.length + 1) q0) := (four_cell b33).1
                 have HO3 := Lib.hid ho3; have HG3 := Lib.hid hg3; have HAT3 := Lib.hid hat3; clear b33 ho3 hg3 hat3))
            go_ret
            have hfin := of_fin (tm := tm) (s := s) HKP5.out HM5.out HK5.out HMU.out HNO.out HSIG.out HG0.out HO0.out HAT0.out HG1.out (by rw [HE.out]; exact HO1.out) HAT1.out HG2.out (by rw [HE.out]; exact HO2.out) HAT2.out HG3.out (by rw [HE.out]; exact HO3.out) HAT3.out
            refine cast ?_ hfin
            congr 1
end Go.Proofs.Ytecmeppkggifeaa
