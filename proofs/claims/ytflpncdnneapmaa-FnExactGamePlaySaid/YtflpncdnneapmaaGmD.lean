/- Contract: the model tells whether the player who moves wins a sum. -/
import Derived.Test.YtflpncdnneapmaaGmC
namespace Go.Proofs.Ytflpncdnneapmaa
open Go.RowKit

theorem Try.infoBo : (Try.prog.info? 4).map (fun i => (i.zero, i.size, i.bytes)) = some (some (.bool false), 1, 1) := by kernel_rfl
/-- A sum of good lines. -/
structure SumG (L : Nat) (ls : List (List UInt8)) : Prop where
  ne : ls ≠ []
  few : ls.length ≤ 3
  good : ∀ x ∈ ls, goodL (str x) = true
  len : (joinG ls).length = L
  le : L ≤ 12
theorem joinG_set : ∀ (ls : List (List UInt8)) (k : Nat) (h : k < ls.length) (x : List UInt8), x.length = ls[k].length → (joinG (ls.set k x)).length = (joinG ls).length
  | [], _, h, _, _ => by simp at h
  | [w], 0, _, x, e => by simpa [joinG] using e
  | [w], _ + 1, h, _, _ => by simp at h
  | w :: v :: r, 0, _, x, e => by
    simp only [List.set_cons_zero, joinG, List.length_append]
    have : x.length = w.length := e
    omega
  | w :: v :: r, k + 1, h, x, e => by
    have ih := joinG_set (v :: r) k (by simpa using h) x e
    rw [List.set_cons_succ, joinG_cons w (by cases k <;> simp), joinG_cons w (by simp)]
    simp only [List.length_append, List.length_cons]
    omega
theorem joinG_sig : ∀ (ls : List (List UInt8)), (∀ x ∈ ls, goodL (str x) = true) → ∀ c ∈ joinG ls, c ∈ sgsG
  | [], _, c, hc => by simp [joinG] at hc
  | [w], h, c, hc => by
    have := ((goodL_iff _).1 (h w (by simp))).2.2
    rw [byt_str, List.all_eq_true] at this
    have := this c hc
    simp [isSign] at this
    rcases this with (h | h) | h <;> subst h <;> decide
  | w :: v :: r, h, c, hc => by
    rw [joinG_cons w (by simp), List.mem_append, List.mem_cons] at hc
    rcases hc with hc | hc | hc
    · have := ((goodL_iff _).1 (h w (by simp))).2.2
      rw [byt_str, List.all_eq_true] at this
      have := this c hc
      simp [isSign] at this
      rcases this with (h | h) | h <;> subst h <;> decide
    · subst hc; decide
    · exact joinG_sig (v :: r) (fun x hx => h x (by simp [show x ∈ v :: r from hx])) c hc
theorem SumG.set {L : Nat} {ls : List (List UInt8)} (h : SumG L ls) {k : Nat} (hk : k < ls.length) {tm : Bool} {x : List UInt8} (hx : x ∈ nxG tm ls[k]) : SumG L (ls.set k x) := by
  have hg := h.good _ (List.getElem_mem hk)
  obtain ⟨_, e⟩ := mu_less (by have := ((goodL_iff _).1 hg).2.1; rw [str_size] at this; omega) hx
  refine ⟨fun e2 => ?_, by simpa using h.few, fun y hy => ?_, by rw [joinG_set ls k hk x e]; exact h.len, h.le⟩
  · have := congrArg List.length e2
    simp at this
    exact h.ne this
  · rcases List.mem_or_eq_of_mem_set hy with hy | rfl
    · exact h.good y hy
    · exact nxG_good hg hx
theorem SumG.key {L : Nat} {ls : List (List UInt8)} (h : SumG L ls) (tm : Bool) : (keyG tm (joinG ls)).length = L + 2 ∧ ∀ c ∈ keyG tm (joinG ls), c ∈ sgsG := by
  refine ⟨by simp [keyG, h.len], fun c hc => ?_⟩
  unfold keyG at hc
  rw [List.mem_cons, List.mem_cons] at hc
  rcases hc with hc | hc | hc
  · subst hc; cases tm <;> decide
  · subst hc; decide
  · exact joinG_sig ls h.good c hc
theorem SumG.len12 {L : Nat} {ls : List (List UInt8)} (h : SumG L ls) : ∀ x ∈ ls, x.length ≤ 12 := fun x hx => by
  have := ((goodL_iff _).1 (h.good x hx)).2.1
  rwa [str_size] at this
/-- How much is left of a text that sums are kept under. -/
def muK (x : List UInt8) : Nat := muG 0 (x.drop 2)
theorem muK_key (tm : Bool) (s : List UInt8) : muK (keyG tm s) = muG 0 s := rfl
/-- What a call of win leaves. -/
def WinP (B L N : Nat) (ks : List (List UInt8)) (W : World) (r : Bool) (e : Ending) (W' : World) : Prop :=
  e = .returned (.bool r) ∧ ∃ ks', KnW W' B L ks' ∧ (∀ x ∈ ks', x ∈ ks ∨ muK x ≤ N) ∧ KpX B W W'

/-- What is known while the moves are tried. -/
structure SoFar (B L N : Nat) (ks : List (List UInt8)) (W wr : World) : Prop where
  kn : ∃ ks', KnW wr B L ks' ∧ ∀ x ∈ ks', x ∈ ks ∨ muK x < N
  kp : KpX B W wr

set_option maxRecDepth 100000 in
set_option maxHeartbeats 4000000 in
theorem win_known (B L : Nat) (tm : Bool) (ls : List (List UInt8)) (A : Option Addr) (cap : Nat) (W : World) (ks : List (List UInt8)) (hs : SumG L ls) (hA : StO W A ls) (hk : KnW W B L ks) (hin : keyG tm (joinG ls) ∈ ks) :
    Calls Try.prog 70 #[.pointer (some ⟨B, 0, none⟩), .slice A ls.length cap, .bool tm] W fun e W' => e = .returned (.bool (Wn tm (joinG ls))) ∧ W' = W := by
  obtain ⟨bs, vs, vw, hM⟩ := hk
  obtain ⟨i0, hi0, hix⟩ := List.getElem_of_mem hin
  have hfew := hM.few hs.le
  obtain ⟨c0, c1, _⟩ := box_cell hM.box
  obtain ⟨g1, p1, rfl, _, hg1, _, _, hr1⟩ := own_open hM.row1 (by omega)
  obtain ⟨g2, p2, rfl, _, hg2, _, _, hr2⟩ := own_open hM.row2 (by omega)
  have HK1 : Hid (∀ j (h : j < ks.length), W.cell? ⟨g1, j, none⟩ = some (.string (str ks[j]))) := Lib.hid fun j h => by
    have := hr1 j (by rw [txs_len]; exact h)
    simpa [txs] using this
  have HK2 : Hid (∀ j (h : j < ks.length), ∃ tm' s', ks[j] = keyG tm' s' ∧ W.cell? ⟨g2, j, none⟩ = some (.bool (Wn tm' s'))) := Lib.hid fun j h => by
    obtain ⟨tm', s', e1, e2⟩ := hM.val j h
    have := hr2 j (by simp [hM.len]; exact h)
    refine ⟨tm', s', e1, ?_⟩
    rw [this]
    simp [e2]
  have HIN := Lib.hid hix
  have HKEY := Lib.hid (gaKey_any tm ls A cap W hA hs.ne hs.few hs.len12)
  clear hr1 hr2 hM hix hA hs hin
  generalize hq : keyG tm (joinG ls) = key at HKEY HIN
  have HQ := Lib.hid hq
  clear hq
  go_enter Try.func70, Try.ntmps70
  go_wp2_with fail
  refine HKEY.out.mono ?_
  rintro e w1 ⟨rfl, rfl⟩
  go_wp2
  go_loop [23] (fun i => ∃ k : Nat, k ≤ ks.length ∧ i = .int .i64 k ∧ k ≤ i0) (fun i => ks.length - (intOf i).toNat)
  case atStart => exact ⟨0, Nat.zero_le _, rfl, Nat.zero_le _⟩
  case round =>
    obtain ⟨k, hk, rfl, hk0⟩ := hrel
    have hlt : k < ks.length := by omega
    have d1 := HK1.out k hlt
    obtain ⟨tm', s', e1, d2⟩ := HK2.out k hlt
    have E1 := Lib.hid e1
    have HS := Lib.hid (same_str ks[k] key)
    have i1 : (0 : Int) ≤ (k : Int) := by omega
    have i2 : (k : Int) < (ks.length : Int) := by omega
    clear e1
    by_cases he : ks[k] = key
    · have hb : ((str ks[k]).toList == (str key).toList) = true := by rw [HS.out]; simp [he]
      have HE := Lib.hid he
      clear he
      go_wp2
      go_ret
      refine ⟨?_, rfl⟩
      have := keyG_inj (E1.out.symm.trans (HE.out.trans HQ.out.symm))
      rw [this.1, this.2]
      rfl
    · have hb : ((str ks[k]).toList == (str key).toList) = false := by rw [HS.out]; simp [he]
      have HE := Lib.hid he
      have hne : k ≠ i0 := fun e => by subst e; exact HE.out HIN.out
      clear he
      go_wp2
      go_round
      case rel => exact ⟨k + 1, by omega, by go_num, by omega⟩
      case measure => simp [intOf]; omega

/-- The two fields grown: what is known then. -/
theorem win_done {B L N : Nat} {tm : Bool} {s : List UInt8} {ks ks' : List (List UInt8)} {bs : List Bool} {W wr wz : World} {vs vw v1 v2 : Value} (hM : KnM wr B L ks' bs vs vw)
    (hk : ∀ x ∈ ks', x ∈ ks ∨ muK x < N) (hmu : muG 0 s = N) (hno : keyG tm s ∉ ks) (hsig : (keyG tm s).length = L + 2 ∧ ∀ c ∈ keyG tm s, c ∈ sgsG) (hkp : KpX B W wz)
    (hb : wz.heap[B]? = some (.cells #[v1, v2] 64 (0, 0))) (h1 : wz.ownsRow (B + 1) 9 1 v1 (ks'.length + 1) (txs ks' ++ [.string (str (keyG tm s))]))
    (h2 : wz.ownsRow (B + 1) 4 1 v2 (ks'.length + 1) (bs.map .bool ++ [.bool (Wn tm s)])) : WinP B L N ks W (Wn tm s) (.returned (.bool (Wn tm s))) wz := by
  refine ⟨rfl, ks' ++ [keyG tm s], ⟨bs ++ [Wn tm s], v1, v2, hb, ?_, ?_, by simp [hM.len], fun i h => ?_, ?_, fun x hx => ?_⟩, fun x hx => ?_, hkp⟩
  · rw [List.length_append, txs_app]; exact h1
  · rw [List.length_append, List.map_append]; exact h2
  · by_cases hi : i < ks'.length
    · obtain ⟨tm', s', e1, e2⟩ := hM.val i hi
      refine ⟨tm', s', by rw [List.getElem_append_left hi]; exact e1, by rw [List.getElem_append_left (by have := hM.len; omega)]; exact e2⟩
    · have hl := hM.len
      obtain rfl : i = ks'.length := by simp at h; omega
      refine ⟨tm, s, by simp, ?_⟩
      rw [List.getElem_append_right (by omega)]
      simp
  · refine List.nodup_append.2 ⟨hM.nodup, by simp, fun x hx y hy e => ?_⟩
    simp at hy
    subst hy
    subst e
    rcases hk _ hx with h | h
    · exact hno h
    · rw [muK_key] at h; omega
  · rw [List.mem_append] at hx
    rcases hx with hx | hx
    · exact hM.sig x hx
    · simp at hx; subst hx; exact hsig
  · rw [List.mem_append] at hx
    rcases hx with hx | hx
    · rcases hk x hx with h | h
      · exact .inl h
      · exact .inr (by omega)
    · simp at hx; subst hx; exact .inr (by rw [muK_key]; omega)

theorem win_fin {B L N : Nat} {tm : Bool} {s : List UInt8} {ks ks' : List (List UInt8)} {bs : List Bool} {W w wa wb : World} {vs vw v1 v2 : Value} {o1 o2 : Obj} (hT : KpX B W w) (hM : KnM w B L ks' bs vs vw)
    (hk : ∀ x ∈ ks', x ∈ ks ∨ muK x < N) (hmu : muG 0 s = N) (hno : keyG tm s ∉ ks) (hsig : (keyG tm s).length = L + 2 ∧ ∀ c ∈ keyG tm s, c ∈ sgsG)
    (hg1 : (w.alloc o1).grownBy wa vs.ownBlock) (ho1 : wa.ownsRow (B + 1) 9 1 v1 (ks'.length + 1) (txs ks' ++ [.string (str (keyG tm s))])) (hat1 : v1.ownBlock = vs.ownBlock ∨ v1.ownBlock = some (w.alloc o1).heap.size)
    (hg2 : ((wa.setCell ⟨B, 0, none⟩ v1).alloc o2).grownBy wb vw.ownBlock) (ho2 : wb.ownsRow (B + 1) 4 1 v2 (ks'.length + 1) (bs.map .bool ++ [.bool (Wn tm s)])) (hat2 : v2.ownBlock = vw.ownBlock ∨ v2.ownBlock = some ((wa.setCell ⟨B, 0, none⟩ v1).alloc o2).heap.size) :
    WinP B L N ks W (Wn tm s) (.returned (.bool (Wn tm s))) (wb.setCell ⟨B, 1, none⟩ v2) := by
  obtain ⟨a1, a2, a3, a4⟩ := memo_one hM.box hM.row1 hM.row2 hg1 ho1
  obtain ⟨b1, b2, b3, b4⟩ := memo_two a2 a3 a4 hg2 ho2
  have k1 : KpX B w (wa.setCell ⟨B, 0, none⟩ v1) := kp_step (box_cell hM.box).1 hg1 hat1 (box_hex0 hM.box a2)
  have k2 : KpX B (wa.setCell ⟨B, 0, none⟩ v1) (wb.setCell ⟨B, 1, none⟩ v2) := kp_step (box_cell a2).2.1 hg2 hat2 (box_hex1 a2 b2)
  exact win_done hM hk hmu hno hsig (hT.trans (k1.trans k2)) b2 b3 b4

set_option maxRecDepth 100000 in
set_option maxHeartbeats 8000000 in
theorem win_any : ∀ (N B L : Nat) (tm : Bool) (ls : List (List UInt8)) (A : Option Addr) (cap : Nat) (W : World) (ks : List (List UInt8)), muG 0 (joinG ls) = N → SumG L ls → StO W A ls → (∀ a, A = some a → ¬ Ex B W a.block) → KnW W B L ks →
    Calls Try.prog 70 #[.pointer (some ⟨B, 0, none⟩), .slice A ls.length cap, .bool tm] W (WinP B L N ks W (Wn tm (joinG ls))) := by
  intro N
  induction N using Nat.strongRecOn with
  | ind N IH =>
  intro B L tm ls A cap W ks hmu hs hA hAx hk
  by_cases hin : keyG tm (joinG ls) ∈ ks
  · refine (win_known B L tm ls A cap W ks hs hA hk hin).mono ?_
    rintro e w' ⟨rfl, rfl⟩
    exact ⟨rfl, ks, hk, fun x hx => .inl hx, KpX.refl _ _⟩
  obtain ⟨iS, hi, hz0, hz1, hz2⟩ := info_parts Try.infoS
  have HI := Lib.hid hi
  have HZ0 := Lib.hid hz0
  have HZ1 := Lib.hid hz1
  have HZ2 := Lib.hid hz2
  clear hi hz0 hz1 hz2
  obtain ⟨iB, hi, hz0, hz1, hz2⟩ := info_parts Try.infoBo
  have BI := Lib.hid hi
  have BZ0 := Lib.hid hz0
  have BZ1 := Lib.hid hz1
  have BZ2 := Lib.hid hz2
  clear hi hz0 hz1 hz2
  have hbox : ∃ bs vs vw, KnM W B L ks bs vs vw := hk
  obtain ⟨bs, vs, vw, hM⟩ := hbox
  have hfew := hM.few hs.le
  obtain ⟨c0, c1, _⟩ := box_cell hM.box
  obtain ⟨A1, p1, hvs, _, _, hA1, _, _⟩ := st_own hM.row1
  have HK1 := Lib.hid hA1
  have HBL := Lib.hid hM.lt
  have hgA : ∃ gA oA, A = some ⟨gA, oA, none⟩ := by
    obtain ⟨gA, oA, hgA, _⟩ := hA 0 (List.length_pos_iff.2 hs.ne)
    exact ⟨gA, oA, hgA⟩
  obtain ⟨gA, oA, rfl⟩ := hgA
  have HKEY := Lib.hid (gaKey_any tm ls _ cap W hA hs.ne hs.few hs.len12)
  have HWIN : Hid (∀ x ∈ nxG tm (joinG ls), Wn (!tm) x = false → Wn tm (joinG ls) = true) := Lib.hid fun x hx h => Wn_true (by have := hs.len; have := hs.le; omega) hx h
  have HLOSE : Hid ((∀ x ∈ nxG tm (joinG ls), Wn (!tm) x = true) → Wn tm (joinG ls) = false) := Lib.hid fun h => Wn_false (by have := hs.len; have := hs.le; omega) h
  have HJOIN := Lib.hid (nxG_join tm ls)
  have HLESS : Hid (∀ x ∈ nxG tm (joinG ls), muG 0 x < N) := Lib.hid fun x hx => by rw [← hmu]; exact (mu_less (by have := hs.len; have := hs.le; omega) hx).1
  have hls3 := hs.few
  have HSIG := Lib.hid (hs.key tm)
  have HNO := Lib.hid hin
  have HMU := Lib.hid hmu
  have HIH := Lib.hid IH
  have HA := Lib.hid hA
  have HAX := Lib.hid hAx
  have HK := Lib.hid hk
  have HS := Lib.hid hs
  subst hvs
  clear IH hA hAx hk hs hin hmu hM hA1
  have H1 : ∀ u ∈ [Value.string (str (keyG tm (joinG ls)))], u.oneCell' = true := fun u hu => by simp at hu; subst hu; rfl
  go_enter Try.func70, Try.ntmps70
  go_wp2_with fail
  refine HKEY.out.mono ?_
  rintro e w1 ⟨rfl, rfl⟩
  go_wp2
  go_loop [23] (fun i => ∃ k : Nat, k ≤ ks.length ∧ i = .int .i64 k) (fun i => ks.length - (intOf i).toNat)
  case atStart => exact ⟨0, Nat.zero_le _, rfl⟩
  case round =>
    obtain ⟨k, hk, rfl⟩ := hrel
    by_cases hlt : k < ks.length
    · obtain ⟨g1, rfl, hg1, d1⟩ := HK1.out k hlt
      have hb : ((str ks[k]).toList == (str (keyG tm (joinG ls))).toList) = false := by
        rw [same_str, decide_eq_false_iff_not]
        intro e
        exact HNO.out (by rw [← e]; exact List.getElem_mem hlt)
      have i1 : (0 : Int) ≤ (k : Int) := by omega
      have i2 : (k : Int) < (ks.length : Int) := by omega
      go_wp2
      go_round
      case rel => exact ⟨k + 1, by omega, by go_num⟩
      case measure => simp [intOf]; omega
    · go_wp2
      go_loopw [10, 41] (fun z i wr => ∃ k : Nat, k ≤ ls.length ∧ i = .int .i64 k ∧ z = .bool false ∧ Hid (∀ j (h : j < ls.length), j < k → ∀ y ∈ nxG tm ls[j], Wn (!tm) (joinG (ls.set j y)) = true) ∧ Hid (SoFar B L N ks W wr)) (fun _ i _ => ls.length - (intOf i).toNat)
      case atStart => exact ⟨0, Nat.zero_le _, rfl, rfl, Lib.hid fun j _ h => by omega, Lib.hid ⟨⟨ks, HK.out, fun x hx => .inl hx⟩, KpX.refl _ _⟩⟩
      case round =>
        obtain ⟨k, hk, rfl, rfl, HW, HT⟩ := hrel
        by_cases hlt : k < ls.length
        · have HX : Hid (StO wr (some ⟨gA, oA, none⟩) ls ∧ ¬ Ex B wr gA ∧ gA < wr.heap.size) := by
            have h1 := HA.out.kp HT.out.kp HAX.out
            obtain ⟨g', o', e1, hlt', _⟩ := HA.out k hlt
            injection e1 with e1
            injection e1 with e1 e3
            subst e1
            subst e3
            exact Lib.hid ⟨h1, fun he => HAX.out _ rfl (HT.out.kp.ex _ hlt' he), Nat.lt_of_lt_of_le hlt' HT.out.kp.size⟩
          obtain ⟨g', o', e1, _, hcell⟩ := HX.out.1 k hlt
          injection e1 with e1
          injection e1 with e1 e3
          subst e1
          subst e3
          have hgood := HS.out.good _ (List.getElem_mem hlt)
          have hx12 := HS.out.len12 _ (List.getElem_mem hlt)
          have HMV := Lib.hid (fun wx => liMoves_kd tm ls[k] wx hgood)
          have HAT := Lib.hid (fun (j : Nat) (h : j < (gmM tm ls[k]).length) => gm_at (tm := tm) (s := ls[k]) j h)
          have hMl := gmM_le tm ls[k]
          have HNX : Hid (∀ y, y ∈ nxG tm ls[k] → ∃ j, ∃ h : j < (gmM tm ls[k]).length, y = behind (str ls[k]) (gmM tm ls[k])[j].1 (gmM tm ls[k])[j].2) := Lib.hid fun y hy => by
            obtain ⟨m, hm, rfl⟩ := List.mem_map.1 hy
            obtain ⟨j, hj, rfl⟩ := List.getElem_of_mem hm
            exact ⟨j, hj, rfl⟩
          have HSET : Hid (∀ y, y ∈ nxG tm ls[k] → SumG L (ls.set k y) ∧ joinG (ls.set k y) ∈ nxG tm (joinG ls)) := Lib.hid fun y hy => ⟨HS.out.set hlt hy, (HJOIN.out _).2 ⟨k, hlt, y, hy, rfl⟩⟩
          have HWK : Hid ((∀ y, y ∈ nxG tm ls[k] → Wn (!tm) (joinG (ls.set k y)) = true) → ∀ j (h : j < ls.length), j < k + 1 → ∀ y ∈ nxG tm ls[j], Wn (!tm) (joinG (ls.set j y)) = true) := Lib.hid fun h j hj hjk y hy => by
            by_cases e : j = k
            · subst e; exact h y hy
            · exact HW.out j hj (by omega) y hy
          generalize hxx : ls[k] = x at hcell hx12 HMV HAT hMl HNX HSET HWK
          clear hgood hxx HW
          generalize hMM : gmM tm x = M at HMV HAT hMl HNX
          clear hMM
          have i1 : (0 : Int) ≤ (k : Int) := by omega
          have i2 : (k : Int) < (ls.length : Int) := by omega
          go_wp2_with fail
          refine (HMV.out _).mono ?_
          rintro e w2 ⟨v2, rfl, ho2, hb2⟩
          obtain ⟨A2, cap2, rfl, AT2⟩ := at_of_own ho2
          have HA2 : Hid (∀ a, A2 = some a → wr.heap.size ≤ a.block ∧ a.block < w2.heap.size) := Lib.hid fun a e => by
            subst e
            exact ho2.lt _ rfl
          have hlt2 := HT.out.kp.size
          have HB2 := Lib.hid hb2
          have HT2 : Hid (SoFar B L N ks W w2) := by
            obtain ⟨⟨ks', hkn, hks⟩, hkp⟩ := HT.out
            obtain ⟨bs', vs', vw', hM'⟩ := hkn
            exact Lib.hid ⟨⟨ks', ⟨bs', vs', vw', hM'.below hb2⟩, hks⟩, hkp.trans (KpX.below hM'.lt hb2)⟩
          have HX2 : Hid (StO w2 (some ⟨gA, oA, none⟩) ls ∧ ¬ Ex B w2 gA ∧ gA < w2.heap.size ∧ ∀ a, A2 = some a → ¬ Ex B w2 a.block) := by
            obtain ⟨⟨ks', hkn, hks⟩, hkp⟩ := HT.out
            obtain ⟨bs', vs', vw', hM'⟩ := hkn
            refine Lib.hid ⟨HX.out.1.below hb2, fun he => HX.out.2.1 ((KpX.below hM'.lt hb2).ex _ HX.out.2.2 he), Nat.lt_of_lt_of_le HX.out.2.2 hb2.size, fun a e he => ?_⟩
            have := hM'.ex_old hb2 he
            have := (HA2.out a e).1
            omega
          have AT := Lib.hid AT2
          clear ho2 hb2 AT2 hcell
          go_wp2
          go_loopw [10, 52] (fun z t wq => ∃ j : Nat, j ≤ M.length ∧ t = .int .i64 j ∧ z = .bool false ∧ Hid (∀ i (h : i < M.length), i < j → Wn (!tm) (joinG (ls.set k (behind (str x) M[i].1 M[i].2))) = true) ∧ Hid (SoFar B L N ks W wq) ∧ Hid (KpX B w2 wq)) (fun _ t _ => M.length - (intOf t).toNat)
          case atStart => exact ⟨0, Nat.zero_le _, rfl, rfl, Lib.hid fun i _ h => by omega, HT2, Lib.hid (KpX.refl _ _)⟩
          case round =>
            obtain ⟨j, hj, rfl, rfl, HWJ, HTQ, HKQ⟩ := hrel
            by_cases hltj : j < M.length
            · obtain ⟨gm, rfl, zz, p1, q1⟩ := (AT.out.kp HKQ.out HX2.out.2.2.2) j hltj
              obtain ⟨a, b, e1, e2, hai, hbi, hneab, hyn, hy⟩ := HAT.out j hltj
              rw [e1] at p1
              rw [e2] at q1
              have HY := Lib.hid hy
              have hset := HSET.out _ hyn
              have HXQ : Hid (StO wr (some ⟨gA, oA, none⟩) ls ∧ ¬ Ex B wr gA ∧ gA < wr.heap.size) := Lib.hid ⟨HX2.out.1.kp HKQ.out (fun a e => by injection e with e; subst e; exact HX2.out.2.1), fun he => HX2.out.2.1 (HKQ.out.ex _ HX2.out.2.2.1 he), Nat.lt_of_lt_of_le HX2.out.2.2.1 HKQ.out.size⟩
              have HMK := Lib.hid (fun wx => liMake_any (str x) a b wx (by rw [str_size]; omega) (by rw [str_size]; exact hai) (by rw [str_size]; exact hbi) hneab)
              have HGW := Lib.hid (fun wx hh => gaWith_any ls k (putL (str x) a b) (some ⟨gA, oA, none⟩) cap wx hh hlt (by omega))
              have HIHY := Lib.hid (fun A c wx kx h1 h2 h3 => HIH.out _ (HLESS.out _ hset.2) B L (!tm) (ls.set k (putL (str x) a b)) A c wx kx rfl hset.1 h1 h2 h3)
              have HMUY := Lib.hid (HLESS.out _ hset.2)
              have HYN := Lib.hid hset.2
              have hlen : (ls.set k (putL (str x) a b)).length = ls.length := List.length_set
              clear e1 e2 hy hset hyn
              have j1 : (0 : Int) ≤ (j : Int) := by omega
              have j2 : (j : Int) < (M.length : Int) := by omega
              go_wp2_with fail
              refine (HMK.out _).mono ?_
              rintro e w3 ⟨rfl, hb3⟩
              have HB3 := Lib.hid (((Below.refl wr.heap.size wr).alloc (Nat.le_refl _) (mvB a b)).trans (hb3.mono (by simp)))
              clear hb3 p1 q1
              go_wp2_with fail
              refine (HGW.out _ (HXQ.out.1.below HB3.out)).mono ?_
              rintro e w4 ⟨g4, c4, rfl, hg4, hst4, hb4⟩
              have HB4 := Lib.hid (HB3.out.trans (hb4.mono HB3.out.size))
              have HST4 := Lib.hid hst4.toO
              have hz4 := HB3.out.size
              clear hb4 hst4
              obtain ⟨⟨kq, hkq, hkqs⟩, hkpq⟩ := HTQ.out
              have HKN : Hid (KnW w4 B L kq ∧ ¬ Ex B w4 g4 ∧ KpX B wr w4) := by
                obtain ⟨bq, vsq, vwr, hMq⟩ := hkq
                refine Lib.hid ⟨⟨bq, vsq, vwr, hMq.below HB4.out⟩, fun he => ?_, KpX.below hMq.lt HB4.out⟩
                have := hMq.ex_old HB4.out he
                omega
              have HKQS := Lib.hid hkqs
              have HKPQ := Lib.hid hkpq
              clear hkq hkqs hkpq
              go_wp2_with fail
              rw [← hlen]
              refine (HIHY.out _ _ _ kq HST4.out (fun a e => by injection e with e; subst e; exact HKN.out.2.1) HKN.out.1).mono ?_
              rintro e w5 ⟨rfl, ky, hky, hkys, hkp5⟩
              rw [hlen]
              have HT5 : Hid (SoFar B L N ks W w5) := Lib.hid ⟨⟨ky, hky, fun z hz => by
                rcases hkys z hz with h | h
                · exact HKQS.out z h
                · have := HMUY.out; exact .inr (by omega)⟩, HKPQ.out.trans (HKN.out.2.2.trans hkp5)⟩
              have HK5' := Lib.hid (HKQ.out.trans (HKN.out.2.2.trans hkp5))
              clear hky hkys hkp5
              cases hr : Wn (!tm) (joinG (ls.set k (putL (str x) a b)))
              · have HBV : Hid (Wn tm (joinG ls) = true) := Lib.hid (HWIN.out _ HYN.out hr)
                clear hr
                obtain ⟨⟨ks5, ⟨bs5, vs5, vw5, hM5⟩, hk5⟩, hkp5⟩ := HT5.out
                have HM5 := Lib.hid hM5
                have HK5 := Lib.hid hk5
                have HKP5 := Lib.hid hkp5
                obtain ⟨c50, c51, _⟩ := box_cell hM5.box
                have hlt5 := hM5.lt
                have hfew5 := hM5.few HS.out.le
                have HR1 := Lib.hid hM5.row1
                have HR2 := Lib.hid hM5.row2
                have HB5 := Lib.hid hM5.box
                clear hM5 hk5 hkp5
                go_wp2_with (first
                  | (at_builtin; refine wpList_append_own_at _ rfl _ _ 61 rfl (B + 1) 9 iS (.string ByteArray.empty) 1 16 Try.underlying61 HI.out HZ0.out HZ1.out HZ2.out rfl (by decide) vs5 ks5.length (txs ks5) rfl (HR1.out.alloc _) ⟨w5.heap.size, 0, none⟩ 1 1 [.string (str (keyG tm (joinG ls)))] rfl rfl (cell_one_new _ _ _) H1 (by unfold maxLen; omega) (by omega) (by simp; omega) ?_; intro v3 w3 ho3 hg3 _ hat3; obtain ⟨g3, q3, rfl, _, _, _, _, _⟩ := own_open ho3 (by omega); have hm3 := memo_one HB5.out HR1.out HR2.out hg3 ho3; obtain ⟨b31, b32, o31, o32⟩ := hm3; obtain ⟨d0, d1, _⟩ := box_cell b31; have f0 : w3.frozen? ⟨B, 0, none⟩ = false := by simp [World.frozen?, b31]
                     have hl3 : B < w3.heap.size := (Array.getElem?_eq_some_iff.1 b31).1; have O31 := Lib.hid o31; have O32 := Lib.hid o32; have B32 := Lib.hid b32; have HO3 := Lib.hid ho3; have HG3 := Lib.hid hg3; have HAT3 := Lib.hid hat3; clear o31 o32 b31 b32 ho3 hg3 hat3)
                  | (at_builtin; refine wpList_append_own_at _ rfl _ _ 62 rfl (B + 1) 4 iB (.bool false) 1 1 Try.underlying62 BI.out BZ0.out BZ1.out BZ2.out rfl (by decide) vw5 ks5.length (bs5.map .bool) rfl (O32.out.alloc _) ⟨w3.heap.size, 0, none⟩ 1 1 [.bool true] rfl rfl (by have h := cell_one_new (w3.setCell ⟨B, 0, none⟩ (.slice (some ⟨g3, 0, none⟩) (ks5.length + 1) q3)) (.bool true) 4; simpa using h) (fun u hu => by simp at hu; subst hu; rfl) (by unfold maxLen; omega) (by omega) (by simp; omega) ?_; intro v4 w4 ho4 hg4 _ hat4; obtain ⟨g4, q4, rfl, _, _, _, _, _⟩ := own_open ho4 (by omega); have hm4 := memo_two B32.out O31.out O32.out hg4 ho4; obtain ⟨b41, _, _, _⟩ := hm4; obtain ⟨e0, e1, _⟩ := box_cell b41; have f1 : w4.frozen? ⟨B, 1, none⟩ = false := by simp [World.frozen?, b41]
                     have HO4 := Lib.hid ho4; have HG4 := Lib.hid hg4; have HAT4 := Lib.hid hat4; clear b41 ho4 hg4 hat4))
                go_ret
                refine cast ?_ (win_fin (tm := tm) (s := joinG ls) HKP5.out HM5.out HK5.out HMU.out HNO.out HSIG.out HG3.out HO3.out HAT3.out HG4.out (by rw [HBV.out]; exact HO4.out) HAT4.out)
                rw [HBV.out]
                rfl
              · have HR := Lib.hid hr
                clear hr
                have HWJ2 : Hid (∀ i (h : i < M.length), i < j + 1 → Wn (!tm) (joinG (ls.set k (behind (str x) M[i].1 M[i].2))) = true) := Lib.hid fun i h hi => by
                  by_cases e : i = j
                  · subst e; rw [← HY.out]; exact HR.out
                  · exact HWJ.out i h (by omega)
                go_wp2
                go_roundw
                case rel => exact ⟨j + 1, by omega, by go_num, rfl, HWJ2, HT5, HK5'⟩
                case measure => simp [intOf]; omega
            · have HWJ2 := Lib.hid (HWK.out fun y hy => by
                obtain ⟨i, hi, rfl⟩ := HNX.out y hy
                exact HWJ.out i hi (by omega))
              go_wp2
              go_roundw
              case rel => exact ⟨k + 1, by omega, by go_num, rfl, HWJ2, HTQ⟩
              case measure => simp [intOf]; omega
        · have HBV : Hid (Wn tm (joinG ls) = false) := Lib.hid (HLOSE.out fun x hx => by
            obtain ⟨j, hj, y, hy, rfl⟩ := (HJOIN.out x).1 hx
            exact HW.out j hj (by omega) y hy)
          obtain ⟨⟨ks5, ⟨bs5, vs5, vw5, hM5⟩, hk5⟩, hkp5⟩ := HT.out
          have HM5 := Lib.hid hM5
          have HK5 := Lib.hid hk5
          have HKP5 := Lib.hid hkp5
          obtain ⟨c50, c51, _⟩ := box_cell hM5.box
          have hlt5 := hM5.lt
          have hfew5 := hM5.few HS.out.le
          have HR1 := Lib.hid hM5.row1
          have HR2 := Lib.hid hM5.row2
          have HB5 := Lib.hid hM5.box
          clear hM5 hk5 hkp5
          go_wp2_with (first
            | (at_builtin; refine wpList_append_own_at _ rfl _ _ 61 rfl (B + 1) 9 iS (.string ByteArray.empty) 1 16 Try.underlying61 HI.out HZ0.out HZ1.out HZ2.out rfl (by decide) vs5 ks5.length (txs ks5) rfl (HR1.out.alloc _) ⟨wr.heap.size, 0, none⟩ 1 1 [.string (str (keyG tm (joinG ls)))] rfl rfl (cell_one_new _ _ _) H1 (by unfold maxLen; omega) (by omega) (by simp; omega) ?_; intro v3 w3 ho3 hg3 _ hat3; obtain ⟨g3, q3, rfl, _, _, _, _, _⟩ := own_open ho3 (by omega); have hm3 := memo_one HB5.out HR1.out HR2.out hg3 ho3; obtain ⟨b31, b32, o31, o32⟩ := hm3; obtain ⟨d0, d1, _⟩ := box_cell b31; have f0 : w3.frozen? ⟨B, 0, none⟩ = false := by simp [World.frozen?, b31]
               have hl3 : B < w3.heap.size := (Array.getElem?_eq_some_iff.1 b31).1; have O31 := Lib.hid o31; have O32 := Lib.hid o32; have B32 := Lib.hid b32; have HO3 := Lib.hid ho3; have HG3 := Lib.hid hg3; have HAT3 := Lib.hid hat3; clear o31 o32 b31 b32 ho3 hg3 hat3)
            | (at_builtin; refine wpList_append_own_at _ rfl _ _ 62 rfl (B + 1) 4 iB (.bool false) 1 1 Try.underlying62 BI.out BZ0.out BZ1.out BZ2.out rfl (by decide) vw5 ks5.length (bs5.map .bool) rfl (O32.out.alloc _) ⟨w3.heap.size, 0, none⟩ 1 1 [.bool false] rfl rfl (by have h := cell_one_new (w3.setCell ⟨B, 0, none⟩ (.slice (some ⟨g3, 0, none⟩) (ks5.length + 1) q3)) (.bool false) 4; simpa using h) (fun u hu => by simp at hu; subst hu; rfl) (by unfold maxLen; omega) (by omega) (by simp; omega) ?_; intro v4 w4 ho4 hg4 _ hat4; obtain ⟨g4, q4, rfl, _, _, _, _, _⟩ := own_open ho4 (by omega); have hm4 := memo_two B32.out O31.out O32.out hg4 ho4; obtain ⟨b41, _, _, _⟩ := hm4; obtain ⟨e0, e1, _⟩ := box_cell b41; have f1 : w4.frozen? ⟨B, 1, none⟩ = false := by simp [World.frozen?, b41]
               have HO4 := Lib.hid ho4; have HG4 := Lib.hid hg4; have HAT4 := Lib.hid hat4; clear b41 ho4 hg4 hat4))
          go_ret
          refine cast ?_ (win_fin (tm := tm) (s := joinG ls) HKP5.out HM5.out HK5.out HMU.out HNO.out HSIG.out HG3.out HO3.out HAT3.out HG4.out (by rw [HBV.out]; exact HO4.out) HAT4.out)
          rw [HBV.out]
          rfl
end Go.Proofs.Ytflpncdnneapmaa
