/- Contracts: the model's live lines, by layers; whether a line is live; how many are. -/
import Derived.Test.YtjadnfnpbacfdaaDoorSwRb
import Derived.Test.YtjadnfnpbacfdaaDoorSwLq
namespace Go.Proofs.YtjadnfnpbacfdaaDoor
open Go.RowKit

theorem LyX.lower {W : World} {B b b' : Nat} {v : Value} {ly : Nat → List (List UInt8)} {d : Nat} (h : LyX W B b v ly d) (hb : b' ≤ b) : LyX W B b' v ly d := by
  obtain ⟨us, h1, h2, h3⟩ := h
  exact ⟨us, h1, own_lowerW h2 hb, fun j hj => (h3 j hj).lower hb⟩
/-- A row of layers, opened. -/
theorem LyX.open {W : World} {B b : Nat} {v : Value} {ly : Nat → List (List UInt8)} {d : Nat} (h : LyX W B b v ly d) :
    ∃ A c, v = .slice A d c ∧ ∀ j, j < d → ∃ g A' c', A = some ⟨g, 0, none⟩ ∧ W.cell? ⟨g, j, none⟩ = some (.slice A' (ly j).length c') ∧ StAt W A' (ly j) := by
  obtain ⟨us, h1, h2, h3⟩ := h
  have h2' := h2
  rcases h2.2 with ⟨hv, h0⟩ | ⟨g, cap, cur, rfl, _, hg, hle, hm, _⟩
  · have hd : d = 0 := by have := h2.1; omega
    exact ⟨none, 0, by rw [hv, hd], fun j hj => by omega⟩
  · refine ⟨_, cap, rfl, fun j hj => ?_⟩
    have hj2 : j < us.length := by omega
    obtain ⟨A', c', e, _, _, hst, _⟩ := st_own (h3 j hj2).1
    refine ⟨g, A', c', rfl, ?_, hst⟩
    have := h2'.cells (g := g) rfl j us[j] (by simp [hj2])
    rw [addr_add] at this
    rw [this, e]
/-- What the layers tell. -/
def LvAns (B n : Nat) (l : List UInt8) (W : World) (e : Ending) (w' : World) : Prop :=
  ∃ v d, e = .returned v ∧ d ≤ 60000 ∧ (swN l = 0 → d = 0) ∧ (0 < swN l → layW l d = []) ∧ LyX w' B W.heap.size v (layW l) d ∧ (∃ ks, EnW w' B n ks) ∧ KpX B W w'
set_option maxRecDepth 100000 in
set_option maxHeartbeats 4000000 in
theorem swLive_any (B : Nat) (t g f : Int) (w : World) (ks : List (List UInt8)) (hc : few t g f = true) (hk : EnW w B (t + g + f).toNat ks) :
    Calls Tryd.prog 63 #[.pointer (some ⟨B, 0, none⟩), .int .i64 t, .int .i64 g, .int .i64 f] w (LvAns B (t + g + f).toNat (firstL t.toNat g.toNat f.toNat) w) := by
  have hf := (few_iff t g f).1 hc
  have hg := first_goodT hc
  have HF := Lib.hid (fun wx => liFirst_any t g f wx (by omega) (by omega) (by omega))
  generalize (t + g + f).toNat = n at hg hk ⊢
  generalize firstL t.toNat g.toNat f.toNat = l at *
  have HFR := Lib.hid (fun W ks hk => from_any _ B n l W ks rfl hg hk)
  have HK := Lib.hid hk
  by_cases h0 : swN l = 0
  · rw [h0] at HFR
    have H0 := Lib.hid h0
    clear hc hf hg h0 hk
    go_enter Tryd.func63, Tryd.ntmps63
    go_wp2_with fail
    refine (HF.out _).mono ?_
    rintro e w1 ⟨rfl, rfl⟩
    go_wp2_with fail
    refine (HFR.out _ _ HK.out).mono ?_
    rintro e w2 ⟨rfl, ks2, hk2, _, hkp2⟩
    have HK2 := Lib.hid hk2
    have HP2 := Lib.hid hkp2
    clear hk2 hkp2
    go_wp2_with fail
    go_ret
    exact ⟨_, 0, rfl, by omega, fun _ => rfl, fun h => by have := H0.out; omega, LyX.nil, ⟨_, HK2.out⟩, HP2.out⟩
  · have hn0 : ((swN l : Int) == 0) = false := by simp; omega
    have h0 : 0 < swN l := by omega
    have H0 := Lib.hid h0
    have HRC := Lib.hid (fun W ks hk => swReach_any B n l W ks hg h0 hk)
    clear hc hf hg h0 hk
    generalize hsy : swN l = sy at HFR hn0
    clear hsy
    go_enter Tryd.func63, Tryd.ntmps63
    go_wp2_with fail
    refine (HF.out _).mono ?_
    rintro e w1 ⟨rfl, rfl⟩
    go_wp2_with fail
    refine (HFR.out _ _ HK.out).mono ?_
    rintro e w2 ⟨rfl, ks2, hk2, _, hkp2⟩
    have HK2 := Lib.hid hk2
    have HP2 := Lib.hid hkp2
    clear hk2 hkp2
    go_wp2_with fail
    refine (HRC.out _ _ HK2.out).mono ?_
    rintro e w3 ⟨v, d, rfl, hd, hnil, hly, hkn, hkp⟩
    have HX : Hid (∃ u, u = v ∧ LyX w3 B w.heap.size u (layW l) d) := Lib.hid ⟨v, rfl, hly.lower HP2.out.size⟩
    have HN := Lib.hid hnil
    have HKN := Lib.hid hkn
    have HKP := Lib.hid (HP2.out.trans hkp)
    clear hnil hly hkn hkp
    go_wp2_with fail
    go_ret
    obtain ⟨u, rfl, hu⟩ := HX.out
    exact ⟨u, d, rfl, hd, fun h => by have := H0.out; omega, fun _ => HN.out, hu, HKN.out, HKP.out⟩
theorem liveB_iff {l : List UInt8} (h : lineB (str l) = true) {d : Nat} (h0 : swN (fsL l) = 0 → d = 0) (h1 : 0 < swN (fsL l) → layW (fsL l) d = []) : liveB l = true ↔ ∃ j, j < d ∧ l ∈ layW (fsL l) j := by
  have hg := fs_good h
  unfold liveB
  rw [decide_eq_true_iff]
  unfold lvN
  by_cases hin : l ∈ swA (fsL l)
  · rw [if_pos hin]
    by_cases hz : swN (fsL l) = 0
    · rw [dead_all hg hz hin, h0 hz]
      simp
    · have hp : 0 < swN (fsL l) := by omega
      have := layW_iff (v := l) hg hp
      constructor
      · intro h2
        obtain ⟨k, hk⟩ := this.2 ⟨hin, h2⟩
        refine ⟨k, ?_, hk⟩
        by_cases hkd : k < d
        · exact hkd
        · rw [layW_nil (h1 hp) k (by omega)] at hk
          cases hk
      · rintro ⟨k, _, hk⟩
        exact (this.1 ⟨k, hk⟩).2
  · rw [if_neg hin]
    constructor
    · intro h2; omega
    · rintro ⟨k, hk, hk2⟩
      have hz : ¬ swN (fsL l) = 0 := fun e => by have := h0 e; omega
      exact absurd (layW_in hg k l hk2) hin
/-- What the model tells of a line, the box kept. -/
def IlAns (B n : Nat) (b : Bool) (W : World) (e : Ending) (w' : World) : Prop :=
  e = .returned (.bool b) ∧ (∃ ks, EnW w' B n ks) ∧ KpX B W w'
set_option maxRecDepth 100000 in
set_option maxHeartbeats 4000000 in
theorem swIsLive_any (B : Nat) (l : List UInt8) (w : World) (ks : List (List UInt8)) (h : lineB (str l) = true) (hk : EnW w B l.length ks) :
    Calls Tryd.prog 59 #[.pointer (some ⟨B, 0, none⟩), .string (str l)] w (IlAns B l.length (liveB l) w) := by
  obtain ⟨hgl, ht, h8, hf⟩ := line_parts h
  have hgf := fs_good h
  have h84 := Lib.hid (fun wx => liCount_any (str l) 84 wx (by rw [str_size]; unfold maxLen; omega))
  have h46 := Lib.hid (fun wx => liCount_any (str l) 46 wx (by rw [str_size]; unfold maxLen; omega))
  have h70 := Lib.hid (fun wx => liCount_any (str l) 70 wx (by rw [str_size]; unfold maxLen; omega))
  rw [byt_str] at h84 h46 h70
  have hsum : ((cnt 84 l : Int) + (cnt 46 l : Int) + (cnt 70 l : Int)).toNat = l.length := by
    have := cnt_sum l (by have := ((goodL_iff _).1 hgl).2.2; rwa [byt_str] at this)
    omega
  have HLV := Lib.hid (fun W ks hk => swLive_any B _ _ _ W ks hf hk)
  rw [fs_first, hsum] at HLV
  have HIF := Lib.hid (fun d => liveB_iff h (d := d))
  have HFW : Hid (0 < swN (fsL l) → ∀ k, (layW (fsL l) k).length ≤ 59049) := Lib.hid (fun h0 k => layW_few hgf h0 k)
  have HKK := Lib.hid hk
  have hl12 : l.length ≤ 12 := by omega
  clear hgl ht h8 hf hgf hsum h hk
  generalize cnt 84 l = ct at *
  generalize cnt 46 l = cg at *
  generalize cnt 70 l = cf at *
  generalize fsL l = fl at *
  generalize liveB l = bl at *
  go_enter Tryd.func59, Tryd.ntmps59
  go_wp2_with fail
  refine (h84.out _).mono ?_
  rintro e w1 ⟨rfl, rfl⟩
  go_wp2_with fail
  refine (h46.out _).mono ?_
  rintro e w1 ⟨rfl, rfl⟩
  go_wp2_with fail
  refine (h70.out _).mono ?_
  rintro e w1 ⟨rfl, rfl⟩
  go_wp2_with fail
  refine (HLV.out _ _ HKK.out).mono ?_
  rintro e w2 ⟨v, d, rfl, hd, hd0, hd1, hly, hkn, hkp⟩
  have HQ := Lib.hid (HIF.out d hd0 hd1)
  have HSM : Hid (∀ j, j < d → (layW fl j).length ≤ 2000000) := Lib.hid fun j hj => by
    have : 0 < swN fl := by
      by_cases e : swN fl = 0
      · have := hd0 e; omega
      · omega
    have := HFW.out this j
    omega
  obtain ⟨A, c, rfl, hop⟩ := hly.open
  have HOP := Lib.hid hop
  have HKN := Lib.hid hkn
  have HKP := Lib.hid hkp
  clear hd0 hd1 hly hkn hkp hop HIF HFW h84 h46 h70 HLV
  go_wp2_with fail
  go_loop [16] (fun i => ∃ k : Nat, k ≤ d ∧ i = .int .i64 k ∧ Hid (∀ q, q < k → l ∉ layW fl q)) (fun i => d - (intOf i).toNat)
  case atStart => exact ⟨0, Nat.zero_le _, rfl, Lib.hid fun q h => by omega⟩
  case round =>
    obtain ⟨k, hk, rfl, HN⟩ := hrel
    by_cases hlt : k < d
    · obtain ⟨g1, A', c', rfl, d1, hst⟩ := HOP.out k hlt
      have HHS := Lib.hid (hasS_any (layW fl k) l A' c' w2 hst (HSM.out k hlt))
      have i1 : (0 : Int) ≤ (k : Int) := by omega
      have i2 : (k : Int) < (d : Int) := by omega
      clear hst
      by_cases hin : l ∈ layW fl k
      · rw [decide_eq_true hin] at HHS
        have HB : Hid (bl = true) := Lib.hid (HQ.out.2 ⟨k, hlt, hin⟩)
        clear hin
        generalize (layW fl k).length = q at *
        go_wp2_with fail
        refine HHS.out.mono ?_
        rintro e w3 ⟨rfl, rfl⟩
        go_wp2_with fail
        go_ret
        exact ⟨by rw [HB.out]; rfl, HKN.out, HKP.out⟩
      · rw [decide_eq_false hin] at HHS
        have HN2 : Hid (∀ q, q < k + 1 → l ∉ layW fl q) := Lib.hid fun q hq => by
          by_cases e : q < k
          · exact HN.out q e
          · obtain rfl : q = k := by omega
            exact hin
        clear hin
        generalize (layW fl k).length = q at *
        go_wp2_with fail
        refine HHS.out.mono ?_
        rintro e w3 ⟨rfl, rfl⟩
        go_wp2_with fail
        go_round
        case rel => exact ⟨k + 1, by omega, by go_num, HN2⟩
        case measure => simp [intOf]; omega
    · have HB : Hid (bl = false) := Lib.hid (by
        cases hb : bl
        · rfl
        · obtain ⟨j, hj, hj2⟩ := HQ.out.1 hb
          exact absurd hj2 (HN.out j (by omega)))
      go_wp2_with fail
      go_ret
      exact ⟨by rw [HB.out]; rfl, HKN.out, HKP.out⟩
set_option maxHeartbeats 1000000 in
theorem swLine_any (s : ByteArray) (w : World) (hs : s.size ≤ maxLen) :
    Calls Tryd.prog 58 #[.string s] w fun e w' => e = .returned (.bool (lineB s)) ∧ w = w' := by
  have HG := Lib.hid (fun wx => liGood_any s wx hs)
  cases hc : goodL s
  · have hR : Hid (lineB s = false) := Lib.hid (by unfold lineB; rw [hc]; rfl)
    rw [hc] at HG
    rw [hR.out]
    clear hc hR
    go_enter Tryd.func58, Tryd.ntmps58
    go_wp2_with fail
    refine (HG.out _).mono ?_
    rintro e w1 ⟨rfl, rfl⟩
    go_wp2_with fail
    go_ret
    exact ⟨rfl, rfl⟩
  · have hR : Hid (lineB s = decide ((s.size : Int) ≤ 8)) := Lib.hid (by unfold lineB; rw [hc]; simp; omega)
    rw [hc] at HG
    rw [hR.out]
    clear hc hR
    go_enter Tryd.func58, Tryd.ntmps58
    go_wp2_with fail
    refine (HG.out _).mono ?_
    rintro e w1 ⟨rfl, rfl⟩
    go_wp2_with fail
    go_ret
    exact ⟨rfl, rfl⟩
set_option maxRecDepth 100000 in
set_option maxHeartbeats 4000000 in
theorem sIsLive_any (s : ByteArray) (w : World) (hs : s.size ≤ maxLen) :
    Calls Tryd.prog 30 #[.string s] w fun e w' => e = .returned (boolOr (lineB s) (liveB (byt s))) ∧ Below w.heap.size w w' := by
  have HG := Lib.hid (fun wx => swLine_any s wx hs)
  cases h : lineB s
  · have HV := Lib.hid (boolOr_no false (liveB (byt s)) rfl)
    rw [HV.out]
    rw [h] at HG
    clear HV h
    go_enter Tryd.func30, Tryd.ntmps30
    go_wp2_with fail
    refine (HG.out _).mono ?_
    rintro e w1 ⟨rfl, rfl⟩
    go_wp2_with fail
    go_ret2
    exact ⟨rfl, Below.refl _ _⟩
  · obtain ⟨l, rfl⟩ : ∃ l, s = str l := ⟨byt s, (str_byt s).symm⟩
    rw [byt_str]
    have HV := Lib.hid (boolOr_yes true (liveB l) rfl)
    rw [HV.out]
    rw [h] at HG
    have HL := Lib.hid (fun B W ks hk => swIsLive_any B l W ks h hk)
    clear HV h
    generalize liveB l = bl at *
    go_enter Tryd.func30, Tryd.ntmps30
    go_wp2_with fail
    refine (HG.out _).mono ?_
    rintro e w1 ⟨rfl, rfl⟩
    go_wp2_with fail
    refine (HL.out _ _ [] (EnW.new w _)).mono ?_
    rintro e w3 ⟨rfl, _, hkp⟩
    have hn := EnW.new w l.length
    have HB3 := Lib.hid (((Below.refl w.heap.size w).alloc (Nat.le_refl _) (.cells #[.slice none 0 0, .slice none 0 0] 69)).trans (hkp.to_below (by simp) (fun k he => (hn.ex_in k he).1)))
    clear hkp hn
    go_wp2_with fail
    go_ret2
    exact ⟨rfl, HB3.out⟩
set_option maxRecDepth 100000 in
set_option maxHeartbeats 4000000 in
theorem sCountLive_any (t g f : Int) (w : World) :
    Calls Tryd.prog 32 #[.int .i64 t, .int .i64 g, .int .i64 f] w fun e w' => e = .returned (clV t g f) ∧ Below w.heap.size w w' := by
  have HN := Lib.hid (fun wx => swNumbers_any t g f wx)
  cases hc : few t g f
  · have HC := Lib.hid hc
    have HV : Hid (clV t g f = .tuple #[.int .i64 0, .bool false]) := Lib.hid (by unfold clV; rw [hc]; rfl)
    rw [HV.out]
    clear hc
    go_enter Tryd.func32, Tryd.ntmps32
    go_wp2_with fail
    refine (HN.out _).mono ?_
    rintro e w1 ⟨rfl, hb1⟩
    rw [HC.out]
    have HB := Lib.hid hb1
    clear hb1
    go_wp2_with fail
    go_ret2
    exact ⟨rfl, HB.out⟩
  · have HC := Lib.hid hc
    have HV : Hid (clV t g f = .tuple #[.int .i64 ((lvA (firstL t.toNat g.toNat f.toNat)).length : Int), .bool true]) := Lib.hid (by unfold clV; rw [hc]; rfl)
    have hg := first_goodT hc
    have HLV := Lib.hid (fun B W ks hk => swLive_any B t g f W ks hc hk)
    rw [HV.out]
    generalize (t + g + f).toNat = n at *
    generalize firstL t.toNat g.toNat f.toNat = l at *
    have HEND : Hid (∀ d, (swN l = 0 → d = 0) → (0 < swN l → layW l d = []) → (allW l d).length = (lvA l).length) := Lib.hid fun d h0 h1 => by
      by_cases hz : swN l = 0
      · rw [h0 hz, lvA_dead hg hz]; rfl
      · exact allW_len hg (by omega) (h1 (by omega))
    have HSM : Hid (0 < swN l → ∀ d, (allW l d).length ≤ 59049) := Lib.hid fun h0 d => few_good (allW_nodup hg h0 d) fun x hx => by
      obtain ⟨k, _, hk⟩ := allW_mem.1 hx
      exact (layW_good hg h0 k x hk).1
    have HNXT := Lib.hid (fun d => allW_next l d)
    generalize (lvA l).length = q at *
    clear hc hg HV
    go_enter Tryd.func32, Tryd.ntmps32
    go_wp2_with fail
    refine (HN.out _).mono ?_
    rintro e w1 ⟨rfl, hb1⟩
    rw [HC.out]
    have HB := Lib.hid hb1
    clear hb1
    go_wp2_with fail
    refine (HLV.out _ _ [] (EnW.new w1 _)).mono ?_
    rintro e w3 ⟨v, d, rfl, hd, hd0, hd1, hly, _, hkp⟩
    have hn := EnW.new w1 n
    have hb3 := hkp.to_below (by simp) (fun k he => (hn.ex_in k he).1)
    have HB3 : Hid (Below w.heap.size w w3) := Lib.hid ((HB.out.alloc HB.out.size _).trans (hb3.mono (by have := HB.out.size; simp; omega)))
    have HQ := Lib.hid (HEND.out d hd0 hd1)
    have HZ : Hid (∀ j, j < d → (allW l (j + 1)).length ≤ 59049) := Lib.hid fun j hj => by
      have : 0 < swN l := by
        by_cases e : swN l = 0
        · have := hd0 e; omega
        · omega
      exact HSM.out this (j + 1)
    obtain ⟨A, c, rfl, hop⟩ := hly.open
    have HOP := Lib.hid hop
    clear hd0 hd1 hly hkp hop HEND HSM hb3 hn HLV
    go_wp2_with fail
    go_loopw [8, 23] (fun s i wr => ∃ k : Nat, k ≤ d ∧ i = .int .i64 k ∧ s = .int .i64 ((allW l k).length : Int) ∧ wr = w3) (fun _ i _ => d - (intOf i).toNat)
    case atStart => exact ⟨0, Nat.zero_le _, rfl, rfl, rfl⟩
    case round =>
      obtain ⟨k, hk, rfl, rfl, rfl⟩ := hrel
      by_cases hlt : k < d
      · obtain ⟨g1, A', c', rfl, d1, _⟩ := HOP.out k hlt
        have i1 : (0 : Int) ≤ (k : Int) := by omega
        have i2 : (k : Int) < (d : Int) := by omega
        have hn2 : (allW l (k + 1)).length = (allW l k).length + (layW l k).length := by rw [HNXT.out, List.length_append]
        have hz := HZ.out k hlt
        have HN2 := Lib.hid hn2
        clear hn2
        generalize (allW l k).length = a at *
        generalize (layW l k).length = b at *
        have hab : a + b ≤ 59049 := by have := HN2.out; omega
        clear hz
        go_wp2_with fail
        go_roundw
        case rel => exact ⟨k + 1, by omega, by go_num, (by rw [HN2.out]; push_cast; rfl), trivial⟩
        case measure => simp [intOf]; omega
      · obtain rfl : k = d := by omega
        rw [HQ.out]
        go_wp2_with fail
        go_ret2
        exact ⟨rfl, HB3.out⟩
end Go.Proofs.YtjadnfnpbacfdaaDoor
