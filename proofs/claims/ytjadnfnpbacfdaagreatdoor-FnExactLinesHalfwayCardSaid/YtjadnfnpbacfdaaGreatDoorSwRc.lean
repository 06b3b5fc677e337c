/- Contracts: the model's live lines, by layers; whether a line is live; how many are. -/
import Derived.Test.YtjadnfnpbacfdaaGreatDoorSwRb
import Derived.Test.YtjadnfnpbacfdaaGreatDoorSwLq
namespace Go.Proofs.YtjadnfnpbacfdaaGreatDoor
open Go.RowKit

theorem LyX.lower {W : World} {B b b' : Nat} {v : Value} {ly : Nat → List (List UInt8)} {d : Nat} (h : LyX W B b v ly d) (hb : b' ≤ b) : LyX W B b' v ly d := by
  obtain ⟨us, h1, h2, h3⟩ := h
  exact ⟨us, h1, own_lowerW h2 hb, fun j hj => (h3 j hj).lower hb⟩
/-- A row of layers, opened. -/
theorem LyX.open {W : World} {B b : Nat} {v : Value} {ly : Nat → List (List UInt8)} {d : Nat} (h : LyX W B b v ly d) :
    ∃ A c, v = .slice A d c ∧ ∀ j, j < d → ∃ g A' c', A = some ⟨g, 0, none⟩ ∧ W.cell? ⟨g, j, none⟩ = some (.slice A' (ly j).length c') ∧ StAt W A' (ly j) := by
  obtain ⟨us, h1, h2, h3⟩ := h
  have h2' := h2
  rcases h2.2 with ⟨hv, h0⟩ | ⟨g, cap, cur, rfl, _, hg, hle, hm, _⟩
  · have hd : d = 0 := by have := h2.1; omega
    exact ⟨none, 0, by rw [hv, hd], fun j hj => by omega⟩
  · refine ⟨_, cap, rfl, fun j hj => ?_⟩
    have hj2 : j < us.length := by omega
    obtain ⟨A', c', e, _, _, hst, _⟩ := st_own (h3 j hj2).1
    refine ⟨g, A', c', rfl, ?_, hst⟩
    have := h2'.cells (g := g) rfl j us[j] (by simp [hj2])
    rw [addr_add] at this
    rw [this, e]
/-- What the layers tell. -/
def LvAns (B n : Nat) (l : List UInt8) (W : World) (e : Ending) (w' : World) : Prop :=
  ∃ v d, e = .returned v ∧ d ≤ 60000 ∧ (swN l = 0 → d = 0) ∧ (0 < swN l → layW l d = []) ∧ LyX w' B W.heap.size v (layW l) d ∧ (∃ ks, EnW w' B n ks) ∧ KpX B W w'
set_option maxRecDepth 100000 in
set_option maxHeartbeats 4000000 in
theorem swLive_any (B : Nat) (t g f : Int) (w : World) (ks : List (List UInt8)) (hc : few t g f = true) (hk : EnW w B (t + g + f).toNat ks) :
    Calls Tryz.prog 10 #[.pointer (some ⟨B, 0, none⟩), .int .i64 t, .int .i64 g, .int .i64 f] w (LvAns B (t + g + f).toNat (firstL t.toNat g.toNat f.toNat) w) := by
  have hf := (few_iff t g f).1 hc
  have hg := first_goodT hc
  have HF := Lib.hid (fun wx => liFirst_any t g f wx (by omega) (by omega) (by omega))
  generalize (t + g + f).toNat = n at hg hk ⊢
  generalize firstL t.toNat g.toNat f.toNat = l at *
  have HFR := Lib.hid (fun W ks hk => from_any _ B n l W ks rfl hg hk)
  have HK := Lib.hid hk
  by_cases h0 : swN l = 0
  · rw [h0] at HFR
    have H0 := Lib.hid h0
    clear hc hf hg h0 hk
    go_enter Tryz.func10, Tryz.ntmps10
    go_wp2_with fail
    refine (HF.out _).mono ?_
    rintro e w1 ⟨rfl, rfl⟩
    go_wp2_with fail
    refine (HFR.out _ _ HK.out).mono ?_
    rintro e w2 ⟨rfl, ks2, hk2, _, hkp2⟩
    have HK2 := Lib.hid hk2
    have HP2 := Lib.hid hkp2
    clear hk2 hkp2
    go_wp2_with fail
    go_ret
    exact ⟨_, 0, rfl, by omega, fun _ => rfl, fun h => by have := H0.out; omega, LyX.nil, ⟨_, HK2.out⟩, HP2.out⟩
  · have hn0 : ((swN l : Int) == 0) = false := by simp; omega
    have h0 : 0 < swN l := by omega
    have H0 := Lib.hid h0
    have HRC := Lib.hid (fun W ks hk => swReach_any B n l W ks hg h0 hk)
    clear hc hf hg h0 hk
    generalize hsy : swN l = sy at HFR hn0
    clear hsy
    go_enter Tryz.func10, Tryz.ntmps10
    go_wp2_with fail
    refine (HF.out _).mono ?_
    rintro e w1 ⟨rfl, rfl⟩
    go_wp2_with fail
    refine (HFR.out _ _ HK.out).mono ?_
    rintro e w2 ⟨rfl, ks2, hk2, _, hkp2⟩
    have HK2 := Lib.hid hk2
    have HP2 := Lib.hid hkp2
    clear hk2 hkp2
    go_wp2_with fail
    refine (HRC.out _ _ HK2.out).mono ?_
    rintro e w3 ⟨v, d, rfl, hd, hnil, hly, hkn, hkp⟩
    have HX : Hid (∃ u, u = v ∧ LyX w3 B w.heap.size u (layW l) d) := Lib.hid ⟨v, rfl, hly.lower HP2.out.size⟩
    have HN := Lib.hid hnil
    have HKN := Lib.hid hkn
    have HKP := Lib.hid (HP2.out.trans hkp)
    clear hnil hly hkn hkp
    go_wp2_with fail
    go_ret
    obtain ⟨u, rfl, hu⟩ := HX.out
    exact ⟨u, d, rfl, hd, fun h => by have := H0.out; omega, fun _ => HN.out, hu, HKN.out, HKP.out⟩
theorem liveB_iff {l : List UInt8} (h : lineB (str l) = true) {d : Nat} (h0 : swN (fsL l) = 0 → d = 0) (h1 : 0 < swN (fsL l) → layW (fsL l) d = []) : liveB l = true ↔ ∃ j, j < d ∧ l ∈ layW (fsL l) j := by
  have hg := fs_good h
  unfold liveB
  rw [decide_eq_true_iff]
  unfold lvN
  by_cases hin : l ∈ swA (fsL l)
  · rw [if_pos hin]
    by_cases hz : swN (fsL l) = 0
    · rw [dead_all hg hz hin, h0 hz]
      simp
    · have hp : 0 < swN (fsL l) := by omega
      have := layW_iff (v := l) hg hp
      constructor
      · intro h2
        obtain ⟨k, hk⟩ := this.2 ⟨hin, h2⟩
        refine ⟨k, ?_, hk⟩
        by_cases hkd : k < d
        · exact hkd
        · rw [layW_nil (h1 hp) k (by omega)] at hk
          cases hk
      · rintro ⟨k, _, hk⟩
        exact (this.1 ⟨k, hk⟩).2
  · rw [if_neg hin]
    constructor
    · intro h2; omega
    · rintro ⟨k, hk, hk2⟩
      have hz : ¬ swN (fsL l) = 0 := fun e => by have := h0 e; omega
      exact absurd (layW_in hg k l hk2) hin
/-- What the model tells of a line, the box kept. -/
def IlAns (B n : Nat) (b : Bool) (W : World) (e : Ending) (w' : World) : Prop :=
  e = .returned (.bool b) ∧ (∃ ks, EnW w' B n ks) ∧ KpX B W w'
end Go.Proofs.YtjadnfnpbacfdaaGreatDoor
