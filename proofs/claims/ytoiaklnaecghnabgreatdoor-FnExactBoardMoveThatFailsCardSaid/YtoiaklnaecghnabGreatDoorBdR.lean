/- Contract: the model's rows of a board. -/
import Derived.Test.YtoiaklnaecghnabGreatDoorBdB
namespace Go.Proofs.YtoiaklnaecghnabGreatDoor
open Go.RowKit

theorem spl_pos (l : List UInt8) : 0 < (spl l).length := List.length_pos_iff.2 (spl_ne l)
theorem spl_head (l : List UInt8) : (spl l).headD [] = (spl l)[0]'(spl_pos l) := by
  suffices h : ∀ (R : List (List UInt8)) (h : 0 < R.length), R.headD [] = R[0] from h _ _
  intro R h
  cases R with
  | nil => simp at h
  | cons a R => rfl
/-- A row's test, on the text itself. -/
theorem rowOk_str (w : Nat) (r : List UInt8) : rowOk w r = (goodL (str r) && decide ((str r).size ≤ 5) && decide ((str r).size = w)) := by
  unfold rowOk; rw [str_size]
theorem goodB_yes {l : List UInt8} (h5 : (spl l).length ≤ 5) (h : ∀ j (hj : j < (spl l).length), rowOk ((spl l)[0]'(spl_pos l)).length (spl l)[j] = true) : goodB l = true := by
  unfold goodB boOk
  rw [Bool.and_eq_true, decide_eq_true_iff, List.all_eq_true, spl_head]
  refine ⟨h5, fun r hr => ?_⟩
  obtain ⟨j, hj, rfl⟩ := List.getElem_of_mem hr
  exact h j hj
theorem goodB_no {l : List UInt8} (k : Nat) (hk : k < (spl l).length) (h : rowOk ((spl l)[0]'(spl_pos l)).length (spl l)[k] = false) : goodB l = false := by
  cases hg : goodB l
  · rfl
  · unfold goodB boOk at hg
    rw [Bool.and_eq_true, List.all_eq_true, spl_head] at hg
    rw [hg.2 _ (List.getElem_mem hk)] at h
    cases h
theorem goodB_many {l : List UInt8} (h : 5 < (spl l).length) : goodB l = false := by
  unfold goodB boOk
  rw [decide_eq_false (by omega)]
  rfl
theorem goodB_long {l : List UInt8} (h : 30 < l.length) : goodB l = false := by
  cases hg : goodB l
  · rfl
  · have := goodB_len hg; omega
/-- The answer: the rows, or none. -/
def BrP (gb : Bool) (R : List (List UInt8)) (w : World) (e : Ending) (w' : World) : Prop :=
  (gb = true ∧ ∃ A cap, e = .returned (.tuple #[.slice A R.length cap, .bool true]) ∧ R.length ≤ cap ∧ StAt w' A R ∧ Below w.heap.size w w') ∨
  (gb = false ∧ e = .returned (.tuple #[.slice none 0 0, .bool false]) ∧ Below w.heap.size w w')

set_option maxRecDepth 100000 in
set_option maxHeartbeats 4000000 in
theorem boRows_any (s : ByteArray) (w : World) (hs : s.size ≤ maxLen) :
    Calls Tryz.prog 12 #[.string s] w (BrP (goodB (byt s)) (spl (byt s)) w) := by
  unfold maxLen at hs
  by_cases h40 : 40 < s.size
  · have hN := Lib.hid (goodB_long (l := byt s) (by rw [byt_len]; omega))
    have hd : (40 : Int) < (s.size : Int) := by omega
    go_enter Tryz.func12, Tryz.ntmps12
    go_wp2
    go_ret2
    exact .inr ⟨hN.out, rfl, Below.refl _ _⟩
  · have hd : ¬ ((40 : Int) < (s.size : Int)) := by omega
    have HOK := Lib.hid rowOk_str
    suffices main : ∀ (gb : Bool) (R : List (List UInt8)) (hpos : 0 < R.length), (∀ wx, Calls Tryz.prog 23 #[.string s, .int .u8 47] wx (BtPost wx R)) →
        (R.length ≤ 5 → (∀ j (hj : j < R.length), rowOk (R[0]'hpos).length R[j] = true) → gb = true) → (∀ k (hk : k < R.length), rowOk (R[0]'hpos).length R[k] = false → gb = false) →
        (5 < R.length → gb = false) → (∀ j (hj : j < R.length), (str R[j]).size ≤ 40) → Calls Tryz.prog 12 #[.string s] w (BrP gb R w) from
      main _ _ (spl_pos _) (fun wx => l1Split_any s wx (by omega)) goodB_yes goodB_no goodB_many
        (fun j hj => by have h1 := spl_le (byt s) _ (List.getElem_mem hj); rw [byt_len] at h1; rw [str_size]; omega)
    intro gb R hpos hSP hY hNO hMY hSZ
    have HSP := Lib.hid hSP
    have HY := Lib.hid hY
    have HNO := Lib.hid hNO
    have HMY := Lib.hid hMY
    have HSZ := Lib.hid hSZ
    clear hSP hY hNO hMY hSZ
    go_enter Tryz.func12, Tryz.ntmps12
    go_wp2_with fail
    refine (HSP.out _).mono ?_
    rintro e w1 ⟨v1, rfl, ho1, hb1⟩
    obtain ⟨A, cap, rfl, hle, hm, AT1, _⟩ := st_own ho1
    have AT := Lib.hid AT1
    have HB1 := Lib.hid hb1
    clear ho1 AT1 hb1
    have HIN := Lib.hid (fun wx => l1In_any (R.length : Int) 1 5 wx)
    by_cases h5 : 5 < R.length
    · have hin : Hid (inR (R.length : Int) 1 5 = false) := Lib.hid (by unfold inR; simp; omega)
      have hno := Lib.hid (HMY.out h5)
      go_wp2_with (go_at_call 24; refine (HIN.out _).mono ?_; rintro e w' ⟨rfl, rfl⟩; rw [hin.out])
      go_ret2
      exact .inr ⟨hno.out, rfl, HB1.out⟩
    · have hin : Hid (inR (R.length : Int) 1 5 = true) := Lib.hid (by unfold inR; simp; omega)
      go_wp2_with (go_at_call 24; refine (HIN.out _).mono ?_; rintro e w' ⟨rfl, rfl⟩; rw [hin.out])
      go_loop [18] (fun i => ∃ k : Nat, k ≤ R.length ∧ i = .int .i64 k ∧ Hid (∀ j (hj : j < R.length), j < k → rowOk (R[0]'hpos).length R[j] = true)) (fun i => R.length - (intOf i).toNat)
      case atStart => exact ⟨0, Nat.zero_le _, rfl, Lib.hid fun j _ h => by omega⟩
      case round =>
        obtain ⟨k, hk, rfl, HR⟩ := hrel
        by_cases hlt : k < R.length
        · obtain ⟨g, rfl, hg, hcell⟩ := AT.out k hlt
          obtain ⟨g', e1, _, hcell0⟩ := AT.out 0 hpos
          injection e1 with e1
          injection e1 with e1
          subst e1
          have HRK := Lib.hid (HOK.out (R[0]'hpos).length R[k])
          have HL0 := Lib.hid (str_size (R[0]'hpos))
          have HNK := Lib.hid (HNO.out k hlt)
          have HNX := Lib.hid (fun (h : rowOk (R[0]'hpos).length R[k] = true) => (fun j hj hjk => if e : j = k then by subst e; exact h else HR.out j hj (by omega) : ∀ j (hj : j < R.length), j < k + 1 → rowOk (R[0]'hpos).length R[j] = true))
          have hsx := HSZ.out k hlt
          clear HR
          have HGL := Lib.hid (fun wx (hz : (str R[k]).size ≤ maxLen) => liGood_any (str R[k]) wx hz)
          generalize rowOk (R[0]'hpos).length R[k] = ok at HRK HNK HNX
          generalize (R[0]'hpos).length = n0 at HRK HL0 HNX
          generalize str R[k] = sx at hcell HRK HGL hsx
          generalize str (R[0]'hpos) = s0 at hcell0 HL0
          have hn0 : s0.size = n0 := HL0.out
          have i1 : (0 : Int) ≤ (k : Int) := by omega
          have i2 : (k : Int) < (R.length : Int) := by omega
          have i3 : (0 : Int) < (R.length : Int) := by omega
          have hsm : sx.size ≤ maxLen := by unfold maxLen; omega
          cases hgl : goodL sx
          · have hok := Lib.hid (HNK.out (by rw [HRK.out, hgl]; rfl))
            have HG := Lib.hid hgl
            clear hgl
            go_wp2_with (go_at_call 25; refine (HGL.out _ hsm).mono ?_; rintro e w' ⟨rfl, rfl⟩; rw [HG.out])
            go_ret2
            exact .inr ⟨hok.out, rfl, HB1.out⟩
          · have HG := Lib.hid hgl
            by_cases hz5 : 5 < sx.size
            · have hok := Lib.hid (HNK.out (by rw [HRK.out, decide_eq_false (p := sx.size ≤ 5) (by omega)]; simp))
              have d5 : (5 : Int) < (sx.size : Int) := by omega
              clear hgl
              go_wp2_with (go_at_call 25; refine (HGL.out _ hsm).mono ?_; rintro e w' ⟨rfl, rfl⟩; rw [HG.out])
              go_ret2
              exact .inr ⟨hok.out, rfl, HB1.out⟩
            · have d5 : ¬ ((5 : Int) < (sx.size : Int)) := by omega
              by_cases he : sx.size = n0
              · have hok := Lib.hid (HNX.out (by rw [HRK.out, hgl, decide_eq_true (p := sx.size ≤ 5) (by omega), decide_eq_true he]; rfl))
                have de : ((sx.size : Int) != (s0.size : Int)) = false := by rw [he, hn0]; simp
                clear hgl he hn0
                go_wp2_with (go_at_call 25; refine (HGL.out _ hsm).mono ?_; rintro e w' ⟨rfl, rfl⟩; rw [HG.out])
                go_round
                case rel => exact ⟨k + 1, by omega, by go_num, hok⟩
                case measure => simp [intOf]; omega
              · have hok := Lib.hid (HNK.out (by rw [HRK.out, decide_eq_false he]; simp))
                have de : ((sx.size : Int) != (s0.size : Int)) = true := by rw [bne_iff_ne]; intro e; exact he (by omega)
                clear hgl he hn0
                go_wp2_with (go_at_call 25; refine (HGL.out _ hsm).mono ?_; rintro e w' ⟨rfl, rfl⟩; rw [HG.out])
                go_ret2
                exact .inr ⟨hok.out, rfl, HB1.out⟩
        · obtain rfl : k = R.length := by omega
          have hy := Lib.hid (HY.out (by omega) fun j hj => HR.out j hj hj)
          go_wp2
          go_ret2
          exact .inl ⟨hy.out, A, cap, rfl, hle, AT.out, HB1.out⟩
end Go.Proofs.YtoiaklnaecghnabGreatDoor
