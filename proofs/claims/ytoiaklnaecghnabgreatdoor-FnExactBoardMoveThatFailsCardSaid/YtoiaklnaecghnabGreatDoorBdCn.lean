/- Contract: the model's boCan. -/
import Derived.Test.YtoiaklnaecghnabGreatDoorBdCd
import Derived.Deep.RegionHeld3
import Derived.BigQuiet
import Derived.Deep.QuietTactic
namespace Go.Proofs.YtoiaklnaecghnabGreatDoor
open Go.RowKit

set_option maxRecDepth 100000 in
set_option maxHeartbeats 16000000 in
/-- The loops, from wherever they begin: for one step (1 or -1) and one other sign. -/
theorem boCan_any (R : List (List UInt8)) (wd : Nat) (A : Option Addr) (cap : Nat) (f t : Int) (w : World) (hA : StAt w A R) (h1 : 1 ≤ R.length) (h5 : R.length ≤ 5) (hw1 : 1 ≤ wd) (hw5 : wd ≤ 5) (hl : ∀ r ∈ R, r.length = wd) :
    Calls Tryz.prog 26 #[.slice A R.length cap, .agg #[.int .i64 f, .int .i64 t]] w fun e w' => e = .returned (.bool (boC R wd f t)) ∧ Below w.heap.size w w' := by
  have HAT := Lib.hid (fun x y wx (h : StAt wx A R) => boAt_any R wd A cap x y wx h h1 h5 hw1 hw5 hl)
  have HA := Lib.hid hA
  obtain ⟨g, rfl, hgw, hcell0⟩ := hA 0 h1
  have HS0 : Hid ((str (R[0]'h1)).size = wd) := Lib.hid (by rw [str_size]; exact hl _ (List.getElem_mem h1))
  generalize str (R[0]'h1) = s0 at hcell0 HS0
  have hsz : s0.size = wd := HS0.out
  clear hA hl
  have hnn : wd * R.length ≤ 25 := Nat.mul_le_mul hw5 h5
  have hend : Below w.heap.size w (w.alloc (Obj.cells #[.int .i64 f, .int .i64 t] 39)) := (Below.refl _ _).alloc (Nat.le_refl _) _
  cases hf : inR f 0 (wd * R.length - 1)
  · have HR : Hid (boC R wd f t = false) := Lib.hid (by unfold boC; rw [hf]; rfl)
    have HF := Lib.hid hf
    clear hf
    go_enter Tryz.func26, Tryz.ntmps26
    go_wp2_with fail
    refine (l1In_any _ _ _ _).mono ?_; rintro e w' ⟨rfl, rfl⟩; rw [HF.out]
    go_wp2_with fail
    go_ret
    exact ⟨congrArg (fun b => Ending.returned (.bool b)) HR.out.symm, hend⟩
  · have HF := Lib.hid hf
    cases ht : inR t 0 (wd * R.length - 1)
    · have HR : Hid (boC R wd f t = false) := Lib.hid (by unfold boC; rw [hf, ht]; rfl)
      have HT := Lib.hid ht
      clear hf ht
      go_enter Tryz.func26, Tryz.ntmps26
      go_wp2_with fail
      refine (l1In_any _ _ _ _).mono ?_; rintro e w' ⟨rfl, rfl⟩; rw [HF.out]
      go_wp2_with fail
      refine (l1In_any _ _ _ _).mono ?_; rintro e w' ⟨rfl, rfl⟩; rw [HT.out]
      go_wp2_with fail
      go_ret
      exact ⟨congrArg (fun b => Ending.returned (.bool b)) HR.out.symm, hend⟩
    · have HT := Lib.hid ht
      obtain ⟨F, rfl⟩ : ∃ F : Nat, f = F := ⟨f.toNat, by simp [inR] at hf; omega⟩
      obtain ⟨T, rfl⟩ : ∃ T : Nat, t = T := ⟨t.toNat, by simp [inR] at ht; omega⟩
      have HR : Hid (boC R wd F T = boCN R wd (F % wd) (F / wd) (T % wd) (T / wd)) := Lib.hid (by unfold boC; rw [hf, ht]; rfl)
      have HTQ : Hid ((T : Int) = ((T / wd : Nat) : Int) * wd + ((T % wd : Nat) : Int)) := Lib.hid (by
        have := Nat.div_add_mod T wd
        rw [Nat.mul_comm] at this
        exact_mod_cast this.symm)
      have hfr : F < 25 := by simp [inR] at hf; omega
      have htr : T < 25 := by simp [inR] at ht; omega
      have q1 : (F : Int).tmod (wd : Int) = ((F % wd : Nat) : Int) := rfl
      have q2 : (F : Int).tdiv (wd : Int) = ((F / wd : Nat) : Int) := rfl
      have q3 : (T : Int).tmod (wd : Int) = ((T % wd : Nat) : Int) := rfl
      have q4 : (T : Int).tdiv (wd : Int) = ((T / wd : Nat) : Int) := rfl
      have b1 : F % wd < wd := Nat.mod_lt _ hw1
      have b2 : F / wd ≤ 24 := Nat.le_trans (Nat.div_le_self _ _) (by omega)
      have b3 : T % wd < wd := Nat.mod_lt _ hw1
      have b4 : T / wd ≤ 24 := Nat.le_trans (Nat.div_le_self _ _) (by omega)
      generalize F % wd = x at q1 b1 HR
      generalize F / wd = y at q2 b2 HR
      generalize T % wd = u at q3 b3 HR HTQ
      generalize T / wd = v at q4 b4 HR HTQ
      have HA2 : Hid (StAt (w.alloc (Obj.cells #[.int .i64 F, .int .i64 T] 39)) (some ⟨g, 0, none⟩) R) := Lib.hid (HA.out.below ((Below.refl _ _).alloc (Nat.le_refl _) _))
      have hzn : wd ≠ 0 := by omega
      have hz : (wd : Int) ≠ 0 := by omega
      have hzb : ((wd : Int) == 0) = false := by rw [beq_eq_false_iff_ne]; omega
      have hzd : decide ((wd : Int) = 0) = false := by rw [decide_eq_false_iff_not]; omega
      clear hf ht
      go_enter Tryz.func26, Tryz.ntmps26
      go_wp2_with fail
      clear hsz hcell0
      refine (l1In_any _ _ _ _).mono ?_; rintro e w' ⟨rfl, rfl⟩; rw [HF.out]
      go_wp2_with fail
      refine (l1In_any _ _ _ _).mono ?_; rintro e w' ⟨rfl, rfl⟩; rw [HT.out]
      go_wp2_with fail
      obtain ⟨W0, hW0⟩ : ∃ W0, W0 = w.alloc (Obj.cells #[.int .i64 F, .int .i64 T] 39) := ⟨_, rfl⟩
      have k0 : W0.cell? ⟨w.heap.size, 0, none⟩ = some (.int .i64 F) := by rw [hW0, World.cell?_alloc_new]; rfl
      have k1 : W0.cell? ⟨w.heap.size, 1, none⟩ = some (.int .i64 T) := by rw [hW0, World.cell?_alloc_new]; rfl
      rw [← hW0] at HA2 hend ⊢
      have hlw0 : w.heap.size < W0.heap.size := by rw [hW0]; simp
      clear hW0
      have HB0 := Lib.hid hend
      clear hend
      have HRc : Hid (boC R wd F T = if boCell R wd x y == 84 then restI R wd x y T 1 (boCell R wd u v) 70 4 else if boCell R wd x y == 70 then restI R wd x y T (-1) (boCell R wd u v) 84 4 else false) := Lib.hid (by rw [HR.out, HTQ.out]; rfl)
      have HC1 := Lib.hid (HAT.out (x : Int) (y : Int))
      have HC2 := Lib.hid (HAT.out (u : Int) (v : Int))
      generalize boCell R wd x y = c at HRc HC1
      generalize boCell R wd u v = tv at HRc HC2
      clear HR HTQ HF HT HA
      go_region
      obtain ⟨W1, hW1⟩ : ∃ W1, W1 = W0.drew := ⟨_, rfl⟩
      have k1' : W1.cell? ⟨w.heap.size, 1, none⟩ = some (.int .i64 T) := by rw [hW1]; exact k1
      have HA3 : Hid (StAt W1.drew (some ⟨g, 0, none⟩) R) := Lib.hid (by rw [hW1]; exact HA2.out)
      have HB1 : Hid (Below w.heap.size w W1) := Lib.hid (by rw [hW1]; exact Below.drew HB0.out)
      have HA2 : Hid (StAt W1 (some ⟨g, 0, none⟩) R) := Lib.hid (by rw [hW1]; exact HA2.out)
      have hlt0 : w.heap.size < W1.heap.size := by rw [hW1]; exact hlw0
      rw [← hW1]
      clear hW1 k0 k1 HB0
      go_wp2_with fail
      go_quiet (first | (go_at_call 35; refine Calls.quiet_of_same (HC2.out _ ?_); exact HA3.out))
      obtain ⟨W2, hW2⟩ : ∃ W2, W2 = W1.drewN nq := ⟨_, rfl⟩
      have hb2 : Below W1.heap.size W1 W2 := by rw [hW2]; exact below_drewN (Below.refl _ _) _
      have k2 : W2.cell? ⟨w.heap.size, 1, none⟩ = some (.int .i64 T) := ((bcell hb2).1 _ _ hlt0).trans k1'
      have HA4 := Lib.hid (HA2.out.below hb2)
      have HB2 := Lib.hid (HB1.out.trans (hb2.mono HB1.out.size))
      rw [← hW2]
      clear hW2 k1' hb2 HA3 HA2 HB1 hlt0 HC2
      go_wp2_with fail
      refine (HC1.out _ HA4.out).mono ?_
      rintro e w' ⟨rfl, rfl⟩
      rcases is_or c 84 84 rfl with ⟨rfl, hv1⟩ | ⟨e1, hv1⟩
      · have HRk : Hid (boC R wd F T = restI R wd x y T 1 tv 70 4) := Lib.hid HRc.out
        obtain ⟨W3, rfl⟩ : ∃ W3, W3 = w' := ⟨_, rfl⟩
        go_wp2_with fail
        go_loopw [11, 12, 13, 14] (fun v11 _ _ _ wr => ∃ s : Nat, s ≤ 2 ∧ v11 = .int .i64 s ∧ Hid (boC R wd F T = restI R wd x y T 1 tv 70 (4 - 2 * s)) ∧ wr = W3) (fun v11 _ _ _ _ => 2 - (intOf v11).toNat)
        case atStart => exact ⟨0, by omega, rfl, HRk, rfl⟩
        case round =>
          obtain ⟨s, hs, rfl, HRs, rfl⟩ := hrel
          have h3 : s = 0 ∨ s = 1 ∨ s = 2 := by omega
          rcases h3 with rfl | rfl | rfl
          · rw [show ((0 : Nat) : Int) = 0 from rfl]
            go_wp2_with fail
            go_loopw [14] (fun v14 wq => ∃ f : Nat, 1 ≤ f ∧ f ≤ 3 ∧ v14 = .int .i64 f ∧ Hid (boC R wd F T = restI R wd x y T 1 tv 70 (5 - f)) ∧ wq = wr) (fun v14 _ => 3 - (intOf v14).toNat)
            case atStart => exact ⟨1, by omega, by omega, rfl, HRs, rfl⟩
            case round =>
              obtain ⟨f, hf1, hf3, rfl, HRf, rfl⟩ := hrel
              have h3 : f = 1 ∨ f = 2 ∨ f = 3 := by omega
              rcases h3 with rfl | rfl | rfl
              · have HH : Hid (hitI R wd x y T 1 0 = (!(boCell R wd ((x : Int) + 1) ((y : Int)) == 32) && (T : Int) == (((y : Int)) * (wd : Int) + x + 1))) := Lib.hid (by simp [hitI, farI, stX, stY])
                have HL : Hid (telI R wd x y 1 tv 70 0 = (tv == 46)) := Lib.hid (by simp [telI, farI, stX, stY])
                have HX : Hid (restI R wd x y T 1 tv 70 4 = if hitI R wd x y T 1 0 then telI R wd x y 1 tv 70 0 else restI R wd x y T 1 tv 70 3) := Lib.hid rfl
                rw [show ((1 : Nat) : Int) = 1 from rfl]
                obtain ⟨q, hq⟩ : ∃ q : Int, ((y : Int)) * (wd : Int) = q := ⟨_, rfl⟩
                have hqb : -10 ≤ q ∧ q ≤ 130 := by rw [← hq]; exact qb0 y wd b2 hw1 hw5
                rw [hq] at HH
                have g0 : IntKind.i64.wrap ((x : Int) + 1) = (x : Int) + 1 := by rw [IntKind.wrap_i64]; omega
                have g1 : IntKind.i64.wrap ((y : Int)) = (y : Int) := by rw [IntKind.wrap_i64]; omega
                have g2 : IntKind.i64.wrap q = q := by rw [IntKind.wrap_i64]; omega
                have g3 : IntKind.i64.wrap (q + (x : Int)) = q + x := by rw [IntKind.wrap_i64]; omega
                have g4 : IntKind.i64.wrap (q + (x : Int) + 1) = q + x + 1 := by rw [IntKind.wrap_i64]; omega
                have HCA := Lib.hid (HAT.out ((x : Int) + 1) ((y : Int)))
                generalize boCell R wd ((x : Int) + 1) ((y : Int)) = cc at HH HCA
                rcases is_or cc 32 32 rfl with ⟨rfl, hv⟩ | ⟨e3, hv⟩
                · have HN : Hid (boC R wd F T = restI R wd x y T 1 tv 70 (5 - 2)) := Lib.hid (by rw [HRf.out]; show restI R wd x y T 1 tv 70 (3 + 1) = _; rw [HX.out, HH.out]; rfl)
                  clear HX HL HH hv
                  go_wp2_with fail
                  refine (HCA.out _ HA4.out).mono ?_
                  rintro e w' ⟨rfl, rfl⟩
                  go_wp2_with fail
                  exact ⟨⟨2, by omega, by omega, by go_num, HN, trivial⟩, by simp [intOf]⟩
                · by_cases hT : (T : Int) = q + x + 1
                  · have hbt : ((T : Int) == q + x + 1) = true := by rw [beq_iff_eq]; exact hT
                    have HN : Hid (boC R wd F T = telI R wd x y 1 tv 70 0) := Lib.hid (by rw [HRf.out]; show restI R wd x y T 1 tv 70 (3 + 1) = _; rw [HX.out, HH.out, hbt, show (cc == 32) = false from beq_eq_false_iff_ne.2 e3]; rfl)
                    rw [HL.out] at HN
                    clear HX HL HH e3 hT
                    rcases is_or tv 46 46 rfl with ⟨rfl, hv4⟩ | ⟨e4, hv4⟩
                    · go_wp2_with fail
                      refine (HCA.out _ HA4.out).mono ?_
                      rintro e w' ⟨rfl, rfl⟩
                      go_wp2_with fail
                      go_ret
                      exact ⟨congrArg (fun b => Ending.returned (.bool b)) (HN.out.trans rfl).symm, HB2.out⟩
                    · have HN2 : Hid (boC R wd F T = false) := Lib.hid (by rw [HN.out]; exact beq_eq_false_iff_ne.2 e4)
                      clear HN e4
                      go_wp2_with fail
                      refine (HCA.out _ HA4.out).mono ?_
                      rintro e w' ⟨rfl, rfl⟩
                      go_wp2_with fail
                      go_ret
                      exact ⟨congrArg (fun b => Ending.returned (.bool b)) HN2.out.symm, HB2.out⟩
                  · have hbt : ((T : Int) == q + x + 1) = false := by rw [beq_eq_false_iff_ne]; exact hT
                    have HN : Hid (boC R wd F T = restI R wd x y T 1 tv 70 (5 - 2)) := Lib.hid (by rw [HRf.out]; show restI R wd x y T 1 tv 70 (3 + 1) = _; rw [HX.out, HH.out, hbt, Bool.and_false]; rfl)
                    clear HX HL HH e3 hT
                    go_wp2_with fail
                    refine (HCA.out _ HA4.out).mono ?_
                    rintro e w' ⟨rfl, rfl⟩
                    go_wp2_with fail
                    exact ⟨⟨2, by omega, by omega, by go_num, HN, trivial⟩, by simp [intOf]⟩
              · have HH : Hid (hitI R wd x y T 1 1 = (!(boCell R wd ((x : Int) + 2) ((y : Int)) == 32) && (T : Int) == (((y : Int)) * (wd : Int) + x + 2))) := Lib.hid (by simp [hitI, farI, stX, stY])
                have HL : Hid (telI R wd x y 1 tv 70 1 = (tv == 46 && boCell R wd ((x : Int) + 1) ((y : Int)) == 70)) := Lib.hid (by simp [telI, farI, stX, stY])
                have HX : Hid (restI R wd x y T 1 tv 70 3 = if hitI R wd x y T 1 1 then telI R wd x y 1 tv 70 1 else restI R wd x y T 1 tv 70 2) := Lib.hid rfl
                rw [show ((2 : Nat) : Int) = 2 from rfl]
                obtain ⟨q, hq⟩ : ∃ q : Int, ((y : Int)) * (wd : Int) = q := ⟨_, rfl⟩
                have hqb : -10 ≤ q ∧ q ≤ 130 := by rw [← hq]; exact qb0 y wd b2 hw1 hw5
                rw [hq] at HH
                have g0 : IntKind.i64.wrap ((x : Int) + 2) = (x : Int) + 2 := by rw [IntKind.wrap_i64]; omega
                have g1 : IntKind.i64.wrap ((y : Int)) = (y : Int) := by rw [IntKind.wrap_i64]; omega
                have g2 : IntKind.i64.wrap q = q := by rw [IntKind.wrap_i64]; omega
                have g3 : IntKind.i64.wrap (q + (x : Int)) = q + x := by rw [IntKind.wrap_i64]; omega
                have g4 : IntKind.i64.wrap (q + (x : Int) + 2) = q + x + 2 := by rw [IntKind.wrap_i64]; omega
                have HCA := Lib.hid (HAT.out ((x : Int) + 2) ((y : Int)))
                generalize boCell R wd ((x : Int) + 2) ((y : Int)) = cc at HH HCA
                rcases is_or cc 32 32 rfl with ⟨rfl, hv⟩ | ⟨e3, hv⟩
                · have HN : Hid (boC R wd F T = restI R wd x y T 1 tv 70 (5 - 3)) := Lib.hid (by rw [HRf.out]; show restI R wd x y T 1 tv 70 (2 + 1) = _; rw [HX.out, HH.out]; rfl)
                  clear HX HL HH hv
                  go_wp2_with fail
                  refine (HCA.out _ HA4.out).mono ?_
                  rintro e w' ⟨rfl, rfl⟩
                  go_wp2_with fail
                  exact ⟨⟨3, by omega, by omega, by go_num, HN, trivial⟩, by simp [intOf]⟩
                · by_cases hT : (T : Int) = q + x + 2
                  · have hbt : ((T : Int) == q + x + 2) = true := by rw [beq_iff_eq]; exact hT
                    have HN : Hid (boC R wd F T = telI R wd x y 1 tv 70 1) := Lib.hid (by rw [HRf.out]; show restI R wd x y T 1 tv 70 (2 + 1) = _; rw [HX.out, HH.out, hbt, show (cc == 32) = false from beq_eq_false_iff_ne.2 e3]; rfl)
                    rw [HL.out] at HN
                    clear HX HL HH e3 hT
                    have HCB := Lib.hid (HAT.out ((x : Int) + 1) ((y : Int)))
                    have g5 : IntKind.i64.wrap ((x : Int) + 1) = (x : Int) + 1 := by rw [IntKind.wrap_i64]; omega
                    have g6 : IntKind.i64.wrap ((y : Int)) = (y : Int) := by rw [IntKind.wrap_i64]; omega
                    generalize boCell R wd ((x : Int) + 1) ((y : Int)) = c2 at HN HCB
                    rcases is_or tv 46 46 rfl with ⟨rfl, hv4⟩ | ⟨e4, hv4⟩
                    · rcases is_or c2 70 70 rfl with ⟨rfl, hv5⟩ | ⟨e5, hv5⟩
                      · go_wp2_with fail
                        refine (HCA.out _ HA4.out).mono ?_
                        rintro e w' ⟨rfl, rfl⟩
                        go_wp2_with fail
                        refine (HCB.out _ HA4.out).mono ?_
                        rintro e w' ⟨rfl, rfl⟩
                        go_wp2_with fail
                        go_ret
                        exact ⟨congrArg (fun b => Ending.returned (.bool b)) (HN.out.trans rfl).symm, HB2.out⟩
                      · have HN2 : Hid (boC R wd F T = false) := Lib.hid (by rw [HN.out]; exact beq_eq_false_iff_ne.2 e5)
                        clear HN e5
                        go_wp2_with fail
                        refine (HCA.out _ HA4.out).mono ?_
                        rintro e w' ⟨rfl, rfl⟩
                        go_wp2_with fail
                        refine (HCB.out _ HA4.out).mono ?_
                        rintro e w' ⟨rfl, rfl⟩
                        go_wp2_with fail
                        go_ret
                        exact ⟨congrArg (fun b => Ending.returned (.bool b)) HN2.out.symm, HB2.out⟩
                    · have HN2 : Hid (boC R wd F T = false) := Lib.hid (by rw [HN.out, show (tv == 46) = false from beq_eq_false_iff_ne.2 e4]; rfl)
                      clear HN e4
                      go_wp2_with fail
                      refine (HCA.out _ HA4.out).mono ?_
                      rintro e w' ⟨rfl, rfl⟩
                      go_wp2_with fail
                      go_ret
                      exact ⟨congrArg (fun b => Ending.returned (.bool b)) HN2.out.symm, HB2.out⟩
                  · have hbt : ((T : Int) == q + x + 2) = false := by rw [beq_eq_false_iff_ne]; exact hT
                    have HN : Hid (boC R wd F T = restI R wd x y T 1 tv 70 (5 - 3)) := Lib.hid (by rw [HRf.out]; show restI R wd x y T 1 tv 70 (2 + 1) = _; rw [HX.out, HH.out, hbt, Bool.and_false]; rfl)
                    clear HX HL HH e3 hT
                    go_wp2_with fail
                    refine (HCA.out _ HA4.out).mono ?_
                    rintro e w' ⟨rfl, rfl⟩
                    go_wp2_with fail
                    exact ⟨⟨3, by omega, by omega, by go_num, HN, trivial⟩, by simp [intOf]⟩
              · rw [show ((3 : Nat) : Int) = 3 from rfl]
                go_wp2_with fail
                exact ⟨⟨1, by omega, by go_num, HRf, trivial⟩, by simp [intOf]⟩
          · rw [show ((1 : Nat) : Int) = 1 from rfl]
            go_wp2_with fail
            go_loopw [14] (fun v14 wq => ∃ f : Nat, 1 ≤ f ∧ f ≤ 3 ∧ v14 = .int .i64 f ∧ Hid (boC R wd F T = restI R wd x y T 1 tv 70 (3 - f)) ∧ wq = wr) (fun v14 _ => 3 - (intOf v14).toNat)
            case atStart => exact ⟨1, by omega, by omega, rfl, HRs, rfl⟩
            case round =>
              obtain ⟨f, hf1, hf3, rfl, HRf, rfl⟩ := hrel
              have h3 : f = 1 ∨ f = 2 ∨ f = 3 := by omega
              rcases h3 with rfl | rfl | rfl
              · have HH : Hid (hitI R wd x y T 1 2 = (!(boCell R wd ((x : Int)) ((y : Int) + 1) == 32) && (T : Int) == (((y : Int) + 1) * (wd : Int) + x))) := Lib.hid (by simp [hitI, farI, stX, stY])
                have HL : Hid (telI R wd x y 1 tv 70 2 = (tv == 46)) := Lib.hid (by simp [telI, farI, stX, stY])
                have HX : Hid (restI R wd x y T 1 tv 70 2 = if hitI R wd x y T 1 2 then telI R wd x y 1 tv 70 2 else restI R wd x y T 1 tv 70 1) := Lib.hid rfl
                rw [show ((1 : Nat) : Int) = 1 from rfl]
                obtain ⟨q, hq⟩ : ∃ q : Int, ((y : Int) + 1) * (wd : Int) = q := ⟨_, rfl⟩
                have hqb : -10 ≤ q ∧ q ≤ 130 := by rw [← hq]; exact qb y wd 1 b2 hw1 hw5 (by omega)
                rw [hq] at HH
                have g0 : IntKind.i64.wrap ((x : Int)) = (x : Int) := by rw [IntKind.wrap_i64]; omega
                have g1 : IntKind.i64.wrap ((y : Int) + 1) = (y : Int) + 1 := by rw [IntKind.wrap_i64]; omega
                have g2 : IntKind.i64.wrap q = q := by rw [IntKind.wrap_i64]; omega
                have g3 : IntKind.i64.wrap (q + (x : Int)) = q + x := by rw [IntKind.wrap_i64]; omega
                have g4 : IntKind.i64.wrap (q + (x : Int)) = q + x := by rw [IntKind.wrap_i64]; omega
                have HCA := Lib.hid (HAT.out ((x : Int)) ((y : Int) + 1))
                generalize boCell R wd ((x : Int)) ((y : Int) + 1) = cc at HH HCA
                rcases is_or cc 32 32 rfl with ⟨rfl, hv⟩ | ⟨e3, hv⟩
                · have HN : Hid (boC R wd F T = restI R wd x y T 1 tv 70 (3 - 2)) := Lib.hid (by rw [HRf.out]; show restI R wd x y T 1 tv 70 (1 + 1) = _; rw [HX.out, HH.out]; rfl)
                  clear HX HL HH hv
                  go_wp2_with fail
                  refine (HCA.out _ HA4.out).mono ?_
                  rintro e w' ⟨rfl, rfl⟩
                  go_wp2_with fail
                  exact ⟨⟨2, by omega, by omega, by go_num, HN, trivial⟩, by simp [intOf]⟩
                · by_cases hT : (T : Int) = q + x
                  · have hbt : ((T : Int) == q + x) = true := by rw [beq_iff_eq]; exact hT
                    have HN : Hid (boC R wd F T = telI R wd x y 1 tv 70 2) := Lib.hid (by rw [HRf.out]; show restI R wd x y T 1 tv 70 (1 + 1) = _; rw [HX.out, HH.out, hbt, show (cc == 32) = false from beq_eq_false_iff_ne.2 e3]; rfl)
                    rw [HL.out] at HN
                    clear HX HL HH e3 hT
                    rcases is_or tv 46 46 rfl with ⟨rfl, hv4⟩ | ⟨e4, hv4⟩
                    · go_wp2_with fail
                      refine (HCA.out _ HA4.out).mono ?_
                      rintro e w' ⟨rfl, rfl⟩
                      go_wp2_with fail
                      go_ret
                      exact ⟨congrArg (fun b => Ending.returned (.bool b)) (HN.out.trans rfl).symm, HB2.out⟩
                    · have HN2 : Hid (boC R wd F T = false) := Lib.hid (by rw [HN.out]; exact beq_eq_false_iff_ne.2 e4)
                      clear HN e4
                      go_wp2_with fail
                      refine (HCA.out _ HA4.out).mono ?_
                      rintro e w' ⟨rfl, rfl⟩
                      go_wp2_with fail
                      go_ret
                      exact ⟨congrArg (fun b => Ending.returned (.bool b)) HN2.out.symm, HB2.out⟩
                  · have hbt : ((T : Int) == q + x) = false := by rw [beq_eq_false_iff_ne]; exact hT
                    have HN : Hid (boC R wd F T = restI R wd x y T 1 tv 70 (3 - 2)) := Lib.hid (by rw [HRf.out]; show restI R wd x y T 1 tv 70 (1 + 1) = _; rw [HX.out, HH.out, hbt, Bool.and_false]; rfl)
                    clear HX HL HH e3 hT
                    go_wp2_with fail
                    refine (HCA.out _ HA4.out).mono ?_
                    rintro e w' ⟨rfl, rfl⟩
                    go_wp2_with fail
                    exact ⟨⟨2, by omega, by omega, by go_num, HN, trivial⟩, by simp [intOf]⟩
              · have HH : Hid (hitI R wd x y T 1 3 = (!(boCell R wd ((x : Int)) ((y : Int) + 2) == 32) && (T : Int) == (((y : Int) + 2) * (wd : Int) + x))) := Lib.hid (by simp [hitI, farI, stX, stY])
                have HL : Hid (telI R wd x y 1 tv 70 3 = (tv == 46 && boCell R wd ((x : Int)) ((y : Int) + 1) == 70)) := Lib.hid (by simp [telI, farI, stX, stY])
                have HX : Hid (restI R wd x y T 1 tv 70 1 = if hitI R wd x y T 1 3 then telI R wd x y 1 tv 70 3 else restI R wd x y T 1 tv 70 0) := Lib.hid rfl
                rw [show ((2 : Nat) : Int) = 2 from rfl]
                obtain ⟨q, hq⟩ : ∃ q : Int, ((y : Int) + 2) * (wd : Int) = q := ⟨_, rfl⟩
                have hqb : -10 ≤ q ∧ q ≤ 130 := by rw [← hq]; exact qb y wd 2 b2 hw1 hw5 (by omega)
                rw [hq] at HH
                have g0 : IntKind.i64.wrap ((x : Int)) = (x : Int) := by rw [IntKind.wrap_i64]; omega
                have g1 : IntKind.i64.wrap ((y : Int) + 2) = (y : Int) + 2 := by rw [IntKind.wrap_i64]; omega
                have g2 : IntKind.i64.wrap q = q := by rw [IntKind.wrap_i64]; omega
                have g3 : IntKind.i64.wrap (q + (x : Int)) = q + x := by rw [IntKind.wrap_i64]; omega
                have g4 : IntKind.i64.wrap (q + (x : Int)) = q + x := by rw [IntKind.wrap_i64]; omega
                have HCA := Lib.hid (HAT.out ((x : Int)) ((y : Int) + 2))
                generalize boCell R wd ((x : Int)) ((y : Int) + 2) = cc at HH HCA
                rcases is_or cc 32 32 rfl with ⟨rfl, hv⟩ | ⟨e3, hv⟩
                · have HN : Hid (boC R wd F T = restI R wd x y T 1 tv 70 (3 - 3)) := Lib.hid (by rw [HRf.out]; show restI R wd x y T 1 tv 70 (0 + 1) = _; rw [HX.out, HH.out]; rfl)
                  clear HX HL HH hv
                  go_wp2_with fail
                  refine (HCA.out _ HA4.out).mono ?_
                  rintro e w' ⟨rfl, rfl⟩
                  go_wp2_with fail
                  exact ⟨⟨3, by omega, by omega, by go_num, HN, trivial⟩, by simp [intOf]⟩
                · by_cases hT : (T : Int) = q + x
                  · have hbt : ((T : Int) == q + x) = true := by rw [beq_iff_eq]; exact hT
                    have HN : Hid (boC R wd F T = telI R wd x y 1 tv 70 3) := Lib.hid (by rw [HRf.out]; show restI R wd x y T 1 tv 70 (0 + 1) = _; rw [HX.out, HH.out, hbt, show (cc == 32) = false from beq_eq_false_iff_ne.2 e3]; rfl)
                    rw [HL.out] at HN
                    clear HX HL HH e3 hT
                    have HCB := Lib.hid (HAT.out ((x : Int)) ((y : Int) + 1))
                    have g5 : IntKind.i64.wrap ((x : Int)) = (x : Int) := by rw [IntKind.wrap_i64]; omega
                    have g6 : IntKind.i64.wrap ((y : Int) + 1) = (y : Int) + 1 := by rw [IntKind.wrap_i64]; omega
                    generalize boCell R wd ((x : Int)) ((y : Int) + 1) = c2 at HN HCB
                    rcases is_or tv 46 46 rfl with ⟨rfl, hv4⟩ | ⟨e4, hv4⟩
                    · rcases is_or c2 70 70 rfl with ⟨rfl, hv5⟩ | ⟨e5, hv5⟩
                      · go_wp2_with fail
                        refine (HCA.out _ HA4.out).mono ?_
                        rintro e w' ⟨rfl, rfl⟩
                        go_wp2_with fail
                        refine (HCB.out _ HA4.out).mono ?_
                        rintro e w' ⟨rfl, rfl⟩
                        go_wp2_with fail
                        go_ret
                        exact ⟨congrArg (fun b => Ending.returned (.bool b)) (HN.out.trans rfl).symm, HB2.out⟩
                      · have HN2 : Hid (boC R wd F T = false) := Lib.hid (by rw [HN.out]; exact beq_eq_false_iff_ne.2 e5)
                        clear HN e5
                        go_wp2_with fail
                        refine (HCA.out _ HA4.out).mono ?_
                        rintro e w' ⟨rfl, rfl⟩
                        go_wp2_with fail
                        refine (HCB.out _ HA4.out).mono ?_
                        rintro e w' ⟨rfl, rfl⟩
                        go_wp2_with fail
                        go_ret
                        exact ⟨congrArg (fun b => Ending.returned (.bool b)) HN2.out.symm, HB2.out⟩
                    · have HN2 : Hid (boC R wd F T = false) := Lib.hid (by rw [HN.out, show (tv == 46) = false from beq_eq_false_iff_ne.2 e4]; rfl)
                      clear HN e4
                      go_wp2_with fail
                      refine (HCA.out _ HA4.out).mono ?_
                      rintro e w' ⟨rfl, rfl⟩
                      go_wp2_with fail
                      go_ret
                      exact ⟨congrArg (fun b => Ending.returned (.bool b)) HN2.out.symm, HB2.out⟩
                  · have hbt : ((T : Int) == q + x) = false := by rw [beq_eq_false_iff_ne]; exact hT
                    have HN : Hid (boC R wd F T = restI R wd x y T 1 tv 70 (3 - 3)) := Lib.hid (by rw [HRf.out]; show restI R wd x y T 1 tv 70 (0 + 1) = _; rw [HX.out, HH.out, hbt, Bool.and_false]; rfl)
                    clear HX HL HH e3 hT
                    go_wp2_with fail
                    refine (HCA.out _ HA4.out).mono ?_
                    rintro e w' ⟨rfl, rfl⟩
                    go_wp2_with fail
                    exact ⟨⟨3, by omega, by omega, by go_num, HN, trivial⟩, by simp [intOf]⟩
              · rw [show ((3 : Nat) : Int) = 3 from rfl]
                go_wp2_with fail
                exact ⟨⟨2, by omega, by go_num, HRf, trivial⟩, by simp [intOf]⟩
          · rw [show ((2 : Nat) : Int) = 2 from rfl]
            go_wp2_with fail
            go_ret
            exact ⟨congrArg (fun b => Ending.returned (.bool b)) (HRs.out.trans rfl).symm, HB2.out⟩
      · rcases is_or c 70 70 rfl with ⟨rfl, hv2⟩ | ⟨e2, hv2⟩
        · have HRk : Hid (boC R wd F T = restI R wd x y T (-1) tv 84 4) := Lib.hid HRc.out
          obtain ⟨W3, rfl⟩ : ∃ W3, W3 = w' := ⟨_, rfl⟩
          go_wp2_with fail
          go_loopw [11, 12, 13, 14] (fun v11 _ _ _ wr => ∃ s : Nat, s ≤ 2 ∧ v11 = .int .i64 s ∧ Hid (boC R wd F T = restI R wd x y T (-1) tv 84 (4 - 2 * s)) ∧ wr = W3) (fun v11 _ _ _ _ => 2 - (intOf v11).toNat)
          case atStart => exact ⟨0, by omega, rfl, HRk, rfl⟩
          case round =>
            obtain ⟨s, hs, rfl, HRs, rfl⟩ := hrel
            have h3 : s = 0 ∨ s = 1 ∨ s = 2 := by omega
            rcases h3 with rfl | rfl | rfl
            · rw [show ((0 : Nat) : Int) = 0 from rfl]
              go_wp2_with fail
              go_loopw [14] (fun v14 wq => ∃ f : Nat, 1 ≤ f ∧ f ≤ 3 ∧ v14 = .int .i64 f ∧ Hid (boC R wd F T = restI R wd x y T (-1) tv 84 (5 - f)) ∧ wq = wr) (fun v14 _ => 3 - (intOf v14).toNat)
              case atStart => exact ⟨1, by omega, by omega, rfl, HRs, rfl⟩
              case round =>
                obtain ⟨f, hf1, hf3, rfl, HRf, rfl⟩ := hrel
                have h3 : f = 1 ∨ f = 2 ∨ f = 3 := by omega
                rcases h3 with rfl | rfl | rfl
                · have HH : Hid (hitI R wd x y T (-1) 0 = (!(boCell R wd ((x : Int) + (-1)) ((y : Int)) == 32) && (T : Int) == (((y : Int)) * (wd : Int) + x + (-1)))) := Lib.hid (by simp [hitI, farI, stX, stY])
                  have HL : Hid (telI R wd x y (-1) tv 84 0 = (tv == 46)) := Lib.hid (by simp [telI, farI, stX, stY])
                  have HX : Hid (restI R wd x y T (-1) tv 84 4 = if hitI R wd x y T (-1) 0 then telI R wd x y (-1) tv 84 0 else restI R wd x y T (-1) tv 84 3) := Lib.hid rfl
                  rw [show ((1 : Nat) : Int) = 1 from rfl]
                  obtain ⟨q, hq⟩ : ∃ q : Int, ((y : Int)) * (wd : Int) = q := ⟨_, rfl⟩
                  have hqb : -10 ≤ q ∧ q ≤ 130 := by rw [← hq]; exact qb0 y wd b2 hw1 hw5
                  rw [hq] at HH
                  have g0 : IntKind.i64.wrap ((x : Int) + (-1)) = (x : Int) + (-1) := by rw [IntKind.wrap_i64]; omega
                  have g1 : IntKind.i64.wrap ((y : Int)) = (y : Int) := by rw [IntKind.wrap_i64]; omega
                  have g2 : IntKind.i64.wrap q = q := by rw [IntKind.wrap_i64]; omega
                  have g3 : IntKind.i64.wrap (q + (x : Int)) = q + x := by rw [IntKind.wrap_i64]; omega
                  have g4 : IntKind.i64.wrap (q + (x : Int) + (-1)) = q + x + (-1) := by rw [IntKind.wrap_i64]; omega
                  have HCA := Lib.hid (HAT.out ((x : Int) + (-1)) ((y : Int)))
                  generalize boCell R wd ((x : Int) + (-1)) ((y : Int)) = cc at HH HCA
                  rcases is_or cc 32 32 rfl with ⟨rfl, hv⟩ | ⟨e3, hv⟩
                  · have HN : Hid (boC R wd F T = restI R wd x y T (-1) tv 84 (5 - 2)) := Lib.hid (by rw [HRf.out]; show restI R wd x y T (-1) tv 84 (3 + 1) = _; rw [HX.out, HH.out]; rfl)
                    clear HX HL HH hv
                    go_wp2_with fail
                    refine (HCA.out _ HA4.out).mono ?_
                    rintro e w' ⟨rfl, rfl⟩
                    go_wp2_with fail
                    exact ⟨⟨2, by omega, by omega, by go_num, HN, trivial⟩, by simp [intOf]⟩
                  · by_cases hT : (T : Int) = q + x + (-1)
                    · have hbt : ((T : Int) == q + x + (-1)) = true := by rw [beq_iff_eq]; exact hT
                      have HN : Hid (boC R wd F T = telI R wd x y (-1) tv 84 0) := Lib.hid (by rw [HRf.out]; show restI R wd x y T (-1) tv 84 (3 + 1) = _; rw [HX.out, HH.out, hbt, show (cc == 32) = false from beq_eq_false_iff_ne.2 e3]; rfl)
                      rw [HL.out] at HN
                      clear HX HL HH e3 hT
                      rcases is_or tv 46 46 rfl with ⟨rfl, hv4⟩ | ⟨e4, hv4⟩
                      · go_wp2_with fail
                        refine (HCA.out _ HA4.out).mono ?_
                        rintro e w' ⟨rfl, rfl⟩
                        go_wp2_with fail
                        go_ret
                        exact ⟨congrArg (fun b => Ending.returned (.bool b)) (HN.out.trans rfl).symm, HB2.out⟩
                      · have HN2 : Hid (boC R wd F T = false) := Lib.hid (by rw [HN.out]; exact beq_eq_false_iff_ne.2 e4)
                        clear HN e4
                        go_wp2_with fail
                        refine (HCA.out _ HA4.out).mono ?_
                        rintro e w' ⟨rfl, rfl⟩
                        go_wp2_with fail
                        go_ret
                        exact ⟨congrArg (fun b => Ending.returned (.bool b)) HN2.out.symm, HB2.out⟩
                    · have hbt : ((T : Int) == q + x + (-1)) = false := by rw [beq_eq_false_iff_ne]; exact hT
                      have HN : Hid (boC R wd F T = restI R wd x y T (-1) tv 84 (5 - 2)) := Lib.hid (by rw [HRf.out]; show restI R wd x y T (-1) tv 84 (3 + 1) = _; rw [HX.out, HH.out, hbt, Bool.and_false]; rfl)
                      clear HX HL HH e3 hT
                      go_wp2_with fail
                      refine (HCA.out _ HA4.out).mono ?_
                      rintro e w' ⟨rfl, rfl⟩
                      go_wp2_with fail
                      exact ⟨⟨2, by omega, by omega, by go_num, HN, trivial⟩, by simp [intOf]⟩
                · have HH : Hid (hitI R wd x y T (-1) 1 = (!(boCell R wd ((x : Int) + (-2)) ((y : Int)) == 32) && (T : Int) == (((y : Int)) * (wd : Int) + x + (-2)))) := Lib.hid (by simp [hitI, farI, stX, stY])
                  have HL : Hid (telI R wd x y (-1) tv 84 1 = (tv == 46 && boCell R wd ((x : Int) + (-1)) ((y : Int)) == 84)) := Lib.hid (by simp [telI, farI, stX, stY])
                  have HX : Hid (restI R wd x y T (-1) tv 84 3 = if hitI R wd x y T (-1) 1 then telI R wd x y (-1) tv 84 1 else restI R wd x y T (-1) tv 84 2) := Lib.hid rfl
                  rw [show ((2 : Nat) : Int) = 2 from rfl]
                  obtain ⟨q, hq⟩ : ∃ q : Int, ((y : Int)) * (wd : Int) = q := ⟨_, rfl⟩
                  have hqb : -10 ≤ q ∧ q ≤ 130 := by rw [← hq]; exact qb0 y wd b2 hw1 hw5
                  rw [hq] at HH
                  have g0 : IntKind.i64.wrap ((x : Int) + (-2)) = (x : Int) + (-2) := by rw [IntKind.wrap_i64]; omega
                  have g1 : IntKind.i64.wrap ((y : Int)) = (y : Int) := by rw [IntKind.wrap_i64]; omega
                  have g2 : IntKind.i64.wrap q = q := by rw [IntKind.wrap_i64]; omega
                  have g3 : IntKind.i64.wrap (q + (x : Int)) = q + x := by rw [IntKind.wrap_i64]; omega
                  have g4 : IntKind.i64.wrap (q + (x : Int) + (-2)) = q + x + (-2) := by rw [IntKind.wrap_i64]; omega
                  have HCA := Lib.hid (HAT.out ((x : Int) + (-2)) ((y : Int)))
                  generalize boCell R wd ((x : Int) + (-2)) ((y : Int)) = cc at HH HCA
                  rcases is_or cc 32 32 rfl with ⟨rfl, hv⟩ | ⟨e3, hv⟩
                  · have HN : Hid (boC R wd F T = restI R wd x y T (-1) tv 84 (5 - 3)) := Lib.hid (by rw [HRf.out]; show restI R wd x y T (-1) tv 84 (2 + 1) = _; rw [HX.out, HH.out]; rfl)
                    clear HX HL HH hv
                    go_wp2_with fail
                    refine (HCA.out _ HA4.out).mono ?_
                    rintro e w' ⟨rfl, rfl⟩
                    go_wp2_with fail
                    exact ⟨⟨3, by omega, by omega, by go_num, HN, trivial⟩, by simp [intOf]⟩
                  · by_cases hT : (T : Int) = q + x + (-2)
                    · have hbt : ((T : Int) == q + x + (-2)) = true := by rw [beq_iff_eq]; exact hT
                      have HN : Hid (boC R wd F T = telI R wd x y (-1) tv 84 1) := Lib.hid (by rw [HRf.out]; show restI R wd x y T (-1) tv 84 (2 + 1) = _; rw [HX.out, HH.out, hbt, show (cc == 32) = false from beq_eq_false_iff_ne.2 e3]; rfl)
                      rw [HL.out] at HN
                      clear HX HL HH e3 hT
                      have HCB := Lib.hid (HAT.out ((x : Int) + (-1)) ((y : Int)))
                      have g5 : IntKind.i64.wrap ((x : Int) + (-1)) = (x : Int) + (-1) := by rw [IntKind.wrap_i64]; omega
                      have g6 : IntKind.i64.wrap ((y : Int)) = (y : Int) := by rw [IntKind.wrap_i64]; omega
                      generalize boCell R wd ((x : Int) + (-1)) ((y : Int)) = c2 at HN HCB
                      rcases is_or tv 46 46 rfl with ⟨rfl, hv4⟩ | ⟨e4, hv4⟩
                      · rcases is_or c2 84 84 rfl with ⟨rfl, hv5⟩ | ⟨e5, hv5⟩
                        · go_wp2_with fail
                          refine (HCA.out _ HA4.out).mono ?_
                          rintro e w' ⟨rfl, rfl⟩
                          go_wp2_with fail
                          refine (HCB.out _ HA4.out).mono ?_
                          rintro e w' ⟨rfl, rfl⟩
                          go_wp2_with fail
                          go_ret
                          exact ⟨congrArg (fun b => Ending.returned (.bool b)) (HN.out.trans rfl).symm, HB2.out⟩
                        · have HN2 : Hid (boC R wd F T = false) := Lib.hid (by rw [HN.out]; exact beq_eq_false_iff_ne.2 e5)
                          clear HN e5
                          go_wp2_with fail
                          refine (HCA.out _ HA4.out).mono ?_
                          rintro e w' ⟨rfl, rfl⟩
                          go_wp2_with fail
                          refine (HCB.out _ HA4.out).mono ?_
                          rintro e w' ⟨rfl, rfl⟩
                          go_wp2_with fail
                          go_ret
                          exact ⟨congrArg (fun b => Ending.returned (.bool b)) HN2.out.symm, HB2.out⟩
                      · have HN2 : Hid (boC R wd F T = false) := Lib.hid (by rw [HN.out, show (tv == 46) = false from beq_eq_false_iff_ne.2 e4]; rfl)
                        clear HN e4
                        go_wp2_with fail
                        refine (HCA.out _ HA4.out).mono ?_
                        rintro e w' ⟨rfl, rfl⟩
                        go_wp2_with fail
                        go_ret
                        exact ⟨congrArg (fun b => Ending.returned (.bool b)) HN2.out.symm, HB2.out⟩
                    · have hbt : ((T : Int) == q + x + (-2)) = false := by rw [beq_eq_false_iff_ne]; exact hT
                      have HN : Hid (boC R wd F T = restI R wd x y T (-1) tv 84 (5 - 3)) := Lib.hid (by rw [HRf.out]; show restI R wd x y T (-1) tv 84 (2 + 1) = _; rw [HX.out, HH.out, hbt, Bool.and_false]; rfl)
                      clear HX HL HH e3 hT
                      go_wp2_with fail
                      refine (HCA.out _ HA4.out).mono ?_
                      rintro e w' ⟨rfl, rfl⟩
                      go_wp2_with fail
                      exact ⟨⟨3, by omega, by omega, by go_num, HN, trivial⟩, by simp [intOf]⟩
                · rw [show ((3 : Nat) : Int) = 3 from rfl]
                  go_wp2_with fail
                  exact ⟨⟨1, by omega, by go_num, HRf, trivial⟩, by simp [intOf]⟩
            · rw [show ((1 : Nat) : Int) = 1 from rfl]
              go_wp2_with fail
              go_loopw [14] (fun v14 wq => ∃ f : Nat, 1 ≤ f ∧ f ≤ 3 ∧ v14 = .int .i64 f ∧ Hid (boC R wd F T = restI R wd x y T (-1) tv 84 (3 - f)) ∧ wq = wr) (fun v14 _ => 3 - (intOf v14).toNat)
              case atStart => exact ⟨1, by omega, by omega, rfl, HRs, rfl⟩
              case round =>
                obtain ⟨f, hf1, hf3, rfl, HRf, rfl⟩ := hrel
                have h3 : f = 1 ∨ f = 2 ∨ f = 3 := by omega
                rcases h3 with rfl | rfl | rfl
                · have HH : Hid (hitI R wd x y T (-1) 2 = (!(boCell R wd ((x : Int)) ((y : Int) + (-1)) == 32) && (T : Int) == (((y : Int) + (-1)) * (wd : Int) + x))) := Lib.hid (by simp [hitI, farI, stX, stY])
                  have HL : Hid (telI R wd x y (-1) tv 84 2 = (tv == 46)) := Lib.hid (by simp [telI, farI, stX, stY])
                  have HX : Hid (restI R wd x y T (-1) tv 84 2 = if hitI R wd x y T (-1) 2 then telI R wd x y (-1) tv 84 2 else restI R wd x y T (-1) tv 84 1) := Lib.hid rfl
                  rw [show ((1 : Nat) : Int) = 1 from rfl]
                  obtain ⟨q, hq⟩ : ∃ q : Int, ((y : Int) + (-1)) * (wd : Int) = q := ⟨_, rfl⟩
                  have hqb : -10 ≤ q ∧ q ≤ 130 := by rw [← hq]; exact qb y wd (-1) b2 hw1 hw5 (by omega)
                  rw [hq] at HH
                  have g0 : IntKind.i64.wrap ((x : Int)) = (x : Int) := by rw [IntKind.wrap_i64]; omega
                  have g1 : IntKind.i64.wrap ((y : Int) + (-1)) = (y : Int) + (-1) := by rw [IntKind.wrap_i64]; omega
                  have g2 : IntKind.i64.wrap q = q := by rw [IntKind.wrap_i64]; omega
                  have g3 : IntKind.i64.wrap (q + (x : Int)) = q + x := by rw [IntKind.wrap_i64]; omega
                  have g4 : IntKind.i64.wrap (q + (x : Int)) = q + x := by rw [IntKind.wrap_i64]; omega
                  have HCA := Lib.hid (HAT.out ((x : Int)) ((y : Int) + (-1)))
                  generalize boCell R wd ((x : Int)) ((y : Int) + (-1)) = cc at HH HCA
                  rcases is_or cc 32 32 rfl with ⟨rfl, hv⟩ | ⟨e3, hv⟩
                  · have HN : Hid (boC R wd F T = restI R wd x y T (-1) tv 84 (3 - 2)) := Lib.hid (by rw [HRf.out]; show restI R wd x y T (-1) tv 84 (1 + 1) = _; rw [HX.out, HH.out]; rfl)
                    clear HX HL HH hv
                    go_wp2_with fail
                    refine (HCA.out _ HA4.out).mono ?_
                    rintro e w' ⟨rfl, rfl⟩
                    go_wp2_with fail
                    exact ⟨⟨2, by omega, by omega, by go_num, HN, trivial⟩, by simp [intOf]⟩
                  · by_cases hT : (T : Int) = q + x
                    · have hbt : ((T : Int) == q + x) = true := by rw [beq_iff_eq]; exact hT
                      have HN : Hid (boC R wd F T = telI R wd x y (-1) tv 84 2) := Lib.hid (by rw [HRf.out]; show restI R wd x y T (-1) tv 84 (1 + 1) = _; rw [HX.out, HH.out, hbt, show (cc == 32) = false from beq_eq_false_iff_ne.2 e3]; rfl)
                      rw [HL.out] at HN
                      clear HX HL HH e3 hT
                      rcases is_or tv 46 46 rfl with ⟨rfl, hv4⟩ | ⟨e4, hv4⟩
                      · go_wp2_with fail
                        refine (HCA.out _ HA4.out).mono ?_
                        rintro e w' ⟨rfl, rfl⟩
                        go_wp2_with fail
                        go_ret
                        exact ⟨congrArg (fun b => Ending.returned (.bool b)) (HN.out.trans rfl).symm, HB2.out⟩
                      · have HN2 : Hid (boC R wd F T = false) := Lib.hid (by rw [HN.out]; exact beq_eq_false_iff_ne.2 e4)
                        clear HN e4
                        go_wp2_with fail
                        refine (HCA.out _ HA4.out).mono ?_
                        rintro e w' ⟨rfl, rfl⟩
                        go_wp2_with fail
                        go_ret
                        exact ⟨congrArg (fun b => Ending.returned (.bool b)) HN2.out.symm, HB2.out⟩
                    · have hbt : ((T : Int) == q + x) = false := by rw [beq_eq_false_iff_ne]; exact hT
                      have HN : Hid (boC R wd F T = restI R wd x y T (-1) tv 84 (3 - 2)) := Lib.hid (by rw [HRf.out]; show restI R wd x y T (-1) tv 84 (1 + 1) = _; rw [HX.out, HH.out, hbt, Bool.and_false]; rfl)
                      clear HX HL HH e3 hT
                      go_wp2_with fail
                      refine (HCA.out _ HA4.out).mono ?_
                      rintro e w' ⟨rfl, rfl⟩
                      go_wp2_with fail
                      exact ⟨⟨2, by omega, by omega, by go_num, HN, trivial⟩, by simp [intOf]⟩
                · have HH : Hid (hitI R wd x y T (-1) 3 = (!(boCell R wd ((x : Int)) ((y : Int) + (-2)) == 32) && (T : Int) == (((y : Int) + (-2)) * (wd : Int) + x))) := Lib.hid (by simp [hitI, farI, stX, stY])
                  have HL : Hid (telI R wd x y (-1) tv 84 3 = (tv == 46 && boCell R wd ((x : Int)) ((y : Int) + (-1)) == 84)) := Lib.hid (by simp [telI, farI, stX, stY])
                  have HX : Hid (restI R wd x y T (-1) tv 84 1 = if hitI R wd x y T (-1) 3 then telI R wd x y (-1) tv 84 3 else restI R wd x y T (-1) tv 84 0) := Lib.hid rfl
                  rw [show ((2 : Nat) : Int) = 2 from rfl]
                  obtain ⟨q, hq⟩ : ∃ q : Int, ((y : Int) + (-2)) * (wd : Int) = q := ⟨_, rfl⟩
                  have hqb : -10 ≤ q ∧ q ≤ 130 := by rw [← hq]; exact qb y wd (-2) b2 hw1 hw5 (by omega)
                  rw [hq] at HH
                  have g0 : IntKind.i64.wrap ((x : Int)) = (x : Int) := by rw [IntKind.wrap_i64]; omega
                  have g1 : IntKind.i64.wrap ((y : Int) + (-2)) = (y : Int) + (-2) := by rw [IntKind.wrap_i64]; omega
                  have g2 : IntKind.i64.wrap q = q := by rw [IntKind.wrap_i64]; omega
                  have g3 : IntKind.i64.wrap (q + (x : Int)) = q + x := by rw [IntKind.wrap_i64]; omega
                  have g4 : IntKind.i64.wrap (q + (x : Int)) = q + x := by rw [IntKind.wrap_i64]; omega
                  have HCA := Lib.hid (HAT.out ((x : Int)) ((y : Int) + (-2)))
                  generalize boCell R wd ((x : Int)) ((y : Int) + (-2)) = cc at HH HCA
                  rcases is_or cc 32 32 rfl with ⟨rfl, hv⟩ | ⟨e3, hv⟩
                  · have HN : Hid (boC R wd F T = restI R wd x y T (-1) tv 84 (3 - 3)) := Lib.hid (by rw [HRf.out]; show restI R wd x y T (-1) tv 84 (0 + 1) = _; rw [HX.out, HH.out]; rfl)
                    clear HX HL HH hv
                    go_wp2_with fail
                    refine (HCA.out _ HA4.out).mono ?_
                    rintro e w' ⟨rfl, rfl⟩
                    go_wp2_with fail
                    exact ⟨⟨3, by omega, by omega, by go_num, HN, trivial⟩, by simp [intOf]⟩
                  · by_cases hT : (T : Int) = q + x
                    · have hbt : ((T : Int) == q + x) = true := by rw [beq_iff_eq]; exact hT
                      have HN : Hid (boC R wd F T = telI R wd x y (-1) tv 84 3) := Lib.hid (by rw [HRf.out]; show restI R wd x y T (-1) tv 84 (0 + 1) = _; rw [HX.out, HH.out, hbt, show (cc == 32) = false from beq_eq_false_iff_ne.2 e3]; rfl)
                      rw [HL.out] at HN
                      clear HX HL HH e3 hT
                      have HCB := Lib.hid (HAT.out ((x : Int)) ((y : Int) + (-1)))
                      have g5 : IntKind.i64.wrap ((x : Int)) = (x : Int) := by rw [IntKind.wrap_i64]; omega
                      have g6 : IntKind.i64.wrap ((y : Int) + (-1)) = (y : Int) + (-1) := by rw [IntKind.wrap_i64]; omega
                      generalize boCell R wd ((x : Int)) ((y : Int) + (-1)) = c2 at HN HCB
                      rcases is_or tv 46 46 rfl with ⟨rfl, hv4⟩ | ⟨e4, hv4⟩
                      · rcases is_or c2 84 84 rfl with ⟨rfl, hv5⟩ | ⟨e5, hv5⟩
                        · go_wp2_with fail
                          refine (HCA.out _ HA4.out).mono ?_
                          rintro e w' ⟨rfl, rfl⟩
                          go_wp2_with fail
                          refine (HCB.out _ HA4.out).mono ?_
                          rintro e w' ⟨rfl, rfl⟩
                          go_wp2_with fail
                          go_ret
                          exact ⟨congrArg (fun b => Ending.returned (.bool b)) (HN.out.trans rfl).symm, HB2.out⟩
                        · have HN2 : Hid (boC R wd F T = false) := Lib.hid (by rw [HN.out]; exact beq_eq_false_iff_ne.2 e5)
                          clear HN e5
                          go_wp2_with fail
                          refine (HCA.out _ HA4.out).mono ?_
                          rintro e w' ⟨rfl, rfl⟩
                          go_wp2_with fail
                          refine (HCB.out _ HA4.out).mono ?_
                          rintro e w' ⟨rfl, rfl⟩
                          go_wp2_with fail
                          go_ret
                          exact ⟨congrArg (fun b => Ending.returned (.bool b)) HN2.out.symm, HB2.out⟩
                      · have HN2 : Hid (boC R wd F T = false) := Lib.hid (by rw [HN.out, show (tv == 46) = false from beq_eq_false_iff_ne.2 e4]; rfl)
                        clear HN e4
                        go_wp2_with fail
                        refine (HCA.out _ HA4.out).mono ?_
                        rintro e w' ⟨rfl, rfl⟩
                        go_wp2_with fail
                        go_ret
                        exact ⟨congrArg (fun b => Ending.returned (.bool b)) HN2.out.symm, HB2.out⟩
                    · have hbt : ((T : Int) == q + x) = false := by rw [beq_eq_false_iff_ne]; exact hT
                      have HN : Hid (boC R wd F T = restI R wd x y T (-1) tv 84 (3 - 3)) := Lib.hid (by rw [HRf.out]; show restI R wd x y T (-1) tv 84 (0 + 1) = _; rw [HX.out, HH.out, hbt, Bool.and_false]; rfl)
                      clear HX HL HH e3 hT
                      go_wp2_with fail
                      refine (HCA.out _ HA4.out).mono ?_
                      rintro e w' ⟨rfl, rfl⟩
                      go_wp2_with fail
                      exact ⟨⟨3, by omega, by omega, by go_num, HN, trivial⟩, by simp [intOf]⟩
                · rw [show ((3 : Nat) : Int) = 3 from rfl]
                  go_wp2_with fail
                  exact ⟨⟨2, by omega, by go_num, HRf, trivial⟩, by simp [intOf]⟩
            · rw [show ((2 : Nat) : Int) = 2 from rfl]
              go_wp2_with fail
              go_ret
              exact ⟨congrArg (fun b => Ending.returned (.bool b)) (HRs.out.trans rfl).symm, HB2.out⟩
        · have HR0 : Hid (boC R wd F T = false) := Lib.hid (by rw [HRc.out]; simp [e1, e2])
          clear HRc e1 e2
          go_wp2_with fail
          go_ret
          exact ⟨congrArg (fun b => Ending.returned (.bool b)) HR0.out.symm, HB2.out⟩
end Go.Proofs.YtoiaklnaecghnabGreatDoor
