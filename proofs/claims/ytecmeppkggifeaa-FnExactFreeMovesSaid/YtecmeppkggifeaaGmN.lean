/- Free moves: both sides, and the law's walk. -/
import Derived.Test.YtecmeppkggifeaaGmM
import Derived.Test.YtecmeppkggifeaaGmW
import Derived.OwnWalk
namespace Go.Proofs.Ytecmeppkggifeaa
open Go.RowKit Go.Maps Go.Shelf
/-- Two counts, or none. -/
def frV (b : Bool) (x y : Int) : Value := if b then .tuple #[.int .i64 x, .int .i64 y, .bool true] else .tuple #[.int .i64 0, .int .i64 0, .bool false]
set_option maxHeartbeats 2000000 in
theorem sFreeMoves_any (wl : List UInt8) (w : World) (hs : (str wl).size ≤ maxLen) :
    Calls Try.prog 45 #[.string (str wl)] w fun e w' => e = .returned (frV (fewB (str wl)) (Fr true wl) (Fr false wl)) ∧ Below w.heap.size w w' := by
  cases hf : fewB (str wl)
  · have HF := Lib.hid hf
    clear hf
    show Calls Try.prog 45 #[.string (str wl)] w fun e w' => e = .returned (.tuple #[.int .i64 0, .int .i64 0, .bool false]) ∧ Below w.heap.size w w'
    go_enter Try.func45, Try.ntmps45
    go_wp2_with (go_at_call 58; refine (gaFew_any _ _ hs).mono ?_; rintro e w' ⟨rfl, rfl⟩; rw [HF.out])
    go_ret3
    exact ⟨rfl, Below.refl _ _⟩
  · have HF := Lib.hid hf
    have hg : goodL (str wl) = true := by unfold fewB at hf; exact (Bool.and_eq_true _ _ ▸ hf).1
    have HT := Lib.hid (fun wx => gaFree_any _ true wl wx rfl hg)
    have HR := Lib.hid (fun wx => gaFree_any _ false wl wx rfl hg)
    generalize Fr true wl = x at HT
    generalize Fr false wl = y at HR
    clear hf hg
    show Calls Try.prog 45 #[.string (str wl)] w fun e w' => e = .returned (.tuple #[.int .i64 x, .int .i64 y, .bool true]) ∧ Below w.heap.size w w'
    go_enter Try.func45, Try.ntmps45
    go_wp2_with (first | (go_at_call 58; refine (gaFew_any _ _ hs).mono ?_; rintro e w' ⟨rfl, rfl⟩; rw [HF.out]))
    refine (HT.out _).mono ?_
    rintro e w1 ⟨rfl, hb1⟩
    go_wp2_with fail
    refine (HR.out _).mono ?_
    rintro e w2 ⟨rfl, hb2⟩
    go_wp2
    go_ret3
    exact ⟨rfl, hb1.trans (hb2.mono hb1.size)⟩
set_option maxRecDepth 100000 in
set_option maxHeartbeats 800000 in
theorem pFreeMoves_any (wl : List UInt8) (w : World) (hs : (str wl).size ≤ maxLen) :
    Calls Try.prog 46 #[.string (str wl)] w fun e w' => e = .returned (frV (fewB (str wl)) (Fr true wl) (Fr false wl)) ∧ Below w.heap.size w w' := by
  cases hf : fewB (str wl)
  · have hsz : ∀ x ∈ [wl], x.length ≤ maxLen := fun x hx => by simp at hx; subst hx; rw [str_size] at hs; exact hs
    have HT := Lib.hid (turnOf_no true [wl] (some ⟨w.heap.size, 0, none⟩) 1 _ (one_slice w wl) hsz (by rw [sumOk_one]; exact hf))
    clear hf
    show Calls Try.prog 46 #[.string (str wl)] w fun e w' => e = .returned (.tuple #[.int .i64 0, .int .i64 0, .bool false]) ∧ Below w.heap.size w w'
    go_enter Try.func46, Try.ntmps46
    go_wp2_with fail
    refine HT.out.mono ?_
    rintro e w1 ⟨rfl, hb1⟩
    go_wp2
    go_ret3
    exact ⟨rfl, (((Below.refl w.heap.size w).alloc (Nat.le_refl _) (.cells #[.string (str wl)] 9)).trans (hb1.mono (by simp))).alloc (by have := hb1.size; simp at this; omega) _⟩
  · have hok : sumOk [wl] = true := by rw [sumOk_one]; exact hf
    have HT := Lib.hid (fun wx => turnOf_yes true [wl] (some ⟨wx.heap.size, 0, none⟩) 1 _ (one_slice wx wl) (by simp) hok)
    have HU := Lib.hid (fun wx => turnOf_yes false [wl] (some ⟨wx.heap.size, 0, none⟩) 1 _ (one_slice wx wl) (by simp) hok)
    have hG := sumOk_sum hok
    have hl100 : wl.length ≤ 100 := by have := ((goodL_iff _).1 (by unfold fewB at hf; exact (Bool.and_eq_true _ _ ▸ hf).1 : goodL (str wl) = true)).2.1; rw [str_size] at this; omega
    have hp : ∀ wx, Calls Try.prog 78 #[.agg #[.string (str wl), .int .u8 (kd true).toNat]] wx fun e W' => e = .returned (.int .i64 (Fr true wl : Int)) ∧ Below wx.heap.size wx W' := fun wx => freeMoves_any true wl wx hl100
    have hq : ∀ wx, Calls Try.prog 78 #[.agg #[.string (str wl), .int .u8 (kd false).toNat]] wx fun e W' => e = .returned (.int .i64 (Fr false wl : Int)) ∧ Below wx.heap.size wx W' := fun wx => freeMoves_any false wl wx hl100
    have hT : ∀ wx : World, Calls Try.prog 62 #[.bool true, .slice (some ⟨wx.heap.size, 0, none⟩) 1 1] (wx.alloc (.cells #[.string (str wl)] 9)) fun e w' => e = .returned (.tuple #[.agg #[.string (str wl), .int .u8 (kd true).toNat], .bool true]) ∧ Below (wx.alloc (.cells #[.string (str wl)] 9)).heap.size (wx.alloc (.cells #[.string (str wl)] 9)) w' := fun wx => HT.out wx
    have hU : ∀ (wx : World) (n : Nat), n = wx.heap.size → Calls Try.prog 62 #[.bool false, .slice (some ⟨n, 0, none⟩) 1 1] (wx.alloc (.cells #[.string (str wl)] 9)) fun e w' => e = .returned (.tuple #[.agg #[.string (str wl), .int .u8 (kd false).toNat], .bool true]) ∧ Below (wx.alloc (.cells #[.string (str wl)] 9)).heap.size (wx.alloc (.cells #[.string (str wl)] 9)) w' := fun wx n e => by subst e; exact HU.out wx
    generalize (Fr true wl : Int) = x at hp ⊢
    generalize (Fr false wl : Int) = y at hq ⊢
    have hkt : ((kd true).toNat : Int) = 84 := rfl
    have hkf : ((kd false).toNat : Int) = 70 := rfl
    rw [hkt] at hp hT
    rw [hkf] at hq hU
    obtain ⟨F, h84, h70⟩ : ∃ F : Int → Int, F 84 = x ∧ F 70 = y := ⟨fun k => if k = 84 then x else y, by simp, by simp⟩
    subst h84
    subst h70
    have hpq : ∀ (k : Int) (_ : k = 84 ∨ k = 70) wx, Calls Try.prog 78 #[.agg #[.string (str wl), .int .u8 k]] wx fun e W' => e = .returned (.int .i64 (F k)) ∧ Below wx.heap.size wx W' := fun k h wx => by
      rcases h with rfl | rfl
      · exact hp wx
      · exact hq wx
    have HPQ := Lib.hid hpq
    clear hpq
    have HTT := Lib.hid hT
    have HUU := Lib.hid hU
    clear hp hq hT hU HT HU hf hok hG hkt hkf hl100
    show Calls Try.prog 46 #[.string (str wl)] w fun e w' => e = .returned (.tuple #[.int .i64 (F 84), .int .i64 (F 70), .bool true]) ∧ Below w.heap.size w w'
    go_enter Try.func46, Try.ntmps46
    go_wp2_with fail
    refine (HTT.out _).mono ?_
    rintro e w1 ⟨rfl, hb1⟩
    have hB1 := Lib.hid (((Below.refl w.heap.size w).alloc (Nat.le_refl _) (.cells #[.string (str wl)] 9)).trans (hb1.mono (by simp)))
    have hz1 : w.heap.size < w1.heap.size := by have := hb1.size; simp at this; omega
    clear hb1
    go_wp2_with fail
    refine (HUU.out _ _ (by simp)).mono ?_
    rintro e w2 ⟨rfl, hb2⟩
    have hz2 : w1.heap.size < w2.heap.size := by have := hb2.size; simp at this; omega
    have a0 : w2.cell? ⟨w1.heap.size, 0, none⟩ = some (.string (str wl)) := by
      rw [hb2.cell (p := ⟨w1.heap.size, 0, none⟩) (by simp; omega), cell_old _ _ _ _ (by simp), World.cell?_alloc_new]; rfl
    have a1 : w2.cell? ⟨w1.heap.size, 1, none⟩ = some (.int .u8 84) := by
      rw [hb2.cell (p := ⟨w1.heap.size, 1, none⟩) (by simp; omega), cell_old _ _ _ _ (by simp), World.cell?_alloc_new]; rfl
    have hB2 := Lib.hid (((hB1.out.alloc (Nat.le_of_lt hz1) (.cells #[.string (str wl), .int .u8 84] 67)).alloc (by simp; omega) (.cells #[.string (str wl)] 9)).trans (hb2.mono (by simp; omega)))
    clear hb2
    go_wp2
    obtain ⟨W3, hW3⟩ : ∃ W3, W3 = w2.alloc (.cells #[.string (str wl), .int .u8 70] 67) := ⟨_, rfl⟩
    have c0 : W3.cell? ⟨w2.heap.size, 0, none⟩ = some (.string (str wl)) := by rw [hW3, World.cell?_alloc_new]; rfl
    have c1 : W3.cell? ⟨w2.heap.size, 1, none⟩ = some (.int .u8 70) := by rw [hW3, World.cell?_alloc_new]; rfl
    have b0 : W3.cell? ⟨w1.heap.size, 0, none⟩ = some (.string (str wl)) := by rw [hW3, cell_old _ _ _ _ (by omega)]; exact a0
    have b1 : W3.cell? ⟨w1.heap.size, 1, none⟩ = some (.int .u8 84) := by rw [hW3, cell_old _ _ _ _ (by omega)]; exact a1
    have hz3 : W3.heap.size = w2.heap.size + 1 := by rw [hW3]; simp
    have HB3 : Hid (Below w.heap.size w W3) := by rw [hW3]; exact Lib.hid (hB2.out.alloc (by omega) _)
    have n1 : w1.heap.size < W3.heap.size := by omega
    have n2 : w2.heap.size < W3.heap.size := by omega
    rw [← hW3]
    clear hW3 a0 a1
    go_region_with (first | (go_at_call 78; refine (HPQ.out _ (by first | exact .inl rfl | exact .inr rfl) _).mono ?_; rintro e w4 ⟨rfl, hb4⟩; have p0 := (hb4.cell (p := ⟨w1.heap.size, 0, none⟩) n1).trans b0; have p1 := (hb4.cell (p := ⟨w1.heap.size, 1, none⟩) n1).trans b1; have p2 := (hb4.cell (p := ⟨w2.heap.size, 0, none⟩) n2).trans c0; have p3 := (hb4.cell (p := ⟨w2.heap.size, 1, none⟩) n2).trans c1) | (go_at_call 78; refine (HPQ.out _ (by first | exact .inl rfl | exact .inr rfl) _).mono ?_; rintro e w5 ⟨rfl, hb5⟩))
    all_goals
      go_wp2
      go_ret3
      have e1 := (Below.drew HB3.out).trans (hb4.mono (by simp; omega))
      have e2 := e1.trans (hb5.mono e1.size)
      exact ⟨rfl, e2⟩
set_option maxHeartbeats 1000000 in
theorem walk_FnExactFreeMoves (s : ByteArray) (hs : s.size ≤ maxLen) (w : World) :
    Calls Try.prog 13 #[.string s] w fun e w' => e = .returned (.bool true) ∧ Below w.heap.size w w' := by
  obtain ⟨wl, hwl⟩ : ∃ wl, s = str wl := ⟨byt s, (str_byt s).symm⟩
  subst hwl
  by_cases hbig : (1048576 : Int) < ((str wl).size : Int)
  · go_enter Try.func13, Try.ntmps13
    go_wp2
    go_ret
    exact ⟨rfl, Below.refl _ _⟩
  · have HS := Lib.hid (fun wx => sFreeMoves_any wl wx hs)
    have HP := Lib.hid (fun wx => pFreeMoves_any wl wx hs)
    generalize (Fr true wl : Int) = x at HS HP
    generalize (Fr false wl : Int) = y at HS HP
    unfold frV at HS HP
    generalize fewB (str wl) = q at HS HP
    cases q
    all_goals
      simp only [if_true, if_false, Bool.false_eq_true] at HS HP
      go_enter Try.func13, Try.ntmps13
      go_wp2_with fail
      refine (HS.out _).mono ?_
      rintro e w1 ⟨rfl, hb1⟩
      go_wp2_with fail
      refine (HP.out _).mono ?_
      rintro e w2 ⟨rfl, hb2⟩
      go_wp2
      go_ret
      exact ⟨rfl, hb1.trans (hb2.mono hb1.size)⟩
end Go.Proofs.Ytecmeppkggifeaa
