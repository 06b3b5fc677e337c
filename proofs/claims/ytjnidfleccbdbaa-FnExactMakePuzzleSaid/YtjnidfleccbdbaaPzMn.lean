/- The law's walk: FnExactMakePuzzle. -/
import Derived.Test.YtjnidfleccbdbaaPzMm
namespace Go.Proofs.Ytjnidfleccbdbaa
open Go.RowKit

set_option maxRecDepth 100000 in
set_option maxHeartbeats 4000000 in
theorem core_FnExactMakePuzzle (a0 : ByteArray) (a1 : Int) (a2 : Int) (w : World) (b : Bool) (N : Int) (L : List Cl) (hsm : a0.size ≤ 1048576) (hL : L.length ≤ 1000)
    (HS : Hid (∀ wx, Calls Try.prog 13 #[.string a0, .int .i64 a1, .int .i64 a2] wx (PzAnsL wx b N L)))
    (HM : Hid (∀ wx, Calls Try.prog 14 #[.string a0, .int .i64 a1, .int .i64 a2] wx (PzAnsL wx b N L))) :
    Calls Try.prog 4 #[.string a0, .int .i64 a1, .int .i64 a2] w fun e w' => e = .returned (.bool true) ∧ Below w.heap.size w w' := by
  have hpos : ¬ ((1048576 : Int) < (a0.size : Int)) := by omega
  have HE := Lib.hid (fun (n : Int) (l : List Cl) (A B : Option Addr) (c d : Nat) wx (h : ClIn wx A l) (h' : ClIn wx B l) (hl : l.length ≤ 2000000) => eqPuzzle_same n l A B c d wx h h' hl)
  have p2 : ¬ ((1 : Int) + 3 * (L.length : Int) < 0) := by omega
  go_enter Try.func4, Try.ntmps4
  go_wp2_with fail
  refine (HS.out _).mono ?_
  rintro e w3 ⟨A3, c3, rfl, o3, hb3⟩
  have BW3 := Lib.hid (BoxAt.start w3 N (.slice A3 L.length c3))
  have RW3 := Lib.hid (o3.alloc (Obj.cells #[.int .i64 N, .slice A3 L.length c3] 30))
  have lw := Lib.hid (fun j (hj : (Value.slice A3 L.length c3).ownBlock = some j) => (o3.lt j hj).2)
  have hba : Below w3.heap.size w3 (w3.alloc (Obj.cells #[.int .i64 N, .slice A3 L.length c3] 30)) := (Below.refl _ _).alloc (Nat.le_refl _) _
  have T3 := Lib.hid (hb3.trans (hba.mono hb3.size))
  have s3 : w.heap.size ≤ w3.heap.size := hb3.size
  clear hba o3 hb3
  go_wp2_with fail
  refine (HM.out _).mono ?_
  rintro e w5 ⟨A5, c5, rfl, o5, hb5⟩
  have T5 := Lib.hid (T3.out.trans (hb5.mono T3.out.size))
  have BW5 := Lib.hid (BW3.out.step hb5)
  have RW5 := Lib.hid (own_below RW3.out hb5)
  have lg := Lib.hid (fun j (hj : (Value.slice A5 L.length c5).ownBlock = some j) => o5.lt j hj)
  have sz5 := hb5.size
  have s35 : w3.heap.size + 1 ≤ w5.heap.size := by simpa using sz5
  clear T3 BW3 RW3
  have BG5 := Lib.hid (BoxAt.start w5 N (.slice A5 L.length c5))
  have hba : Below w5.heap.size w5 (w5.alloc (Obj.cells #[.int .i64 N, .slice A5 L.length c5] 30)) := (Below.refl _ _).alloc (Nat.le_refl _) _
  have RG5 := Lib.hid (own_below o5 hba)
  have T5a := Lib.hid (T5.out.trans (hba.mono T5.out.size))
  have BW5a := Lib.hid (BW5.out.step hba)
  have RW5a := Lib.hid (own_below RW5.out hba)
  clear T5 BW5 RW5 hba o5 hb5
  have g0 := BG5.out.c0
  have g1 := BG5.out.c1
  have e0 := BW5a.out.c0
  have e1 := BW5a.out.c1
  go_wp2_with fail
  refine (HE.out N L A5 A3 c5 c3 _ (own_inA RG5.out) (own_inA RW5a.out) (by omega)).mono ?_
  rintro e w6 ⟨rfl, hb6⟩
  clear g0 g1 e0 e1
  have T6 := Lib.hid (T5a.out.trans (hb6.mono T5a.out.size))
  have BW6 := Lib.hid (BW5a.out.step hb6)
  have RW6 := Lib.hid (own_below RW5a.out hb6)
  have BG6 := Lib.hid (BG5.out.step hb6)
  have RG6 := Lib.hid (own_below RG5.out hb6)
  clear T5a BW5a RW5a BG5 RG5
  clear hb6
  have g0 := BG6.out.c0
  have g1 := BG6.out.c1
  have HMK := Lib.hid (fun wx b (h : wx.ownsRow b 34 3 (.slice A5 L.length c5) L.length (flat3 L)) (hb : b ≤ wx.heap.size) => markPuzzle_far N L.length 1 b L (.slice A5 L.length c5) wx rfl h (by omega) (by omega) hb)
  go_wp2_with fail
  refine (HMK.out _ _ RG6.out (Nat.le_trans sz5 (Nat.le_of_lt BG6.out.lt))).mono ?_
  rintro e w11 ⟨rfl, o11, hb11, hf11⟩
  clear g0 g1 HMK
  have T11 := Lib.hid (T6.out.trans (hb11.mono (by simp; omega)))
  have BW11 := Lib.hid (BW6.out.mark hf11 (fun e => by have := lg.out _ e.symm; first | omega | (simp at this; omega)))
  have BG11 := Lib.hid (BG6.out.mark hf11 (fun e => by have := lg.out _ e.symm; first | omega | (simp at this; omega)))
  have RW11 := Lib.hid (own_farB RW6.out hf11 (fun j hj e => by have := lw.out j hj; have := (lg.out j e.symm).1; first | omega | (simp at this; omega)))
  have RG11 := Lib.hid o11
  clear T6 BW6 RW6 BG6 RG6 o11 hb11 hf11
  have g0 := BG11.out.c0
  have g1 := BG11.out.c1
  go_wp2_with fail
  refine (heldPuzzle_any N L.length 1 _ (.slice A5 L.length c5) _ RG11.out hL (by omega)).mono ?_
  rintro e w12 ⟨rfl, hb12⟩
  clear g0 g1
  have T12 := Lib.hid (T11.out.trans (hb12.mono T11.out.size))
  have BW12 := Lib.hid (BW11.out.step hb12)
  have RW12 := Lib.hid (own_below RW11.out hb12)
  have BG12 := Lib.hid (BG11.out.step hb12)
  have RG12 := Lib.hid (own_below RG11.out hb12)
  clear T11 BW11 RW11 BG11 RG11
  clear hb12
  go_wp2_with fail
  refine (HM.out _).mono ?_
  rintro e w14 ⟨A14, c14, rfl, o14, hb14⟩
  have T14 := Lib.hid (T12.out.trans (hb14.mono T12.out.size))
  have BW14 := Lib.hid (BW12.out.step hb14)
  have RW14 := Lib.hid (own_below RW12.out hb14)
  have BG14 := Lib.hid (BG12.out.step hb14)
  have RG14 := Lib.hid (own_below RG12.out hb14)
  clear T12 BW12 RW12 BG12 RG12
  have hba : Below w14.heap.size w14 (w14.alloc (Obj.cells #[.int .i64 N, .slice A14 L.length c14] 30)) := (Below.refl _ _).alloc (Nat.le_refl _) _
  have IH := Lib.hid (own_inA (own_below o14 hba))
  have T14a := Lib.hid (T14.out.trans (hba.mono T14.out.size))
  have BW14a := Lib.hid (BW14.out.step hba)
  have RW14a := Lib.hid (own_below RW14.out hba)
  have BG14a := Lib.hid (BG14.out.step hba)
  have RG14a := Lib.hid (own_below RG14.out hba)
  clear T14 BW14 RW14 BG14 RG14
  clear hba hb14 o14
  have e0 := BW14a.out.c0
  have e1 := BW14a.out.c1
  go_wp2_with fail
  refine (HE.out N L A14 A3 c14 c3 _ IH.out (own_inA RW14a.out) (by omega)).mono ?_
  rintro e w15 ⟨rfl, hb15⟩
  clear e0 e1 IH
  have T15 := Lib.hid (T14a.out.trans (hb15.mono T14a.out.size))
  have BW15 := Lib.hid (BW14a.out.step hb15)
  have RW15 := Lib.hid (own_below RW14a.out hb15)
  have BG15 := Lib.hid (BG14a.out.step hb15)
  have RG15 := Lib.hid (own_below RG14a.out hb15)
  clear T14a BW14a RW14a BG14a RG14a
  clear hb15
  have g0 := BG15.out.c0
  have g1 := BG15.out.c1
  go_wp2_with fail
  refine (heldPuzzle_any N L.length 1 _ (.slice A5 L.length c5) _ RG15.out hL (by omega)).mono ?_
  rintro e w16 ⟨rfl, hb16⟩
  clear g0 g1
  have T16 := Lib.hid (T15.out.trans (hb16.mono T15.out.size))
  have BW16 := Lib.hid (BW15.out.step hb16)
  have RW16 := Lib.hid (own_below RW15.out hb16)
  have BG16 := Lib.hid (BG15.out.step hb16)
  have RG16 := Lib.hid (own_below RG15.out hb16)
  clear T15 BW15 RW15 BG15 RG15
  clear hb16
  go_wp2_with fail
  go_ret
  exact ⟨rfl, T16.out⟩

set_option maxRecDepth 100000 in
set_option maxHeartbeats 1000000 in
theorem walk_FnExactMakePuzzle (s : ByteArray) (hs : s.size ≤ maxLen) (k : Int) (_ : (Lit.int .i64 k).wf = true) (z : Int) (_ : (Lit.int .i64 z).wf = true) (w : World) :
    Calls Try.prog 4 #[.string s, .int .i64 k, .int .i64 z] w fun e w' => e = .returned (.bool true) ∧ Below w.heap.size w w' := by
  by_cases hbig : s.size ≤ 1048576
  · obtain ⟨l, rfl⟩ : ∃ l, s = str l := ⟨byt s, (str_byt s).symm⟩
    have hl : l.length ≤ maxLen := by rw [← str_size l]; exact hs
    have hS : ∀ wx, Calls Try.prog 13 #[.string (str l), .int .i64 k, .int .i64 z] wx (PzAns wx (mkOk l k z) l.length (mkLs l k.toNat z)) := fun wx => sMakePuzzle_any l k z wx hl
    have hM : ∀ wx, Calls Try.prog 14 #[.string (str l), .int .i64 k, .int .i64 z] wx (PzAns wx (mkOk l k z) l.length (mkLs l k.toNat z)) := fun wx => MakePuzzle_any l k z wx hl
    have hfew : mkOk l k z = true → (mkLs l k.toNat z).length ≤ 1000 := by
      intro h
      rw [mkLs_len]
      unfold mkOk inR at h
      simp only [Bool.and_eq_true, decide_eq_true_eq] at h
      omega
    generalize mkOk l k z = b at hS hM hfew
    generalize mkLs l k.toNat z = L at hS hM hfew
    exact core_FnExactMakePuzzle (str l) k z w b _ _ hbig (by cases b <;> simp_all) (Lib.hid fun wx => (hS wx).mono fun _ _ h => h.slice) (Lib.hid fun wx => (hM wx).mono fun _ _ h => h.slice)
  · have h1 : (1048576 : Int) < (s.size : Int) := by omega
    clear hbig hs
    go_enter Try.func4, Try.ntmps4
    go_wp2
    go_ret
    exact ⟨rfl, Below.refl _ _⟩
end Go.Proofs.Ytjnidfleccbdbaa
