/- Contracts and the walk: whether moves are an exchange. -/
import Derived.Test.YtjadnfnpbacfdaaDoorSwX
import Derived.Test.YtjadnfnpbacfdaaDoorPlG
import Derived.Test.YtjadnfnpbacfdaaDoorMany
namespace Go.Proofs.YtjadnfnpbacfdaaDoor
open Go.RowKit

/-- The same animals behind a play. -/
theorem playS_cnt (c : UInt8) (l : List (Int × Int)) : ∀ s, cnt c (byt (playS s l).1) = cnt c (byt s) := by
  induction l with
  | nil => intro s; rfl
  | cons p r ih =>
    intro s
    rw [playS]
    split
    · rename_i hc
      show cnt c (byt (playS (str (behind s p.1 p.2)) r).1) = cnt c (byt s)
      rw [ih, byt_str, behind_cnt c hc]
    · rfl
theorem playS_last (s : ByteArray) (l : List (Int × Int)) : lastL (byt (playS s l).1) = lastL (byt s) := by
  unfold lastL
  rw [playS_cnt, playS_cnt, playS_cnt]
/-- The first line of some numbers. -/
def fst3 (t g f : Int) : ByteArray := str (firstL t.toNat g.toNat f.toNat)
def lst3 (t g f : Int) : ByteArray := str (lastL (byt (fst3 t g f)))
theorem fst3_size {t g f : Int} (h : few t g f = true) : (fst3 t g f).size ≤ 8 := by
  have := (few_iff t g f).1 h
  unfold fst3
  rw [str_size, firstL_len]
  omega
theorem fst3_good {t g f : Int} (h : few t g f = true) : goodL (fst3 t g f) = true := by
  have := (few_iff t g f).1 h
  refine (goodL_iff _).2 ⟨?_, ?_, ?_⟩
  · unfold fst3; rw [str_size, firstL_len]; omega
  · unfold fst3; rw [str_size, firstL_len]; omega
  · unfold fst3; rw [byt_str]; exact firstL_all _ _ _
/-- Moves are an exchange. -/
def endsB (t g f : Int) (l : List (Int × Int)) : Bool := (playS (fst3 t g f) l).1.toList == (lst3 t g f).toList
def exB (t g f : Int) (l : List (Int × Int)) : Bool := allB (fst3 t g f) l && endsB t g f l
/-- Few of each, and not too many moves. -/
def askM (t g f : Int) (n : Nat) : Bool := few t g f && decide (n ≤ 100)
theorem askM_no {t g f : Int} {n : Nat} (h : few t g f = false) : askM t g f n = false := by simp [askM, h]
theorem askM_yes {t g f : Int} {n : Nat} (h : few t g f = true) : askM t g f n = decide (n ≤ 100) := by simp [askM, h]

set_option maxHeartbeats 400000 in
theorem swMoves_any (t g f : Int) (A : Option Addr) (n c : Nat) (w : World) (hn : n ≤ 2000000) :
    Calls Tryd.prog 66 #[.int .i64 t, .int .i64 g, .int .i64 f, .slice A n c] w fun e w' => e = .returned (.bool (askM t g f n)) ∧ Below w.heap.size w w' := by
  cases hc : few t g f
  · have hR := Lib.hid (askM_no (n := n) hc)
    have hC := Lib.hid hc
    clear hc
    go_enter Tryd.func66, Tryd.ntmps66
    go_wp2_with fail
    refine (swNumbers_any _ _ _ _).mono ?_
    rintro e w1 ⟨rfl, hb1⟩
    rw [hC.out]
    go_wp2
    go_ret
    exact ⟨congrArg (fun b => Ending.returned (.bool b)) hR.out.symm, hb1⟩
  · have hR : Hid (askM t g f n = decide ((n : Int) ≤ 100)) := by show _ = _; rw [askM_yes hc]; simp; omega
    have hC := Lib.hid hc
    clear hc
    go_enter Tryd.func66, Tryd.ntmps66
    go_wp2_with fail
    refine (swNumbers_any _ _ _ _).mono ?_
    rintro e w1 ⟨rfl, hb1⟩
    rw [hC.out]
    go_wp2
    go_ret
    exact ⟨congrArg (fun b => Ending.returned (.bool b)) hR.out.symm, hb1⟩

set_option maxHeartbeats 1000000 in
theorem swIs_any (t g f : Int) (l : List (Int × Int)) (A : Option Addr) (c : Nat) (w : World) (hf : few t g f = true) (hn : l.length ≤ 100) (hat : MvIn w A l) :
    Calls Tryd.prog 67 #[.int .i64 t, .int .i64 g, .int .i64 f, .slice A l.length c] w fun e w' => e = .returned (.bool (exB t g f l)) ∧ Below w.heap.size w w' := by
  have HA := Lib.hid hat
  have hz := fst3_size hf
  have hle := playS_le (fst3 t g f) l
  have hz2 : (playS (fst3 t g f) l).1.size ≤ 8 := by rw [playS_size]; exact hz
  obtain ⟨⟨_, _⟩, ⟨_, _⟩, ⟨_, _⟩, _, _⟩ := (few_iff t g f).1 hf
  have gF := Lib.hid fun wx => liFirst_any t g f wx (by omega) (by omega) (by omega)
  have gL := Lib.hid fun wx => liLast_any (playS (fst3 t g f) l).1 wx (by omega)
  have hlast := Lib.hid (playS_last (fst3 t g f) l)
  clear hat hf
  cases hb : allB (fst3 t g f) l
  · have hR : Hid (exB t g f l = false) := by show _ = _; simp [exB, hb]
    have hlt : (playS (fst3 t g f) l).2 < l.length := by
      have : (playS (fst3 t g f) l).2 ≠ l.length := by intro e; simp [allB, e] at hb
      omega
    have hne : (((playS (fst3 t g f) l).2 : Int) == (l.length : Int)) = false := by simp; omega
    clear hb
    go_enter Tryd.func67, Tryd.ntmps67
    go_wp2_with fail
    refine (gF.out _).mono ?_
    rintro e w1 ⟨rfl, rfl⟩
    go_wp2_with fail
    refine (liPlay_any (fst3 t g f) _ _ _ _ HA.out hn (by omega)).mono ?_
    rintro e w1 ⟨rfl, hb1⟩
    generalize playS (fst3 t g f) l = q at hR hle hlt hne gL hlast hz2
    go_wp2
    go_ret
    exact ⟨congrArg (fun b => Ending.returned (.bool b)) hR.out.symm, hb1⟩
  · have hR : Hid (exB t g f l = ((playS (fst3 t g f) l).1.toList == (lst3 t g f).toList)) := by show _ = _; simp [exB, hb, endsB]
    have heq : (playS (fst3 t g f) l).2 = l.length := by simpa [allB] using hb
    have hL : Hid (str (lastL (byt (playS (fst3 t g f) l).1)) = lst3 t g f) := by show _ = _; rw [hlast.out]; rfl
    clear hb hlast
    go_enter Tryd.func67, Tryd.ntmps67
    go_wp2_with fail
    refine (gF.out _).mono ?_
    rintro e w1 ⟨rfl, rfl⟩
    go_wp2_with fail
    refine (liPlay_any (fst3 t g f) _ _ _ _ HA.out hn (by omega)).mono ?_
    rintro e w1 ⟨rfl, hb1⟩
    rw [heq]
    clear heq hle
    go_wp2_with fail
    refine (gL.out _).mono ?_
    rintro e w2 ⟨rfl, rfl⟩
    rw [hL.out]
    go_wp2
    go_ret
    exact ⟨congrArg (fun b => Ending.returned (.bool b)) hR.out.symm, hb1⟩

theorem plVal_no {s : ByteArray} {l : List (Int × Int)} (h : allB s l = false) : plVal s l = .tuple #[.string (str []), .bool false] := by simp [plVal, h]
theorem plVal_yes {s : ByteArray} {l : List (Int × Int)} (hg : goodL s = true) (hn : l.length ≤ 100) (h : allB s l = true) : plVal s l = .tuple #[.string (playS s l).1, .bool true] := by simp [plVal, h, askedB, hg, hn]

set_option maxHeartbeats 1000000 in
theorem isExchange_any (t g f : Int) (l : List (Int × Int)) (A : Option Addr) (c : Nat) (w : World) (hn : l.length ≤ 2000000) (hat : MvIn w A l) :
    Calls Tryd.prog 70 #[.int .i64 t, .int .i64 g, .int .i64 f, .slice A l.length c] w fun e w' => e = .returned (boolOr (askM t g f l.length) (exB t g f l)) ∧ Below w.heap.size w w' := by
  have HA := Lib.hid hat
  clear hat
  cases hc : few t g f
  · have hC := Lib.hid hc
    have hR := Lib.hid (boolOr_no (askM t g f l.length) (exB t g f l) (askM_no hc))
    clear hc
    go_enter Tryd.func70, Tryd.ntmps70
    go_wp2_with (go_at_call 86; refine (swapCounts_any _ _ _ _).mono ?_; rintro e w' ⟨rfl, rfl⟩; rw [hC.out])
    go_ret2
    exact ⟨congrArg Ending.returned hR.out.symm, Below.refl _ _⟩
  · have hC := Lib.hid hc
    by_cases h100 : (100 : Int) < (l.length : Int)
    · have hR := Lib.hid (boolOr_no (askM t g f l.length) (exB t g f l) (by rw [askM_yes hc]; simp; omega))
      clear hc
      go_enter Tryd.func70, Tryd.ntmps70
      go_wp2_with (go_at_call 86; refine (swapCounts_any _ _ _ _).mono ?_; rintro e w' ⟨rfl, rfl⟩; rw [hC.out])
      go_ret2
      exact ⟨congrArg Ending.returned hR.out.symm, Below.refl _ _⟩
    · have hl100 : l.length ≤ 100 := by omega
      have hA := Lib.hid (boolOr_yes (askM t g f l.length) (exB t g f l) (by rw [askM_yes hc]; simp; omega))
      have h3 := Lib.hid (few_three hc)
      have hF := Lib.hid (strOr_yes (three t g f) (firstL t.toNat g.toNat f.toNat) h3.out)
      have hG := Lib.hid (fst3_good hc)
      have hz := fst3_size hc
      have hmx : (fst3 t g f).size ≤ maxLen := by unfold maxLen; omega
      have hL := Lib.hid (strOr_yes (goodL (fst3 t g f)) (lastL (byt (fst3 t g f))) hG.out)
      clear hc
      cases hb : allB (fst3 t g f) l
      · have hP := Lib.hid (plVal_no hb)
        have hR : Hid (boolOr (askM t g f l.length) (exB t g f l) = .tuple #[.bool false, .bool true]) := by show _ = _; rw [hA.out]; simp [exB, hb]
        clear hb
        go_enter Tryd.func70, Tryd.ntmps70
        go_wp2_with fail
        refine (swapCounts_any _ _ _ _).mono ?_; rintro e w' ⟨rfl, rfl⟩; rw [hC.out]
        go_wp2_with fail
        refine (firstLine_any _ _ _ _).mono ?_
        rintro e w1 ⟨rfl, hb1⟩
        rw [hF.out]
        have HA1 := Lib.hid (HA.out.below hb1)
        go_wp2_with fail
        refine (lastLine_any (fst3 t g f) _ hmx).mono ?_
        rintro e w2 ⟨rfl, hb2⟩
        rw [hL.out]
        have HA2 := Lib.hid (HA1.out.below hb2)
        have hB2 := hb1.trans (hb2.mono hb1.size)
        clear hb1 hb2 HA1
        go_wp2_with fail
        refine (playMovesN_any (fst3 t g f) l _ _ _ hmx hn HA2.out).mono ?_
        rintro e w3 ⟨rfl, hb3⟩
        rw [hP.out]
        have hB3 := hB2.trans (hb3.mono hB2.size)
        clear hb3 hB2 HA2
        go_wp2
        go_ret2
        exact ⟨congrArg Ending.returned hR.out.symm, hB3⟩
      · have hP := Lib.hid (plVal_yes hG.out hl100 hb)
        have hR : Hid (boolOr (askM t g f l.length) (exB t g f l) = .tuple #[.bool ((playS (fst3 t g f) l).1.toList == (lst3 t g f).toList), .bool true]) := by show _ = _; rw [hA.out]; simp [exB, hb, endsB]
        have hlast : Hid (str (lastL (byt (fst3 t g f))) = lst3 t g f) := by show _ = _; rfl
        clear hb
        go_enter Tryd.func70, Tryd.ntmps70
        go_wp2_with fail
        refine (swapCounts_any _ _ _ _).mono ?_; rintro e w' ⟨rfl, rfl⟩; rw [hC.out]
        go_wp2_with fail
        refine (firstLine_any _ _ _ _).mono ?_
        rintro e w1 ⟨rfl, hb1⟩
        rw [hF.out]
        have HA1 := Lib.hid (HA.out.below hb1)
        go_wp2_with fail
        refine (lastLine_any (fst3 t g f) _ hmx).mono ?_
        rintro e w2 ⟨rfl, hb2⟩
        rw [hL.out, hlast.out]
        have HA2 := Lib.hid (HA1.out.below hb2)
        have hB2 := hb1.trans (hb2.mono hb1.size)
        clear hb1 hb2 HA1
        go_wp2_with fail
        refine (playMovesN_any (fst3 t g f) l _ _ _ hmx hn HA2.out).mono ?_
        rintro e w3 ⟨rfl, hb3⟩
        rw [hP.out]
        have hB3 := hB2.trans (hb3.mono hB2.size)
        clear hb3 hB2 HA2
        generalize lst3 t g f = y at *
        generalize (playS (fst3 t g f) l).1 = x at *
        go_wp2
        go_ret2
        exact ⟨congrArg Ending.returned hR.out.symm, hB3⟩

end Go.Proofs.YtjadnfnpbacfdaaDoor
