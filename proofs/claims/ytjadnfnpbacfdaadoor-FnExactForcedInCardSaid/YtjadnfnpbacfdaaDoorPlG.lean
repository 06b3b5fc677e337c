/- Contracts: moves made one after the other by a function that is handed over (no captured variable). -/
import Derived.Test.YtjadnfnpbacfdaaDoorPlay
import Derived.Test.YtjadnfnpbacfdaaDoorWalkV
namespace Go.Proofs.YtjadnfnpbacfdaaDoor
open Go.RowKit

/-- The line behind the moves that can be made, and how many they are; by any way of making one. -/
def playG (mk : ByteArray → Int → Int → Option ByteArray) : ByteArray → List (Int × Int) → ByteArray × Nat
  | s, [] => (s, 0)
  | s, p :: r => match mk s p.1 p.2 with
    | some s' => ((playG mk s' r).1, (playG mk s' r).2 + 1)
    | none => (s, 0)
theorem playG_le (mk : ByteArray → Int → Int → Option ByteArray) : ∀ (l : List (Int × Int)) (s : ByteArray), (playG mk s l).2 ≤ l.length
  | [], s => Nat.le_refl _
  | p :: r, s => by
    unfold playG
    cases h : mk s p.1 p.2 with
    | none => simp
    | some s' => have := playG_le mk r s'; simp; omega
theorem playG_step (mk : ByteArray → Int → Int → Option ByteArray) (s s' : ByteArray) (l : List (Int × Int)) (k : Nat) (h : k < l.length) (hc : mk s l[k].1 l[k].2 = some s') :
    playG mk s (l.drop k) = ((playG mk s' (l.drop (k + 1))).1, (playG mk s' (l.drop (k + 1))).2 + 1) := by
  rw [List.drop_eq_getElem_cons h, playG, hc]
theorem playG_stop (mk : ByteArray → Int → Int → Option ByteArray) (s : ByteArray) (l : List (Int × Int)) (k : Nat) (h : k < l.length) (hc : mk s l[k].1 l[k].2 = none) : playG mk s (l.drop k) = (s, 0) := by
  rw [List.drop_eq_getElem_cons h, playG, hc]
def mkV (o : Option ByteArray) : Value := match o with
  | some r => .tuple #[.string r, .bool true]
  | none => .tuple #[.string (str []), .bool false]
/-- What the function that makes a move answers, on texts of a kind. -/
structure MkOk (N : FuncId) (mk : ByteArray → Int → Int → Option ByteArray) (Inv : ByteArray → Prop) : Prop where
  enter : ∀ args w, (callFunc N args).run Tryd.prog w = .ok (.enter N args) w
  call : ∀ (s : ByteArray) (f t : Int) (w : World), Inv s → Calls Tryd.prog N #[.string s, .agg #[.int .i64 f, .int .i64 t]] w fun e w' => e = .returned (mkV (mk s f t)) ∧ Below w.heap.size w w'
  keep : ∀ (s r : ByteArray) (f t : Int), Inv s → mk s f t = some r → Inv r

set_option maxRecDepth 100000 in
set_option maxHeartbeats 2000000 in
theorem playOn_fn (N : FuncId) (mk : ByteArray → Int → Int → Option ByteArray) (Inv : ByteArray → Prop) (hmk : MkOk N mk Inv) (s0 : ByteArray) (h0 : Inv s0) (l : List (Int × Int)) (A : Option Addr) (c : Nat) (w : World) (hat : MvIn w A l) (hl : l.length ≤ 1000) :
    Calls Tryd.prog 107 #[.string s0, .slice A l.length c, .func (.func N) #[] #[]] w (PlPost w (playG mk s0 l)) := by
  have HN := Lib.hid hat
  have HI0 := Lib.hid h0
  have he := hmk.enter
  have HMK := Lib.hid hmk
  clear hat h0 hmk
  go_enter Tryd.func107, Tryd.ntmps107
  go_wp2
  go_loopw [0, 8, 9, 10, 11, 14] (fun x _ _ _ _ i wr => ∃ (k : Nat) (s : ByteArray), k ≤ l.length ∧ i = .int .i64 k ∧ x = .string s ∧ Hid (Inv s) ∧ Hid (playG mk s0 l = ((playG mk s (l.drop k)).1, (playG mk s (l.drop k)).2 + k)) ∧ Below w.heap.size w wr) (fun _ _ _ _ _ i _ => l.length - (intOf i).toNat)
  case atStart => exact ⟨0, s0, Nat.zero_le _, rfl, rfl, HI0, by show _ = _; simp, Below.refl _ _⟩
  case round =>
    obtain ⟨k, s, hk, rfl, rfl, HI, hP, hB⟩ := hrel
    by_cases hlt : k < l.length
    · obtain ⟨g, o, rfl, hg, c0, c1⟩ := (HN.out.below hB) k hlt
      have hstep := Lib.hid (fun s' => playG_step mk s s' l k hlt)
      have hstop := Lib.hid (playG_stop mk s l k hlt)
      generalize l[k].1 = a at c0 hstep hstop
      generalize l[k].2 = b at c1 hstep hstop
      have i1 : (0 : Int) ≤ (k : Int) := by omega
      have i2 : (k : Int) < (l.length : Int) := by omega
      have HC := Lib.hid (fun wx => HMK.out.call s a b wx HI.out)
      have HK := Lib.hid (fun r => HMK.out.keep s r a b HI.out)
      go_wp2_with fail
      refine (HC.out _).mono ?_
      rintro e w2 ⟨rfl, hb2⟩
      have hB2 := (hB.alloc hB.size (Obj.cells #[Value.int .i64 a, Value.int .i64 b] 64)).trans (hb2.mono (by have := hB.size; simp; omega))
      cases hc : mk s a b with
      | none =>
        have hR : Hid (playG mk s0 l = (s, k)) := by show _ = _; rw [hP.out, hstop.out hc]; simp
        clear hc hb2 c0 c1
        rw [show mkV none = .tuple #[.string (str []), .bool false] from rfl]
        go_wp2
        go_ret2
        exact ⟨by rw [hR.out]; rfl, hB2⟩
      | some r =>
        have HI2 := Lib.hid (HK.out r hc)
        have hR : Hid (playG mk s0 l = ((playG mk r (l.drop (k + 1))).1, (playG mk r (l.drop (k + 1))).2 + (k + 1))) := by
          show _ = _
          rw [hP.out, hstep.out r hc, Nat.add_assoc, Nat.add_comm 1 k]
        clear hc hb2 c0 c1
        rw [show mkV (some r) = .tuple #[.string r, .bool true] from rfl]
        go_wp2
        go_roundw
        case rel => exact ⟨k + 1, r, by omega, by go_num, rfl, HI2, hR, hB2⟩
        case measure => simp [intOf]; omega
    · obtain rfl : k = l.length := by omega
      have hR : Hid (playG mk s0 l = (s, l.length)) := by show _ = _; rw [hP.out, List.drop_length]; simp [playG]
      go_wp2
      go_ret2
      exact ⟨by rw [hR.out]; rfl, hB⟩

/-- The line behind all moves, or none. -/
def allG (mk : ByteArray → Int → Int → Option ByteArray) (s : ByteArray) (l : List (Int × Int)) : Option ByteArray := if (playG mk s l).2 = l.length then some (playG mk s l).1 else none

set_option maxHeartbeats 1000000 in
theorem playAll_fn (N : FuncId) (mk : ByteArray → Int → Int → Option ByteArray) (Inv : ByteArray → Prop) (hmk : MkOk N mk Inv) (s0 : ByteArray) (h0 : Inv s0) (l : List (Int × Int)) (A : Option Addr) (c : Nat) (w : World) (hat : MvIn w A l) (hl : l.length ≤ 1000) :
    Calls Tryd.prog 81 #[.string s0, .slice A l.length c, .func (.func N) #[] #[]] w fun e w' => e = .returned (mkV (allG mk s0 l)) ∧ Below w.heap.size w w' := by
  have HC := Lib.hid (playOn_fn N mk Inv hmk s0 h0 l A c w hat hl)
  have hle := playG_le mk l s0
  clear hmk h0 hat
  by_cases he : (playG mk s0 l).2 = l.length
  · have hR : Hid (mkV (allG mk s0 l) = .tuple #[.string (playG mk s0 l).1, .bool true]) := Lib.hid (by unfold allG; rw [if_pos he]; rfl)
    have hlt : ¬ ((playG mk s0 l).2 : Int) < (l.length : Int) := by omega
    clear he
    go_enter Tryd.func81, Tryd.ntmps81
    go_wp2_with fail
    refine HC.out.mono ?_
    rintro e w1 ⟨rfl, hb1⟩
    generalize playG mk s0 l = q at hR hle hlt
    go_wp2
    go_ret2
    exact ⟨by rw [hR.out]; rfl, hb1⟩
  · have hR : Hid (mkV (allG mk s0 l) = .tuple #[.string (str []), .bool false]) := Lib.hid (by unfold allG; rw [if_neg he]; rfl)
    have hlt : ((playG mk s0 l).2 : Int) < (l.length : Int) := by omega
    clear he
    go_enter Tryd.func81, Tryd.ntmps81
    go_wp2_with fail
    refine HC.out.mono ?_
    rintro e w1 ⟨rfl, hb1⟩
    generalize playG mk s0 l = q at hR hle hlt
    go_wp2
    go_ret2
    exact ⟨by rw [hR.out]; rfl, hb1⟩
end Go.Proofs.YtjadnfnpbacfdaaDoor
namespace Go.Proofs.YtjadnfnpbacfdaaDoor
open Go.RowKit

def mkL (s : ByteArray) (f t : Int) : Option ByteArray := if goodL s && canM s f t then some (str (behind s f t)) else none
theorem mkL_mk (s : ByteArray) (f t : Int) : mkV (mkL s f t) = strOr (goodL s && canM s f t) (behind s f t) := by
  unfold mkL strOr
  split <;> rfl
theorem mkL_ok : MkOk 98 mkL (fun s => s.size ≤ maxLen) where
  enter := fun args w => enters_of Tryd.func98 (by kernel_rfl) rfl args w
  call := fun s f t w hs => by
    rw [mkL_mk]
    exact makeMove_any s f t w hs
  keep := fun s r f t hs h => by
    unfold mkL at h
    split at h
    · injection h with h
      rw [← h, str_size, behind_len]
      exact hs
    · cases h
theorem playG_L : ∀ (l : List (Int × Int)) (s : ByteArray), goodL s = true → playG mkL s l = playS s l
  | [], s, _ => rfl
  | p :: r, s, hg => by
    cases hc : canM s p.1 p.2
    · have e : mkL s p.1 p.2 = none := by unfold mkL; rw [hg, hc]; rfl
      unfold playG playS
      rw [e, hc]
      rfl
    · have e : mkL s p.1 p.2 = some (str (behind s p.1 p.2)) := by unfold mkL; rw [hg, hc]; rfl
      unfold playG playS
      rw [e, hc]
      simp only [if_true]
      rw [playG_L r _ (behind_good hg hc)]

theorem allG_L (s : ByteArray) (l : List (Int × Int)) (h : askedB s l.length = true) : mkV (allG mkL s l) = plVal s l := by
  have hg : goodL s = true := by simp [askedB] at h; exact h.1
  unfold allG plVal allB
  rw [playG_L l s hg, h, Bool.true_and]
  by_cases e : (playS s l).2 = l.length
  · rw [if_pos e, if_pos (by simpa using e)]; rfl
  · rw [if_neg e, if_neg (by simpa using e)]; rfl

set_option maxHeartbeats 1000000 in
theorem playMovesN_any (s : ByteArray) (l : List (Int × Int)) (A : Option Addr) (c : Nat) (w : World) (hs : s.size ≤ maxLen) (hn : l.length ≤ 2000000) (hat : MvIn w A l) :
    Calls Tryd.prog 57 #[.string s, .slice A l.length c] w fun e w' => e = .returned (plVal s l) ∧ Below w.heap.size w w' := by
  have HA := Lib.hid hat
  clear hat
  cases hc : askedB s l.length
  · have hR : Hid (plVal s l = .tuple #[.string (str []), .bool false]) := by show _ = _; simp [plVal, hc]
    have hC := Lib.hid hc
    clear hc
    go_enter Tryd.func57, Tryd.ntmps57
    go_wp2_with (go_at_call 97; refine (canPlayOn_any _ _ _ _ _ hs hn).mono ?_; rintro e w' ⟨rfl, rfl⟩; rw [hC.out])
    go_ret2
    exact ⟨congrArg Ending.returned hR.out.symm, Below.refl _ _⟩
  · obtain ⟨h1, h100⟩ := asked_in hc
    have HQ := Lib.hid (allG_L s l hc)
    obtain ⟨x, y, hxy⟩ : ∃ (x : ByteArray) (y : Bool), plVal s l = .tuple #[.string x, .bool y] := by
      unfold plVal
      split
      · exact ⟨_, _, rfl⟩
      · exact ⟨_, _, rfl⟩
    have HXY := Lib.hid hxy
    have hC := Lib.hid hc
    clear hc hxy
    go_enter Tryd.func57, Tryd.ntmps57
    go_wp2_with fail
    refine (canPlayOn_any _ _ _ _ _ hs hn).mono ?_; rintro e w' ⟨rfl, rfl⟩; rw [hC.out]
    go_wp2_with fail
    refine (playAll_fn _ mkL _ mkL_ok s hs l A c _ HA.out (by omega)).mono ?_
    rintro e w1 ⟨rfl, hb1⟩
    rw [HQ.out, HXY.out]
    go_wp2
    go_ret2
    exact ⟨by rw [HXY.out]; rfl, hb1⟩
end Go.Proofs.YtjadnfnpbacfdaaDoor
namespace Go.Proofs.YtjadnfnpbacfdaaDoor
open Go.RowKit

end Go.Proofs.YtjadnfnpbacfdaaDoor
