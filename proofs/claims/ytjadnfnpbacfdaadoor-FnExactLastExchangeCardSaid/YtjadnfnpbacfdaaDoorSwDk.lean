/- LastExchange: contracts of both sides and the law's walk. -/
import Derived.Test.YtjadnfnpbacfdaaDoorSwIl
import Derived.Test.YtjadnfnpbacfdaaDoorSwG
namespace Go.Proofs.YtjadnfnpbacfdaaDoor
open Go.RowKit

/-- The moves that are answered. -/
def lxL (t g f : Int) : List (Int × Int) := if hasX t g f then movX true t g f else []
def LxAns (t g f : Int) (w : World) (e : Ending) (w' : World) : Prop :=
  ∃ v, e = .returned (.tuple #[v, .bool (hasX t g f)]) ∧ w'.ownsRow w.heap.size 64 2 v (lxL t g f).length (flat (lxL t g f)) ∧ Below w.heap.size w w'
theorem lx_yes {t g f : Int} {w w' : World} {e : Ending} (h : hasX t g f = true) (hp : FxYes (movX true t g f) w e w') : LxAns t g f w e w' := by
  obtain ⟨v, he, ho, hb⟩ := hp
  exact ⟨v, by rw [h]; exact he, by unfold lxL; rw [if_pos h]; exact ho, hb⟩
theorem lx_no {t g f : Int} {w w' : World} {e : Ending} (h : hasX t g f = false) (hp : FxNo w e w') : LxAns t g f w e w' := by
  obtain ⟨he, hb⟩ := hp
  refine ⟨_, by rw [h]; exact he, ?_, hb⟩
  unfold lxL
  rw [if_neg (by rw [h]; decide)]
  exact World.ownsRow_nil _ _ _ _
theorem lastEx_any (t g f : Int) (w : World) : Calls Tryd.prog 20 #[.int .i64 t, .int .i64 g, .int .i64 f] w (LxAns t g f w) := by
  cases h : hasX t g f
  · exact (lastEx_no t g f w h).mono fun e w' hp => lx_no h hp
  · exact (lastEx_yes t g f w h).mono fun e w' hp => lx_yes h hp
set_option maxHeartbeats 4000000 in
theorem sLastEx_any (t g f : Int) (w : World) : Calls Tryd.prog 19 #[.int .i64 t, .int .i64 g, .int .i64 f] w (LxAns t g f w) := by
  have HN := Lib.hid (fun wx => swNumbers_any t g f wx)
  cases hc : few t g f
  · have h : hasX t g f = false := by unfold hasX; rw [hc]; rfl
    have HC := Lib.hid hc
    have HQ := Lib.hid (fun e w' => lx_no (w := w) (w' := w') (e := e) h)
    clear hc h
    go_enter Tryd.func19, Tryd.ntmps19
    go_wp2_with fail
    refine (HN.out _).mono ?_
    rintro e w1 ⟨rfl, hb1⟩
    rw [HC.out]
    have HB := Lib.hid hb1
    clear hb1
    go_wp2_with fail
    go_ret2
    exact HQ.out _ _ ⟨rfl, HB.out⟩
  · have HC := Lib.hid hc
    have HO : Hid (∀ wx, Calls Tryd.prog 45 #[.int .i64 t, .int .i64 g, .int .i64 f, .bool true] wx (LxAns t g f wx)) := Lib.hid fun wx => by
      cases h : hasX t g f
      · refine (swOne_no t g f true wx hc ?_).mono fun e w' hp => lx_no h hp
        unfold hasX at h
        rw [hc] at h
        simpa using h
      · exact (swOne_last t g f wx h).mono fun e w' hp => lx_yes h hp
    clear hc
    go_enter Tryd.func19, Tryd.ntmps19
    go_wp2_with fail
    refine (HN.out _).mono ?_
    rintro e w1 ⟨rfl, hb1⟩
    rw [HC.out]
    have HB := Lib.hid hb1
    clear hb1
    go_wp2_with fail
    refine (HO.out _).mono ?_
    rintro e w2 ⟨v, rfl, ho, hb2⟩
    have HP : Hid (∃ u, u = v ∧ w2.ownsRow w.heap.size 64 2 u (lxL t g f).length (flat (lxL t g f)) ∧ Below w.heap.size w w2) := Lib.hid ⟨v, rfl, own_lowerW ho HB.out.size, HB.out.trans (hb2.mono HB.out.size)⟩
    clear ho hb2
    go_wp2_with fail
    go_ret2
    obtain ⟨u, rfl, h1, h2⟩ := HP.out
    exact ⟨u, rfl, h1, h2⟩
theorem lxL_len (t g f : Int) : (lxL t g f).length ≤ 200 := by
  unfold lxL
  split
  · rename_i h
    have hc : few t g f = true := by unfold hasX at h; rw [Bool.and_eq_true] at h; exact h.1
    have hf := (few_iff t g f).1 hc
    have h1 : wayL (firstL t.toNat g.toNat f.toNat) ≤ 128 := by
      rw [firstL_way]
      have a1 := Nat.mul_le_mul (show t.toNat ≤ 8 by omega) (show g.toNat + f.toNat ≤ 8 by omega)
      have a2 := Nat.mul_le_mul (show f.toNat ≤ 8 by omega) (show t.toNat + g.toNat ≤ 8 by omega)
      omega
    have h2 := exM_len true (msL (firstL t.toNat g.toNat f.toNat)).toNat (firstL t.toNat g.toNat f.toNat)
    have h3 : msL (firstL t.toNat g.toNat f.toNat) = wayL (firstL t.toNat g.toNat f.toNat) - ((pairSt (firstL t.toNat g.toNat f.toNat)).1 : Int) := rfl
    unfold movX
    omega
  · simp
set_option maxRecDepth 100000 in
set_option maxHeartbeats 4000000 in
theorem walk_FnExactLastExchange (t : Int) (_ : (Lit.int .i64 t).wf = true) (g : Int) (_ : (Lit.int .i64 g).wf = true) (f : Int) (_ : (Lit.int .i64 f).wf = true) (w : World) :
    Calls Tryd.prog 4 #[.int .i64 t, .int .i64 g, .int .i64 f] w fun e w' => e = .returned (.bool true) ∧ Below w.heap.size w w' := by
  have HS := Lib.hid (fun wx => sLastEx_any t g f wx)
  have HP := Lib.hid (fun wx => lastEx_any t g f wx)
  have hL := lxL_len t g f
  unfold LxAns at HS HP
  generalize lxL t g f = L at *
  generalize hasX t g f = b at *
  go_enter Tryd.func4, Tryd.ntmps4
  go_wp2_with fail
  refine (HS.out _).mono ?_
  rintro e w2 ⟨v0, rfl, ho2, hb2⟩
  obtain ⟨A0, cap0, rfl, _⟩ := at_of_own ho2
  have L0 : Hid (∀ k, (Value.slice A0 L.length cap0).ownBlock = some k → k < w2.heap.size) := fun k e => (ho2.lt k e).2
  have O0 := Lib.hid ho2
  have hB2 := Lib.hid hb2
  have z2 := hb2.size
  clear ho2 hb2
  go_wp2_with fail
  refine (HP.out _).mono ?_
  rintro e w4 ⟨v4, rfl, ho4, hb4⟩
  obtain ⟨A4, cap4, rfl, _⟩ := at_of_own ho4
  have O4 := Lib.hid ho4
  have O0 := Lib.hid (own_below O0.out hb4)
  have hB4 := Lib.hid (hB2.out.trans (hb4.mono hB2.out.size))
  have z4 := hb4.size
  clear ho4 hb4 hB2
  go_wp2_with fail
  refine (eqMoveS_same L _ _ _ _ _ (at_ownF O4.out) (at_ownF O0.out) (by omega)).mono ?_
  rintro e w9 ⟨rfl, hb9⟩
  have O4 := Lib.hid (own_below O4.out hb9)
  have O0 := Lib.hid (own_below O0.out hb9)
  have hB9 := Lib.hid (hB4.out.trans (hb9.mono hB4.out.size))
  have z9 := hb9.size
  clear hb9 hB4
  have hz2 := hB9.out.size
  go_wp2_with fail
  refine (markMoveS_any L.length 1 w2.heap.size L _ _ rfl O4.out (by omega) (by omega)).mono ?_
  rintro e w10 ⟨rfl, ho10, hb10⟩
  have O4 := Lib.hid ho10
  have O0 : Hid (w10.ownsRow w.heap.size 64 2 (.slice A0 L.length cap0) L.length (flat L)) := by
    refine ⟨O0.out.1, ?_⟩
    rcases O0.out.2 with h2 | ⟨gg, cap, cur, e, hb, hg, r⟩
    · exact .inl h2
    · refine .inr ⟨gg, cap, cur, e, hb, (hb10.block gg ?_).trans hg, r⟩
      have := L0.out gg (by rw [e]; rfl)
      omega
  have hB10 := Lib.hid (hB9.out.trans (hb10.mono (by omega)))
  clear ho10 hb10 hB9
  go_wp2_with fail
  refine (heldMoveS_any L.length 1 w2.heap.size _ _ O4.out (by omega) (by omega)).mono ?_
  rintro e wz ⟨rfl, rfl⟩
  go_wp2_with fail
  refine (HP.out _).mono ?_
  rintro e w12 ⟨v12, rfl, ho12, hb12⟩
  obtain ⟨A12, cap12, rfl, _⟩ := at_of_own ho12
  have AT12 := Lib.hid (at_ownF ho12)
  have O4 := Lib.hid (own_below O4.out hb12)
  have O0 := Lib.hid (own_below O0.out hb12)
  have hB12 := Lib.hid (hB10.out.trans (hb12.mono hB10.out.size))
  clear ho12 hb12 hB10
  go_wp2_with fail
  refine (eqMoveS_same L _ _ _ _ _ AT12.out (at_ownF O0.out) (by omega)).mono ?_
  rintro e w13 ⟨rfl, hb13⟩
  have O4 := Lib.hid (own_below O4.out hb13)
  have hB13 := Lib.hid (hB12.out.trans (hb13.mono hB12.out.size))
  clear hb13 hB12 O0 AT12
  go_wp2_with fail
  refine (heldMoveS_any L.length 1 w2.heap.size _ _ O4.out (by omega) (by omega)).mono ?_
  rintro e wz ⟨rfl, rfl⟩
  go_wp2
  go_ret
  exact ⟨rfl, hB13.out⟩
end Go.Proofs.YtjadnfnpbacfdaaDoor
