/- Contracts: plays. -/
import Derived.Test.YtjadnfnpbacfdaaDoorPlay
namespace Go.Proofs.YtjadnfnpbacfdaaDoor
open Go.RowKit

/-- What begins at a block's head lies somewhere. -/
theorem MvAt.into {w : World} {A : Option Addr} {l : List (Int × Int)} (h : MvAt w A l) : MvIn w A l := by
  intro k hk
  obtain ⟨g, a, b, c, d⟩ := h k hk
  exact ⟨g, 0, a, b, by rw [Nat.zero_add]; exact c, by rw [Nat.zero_add]; exact d⟩

/-- The line behind the moves that can be made, and how many they are. -/
def playS (s : ByteArray) : List (Int × Int) → ByteArray × Nat
  | [] => (s, 0)
  | p :: r => if canM s p.1 p.2 then ((playS (str (behind s p.1 p.2)) r).1, (playS (str (behind s p.1 p.2)) r).2 + 1) else (s, 0)
theorem playS_le (s : ByteArray) (l : List (Int × Int)) : (playS s l).2 ≤ l.length := by
  induction l generalizing s with
  | nil => simp [playS]
  | cons p r ih =>
    unfold playS
    split
    · have := ih (str (behind s p.1 p.2)); simp; omega
    · simp
theorem behind_len (s : ByteArray) (f t : Int) : (behind s f t).length = s.size := putL_len _ _ _
theorem playS_step (s : ByteArray) (l : List (Int × Int)) (k : Nat) (h : k < l.length) (hc : canM s l[k].1 l[k].2 = true) :
    playS s (l.drop k) = ((playS (str (behind s l[k].1 l[k].2)) (l.drop (k + 1))).1, (playS (str (behind s l[k].1 l[k].2)) (l.drop (k + 1))).2 + 1) := by
  rw [List.drop_eq_getElem_cons h, playS, if_pos hc]
theorem playS_stop (s : ByteArray) (l : List (Int × Int)) (k : Nat) (h : k < l.length) (hc : canM s l[k].1 l[k].2 = false) : playS s (l.drop k) = (s, 0) := by
  rw [List.drop_eq_getElem_cons h, playS, if_neg (by rw [hc]; decide)]

def PlPost (w : World) (q : ByteArray × Nat) (e : Ending) (w' : World) : Prop := e = .returned (.tuple #[.string q.1, .int .i64 q.2]) ∧ Below w.heap.size w w'

set_option maxRecDepth 100000 in
set_option maxHeartbeats 2000000 in
theorem liPlay_any (s0 : ByteArray) (l : List (Int × Int)) (A : Option Addr) (c : Nat) (w : World) (hat : MvIn w A l) (hl : l.length ≤ 100) (hs : s0.size ≤ 1000) :
    Calls Tryd.prog 55 #[.string s0, .slice A l.length c] w (PlPost w (playS s0 l)) := by
  have HN := Lib.hid hat
  clear hat
  go_enter Tryd.func55, Tryd.ntmps55
  go_wp2
  go_loopw [0, 6, 7, 10] (fun x _ _ i wr => ∃ (k : Nat) (s : ByteArray), k ≤ l.length ∧ i = .int .i64 k ∧ x = .string s ∧ s.size ≤ 1000 ∧ Hid (playS s0 l = ((playS s (l.drop k)).1, (playS s (l.drop k)).2 + k)) ∧ Below w.heap.size w wr) (fun _ _ _ i _ => l.length - (intOf i).toNat)
  case atStart => exact ⟨0, s0, Nat.zero_le _, rfl, rfl, hs, by show _ = _; simp, Below.refl _ _⟩
  case round =>
    obtain ⟨k, s, hk, rfl, rfl, h1, hP, hB⟩ := hrel
    by_cases hlt : k < l.length
    · obtain ⟨g, o, rfl, hg, c0, c1⟩ := (HN.out.below hB) k hlt
      have hstep := Lib.hid (playS_step s l k hlt)
      have hstop := Lib.hid (playS_stop s l k hlt)
      generalize l[k].1 = a at c0 hstep hstop
      generalize l[k].2 = b at c1 hstep hstop
      have i1 : (0 : Int) ≤ (k : Int) := by omega
      have i2 : (k : Int) < (l.length : Int) := by omega
      go_wp2_with fail
      refine (liCan_any s a b _ h1).mono ?_
      rintro e w2 ⟨rfl, hb2⟩
      cases hc : canM s a b
      · have hC := Lib.hid hc
        have hR : Hid (playS s0 l = (s, k)) := by show _ = _; rw [hP.out, hstop.out hC.out]; simp
        have hB2 := (hB.alloc hB.size (mvB a b)).trans (hb2.mono (by have := hB.size; simp; omega))
        clear hc hb2 c0 c1
        go_wp2
        go_ret2
        exact ⟨by rw [hR.out]; rfl, hB2⟩
      · have hC := Lib.hid hc
        obtain ⟨a', b', rfl, rfl, ha, hb', hne⟩ := canM_in hc
        have hB2 := (hB.alloc hB.size (mvB a' b')).trans (hb2.mono (by have := hB.size; simp; omega))
        obtain ⟨hcell, _⟩ := bcell hb2
        have d0 : w2.cell? ⟨wr.heap.size, 0, none⟩ = some (.int .i64 a') := by rw [hcell _ _ (by simp), World.cell?_alloc_new]; rfl
        have d1 : w2.cell? ⟨wr.heap.size, 1, none⟩ = some (.int .i64 b') := by rw [hcell _ _ (by simp), World.cell?_alloc_new]; rfl
        have hlen : (str (behind s a' b')).size ≤ 1000 := by rw [str_size, behind_len]; exact h1
        clear hc hb2 c0 c1 hcell
        go_wp2_with fail
        refine (liMake_any s a' b' _ h1 ha hb' hne).mono ?_
        rintro e w3 ⟨rfl, hb3⟩
        have hB3 := hB2.trans (hb3.mono hB2.size)
        clear hB hB2 hb3 d0 d1
        go_wp2
        go_roundw
        case rel => exact ⟨k + 1, str (behind s a' b'), by omega, by go_num, rfl, hlen, by show _ = _; rw [hP.out, hstep.out hC.out, Nat.add_assoc, Nat.add_comm 1 k], hB3⟩
        case measure => simp [intOf]; omega
    · obtain rfl : k = l.length := by omega
      have hR : Hid (playS s0 l = (s, l.length)) := by show _ = _; rw [hP.out, List.drop_length]; simp [playS]
      go_wp2
      go_ret2
      exact ⟨by rw [hR.out]; rfl, hB⟩

end Go.Proofs.YtjadnfnpbacfdaaDoor
