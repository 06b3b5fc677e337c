/- Contracts: the program's BoardMoves and IsBoardBlocked. -/
import Derived.Test.YtjnidfleccbdbaaDoorBdMv
namespace Go.Proofs.YtjnidfleccbdbaaDoor
open Go.RowKit

/-- The columns of a board are good rows. -/
theorem cols_goodL {l : List UInt8} (h : goodB l = true) : ∀ r ∈ colsR (spl l) ((spl l).headD []).length, goodL (str r) = true := fun r hr => (((boOk_iff _).1 (cols_good h).1).2 r hr).1
/-- The moves that a text's board answers. -/
def bmT (l : List UInt8) : List (Int × Int) := bmL (spl l) ((spl l).headD []).length (spl l).length
/-- The answer: moves or none. -/
def BmAns (w : World) (c : Bool) (l : List (Int × Int)) (e : Ending) (w' : World) : Prop :=
  ∃ v, e = .returned (.tuple #[v, .bool c]) ∧ w'.ownsRow w.heap.size 46 2 v (if c then l else []).length (flat (if c then l else [])) ∧ Below w.heap.size w w'

set_option maxRecDepth 100000 in
set_option maxHeartbeats 1000000 in
theorem BoardMoves_any (s : ByteArray) (w : World) (hs : s.size ≤ 2000000) :
    Calls Tryd.prog 19 #[.string s] w (BmAns w (goodB (byt s)) (bmT (byt s))) := by
  cases hc : goodB (byt s)
  · have HR := Lib.hid (fun wx => boardOf_no s wx hs hc)
    clear hc
    go_enter Tryd.func19, Tryd.ntmps19
    go_wp2_with fail
    refine (HR.out _).mono ?_
    rintro e w1 ⟨rfl, hb1⟩
    go_wp2
    go_ret2
    exact ⟨_, rfl, ⟨rfl, .inl ⟨rfl, rfl⟩⟩, hb1.alloc hb1.size _⟩
  · have HR := Lib.hid (fun wx => boardOf_yes s wx hs hc)
    obtain ⟨g1, g2, g3, g4, g5⟩ := good_size hc
    obtain ⟨h1, h2⟩ := (boOk_iff _).1 hc
    have HM := Lib.hid (fun g cap wx hcap hg hb => moves_any (spl (byt s)) ((spl (byt s)).headD []).length (spl (byt s)).length (spl (byt s)).flatten.length g cap wx rfl rfl g1 g2 g3 g4 (fun r hr => (h2 r hr).2.2) (fun r hr => (h2 r hr).1) (cols_goodL hc) hcap hg hb)
    unfold bmT
    clear hc h1 h2 g5 g1 g2 g3 g4
    generalize bmL (spl (byt s)) ((spl (byt s)).headD []).length (spl (byt s)).length = M at HM ⊢
    generalize ((spl (byt s)).headD []).length = wd at HR HM
    generalize (spl (byt s)).flatten = F at HR HM
    go_enter Tryd.func19, Tryd.ntmps19
    go_wp2_with fail
    refine (HR.out _).mono ?_
    rintro e w1 ⟨g, cap, rfl, b1, b2, b3, b4, hb1⟩
    have HB4 := Lib.hid b4
    clear b4
    have HMg := Lib.hid (fun wx => HM.out g cap wx b3)
    generalize hfl : F.length = fl at HMg b3 ⊢
    clear HM hfl
    go_wp2_with fail
    obtain ⟨W2, hW2⟩ : ∃ W2, W2 = w1.alloc (Obj.cells #[.int .i64 wd, .slice (some ⟨g, 0, none⟩) fl cap] 73) := ⟨_, rfl⟩
    rw [← hW2]
    have hB2 := hb1.alloc hb1.size (Obj.cells #[.int .i64 wd, .slice (some ⟨g, 0, none⟩) fl cap] 73)
    rw [← hW2] at hB2
    have hBS2 : BsAt W2 g F := by rw [hW2]; exact HB4.out.below b2 ((Below.refl _ _).alloc (Nat.le_refl _) _)
    have hg2 : g < W2.heap.size := by rw [hW2]; simp; omega
    clear hW2 HB4 hb1
    refine (HMg.out W2 hg2 hBS2).mono ?_
    rintro e w3 ⟨v, rfl, o3, hb3⟩
    have O3 := Lib.hid o3
    clear o3
    go_wp2_with fail
    go_ret2
    exact ⟨v, rfl, own_lowerB O3.out hB2.size, hB2.trans (hb3.mono hB2.size)⟩

set_option maxRecDepth 100000 in
set_option maxHeartbeats 1000000 in
theorem IsBoardBlocked_any (s : ByteArray) (w : World) (hs : s.size ≤ 2000000) :
    Calls Tryd.prog 29 #[.string s] w fun e w' => e = .returned (.tuple #[.bool (goodB (byt s) && (bmT (byt s)).length == 0), .bool (goodB (byt s))]) ∧ Below w.heap.size w w' := by
  have HR := Lib.hid (fun wx => BoardMoves_any s wx hs)
  generalize bmT (byt s) = M at HR ⊢
  cases hc : goodB (byt s)
  · rw [hc] at HR
    clear hc
    go_enter Tryd.func29, Tryd.ntmps29
    go_wp2_with fail
    refine (HR.out _).mono ?_
    rintro e w1 ⟨v, rfl, o1, hb1⟩
    clear o1
    go_wp2
    go_ret2
    exact ⟨rfl, hb1⟩
  · rw [hc] at HR
    clear hc
    go_enter Tryd.func29, Tryd.ntmps29
    go_wp2_with fail
    refine (HR.out _).mono ?_
    rintro e w1 ⟨v, rfl, o1, hb1⟩
    have hlen : ∃ p c, v = .slice p M.length c := by
      rcases o1.2 with ⟨hv, h0⟩ | ⟨g1, cap1, cur, rfl, hb, hh, hn, hm, hs, ht⟩
      · exact ⟨none, 0, by rw [hv]; simp at h0; simp [h0]⟩
      · exact ⟨_, _, rfl⟩
    obtain ⟨p, c, rfl⟩ := hlen
    clear o1
    go_wp2_with fail
    go_ret2
    refine ⟨?_, hb1⟩
    rw [Bool.true_and, show (((M.length : Nat) : Int) == 0) = (M.length == 0) from by
      cases M <;> simp <;> omega]
    rfl
end Go.Proofs.YtjnidfleccbdbaaDoor
