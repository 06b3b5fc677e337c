/- Words: the program's IsWord. -/
import Derived.Test.YticdhapbkfbhjaaDoorWoA
import Derived.Test.YticdhapbkfbhjaaDoorShelf
import Derived.Lib.SlTrimSet
import Derived.Shelf.Strings.SlTrimAscii
namespace Go.Proofs.YticdhapbkfbhjaaDoor
open Go.RowKit
theorem dropW_nil (p : UInt8 → Bool) : ∀ l : List UInt8, l.dropWhile p = [] ↔ l.all p = true
  | [] => by simp
  | c :: l => by
    rw [List.dropWhile_cons]
    split
    · rename_i h
      rw [dropW_nil p l, List.all_cons, h, Bool.true_and]
    · rename_i h
      rw [List.all_cons, Bool.eq_false_iff.2 h]
      simp
theorem dropW_sub (p : UInt8 → Bool) : ∀ l : List UInt8, l.all p = true → (l.dropWhile p) = [] := fun l => (dropW_nil p l).2
theorem all_dropW (p : UInt8 → Bool) (l : List UInt8) (h : (l.dropWhile p).all p = true) : l.all p = true := by
  have := (dropW_nil p (l.dropWhile p)).2 h
  rw [← dropW_nil]
  have e : ∀ l : List UInt8, (l.dropWhile p).dropWhile p = l.dropWhile p := by
    intro l
    induction l with
    | nil => rfl
    | cons c l ih =>
      rw [List.dropWhile_cons]
      split
      · exact ih
      · rename_i h
        rw [List.dropWhile_cons, if_neg h]
  rw [← e]; exact this
/-- A text out of the cutset's signs is cut away, no other one. -/
theorem trim_nil (l : List UInt8) : Lib.trimS l [70, 84] = [] ↔ l.all isTF = true := by
  have e : ((fun c => ([70, 84] : List UInt8).contains c) : UInt8 → Bool) = isTF := by
    funext c
    rw [Bool.eq_iff_iff]
    simp only [isTF, List.contains_eq_mem, decide_eq_true_eq, Bool.or_eq_true, beq_iff_eq, List.mem_cons, List.not_mem_nil, or_false]
    exact or_comm
  unfold Lib.trimS Lib.trimLeftS Lib.trimRightS
  rw [e, dropW_nil, List.all_reverse]
  constructor
  · intro h
    have := all_dropW isTF l.reverse h
    rwa [List.all_reverse] at this
  · intro h
    rw [dropW_sub isTF l.reverse (by rwa [List.all_reverse])]
    rfl

theorem Tryd.trimTF (s : ByteArray) (w : World) (hs : s.size ≤ 1000) :
    Calls Tryd.prog 24 #[.string s, .string ⟨#[70, 84]⟩] w fun e w' => e = .returned (.string (str (Lib.trimS (byt s) [70, 84]))) ∧ Below w.heap.size w w' :=
  Any.strings_Trim_laid Tryd.lays160 (by kernel_rfl) s ⟨#[70, 84]⟩ w (by omega) (by decide) (ascii_of_all (by decide))

set_option maxHeartbeats 400000 in
theorem isWord_any (s : ByteArray) (w : World) (_ : s.size ≤ maxLen) :
    Calls Tryd.prog 15 #[.string s] w fun e w' => e = .returned (.bool (wordB s)) ∧ Below w.heap.size w w' := by
  by_cases hb : s.size ≤ 40
  · have hg : Hid (wordB s = decide (Lib.trimS (byt s) [70, 84] = [])) := Lib.hid (by
      rw [Bool.eq_iff_iff, decide_eq_true_iff, trim_nil, wordB_iff]
      simp [hb])
    go_enter Tryd.func15, Tryd.ntmps15
    go_wp2_with fail
    refine (Tryd.trimTF s _ (by omega)).mono ?_
    rintro e w1 ⟨rfl, hb1⟩
    generalize Lib.trimS (byt s) [70, 84] = x at hg
    go_wp2
    go_ret
    refine ⟨congrArg (fun b => Ending.returned (.bool b)) ?_, hb1⟩
    rw [hg.out]
    rw [Lib.toList_data]
    cases x <;> rfl
  · have hg : wordB s = false := by simp [wordB, hb]
    rw [hg]
    go_enter Tryd.func15, Tryd.ntmps15
    go_wp2
    go_ret
    exact ⟨rfl, Below.refl _ _⟩
end Go.Proofs.YticdhapbkfbhjaaDoor
