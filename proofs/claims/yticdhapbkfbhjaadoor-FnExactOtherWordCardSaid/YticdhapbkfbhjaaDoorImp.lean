/- Contracts: the program's functions on lines. -/
import Derived.Test.YticdhapbkfbhjaaDoorStrC
import Derived.Test.YticdhapbkfbhjaaDoorShelf
import Derived.Lib.Repeat
namespace Go.Proofs.YticdhapbkfbhjaaDoor
open Go.RowKit

theorem results_tmp4 {fn : Func} {t u v x : Tmp} (h : fn.results = #[.tmp t, .tmp u, .tmp v, .tmp x]) (tmps : Array Value) (P : Program) (w : World) :
    (results fn tmps).run P w = .ok (.tuple #[tmps.getD t undef, tmps.getD u undef, tmps.getD v undef, tmps.getD x undef]) w := by
  unfold results
  simp [h, go_sem]

/-- Where '.FT' has a byte. -/
theorem index_signs (c : UInt8) : Lib.indexByte (⟨#[46, 70, 84]⟩ : ByteArray).data.toList ((c.toNat : Int)).toNat.toUInt8 = if c = 46 then 0 else if c = 70 then 1 else if c = 84 then 2 else -1 := by
  have e : ((c.toNat : Int)).toNat.toUInt8 = c := by simp
  rw [e]
  by_cases h1 : c = 46
  · subst h1; rfl
  · by_cases h2 : c = 70
    · subst h2; rfl
    · by_cases h3 : c = 84
      · subst h3; rfl
      · simp [Lib.indexByte, h1, h2, h3, Ne.symm h1, Ne.symm h2, Ne.symm h3]

theorem rep_eq (c : UInt8) (n : Nat) : (⟨(Lib.repeatL (⟨#[c]⟩ : ByteArray).data.toList n).toArray⟩ : ByteArray) = str (List.replicate n c) := by
  have h := Lib.repeatL_replicate c 1 n
  simp only [List.replicate_one, Nat.mul_one] at h
  show (⟨(Lib.repeatL [c] n).toArray⟩ : ByteArray) = _
  rw [h]
  rfl

theorem repeat_any (c : UInt8) (n : Int) (w : World) (h0 : 0 ≤ n) (hn : n ≤ 1000) :
    Calls Tryd.prog 13 #[.string ⟨#[c]⟩, .int .i64 n] w fun e w' => e = .returned (.string (str (List.replicate n.toNat c))) ∧ Below w.heap.size w w' := by
  obtain ⟨k, rfl⟩ := Int.eq_ofNat_of_zero_le h0
  refine (Tryd.strings_Repeat ⟨#[c]⟩ k w (by omega) (by show 1 * k ≤ _; omega)).mono ?_
  rintro e w' ⟨rfl, hb⟩
  refine ⟨?_, hb⟩
  rw [rep_eq]
  rfl

set_option maxHeartbeats 400000 in
theorem index_any (c : UInt8) (w : World) :
    Calls Tryd.prog 47 #[.string ⟨#[46, 70, 84]⟩, .int .u8 c.toNat] w fun e w' => e = .returned (.int .i64 (if c = 46 then 0 else if c = 70 then 1 else if c = 84 then 2 else -1)) ∧ w = w' := by
  refine (Tryd.strings_IndexByte ⟨#[46, 70, 84]⟩ c.toNat w).mono ?_
  rintro e w' ⟨rfl, rfl⟩
  rw [index_signs]
  exact ⟨rfl, rfl⟩

/-- The index of a sign, as the program's own order has it. -/
def sgIx (c : UInt8) : Int := if c = 46 then 0 else if c = 70 then 1 else if c = 84 then 2 else -1

theorem index_any' (c : UInt8) (w : World) :
    Calls Tryd.prog 47 #[.string ⟨#[46, 70, 84]⟩, .int .u8 c.toNat] w fun e w' => e = .returned (.int .i64 (sgIx c)) ∧ w = w' := index_any c w

theorem sgIx_sign (c : UInt8) : decide (sgIx c < 0) = !isSign c := by
  rcases sign_cases c with h | h | h | h
  · subst h; rfl
  · subst h; rfl
  · subst h; rfl
  · rw [h]
    have h1 : c ≠ 84 := fun e => by subst e; simp [isSign] at h
    have h2 : c ≠ 70 := fun e => by subst e; simp [isSign] at h
    have h3 : c ≠ 46 := fun e => by subst e; simp [isSign] at h
    simp [sgIx, h1, h2, h3]

/-- The answer of a function that gives a string, or none. -/
def strOr (c : Bool) (l : List UInt8) : Value := if c then .tuple #[.string (str l), .bool true] else .tuple #[.string (str []), .bool false]
def intOr (c : Bool) (n : Int) : Value := if c then .tuple #[.int .i64 n, .bool true] else .tuple #[.int .i64 0, .bool false]

/-- The answer of CountOf. -/
def countsOr (s : ByteArray) : Value := if goodL s then .tuple #[.int .i64 (cnt 84 (byt s)), .int .i64 (cnt 46 (byt s)), .int .i64 (cnt 70 (byt s)), .bool true] else .tuple #[.int .i64 0, .int .i64 0, .int .i64 0, .bool false]

end Go.Proofs.YticdhapbkfbhjaaDoor
