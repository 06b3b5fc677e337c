/- The text of a rule, told. -/
import Derived.Test.YtcndlfoodbmgbaaRuG
namespace Go.Proofs.Ytcndlfoodbmgbaa
open Go.RowKit

def ruT (o b l : Bool) : List UInt8 := if o || b || l then (if o then [111] else []) ++ (if b then [98] else []) ++ (if l then [108] else []) else [45]
theorem app_str (a b : List UInt8) : (⟨a.toArray⟩ ++ ⟨b.toArray⟩ : ByteArray) = ⟨(a ++ b).toArray⟩ := str_app a b
theorem ne_empty (a : List UInt8) (h : a ≠ []) : (⟨a.toArray⟩ : ByteArray).toList.isEmpty = false := by
  rw [Lib.toList_data]
  cases a with
  | nil => exact absurd rfl h
  | cons x a => rfl
set_option maxHeartbeats 2000000 in
theorem ruText_any (o b l : Bool) (w : World) : Calls Try.prog 93 #[ruV o b l] w fun e w' => e = .returned (.string (str (ruT o b l))) ∧ Below w.heap.size w w' := by
  have r0 : (⟨#[]⟩ : ByteArray) ++ (⟨#[111]⟩ : ByteArray) = (⟨#[111]⟩ : ByteArray) := app_str [] [111]
  have r1 : (⟨#[]⟩ : ByteArray) ++ (⟨#[98]⟩ : ByteArray) = (⟨#[98]⟩ : ByteArray) := app_str [] [98]
  have r2 : (⟨#[]⟩ : ByteArray) ++ (⟨#[108]⟩ : ByteArray) = (⟨#[108]⟩ : ByteArray) := app_str [] [108]
  have r3 : (⟨#[111]⟩ : ByteArray) ++ (⟨#[98]⟩ : ByteArray) = (⟨#[111, 98]⟩ : ByteArray) := app_str [111] [98]
  have r4 : (⟨#[111]⟩ : ByteArray) ++ (⟨#[108]⟩ : ByteArray) = (⟨#[111, 108]⟩ : ByteArray) := app_str [111] [108]
  have r5 : (⟨#[98]⟩ : ByteArray) ++ (⟨#[108]⟩ : ByteArray) = (⟨#[98, 108]⟩ : ByteArray) := app_str [98] [108]
  have r6 : (⟨#[111, 98]⟩ : ByteArray) ++ (⟨#[108]⟩ : ByteArray) = (⟨#[111, 98, 108]⟩ : ByteArray) := app_str [111, 98] [108]
  have t0 : (⟨#[111]⟩ : ByteArray).toList.isEmpty = false := ne_empty [111] (by simp)
  have t1 : (⟨#[98]⟩ : ByteArray).toList.isEmpty = false := ne_empty [98] (by simp)
  have t2 : (⟨#[108]⟩ : ByteArray).toList.isEmpty = false := ne_empty [108] (by simp)
  have t3 : (⟨#[111, 98]⟩ : ByteArray).toList.isEmpty = false := ne_empty [111, 98] (by simp)
  have t4 : (⟨#[111, 108]⟩ : ByteArray).toList.isEmpty = false := ne_empty [111, 108] (by simp)
  have t5 : (⟨#[98, 108]⟩ : ByteArray).toList.isEmpty = false := ne_empty [98, 108] (by simp)
  have t6 : (⟨#[111, 98, 108]⟩ : ByteArray).toList.isEmpty = false := ne_empty [111, 98, 108] (by simp)
  have t7 : (⟨#[45]⟩ : ByteArray).toList.isEmpty = false := ne_empty [45] (by simp)
  have tz : (⟨#[]⟩ : ByteArray).toList.isEmpty = true := by rw [Lib.toList_data]; rfl
  cases o <;> cases b <;> cases l
  all_goals
    go_enter Try.func93, Try.ntmps93
    go_wp2
    go_ret
    exact ⟨rfl, (Below.refl _ _).alloc (Nat.le_refl _) _⟩
set_option maxHeartbeats 1000000 in
theorem sRuleText_any (o b l : Bool) (w : World) : Calls Try.prog 51 #[ruV o b l] w fun e w' => e = .returned (.tuple #[.string (str (ruT o b l)), .bool true]) ∧ Below w.heap.size w w' := by
  go_enter Try.func51, Try.ntmps51
  go_wp2_with fail
  refine (ruText_any o b l _).mono ?_
  rintro e w1 ⟨rfl, hb1⟩
  go_wp2
  go_ret2
  exact ⟨rfl, ((Below.refl _ _).alloc (Nat.le_refl _) _).trans (hb1.mono (by simp))⟩
set_option maxRecDepth 100000 in
set_option maxHeartbeats 4000000 in
theorem ruleText_0 (w : World) : Calls Try.prog 52 #[ruV false false false] w fun e w' => e = .returned (.tuple #[.string (str (ruT false false false)), .bool true]) ∧ Below w.heap.size w w' := by
  have r0 : (⟨#[]⟩ : ByteArray) ++ (⟨#[111]⟩ : ByteArray) = (⟨#[111]⟩ : ByteArray) := app_str [] [111]
  have r1 : (⟨#[]⟩ : ByteArray) ++ (⟨#[98]⟩ : ByteArray) = (⟨#[98]⟩ : ByteArray) := app_str [] [98]
  have r2 : (⟨#[]⟩ : ByteArray) ++ (⟨#[108]⟩ : ByteArray) = (⟨#[108]⟩ : ByteArray) := app_str [] [108]
  have r3 : (⟨#[111]⟩ : ByteArray) ++ (⟨#[98]⟩ : ByteArray) = (⟨#[111, 98]⟩ : ByteArray) := app_str [111] [98]
  have r4 : (⟨#[111]⟩ : ByteArray) ++ (⟨#[108]⟩ : ByteArray) = (⟨#[111, 108]⟩ : ByteArray) := app_str [111] [108]
  have r5 : (⟨#[98]⟩ : ByteArray) ++ (⟨#[108]⟩ : ByteArray) = (⟨#[98, 108]⟩ : ByteArray) := app_str [98] [108]
  have r6 : (⟨#[111, 98]⟩ : ByteArray) ++ (⟨#[108]⟩ : ByteArray) = (⟨#[111, 98, 108]⟩ : ByteArray) := app_str [111, 98] [108]
  have t0 : (⟨#[111]⟩ : ByteArray).toList.isEmpty = false := ne_empty [111] (by simp)
  have t1 : (⟨#[98]⟩ : ByteArray).toList.isEmpty = false := ne_empty [98] (by simp)
  have t2 : (⟨#[108]⟩ : ByteArray).toList.isEmpty = false := ne_empty [108] (by simp)
  have t3 : (⟨#[111, 98]⟩ : ByteArray).toList.isEmpty = false := ne_empty [111, 98] (by simp)
  have t4 : (⟨#[111, 108]⟩ : ByteArray).toList.isEmpty = false := ne_empty [111, 108] (by simp)
  have t5 : (⟨#[98, 108]⟩ : ByteArray).toList.isEmpty = false := ne_empty [98, 108] (by simp)
  have t6 : (⟨#[111, 98, 108]⟩ : ByteArray).toList.isEmpty = false := ne_empty [111, 98, 108] (by simp)
  have t7 : (⟨#[45]⟩ : ByteArray).toList.isEmpty = false := ne_empty [45] (by simp)
  have tz : (⟨#[]⟩ : ByteArray).toList.isEmpty = true := by rw [Lib.toList_data]; rfl
  have i0 : ∀ w, (Instr.index 65 (ruV false false false) (.int .i64 0)).run Try.prog w = .ok (.bool false) w := fun _ => by kernel_rfl
  have x0 : (⟨#[111, 98, 108]⟩ : ByteArray).extract 0 1 = (⟨#[111]⟩ : ByteArray) := rfl
  have i1 : ∀ w, (Instr.index 65 (ruV false false false) (.int .i64 1)).run Try.prog w = .ok (.bool false) w := fun _ => by kernel_rfl
  have x1 : (⟨#[111, 98, 108]⟩ : ByteArray).extract 1 2 = (⟨#[98]⟩ : ByteArray) := rfl
  have i2 : ∀ w, (Instr.index 65 (ruV false false false) (.int .i64 2)).run Try.prog w = .ok (.bool false) w := fun _ => by kernel_rfl
  have x2 : (⟨#[111, 98, 108]⟩ : ByteArray).extract 2 3 = (⟨#[108]⟩ : ByteArray) := rfl
  go_enter Try.func52, Try.ntmps52
  go_wp2_with fail
  refine (partsOf_any _ _ _ _).mono ?_
  rintro e w1 ⟨rfl, hb1⟩
  have HB1 := Lib.hid (((Below.refl w.heap.size w).alloc (Nat.le_refl _) (ruO false false false)).trans (hb1.mono (by simp)))
  clear hb1
  go_wp2
  go_loop [4, 9] (fun x t => ∃ K : Int, t = .int .i64 K ∧ ((K = 0 ∧ x = .string (⟨#[]⟩ : ByteArray)) ∨ (K = 1 ∧ x = .string (⟨#[]⟩ : ByteArray)) ∨ (K = 2 ∧ x = .string (⟨#[]⟩ : ByteArray)) ∨ (K = 3 ∧ x = .string (⟨#[]⟩ : ByteArray)))) (fun _ t => 3 - (intOf t).toNat)
  case atStart => exact ⟨0, rfl, .inl ⟨rfl, rfl⟩⟩
  case round =>
    obtain ⟨K, rfl, ⟨rfl, rfl⟩ | ⟨rfl, rfl⟩ | ⟨rfl, rfl⟩ | ⟨rfl, rfl⟩⟩ := hrel
    · go_wp2
      go_round
      case rel => exact ⟨1, rfl, .inr (.inl ⟨rfl, rfl⟩)⟩
      case measure => simp [intOf]
    · go_wp2
      go_round
      case rel => exact ⟨2, rfl, .inr (.inr (.inl ⟨rfl, rfl⟩))⟩
      case measure => simp [intOf]
    · go_wp2
      go_round
      case rel => exact ⟨3, rfl, .inr (.inr (.inr ⟨rfl, rfl⟩))⟩
      case measure => simp [intOf]
    · go_wp2
      go_ret2
      exact ⟨rfl, HB1.out⟩
set_option maxRecDepth 100000 in
set_option maxHeartbeats 4000000 in
theorem ruleText_1 (w : World) : Calls Try.prog 52 #[ruV true false false] w fun e w' => e = .returned (.tuple #[.string (str (ruT true false false)), .bool true]) ∧ Below w.heap.size w w' := by
  have r0 : (⟨#[]⟩ : ByteArray) ++ (⟨#[111]⟩ : ByteArray) = (⟨#[111]⟩ : ByteArray) := app_str [] [111]
  have r1 : (⟨#[]⟩ : ByteArray) ++ (⟨#[98]⟩ : ByteArray) = (⟨#[98]⟩ : ByteArray) := app_str [] [98]
  have r2 : (⟨#[]⟩ : ByteArray) ++ (⟨#[108]⟩ : ByteArray) = (⟨#[108]⟩ : ByteArray) := app_str [] [108]
  have r3 : (⟨#[111]⟩ : ByteArray) ++ (⟨#[98]⟩ : ByteArray) = (⟨#[111, 98]⟩ : ByteArray) := app_str [111] [98]
  have r4 : (⟨#[111]⟩ : ByteArray) ++ (⟨#[108]⟩ : ByteArray) = (⟨#[111, 108]⟩ : ByteArray) := app_str [111] [108]
  have r5 : (⟨#[98]⟩ : ByteArray) ++ (⟨#[108]⟩ : ByteArray) = (⟨#[98, 108]⟩ : ByteArray) := app_str [98] [108]
  have r6 : (⟨#[111, 98]⟩ : ByteArray) ++ (⟨#[108]⟩ : ByteArray) = (⟨#[111, 98, 108]⟩ : ByteArray) := app_str [111, 98] [108]
  have t0 : (⟨#[111]⟩ : ByteArray).toList.isEmpty = false := ne_empty [111] (by simp)
  have t1 : (⟨#[98]⟩ : ByteArray).toList.isEmpty = false := ne_empty [98] (by simp)
  have t2 : (⟨#[108]⟩ : ByteArray).toList.isEmpty = false := ne_empty [108] (by simp)
  have t3 : (⟨#[111, 98]⟩ : ByteArray).toList.isEmpty = false := ne_empty [111, 98] (by simp)
  have t4 : (⟨#[111, 108]⟩ : ByteArray).toList.isEmpty = false := ne_empty [111, 108] (by simp)
  have t5 : (⟨#[98, 108]⟩ : ByteArray).toList.isEmpty = false := ne_empty [98, 108] (by simp)
  have t6 : (⟨#[111, 98, 108]⟩ : ByteArray).toList.isEmpty = false := ne_empty [111, 98, 108] (by simp)
  have t7 : (⟨#[45]⟩ : ByteArray).toList.isEmpty = false := ne_empty [45] (by simp)
  have tz : (⟨#[]⟩ : ByteArray).toList.isEmpty = true := by rw [Lib.toList_data]; rfl
  have i0 : ∀ w, (Instr.index 65 (ruV true false false) (.int .i64 0)).run Try.prog w = .ok (.bool true) w := fun _ => by kernel_rfl
  have x0 : (⟨#[111, 98, 108]⟩ : ByteArray).extract 0 1 = (⟨#[111]⟩ : ByteArray) := rfl
  have i1 : ∀ w, (Instr.index 65 (ruV true false false) (.int .i64 1)).run Try.prog w = .ok (.bool false) w := fun _ => by kernel_rfl
  have x1 : (⟨#[111, 98, 108]⟩ : ByteArray).extract 1 2 = (⟨#[98]⟩ : ByteArray) := rfl
  have i2 : ∀ w, (Instr.index 65 (ruV true false false) (.int .i64 2)).run Try.prog w = .ok (.bool false) w := fun _ => by kernel_rfl
  have x2 : (⟨#[111, 98, 108]⟩ : ByteArray).extract 2 3 = (⟨#[108]⟩ : ByteArray) := rfl
  go_enter Try.func52, Try.ntmps52
  go_wp2_with fail
  refine (partsOf_any _ _ _ _).mono ?_
  rintro e w1 ⟨rfl, hb1⟩
  have HB1 := Lib.hid (((Below.refl w.heap.size w).alloc (Nat.le_refl _) (ruO true false false)).trans (hb1.mono (by simp)))
  clear hb1
  go_wp2
  go_loop [4, 9] (fun x t => ∃ K : Int, t = .int .i64 K ∧ ((K = 0 ∧ x = .string (⟨#[]⟩ : ByteArray)) ∨ (K = 1 ∧ x = .string (⟨#[111]⟩ : ByteArray)) ∨ (K = 2 ∧ x = .string (⟨#[111]⟩ : ByteArray)) ∨ (K = 3 ∧ x = .string (⟨#[111]⟩ : ByteArray)))) (fun _ t => 3 - (intOf t).toNat)
  case atStart => exact ⟨0, rfl, .inl ⟨rfl, rfl⟩⟩
  case round =>
    obtain ⟨K, rfl, ⟨rfl, rfl⟩ | ⟨rfl, rfl⟩ | ⟨rfl, rfl⟩ | ⟨rfl, rfl⟩⟩ := hrel
    · go_wp2
      go_round
      case rel => exact ⟨1, rfl, .inr (.inl ⟨rfl, rfl⟩)⟩
      case measure => simp [intOf]
    · go_wp2
      go_round
      case rel => exact ⟨2, rfl, .inr (.inr (.inl ⟨rfl, rfl⟩))⟩
      case measure => simp [intOf]
    · go_wp2
      go_round
      case rel => exact ⟨3, rfl, .inr (.inr (.inr ⟨rfl, rfl⟩))⟩
      case measure => simp [intOf]
    · go_wp2
      go_ret2
      exact ⟨rfl, HB1.out⟩
set_option maxRecDepth 100000 in
set_option maxHeartbeats 4000000 in
theorem ruleText_2 (w : World) : Calls Try.prog 52 #[ruV false true false] w fun e w' => e = .returned (.tuple #[.string (str (ruT false true false)), .bool true]) ∧ Below w.heap.size w w' := by
  have r0 : (⟨#[]⟩ : ByteArray) ++ (⟨#[111]⟩ : ByteArray) = (⟨#[111]⟩ : ByteArray) := app_str [] [111]
  have r1 : (⟨#[]⟩ : ByteArray) ++ (⟨#[98]⟩ : ByteArray) = (⟨#[98]⟩ : ByteArray) := app_str [] [98]
  have r2 : (⟨#[]⟩ : ByteArray) ++ (⟨#[108]⟩ : ByteArray) = (⟨#[108]⟩ : ByteArray) := app_str [] [108]
  have r3 : (⟨#[111]⟩ : ByteArray) ++ (⟨#[98]⟩ : ByteArray) = (⟨#[111, 98]⟩ : ByteArray) := app_str [111] [98]
  have r4 : (⟨#[111]⟩ : ByteArray) ++ (⟨#[108]⟩ : ByteArray) = (⟨#[111, 108]⟩ : ByteArray) := app_str [111] [108]
  have r5 : (⟨#[98]⟩ : ByteArray) ++ (⟨#[108]⟩ : ByteArray) = (⟨#[98, 108]⟩ : ByteArray) := app_str [98] [108]
  have r6 : (⟨#[111, 98]⟩ : ByteArray) ++ (⟨#[108]⟩ : ByteArray) = (⟨#[111, 98, 108]⟩ : ByteArray) := app_str [111, 98] [108]
  have t0 : (⟨#[111]⟩ : ByteArray).toList.isEmpty = false := ne_empty [111] (by simp)
  have t1 : (⟨#[98]⟩ : ByteArray).toList.isEmpty = false := ne_empty [98] (by simp)
  have t2 : (⟨#[108]⟩ : ByteArray).toList.isEmpty = false := ne_empty [108] (by simp)
  have t3 : (⟨#[111, 98]⟩ : ByteArray).toList.isEmpty = false := ne_empty [111, 98] (by simp)
  have t4 : (⟨#[111, 108]⟩ : ByteArray).toList.isEmpty = false := ne_empty [111, 108] (by simp)
  have t5 : (⟨#[98, 108]⟩ : ByteArray).toList.isEmpty = false := ne_empty [98, 108] (by simp)
  have t6 : (⟨#[111, 98, 108]⟩ : ByteArray).toList.isEmpty = false := ne_empty [111, 98, 108] (by simp)
  have t7 : (⟨#[45]⟩ : ByteArray).toList.isEmpty = false := ne_empty [45] (by simp)
  have tz : (⟨#[]⟩ : ByteArray).toList.isEmpty = true := by rw [Lib.toList_data]; rfl
  have i0 : ∀ w, (Instr.index 65 (ruV false true false) (.int .i64 0)).run Try.prog w = .ok (.bool false) w := fun _ => by kernel_rfl
  have x0 : (⟨#[111, 98, 108]⟩ : ByteArray).extract 0 1 = (⟨#[111]⟩ : ByteArray) := rfl
  have i1 : ∀ w, (Instr.index 65 (ruV false true false) (.int .i64 1)).run Try.prog w = .ok (.bool true) w := fun _ => by kernel_rfl
  have x1 : (⟨#[111, 98, 108]⟩ : ByteArray).extract 1 2 = (⟨#[98]⟩ : ByteArray) := rfl
  have i2 : ∀ w, (Instr.index 65 (ruV false true false) (.int .i64 2)).run Try.prog w = .ok (.bool false) w := fun _ => by kernel_rfl
  have x2 : (⟨#[111, 98, 108]⟩ : ByteArray).extract 2 3 = (⟨#[108]⟩ : ByteArray) := rfl
  go_enter Try.func52, Try.ntmps52
  go_wp2_with fail
  refine (partsOf_any _ _ _ _).mono ?_
  rintro e w1 ⟨rfl, hb1⟩
  have HB1 := Lib.hid (((Below.refl w.heap.size w).alloc (Nat.le_refl _) (ruO false true false)).trans (hb1.mono (by simp)))
  clear hb1
  go_wp2
  go_loop [4, 9] (fun x t => ∃ K : Int, t = .int .i64 K ∧ ((K = 0 ∧ x = .string (⟨#[]⟩ : ByteArray)) ∨ (K = 1 ∧ x = .string (⟨#[]⟩ : ByteArray)) ∨ (K = 2 ∧ x = .string (⟨#[98]⟩ : ByteArray)) ∨ (K = 3 ∧ x = .string (⟨#[98]⟩ : ByteArray)))) (fun _ t => 3 - (intOf t).toNat)
  case atStart => exact ⟨0, rfl, .inl ⟨rfl, rfl⟩⟩
  case round =>
    obtain ⟨K, rfl, ⟨rfl, rfl⟩ | ⟨rfl, rfl⟩ | ⟨rfl, rfl⟩ | ⟨rfl, rfl⟩⟩ := hrel
    · go_wp2
      go_round
      case rel => exact ⟨1, rfl, .inr (.inl ⟨rfl, rfl⟩)⟩
      case measure => simp [intOf]
    · go_wp2
      go_round
      case rel => exact ⟨2, rfl, .inr (.inr (.inl ⟨rfl, rfl⟩))⟩
      case measure => simp [intOf]
    · go_wp2
      go_round
      case rel => exact ⟨3, rfl, .inr (.inr (.inr ⟨rfl, rfl⟩))⟩
      case measure => simp [intOf]
    · go_wp2
      go_ret2
      exact ⟨rfl, HB1.out⟩
set_option maxRecDepth 100000 in
set_option maxHeartbeats 4000000 in
theorem ruleText_3 (w : World) : Calls Try.prog 52 #[ruV true true false] w fun e w' => e = .returned (.tuple #[.string (str (ruT true true false)), .bool true]) ∧ Below w.heap.size w w' := by
  have r0 : (⟨#[]⟩ : ByteArray) ++ (⟨#[111]⟩ : ByteArray) = (⟨#[111]⟩ : ByteArray) := app_str [] [111]
  have r1 : (⟨#[]⟩ : ByteArray) ++ (⟨#[98]⟩ : ByteArray) = (⟨#[98]⟩ : ByteArray) := app_str [] [98]
  have r2 : (⟨#[]⟩ : ByteArray) ++ (⟨#[108]⟩ : ByteArray) = (⟨#[108]⟩ : ByteArray) := app_str [] [108]
  have r3 : (⟨#[111]⟩ : ByteArray) ++ (⟨#[98]⟩ : ByteArray) = (⟨#[111, 98]⟩ : ByteArray) := app_str [111] [98]
  have r4 : (⟨#[111]⟩ : ByteArray) ++ (⟨#[108]⟩ : ByteArray) = (⟨#[111, 108]⟩ : ByteArray) := app_str [111] [108]
  have r5 : (⟨#[98]⟩ : ByteArray) ++ (⟨#[108]⟩ : ByteArray) = (⟨#[98, 108]⟩ : ByteArray) := app_str [98] [108]
  have r6 : (⟨#[111, 98]⟩ : ByteArray) ++ (⟨#[108]⟩ : ByteArray) = (⟨#[111, 98, 108]⟩ : ByteArray) := app_str [111, 98] [108]
  have t0 : (⟨#[111]⟩ : ByteArray).toList.isEmpty = false := ne_empty [111] (by simp)
  have t1 : (⟨#[98]⟩ : ByteArray).toList.isEmpty = false := ne_empty [98] (by simp)
  have t2 : (⟨#[108]⟩ : ByteArray).toList.isEmpty = false := ne_empty [108] (by simp)
  have t3 : (⟨#[111, 98]⟩ : ByteArray).toList.isEmpty = false := ne_empty [111, 98] (by simp)
  have t4 : (⟨#[111, 108]⟩ : ByteArray).toList.isEmpty = false := ne_empty [111, 108] (by simp)
  have t5 : (⟨#[98, 108]⟩ : ByteArray).toList.isEmpty = false := ne_empty [98, 108] (by simp)
  have t6 : (⟨#[111, 98, 108]⟩ : ByteArray).toList.isEmpty = false := ne_empty [111, 98, 108] (by simp)
  have t7 : (⟨#[45]⟩ : ByteArray).toList.isEmpty = false := ne_empty [45] (by simp)
  have tz : (⟨#[]⟩ : ByteArray).toList.isEmpty = true := by rw [Lib.toList_data]; rfl
  have i0 : ∀ w, (Instr.index 65 (ruV true true false) (.int .i64 0)).run Try.prog w = .ok (.bool true) w := fun _ => by kernel_rfl
  have x0 : (⟨#[111, 98, 108]⟩ : ByteArray).extract 0 1 = (⟨#[111]⟩ : ByteArray) := rfl
  have i1 : ∀ w, (Instr.index 65 (ruV true true false) (.int .i64 1)).run Try.prog w = .ok (.bool true) w := fun _ => by kernel_rfl
  have x1 : (⟨#[111, 98, 108]⟩ : ByteArray).extract 1 2 = (⟨#[98]⟩ : ByteArray) := rfl
  have i2 : ∀ w, (Instr.index 65 (ruV true true false) (.int .i64 2)).run Try.prog w = .ok (.bool false) w := fun _ => by kernel_rfl
  have x2 : (⟨#[111, 98, 108]⟩ : ByteArray).extract 2 3 = (⟨#[108]⟩ : ByteArray) := rfl
  go_enter Try.func52, Try.ntmps52
  go_wp2_with fail
  refine (partsOf_any _ _ _ _).mono ?_
  rintro e w1 ⟨rfl, hb1⟩
  have HB1 := Lib.hid (((Below.refl w.heap.size w).alloc (Nat.le_refl _) (ruO true true false)).trans (hb1.mono (by simp)))
  clear hb1
  go_wp2
  go_loop [4, 9] (fun x t => ∃ K : Int, t = .int .i64 K ∧ ((K = 0 ∧ x = .string (⟨#[]⟩ : ByteArray)) ∨ (K = 1 ∧ x = .string (⟨#[111]⟩ : ByteArray)) ∨ (K = 2 ∧ x = .string (⟨#[111, 98]⟩ : ByteArray)) ∨ (K = 3 ∧ x = .string (⟨#[111, 98]⟩ : ByteArray)))) (fun _ t => 3 - (intOf t).toNat)
  case atStart => exact ⟨0, rfl, .inl ⟨rfl, rfl⟩⟩
  case round =>
    obtain ⟨K, rfl, ⟨rfl, rfl⟩ | ⟨rfl, rfl⟩ | ⟨rfl, rfl⟩ | ⟨rfl, rfl⟩⟩ := hrel
    · go_wp2
      go_round
      case rel => exact ⟨1, rfl, .inr (.inl ⟨rfl, rfl⟩)⟩
      case measure => simp [intOf]
    · go_wp2
      go_round
      case rel => exact ⟨2, rfl, .inr (.inr (.inl ⟨rfl, rfl⟩))⟩
      case measure => simp [intOf]
    · go_wp2
      go_round
      case rel => exact ⟨3, rfl, .inr (.inr (.inr ⟨rfl, rfl⟩))⟩
      case measure => simp [intOf]
    · go_wp2
      go_ret2
      exact ⟨rfl, HB1.out⟩
set_option maxRecDepth 100000 in
set_option maxHeartbeats 4000000 in
theorem ruleText_4 (w : World) : Calls Try.prog 52 #[ruV false false true] w fun e w' => e = .returned (.tuple #[.string (str (ruT false false true)), .bool true]) ∧ Below w.heap.size w w' := by
  have r0 : (⟨#[]⟩ : ByteArray) ++ (⟨#[111]⟩ : ByteArray) = (⟨#[111]⟩ : ByteArray) := app_str [] [111]
  have r1 : (⟨#[]⟩ : ByteArray) ++ (⟨#[98]⟩ : ByteArray) = (⟨#[98]⟩ : ByteArray) := app_str [] [98]
  have r2 : (⟨#[]⟩ : ByteArray) ++ (⟨#[108]⟩ : ByteArray) = (⟨#[108]⟩ : ByteArray) := app_str [] [108]
  have r3 : (⟨#[111]⟩ : ByteArray) ++ (⟨#[98]⟩ : ByteArray) = (⟨#[111, 98]⟩ : ByteArray) := app_str [111] [98]
  have r4 : (⟨#[111]⟩ : ByteArray) ++ (⟨#[108]⟩ : ByteArray) = (⟨#[111, 108]⟩ : ByteArray) := app_str [111] [108]
  have r5 : (⟨#[98]⟩ : ByteArray) ++ (⟨#[108]⟩ : ByteArray) = (⟨#[98, 108]⟩ : ByteArray) := app_str [98] [108]
  have r6 : (⟨#[111, 98]⟩ : ByteArray) ++ (⟨#[108]⟩ : ByteArray) = (⟨#[111, 98, 108]⟩ : ByteArray) := app_str [111, 98] [108]
  have t0 : (⟨#[111]⟩ : ByteArray).toList.isEmpty = false := ne_empty [111] (by simp)
  have t1 : (⟨#[98]⟩ : ByteArray).toList.isEmpty = false := ne_empty [98] (by simp)
  have t2 : (⟨#[108]⟩ : ByteArray).toList.isEmpty = false := ne_empty [108] (by simp)
  have t3 : (⟨#[111, 98]⟩ : ByteArray).toList.isEmpty = false := ne_empty [111, 98] (by simp)
  have t4 : (⟨#[111, 108]⟩ : ByteArray).toList.isEmpty = false := ne_empty [111, 108] (by simp)
  have t5 : (⟨#[98, 108]⟩ : ByteArray).toList.isEmpty = false := ne_empty [98, 108] (by simp)
  have t6 : (⟨#[111, 98, 108]⟩ : ByteArray).toList.isEmpty = false := ne_empty [111, 98, 108] (by simp)
  have t7 : (⟨#[45]⟩ : ByteArray).toList.isEmpty = false := ne_empty [45] (by simp)
  have tz : (⟨#[]⟩ : ByteArray).toList.isEmpty = true := by rw [Lib.toList_data]; rfl
  have i0 : ∀ w, (Instr.index 65 (ruV false false true) (.int .i64 0)).run Try.prog w = .ok (.bool false) w := fun _ => by kernel_rfl
  have x0 : (⟨#[111, 98, 108]⟩ : ByteArray).extract 0 1 = (⟨#[111]⟩ : ByteArray) := rfl
  have i1 : ∀ w, (Instr.index 65 (ruV false false true) (.int .i64 1)).run Try.prog w = .ok (.bool false) w := fun _ => by kernel_rfl
  have x1 : (⟨#[111, 98, 108]⟩ : ByteArray).extract 1 2 = (⟨#[98]⟩ : ByteArray) := rfl
  have i2 : ∀ w, (Instr.index 65 (ruV false false true) (.int .i64 2)).run Try.prog w = .ok (.bool true) w := fun _ => by kernel_rfl
  have x2 : (⟨#[111, 98, 108]⟩ : ByteArray).extract 2 3 = (⟨#[108]⟩ : ByteArray) := rfl
  go_enter Try.func52, Try.ntmps52
  go_wp2_with fail
  refine (partsOf_any _ _ _ _).mono ?_
  rintro e w1 ⟨rfl, hb1⟩
  have HB1 := Lib.hid (((Below.refl w.heap.size w).alloc (Nat.le_refl _) (ruO false false true)).trans (hb1.mono (by simp)))
  clear hb1
  go_wp2
  go_loop [4, 9] (fun x t => ∃ K : Int, t = .int .i64 K ∧ ((K = 0 ∧ x = .string (⟨#[]⟩ : ByteArray)) ∨ (K = 1 ∧ x = .string (⟨#[]⟩ : ByteArray)) ∨ (K = 2 ∧ x = .string (⟨#[]⟩ : ByteArray)) ∨ (K = 3 ∧ x = .string (⟨#[108]⟩ : ByteArray)))) (fun _ t => 3 - (intOf t).toNat)
  case atStart => exact ⟨0, rfl, .inl ⟨rfl, rfl⟩⟩
  case round =>
    obtain ⟨K, rfl, ⟨rfl, rfl⟩ | ⟨rfl, rfl⟩ | ⟨rfl, rfl⟩ | ⟨rfl, rfl⟩⟩ := hrel
    · go_wp2
      go_round
      case rel => exact ⟨1, rfl, .inr (.inl ⟨rfl, rfl⟩)⟩
      case measure => simp [intOf]
    · go_wp2
      go_round
      case rel => exact ⟨2, rfl, .inr (.inr (.inl ⟨rfl, rfl⟩))⟩
      case measure => simp [intOf]
    · go_wp2
      go_round
      case rel => exact ⟨3, rfl, .inr (.inr (.inr ⟨rfl, rfl⟩))⟩
      case measure => simp [intOf]
    · go_wp2
      go_ret2
      exact ⟨rfl, HB1.out⟩
set_option maxRecDepth 100000 in
set_option maxHeartbeats 4000000 in
theorem ruleText_5 (w : World) : Calls Try.prog 52 #[ruV true false true] w fun e w' => e = .returned (.tuple #[.string (str (ruT true false true)), .bool true]) ∧ Below w.heap.size w w' := by
  have r0 : (⟨#[]⟩ : ByteArray) ++ (⟨#[111]⟩ : ByteArray) = (⟨#[111]⟩ : ByteArray) := app_str [] [111]
  have r1 : (⟨#[]⟩ : ByteArray) ++ (⟨#[98]⟩ : ByteArray) = (⟨#[98]⟩ : ByteArray) := app_str [] [98]
  have r2 : (⟨#[]⟩ : ByteArray) ++ (⟨#[108]⟩ : ByteArray) = (⟨#[108]⟩ : ByteArray) := app_str [] [108]
  have r3 : (⟨#[111]⟩ : ByteArray) ++ (⟨#[98]⟩ : ByteArray) = (⟨#[111, 98]⟩ : ByteArray) := app_str [111] [98]
  have r4 : (⟨#[111]⟩ : ByteArray) ++ (⟨#[108]⟩ : ByteArray) = (⟨#[111, 108]⟩ : ByteArray) := app_str [111] [108]
  have r5 : (⟨#[98]⟩ : ByteArray) ++ (⟨#[108]⟩ : ByteArray) = (⟨#[98, 108]⟩ : ByteArray) := app_str [98] [108]
  have r6 : (⟨#[111, 98]⟩ : ByteArray) ++ (⟨#[108]⟩ : ByteArray) = (⟨#[111, 98, 108]⟩ : ByteArray) := app_str [111, 98] [108]
  have t0 : (⟨#[111]⟩ : ByteArray).toList.isEmpty = false := ne_empty [111] (by simp)
  have t1 : (⟨#[98]⟩ : ByteArray).toList.isEmpty = false := ne_empty [98] (by simp)
  have t2 : (⟨#[108]⟩ : ByteArray).toList.isEmpty = false := ne_empty [108] (by simp)
  have t3 : (⟨#[111, 98]⟩ : ByteArray).toList.isEmpty = false := ne_empty [111, 98] (by simp)
  have t4 : (⟨#[111, 108]⟩ : ByteArray).toList.isEmpty = false := ne_empty [111, 108] (by simp)
  have t5 : (⟨#[98, 108]⟩ : ByteArray).toList.isEmpty = false := ne_empty [98, 108] (by simp)
  have t6 : (⟨#[111, 98, 108]⟩ : ByteArray).toList.isEmpty = false := ne_empty [111, 98, 108] (by simp)
  have t7 : (⟨#[45]⟩ : ByteArray).toList.isEmpty = false := ne_empty [45] (by simp)
  have tz : (⟨#[]⟩ : ByteArray).toList.isEmpty = true := by rw [Lib.toList_data]; rfl
  have i0 : ∀ w, (Instr.index 65 (ruV true false true) (.int .i64 0)).run Try.prog w = .ok (.bool true) w := fun _ => by kernel_rfl
  have x0 : (⟨#[111, 98, 108]⟩ : ByteArray).extract 0 1 = (⟨#[111]⟩ : ByteArray) := rfl
  have i1 : ∀ w, (Instr.index 65 (ruV true false true) (.int .i64 1)).run Try.prog w = .ok (.bool false) w := fun _ => by kernel_rfl
  have x1 : (⟨#[111, 98, 108]⟩ : ByteArray).extract 1 2 = (⟨#[98]⟩ : ByteArray) := rfl
  have i2 : ∀ w, (Instr.index 65 (ruV true false true) (.int .i64 2)).run Try.prog w = .ok (.bool true) w := fun _ => by kernel_rfl
  have x2 : (⟨#[111, 98, 108]⟩ : ByteArray).extract 2 3 = (⟨#[108]⟩ : ByteArray) := rfl
  go_enter Try.func52, Try.ntmps52
  go_wp2_with fail
  refine (partsOf_any _ _ _ _).mono ?_
  rintro e w1 ⟨rfl, hb1⟩
  have HB1 := Lib.hid (((Below.refl w.heap.size w).alloc (Nat.le_refl _) (ruO true false true)).trans (hb1.mono (by simp)))
  clear hb1
  go_wp2
  go_loop [4, 9] (fun x t => ∃ K : Int, t = .int .i64 K ∧ ((K = 0 ∧ x = .string (⟨#[]⟩ : ByteArray)) ∨ (K = 1 ∧ x = .string (⟨#[111]⟩ : ByteArray)) ∨ (K = 2 ∧ x = .string (⟨#[111]⟩ : ByteArray)) ∨ (K = 3 ∧ x = .string (⟨#[111, 108]⟩ : ByteArray)))) (fun _ t => 3 - (intOf t).toNat)
  case atStart => exact ⟨0, rfl, .inl ⟨rfl, rfl⟩⟩
  case round =>
    obtain ⟨K, rfl, ⟨rfl, rfl⟩ | ⟨rfl, rfl⟩ | ⟨rfl, rfl⟩ | ⟨rfl, rfl⟩⟩ := hrel
    · go_wp2
      go_round
      case rel => exact ⟨1, rfl, .inr (.inl ⟨rfl, rfl⟩)⟩
      case measure => simp [intOf]
    · go_wp2
      go_round
      case rel => exact ⟨2, rfl, .inr (.inr (.inl ⟨rfl, rfl⟩))⟩
      case measure => simp [intOf]
    · go_wp2
      go_round
      case rel => exact ⟨3, rfl, .inr (.inr (.inr ⟨rfl, rfl⟩))⟩
      case measure => simp [intOf]
    · go_wp2
      go_ret2
      exact ⟨rfl, HB1.out⟩
set_option maxRecDepth 100000 in
set_option maxHeartbeats 4000000 in
theorem ruleText_6 (w : World) : Calls Try.prog 52 #[ruV false true true] w fun e w' => e = .returned (.tuple #[.string (str (ruT false true true)), .bool true]) ∧ Below w.heap.size w w' := by
  have r0 : (⟨#[]⟩ : ByteArray) ++ (⟨#[111]⟩ : ByteArray) = (⟨#[111]⟩ : ByteArray) := app_str [] [111]
  have r1 : (⟨#[]⟩ : ByteArray) ++ (⟨#[98]⟩ : ByteArray) = (⟨#[98]⟩ : ByteArray) := app_str [] [98]
  have r2 : (⟨#[]⟩ : ByteArray) ++ (⟨#[108]⟩ : ByteArray) = (⟨#[108]⟩ : ByteArray) := app_str [] [108]
  have r3 : (⟨#[111]⟩ : ByteArray) ++ (⟨#[98]⟩ : ByteArray) = (⟨#[111, 98]⟩ : ByteArray) := app_str [111] [98]
  have r4 : (⟨#[111]⟩ : ByteArray) ++ (⟨#[108]⟩ : ByteArray) = (⟨#[111, 108]⟩ : ByteArray) := app_str [111] [108]
  have r5 : (⟨#[98]⟩ : ByteArray) ++ (⟨#[108]⟩ : ByteArray) = (⟨#[98, 108]⟩ : ByteArray) := app_str [98] [108]
  have r6 : (⟨#[111, 98]⟩ : ByteArray) ++ (⟨#[108]⟩ : ByteArray) = (⟨#[111, 98, 108]⟩ : ByteArray) := app_str [111, 98] [108]
  have t0 : (⟨#[111]⟩ : ByteArray).toList.isEmpty = false := ne_empty [111] (by simp)
  have t1 : (⟨#[98]⟩ : ByteArray).toList.isEmpty = false := ne_empty [98] (by simp)
  have t2 : (⟨#[108]⟩ : ByteArray).toList.isEmpty = false := ne_empty [108] (by simp)
  have t3 : (⟨#[111, 98]⟩ : ByteArray).toList.isEmpty = false := ne_empty [111, 98] (by simp)
  have t4 : (⟨#[111, 108]⟩ : ByteArray).toList.isEmpty = false := ne_empty [111, 108] (by simp)
  have t5 : (⟨#[98, 108]⟩ : ByteArray).toList.isEmpty = false := ne_empty [98, 108] (by simp)
  have t6 : (⟨#[111, 98, 108]⟩ : ByteArray).toList.isEmpty = false := ne_empty [111, 98, 108] (by simp)
  have t7 : (⟨#[45]⟩ : ByteArray).toList.isEmpty = false := ne_empty [45] (by simp)
  have tz : (⟨#[]⟩ : ByteArray).toList.isEmpty = true := by rw [Lib.toList_data]; rfl
  have i0 : ∀ w, (Instr.index 65 (ruV false true true) (.int .i64 0)).run Try.prog w = .ok (.bool false) w := fun _ => by kernel_rfl
  have x0 : (⟨#[111, 98, 108]⟩ : ByteArray).extract 0 1 = (⟨#[111]⟩ : ByteArray) := rfl
  have i1 : ∀ w, (Instr.index 65 (ruV false true true) (.int .i64 1)).run Try.prog w = .ok (.bool true) w := fun _ => by kernel_rfl
  have x1 : (⟨#[111, 98, 108]⟩ : ByteArray).extract 1 2 = (⟨#[98]⟩ : ByteArray) := rfl
  have i2 : ∀ w, (Instr.index 65 (ruV false true true) (.int .i64 2)).run Try.prog w = .ok (.bool true) w := fun _ => by kernel_rfl
  have x2 : (⟨#[111, 98, 108]⟩ : ByteArray).extract 2 3 = (⟨#[108]⟩ : ByteArray) := rfl
  go_enter Try.func52, Try.ntmps52
  go_wp2_with fail
  refine (partsOf_any _ _ _ _).mono ?_
  rintro e w1 ⟨rfl, hb1⟩
  have HB1 := Lib.hid (((Below.refl w.heap.size w).alloc (Nat.le_refl _) (ruO false true true)).trans (hb1.mono (by simp)))
  clear hb1
  go_wp2
  go_loop [4, 9] (fun x t => ∃ K : Int, t = .int .i64 K ∧ ((K = 0 ∧ x = .string (⟨#[]⟩ : ByteArray)) ∨ (K = 1 ∧ x = .string (⟨#[]⟩ : ByteArray)) ∨ (K = 2 ∧ x = .string (⟨#[98]⟩ : ByteArray)) ∨ (K = 3 ∧ x = .string (⟨#[98, 108]⟩ : ByteArray)))) (fun _ t => 3 - (intOf t).toNat)
  case atStart => exact ⟨0, rfl, .inl ⟨rfl, rfl⟩⟩
  case round =>
    obtain ⟨K, rfl, ⟨rfl, rfl⟩ | ⟨rfl, rfl⟩ | ⟨rfl, rfl⟩ | ⟨rfl, rfl⟩⟩ := hrel
    · go_wp2
      go_round
      case rel => exact ⟨1, rfl, .inr (.inl ⟨rfl, rfl⟩)⟩
      case measure => simp [intOf]
    · go_wp2
      go_round
      case rel => exact ⟨2, rfl, .inr (.inr (.inl ⟨rfl, rfl⟩))⟩
      case measure => simp [intOf]
    · go_wp2
      go_round
      case rel => exact ⟨3, rfl, .inr (.inr (.inr ⟨rfl, rfl⟩))⟩
      case measure => simp [intOf]
    · go_wp2
      go_ret2
      exact ⟨rfl, HB1.out⟩
set_option maxRecDepth 100000 in
set_option maxHeartbeats 4000000 in
theorem ruleText_7 (w : World) : Calls Try.prog 52 #[ruV true true true] w fun e w' => e = .returned (.tuple #[.string (str (ruT true true true)), .bool true]) ∧ Below w.heap.size w w' := by
  have r0 : (⟨#[]⟩ : ByteArray) ++ (⟨#[111]⟩ : ByteArray) = (⟨#[111]⟩ : ByteArray) := app_str [] [111]
  have r1 : (⟨#[]⟩ : ByteArray) ++ (⟨#[98]⟩ : ByteArray) = (⟨#[98]⟩ : ByteArray) := app_str [] [98]
  have r2 : (⟨#[]⟩ : ByteArray) ++ (⟨#[108]⟩ : ByteArray) = (⟨#[108]⟩ : ByteArray) := app_str [] [108]
  have r3 : (⟨#[111]⟩ : ByteArray) ++ (⟨#[98]⟩ : ByteArray) = (⟨#[111, 98]⟩ : ByteArray) := app_str [111] [98]
  have r4 : (⟨#[111]⟩ : ByteArray) ++ (⟨#[108]⟩ : ByteArray) = (⟨#[111, 108]⟩ : ByteArray) := app_str [111] [108]
  have r5 : (⟨#[98]⟩ : ByteArray) ++ (⟨#[108]⟩ : ByteArray) = (⟨#[98, 108]⟩ : ByteArray) := app_str [98] [108]
  have r6 : (⟨#[111, 98]⟩ : ByteArray) ++ (⟨#[108]⟩ : ByteArray) = (⟨#[111, 98, 108]⟩ : ByteArray) := app_str [111, 98] [108]
  have t0 : (⟨#[111]⟩ : ByteArray).toList.isEmpty = false := ne_empty [111] (by simp)
  have t1 : (⟨#[98]⟩ : ByteArray).toList.isEmpty = false := ne_empty [98] (by simp)
  have t2 : (⟨#[108]⟩ : ByteArray).toList.isEmpty = false := ne_empty [108] (by simp)
  have t3 : (⟨#[111, 98]⟩ : ByteArray).toList.isEmpty = false := ne_empty [111, 98] (by simp)
  have t4 : (⟨#[111, 108]⟩ : ByteArray).toList.isEmpty = false := ne_empty [111, 108] (by simp)
  have t5 : (⟨#[98, 108]⟩ : ByteArray).toList.isEmpty = false := ne_empty [98, 108] (by simp)
  have t6 : (⟨#[111, 98, 108]⟩ : ByteArray).toList.isEmpty = false := ne_empty [111, 98, 108] (by simp)
  have t7 : (⟨#[45]⟩ : ByteArray).toList.isEmpty = false := ne_empty [45] (by simp)
  have tz : (⟨#[]⟩ : ByteArray).toList.isEmpty = true := by rw [Lib.toList_data]; rfl
  have i0 : ∀ w, (Instr.index 65 (ruV true true true) (.int .i64 0)).run Try.prog w = .ok (.bool true) w := fun _ => by kernel_rfl
  have x0 : (⟨#[111, 98, 108]⟩ : ByteArray).extract 0 1 = (⟨#[111]⟩ : ByteArray) := rfl
  have i1 : ∀ w, (Instr.index 65 (ruV true true true) (.int .i64 1)).run Try.prog w = .ok (.bool true) w := fun _ => by kernel_rfl
  have x1 : (⟨#[111, 98, 108]⟩ : ByteArray).extract 1 2 = (⟨#[98]⟩ : ByteArray) := rfl
  have i2 : ∀ w, (Instr.index 65 (ruV true true true) (.int .i64 2)).run Try.prog w = .ok (.bool true) w := fun _ => by kernel_rfl
  have x2 : (⟨#[111, 98, 108]⟩ : ByteArray).extract 2 3 = (⟨#[108]⟩ : ByteArray) := rfl
  go_enter Try.func52, Try.ntmps52
  go_wp2_with fail
  refine (partsOf_any _ _ _ _).mono ?_
  rintro e w1 ⟨rfl, hb1⟩
  have HB1 := Lib.hid (((Below.refl w.heap.size w).alloc (Nat.le_refl _) (ruO true true true)).trans (hb1.mono (by simp)))
  clear hb1
  go_wp2
  go_loop [4, 9] (fun x t => ∃ K : Int, t = .int .i64 K ∧ ((K = 0 ∧ x = .string (⟨#[]⟩ : ByteArray)) ∨ (K = 1 ∧ x = .string (⟨#[111]⟩ : ByteArray)) ∨ (K = 2 ∧ x = .string (⟨#[111, 98]⟩ : ByteArray)) ∨ (K = 3 ∧ x = .string (⟨#[111, 98, 108]⟩ : ByteArray)))) (fun _ t => 3 - (intOf t).toNat)
  case atStart => exact ⟨0, rfl, .inl ⟨rfl, rfl⟩⟩
  case round =>
    obtain ⟨K, rfl, ⟨rfl, rfl⟩ | ⟨rfl, rfl⟩ | ⟨rfl, rfl⟩ | ⟨rfl, rfl⟩⟩ := hrel
    · go_wp2
      go_round
      case rel => exact ⟨1, rfl, .inr (.inl ⟨rfl, rfl⟩)⟩
      case measure => simp [intOf]
    · go_wp2
      go_round
      case rel => exact ⟨2, rfl, .inr (.inr (.inl ⟨rfl, rfl⟩))⟩
      case measure => simp [intOf]
    · go_wp2
      go_round
      case rel => exact ⟨3, rfl, .inr (.inr (.inr ⟨rfl, rfl⟩))⟩
      case measure => simp [intOf]
    · go_wp2
      go_ret2
      exact ⟨rfl, HB1.out⟩
theorem ruleText_any (o b l : Bool) (w : World) : Calls Try.prog 52 #[ruV o b l] w fun e w' => e = .returned (.tuple #[.string (str (ruT o b l)), .bool true]) ∧ Below w.heap.size w w' := by
  cases o <;> cases b <;> cases l
  · exact ruleText_0 w
  · exact ruleText_4 w
  · exact ruleText_2 w
  · exact ruleText_6 w
  · exact ruleText_1 w
  · exact ruleText_5 w
  · exact ruleText_3 w
  · exact ruleText_7 w

set_option maxHeartbeats 2000000 in
theorem walk_FnExactRuleText (o b l : Bool) (w : World) : Calls Try.prog 16 #[ruV o b l] w fun e w' => e = .returned (.bool true) ∧ Below w.heap.size w w' := by
  have HS := Lib.hid (fun wx => sRuleText_any o b l wx)
  have HM := Lib.hid (fun wx => ruleText_any o b l wx)
  generalize str (ruT o b l) = x at HS HM
  go_enter Try.func16, Try.ntmps16
  go_wp2_with fail
  refine (toRule_any o b l _).mono ?_
  rintro e w0 ⟨rfl, hb0⟩
  have HB0 := Lib.hid (((Below.refl w.heap.size w).alloc (Nat.le_refl _) (Obj.cells #[.bool o, .bool b, .bool l] 23)).trans (hb0.mono (by simp)))
  have HX0 := Lib.hid ((RuBx.new w o b l 23).below hb0)
  clear hb0
  go_wp2_with fail
  refine (HS.out _).mono ?_
  rintro e w1 ⟨rfl, hb1⟩
  have HX1 := Lib.hid (HX0.out.below hb1)
  have HB1 := Lib.hid (HB0.out.trans (hb1.mono HB0.out.size))
  clear hb1 HX0 HB0
  obtain ⟨_, x0, x1, x2⟩ := HX1.out
  go_wp2_with fail
  refine (toRule_any o b l _).mono ?_
  rintro e w2 ⟨rfl, hb2⟩
  clear x0 x1 x2
  have HB2 := Lib.hid (HB1.out.trans (hb2.mono HB1.out.size))
  clear hb2
  go_wp2_with fail
  refine (HM.out _).mono ?_
  rintro e w3 ⟨rfl, hb3⟩
  have HB3 := Lib.hid (HB2.out.trans (hb3.mono HB2.out.size))
  clear hb3
  go_wp2
  go_ret
  exact ⟨rfl, HB3.out⟩
end Go.Proofs.Ytcndlfoodbmgbaa
