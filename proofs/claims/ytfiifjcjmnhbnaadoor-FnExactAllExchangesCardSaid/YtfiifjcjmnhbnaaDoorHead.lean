/- The words of the translation's head, and the closed facts that hang on them, proved word by word. -/
import Derived.Test.YtfiifjcjmnhbnaaDoorRows
import Derived.ProofKit
namespace Go.Proofs.YtfiifjcjmnhbnaaDoor
/-- Words joined with a blank (sign 32). -/
def joinW : List (List Nat) → List Char
  | [] => []
  | [w] => w.map Char.ofNat
  | w :: v :: r => w.map Char.ofNat ++ Char.ofNat 32 :: joinW (v :: r)
theorem no_blank {k : Nat} (h : k < 128) (h2 : k ≠ 32) : Char.ofNat k ≠ Char.ofNat 32 := by
  have h3 : (List.range 128).all (fun k => k == 32 || !(Char.ofNat k == Char.ofNat 32)) = true := by decide
  rw [List.all_eq_true] at h3
  have h4 := h3 k (List.mem_range.2 h)
  intro e
  rw [e] at h4
  simp [h2] at h4
theorem ws_step (c : Char) (hc : c ≠ Char.ofNat 32) (r w : List Char) (ws : List (List Char)) (h : wordsSigns r = w :: ws) : wordsSigns (c :: r) = (c :: w) :: ws := by
  unfold wordsSigns
  split
  · rename_i e; cases e
  · rename_i r' e
    injection e with e1 e2
    exact absurd e1 hc
  · rename_i c' r' hne e
    injection e with e1 e2
    subst e1; subst e2
    rw [h]
theorem ws_blank (r : List Char) : wordsSigns (Char.ofNat 32 :: r) = [] :: wordsSigns r := rfl
theorem ws_nil : wordsSigns [] = [[]] := rfl
theorem ws_last : ∀ (w : List Nat), (∀ k ∈ w, k < 128 ∧ k ≠ 32) → wordsSigns (w.map Char.ofNat) = [w.map Char.ofNat]
  | [], _ => ws_nil
  | k :: w, h => ws_step _ (no_blank (h k (by simp)).1 (h k (by simp)).2) _ _ _ (ws_last w fun j hj => h j (by simp [hj]))
theorem ws_word : ∀ (w : List Nat) (r : List Char), (∀ k ∈ w, k < 128 ∧ k ≠ 32) → wordsSigns (w.map Char.ofNat ++ Char.ofNat 32 :: r) = w.map Char.ofNat :: wordsSigns r
  | [], r, _ => ws_blank r
  | k :: w, r, h => ws_step _ (no_blank (h k (by simp)).1 (h k (by simp)).2) _ _ _ (ws_word w r fun j hj => h j (by simp [hj]))
theorem ws_join : ∀ (W : List (List Nat)), W ≠ [] → (∀ w ∈ W, ∀ k ∈ w, k < 128 ∧ k ≠ 32) → wordsSigns (joinW W) = W.map (·.map Char.ofNat)
  | [], h, _ => absurd rfl h
  | [w], _, h => ws_last w (h w (by simp))
  | w :: v :: r, _, h => by
    rw [joinW, ws_word w _ (h w (by simp)), ws_join (v :: r) (by simp) fun x hx => h x (by simp [hx])]
    rfl
def headW : List (List Nat) := [[104, 97, 114, 110, 101, 115, 115], [101, 102, 49, 57, 55, 54, 102, 48, 100, 97, 100, 101, 55, 54, 57, 48, 56, 100, 57, 99, 56, 97, 99, 49, 57, 100, 51, 56, 102, 54, 97, 97, 53, 56, 55, 98, 102, 50, 57, 102, 52, 52, 99, 51, 56, 51, 49, 50, 54, 52, 49, 49, 50, 98, 51, 53, 54, 49, 49, 48, 50, 57, 53, 102], [99, 117, 116], [97, 116], [108, 111, 111, 112, 46, 101, 120, 97, 109, 112, 108, 101, 47, 103, 48, 49, 50, 55, 49, 47, 108, 97, 119, 115, 46, 70, 110, 69, 120, 97, 99, 116, 65, 108, 108, 69, 120, 99, 104, 97, 110, 103, 101, 115]]
theorem head_eq : Tryd.checked.prog.initOrder = String.ofList (joinW headW) := by kernel_rfl
theorem head_ok : (headW.all fun w => w.all fun k => decide (k < 128) && decide (k ≠ 32)) = true := by kernel_rfl
theorem head_words : wordsSigns Tryd.checked.prog.initOrder.toList = headW.map (·.map Char.ofNat) := by
  rw [head_eq, String.toList_ofList]
  refine ws_join headW (by simp [headW]) fun w hw k hk => ?_
  have h := head_ok
  rw [List.all_eq_true] at h
  have h1 := h w hw
  rw [List.all_eq_true] at h1
  have h2 := h1 k hk
  simpa using h2
theorem heard_of (P : Program) (h : P.funcs.all (fun fn => !fn.norace || (Stop.rowOf fn).isNone) = true) : P.stopsHeard = true := by
  unfold Program.stopsHeard
  rw [← h]
  congr 1
  funext fn
  exact Bool.or_comm _ _
theorem head_heard : Tryd.checked.prog.stopsHeard = true := heard_of _ (by kernel_rfl)
theorem cut_ne : ("cut".toList == "gc".toList || "cut".toList == "spec".toList) = false ∧ ("cut".toList == "carried".toList) = false := by decide
theorem head_behind : behindMainWord (headW.map (·.map Char.ofNat)) = "cut".toList :: (headW.drop 3).map (·.map Char.ofNat) := by kernel_rfl
theorem make_of (P : Program) (rest : List (List Char)) (h : behindMainWord (wordsSigns P.initOrder.toList) = "cut".toList :: rest) : P.make = some .cut := by
  unfold Program.make
  rw [h]
  simp only [cut_ne.1]
  simp
theorem strip_of (rest : List (List Char)) : stripLifts liftWords ("cut".toList :: rest) = ([], "cut".toList :: rest) := by
  simp [stripLifts, liftWords]
theorem enter_of (P : Program) (rest : List (List Char)) (h : behindMainWord (wordsSigns P.initOrder.toList) = "cut".toList :: rest) (h1 : P.laysLater = false) (h2 : P.bearsReflect = false) (h3 : P.doorFits [] = true) : P.mayEnter = true := by
  unfold Program.mayEnter
  rw [h]
  simp only [cut_ne.1, cut_ne.2, strip_of, h1, h2, h3]
  simp
theorem head_is : behindMainWord (wordsSigns Tryd.checked.prog.initOrder.toList) = "cut".toList :: (headW.drop 3).map (·.map Char.ofNat) := by rw [head_words, head_behind]
theorem head_make : Tryd.checked.prog.make = some .cut := make_of _ _ head_is
theorem head_lifts : Tryd.checked.prog.liftsFinal = false := by
  unfold Program.liftsFinal Program.headLifts
  rw [head_words]
  kernel_rfl
theorem head_later : Tryd.checked.prog.laysLater = false := by kernel_rfl
theorem head_reflect : Tryd.checked.prog.bearsReflect = false := by kernel_rfl
theorem head_door : Tryd.checked.prog.doorFits [] = true := by kernel_rfl
theorem head_enter : Tryd.checked.prog.mayEnter = true := enter_of _ _ head_is head_later head_reflect head_door
theorem make_ok (c : OpenClaim) (h : c.make = .cut) : (Tryd.checked.prog.make == some c.make) = true := by rw [head_make, h]; rfl
theorem lifts_ok (c : OpenClaim) (h : c.lifted = false) : (c.lifted == Tryd.checked.prog.liftsFinal) = true := by rw [head_lifts, h]; rfl
end Go.Proofs.YtfiifjcjmnhbnaaDoor
