/- Contracts: the library's search in a list of moves, by a predicate that writes one map. -/
import Derived.Test.YtdcbjbmnkajjcaaGmB
namespace Go.Proofs.Ytdcbjbmnkajjcaa
open Go.RowKit Go.Shelf

/-- All blocks but one lie as they lay, and nothing else has turned. -/
structure KpM (B : Nat) (W W' : World) : Prop where
  os : W'.os = W.os
  tape : W'.tape = W.tape
  output : W'.output = W.output
  far : FarB (some B) W W'
theorem KpM.refl (B : Nat) (W : World) : KpM B W W := ⟨rfl, rfl, rfl, FarB.refl _ _⟩
theorem KpM.trans {B : Nat} {a b c : World} (h : KpM B a b) (k : KpM B b c) : KpM B a c :=
  ⟨k.os.trans h.os, k.tape.trans h.tape, k.output.trans h.output, Nat.le_trans h.far.1 k.far.1, fun i hne hi => (k.far.2 i hne (Nat.lt_of_lt_of_le hi h.far.1)).trans (h.far.2 i hne hi)⟩
theorem KpM.below {B : Nat} {W W' : World} (h : Below W.heap.size W W') : KpM B W W' := ⟨h.os, h.tape, h.output, h.size, fun i _ hi => h.block i hi⟩
theorem KpM.size {B : Nat} {W W' : World} (h : KpM B W W') : W.heap.size ≤ W'.heap.size := h.far.1
theorem KpM.to_below {B n : Nat} {W W' : World} (h : KpM B W W') (hB : n ≤ B) (hn : n ≤ W.heap.size) : Below n W W' :=
  ⟨h.os, h.tape, h.output, h.far.1, fun k hk => h.far.2 k (fun e => by injection e with e; omega) (by omega)⟩
theorem KpM.cell {B : Nat} {W W' : World} (h : KpM B W W') {b o : Nat} (hb : b < W.heap.size) (hne : b ≠ B) : W'.cell? ⟨b, o, none⟩ = W.cell? ⟨b, o, none⟩ :=
  World.cell?_of_block (a := ⟨b, o, none⟩) (h.far.2 b (fun e => hne (by injection e)) hb)
theorem KpM.frozen {B : Nat} {W W' : World} (h : KpM B W W') {b o : Nat} (hb : b < W.heap.size) (hne : b ≠ B) : W'.frozen? ⟨b, o, none⟩ = W.frozen? ⟨b, o, none⟩ :=
  World.frozen?_of_block (a := ⟨b, o, none⟩) (h.far.2 b (fun e => hne (by injection e)) hb)
theorem MvAt.kpM {B : Nat} {w w' : World} {A : Option Addr} {l : List (Int × Int)} (h : MvAt w A l) (hf : KpM B w w') (hne : ∀ a, A = some a → a.block ≠ B) : MvAt w' A l := by
  intro k hk
  obtain ⟨g, a, b, c, d⟩ := h k hk
  exact ⟨g, a, Nat.lt_of_lt_of_le b hf.size, (hf.cell b (hne _ a)).trans c, (hf.cell b (hne _ a)).trans d⟩
/-- What is asked of a predicate: at each element it answers, keeps I, and writes no old block but B. -/
def PredM (g : Nat) (lb : Array Value) (B : Nat) (I : World → Prop) (l : List (Int × Int)) (p : Nat → Bool) (W0 : World) : Prop :=
  ∀ j (h : j < l.length) W, I W → KpM B W0 W → Calls Try.prog g (#[.agg #[.int .i64 l[j].1, .int .i64 l[j].2]] ++ lb) W fun e W' => e = .returned (.bool (p j)) ∧ I W' ∧ KpM B W W'

set_option maxRecDepth 100000 in
set_option maxHeartbeats 2000000 in
theorem indexM_any (g : Nat) (lb : Array Value) (eg : ∀ args w, (callFunc g args).run Try.prog w = .ok (.enter g args) w) (B : Nat) (I : World → Prop) (l : List (Int × Int)) (p : Nat → Bool) (A : Option Addr) (cap : Nat) (w : World) (hp : PredM g lb B I l p w) (hl : l.length ≤ 1000) (hA : MvAt w A l) (hne : ∀ a, A = some a → a.block ≠ B) (hI : I w) :
    Calls Try.prog 23 #[.slice A l.length cap, .func (.func g) #[] lb] w fun e w' => ∃ r : Int, e = .returned (.int .i64 r) ∧ ((∃ j : Nat, j < l.length ∧ r = j ∧ p j = true ∧ ∀ i, i < j → p i = false) ∨ (r = -1 ∧ ∀ i, i < l.length → p i = false)) ∧ I w' ∧ KpM B w w' := by
  have HP := Lib.hid hp
  have HA := Lib.hid hA
  have HNE := Lib.hid hne
  have HI := Lib.hid hI
  clear hp hA hne hI
  go_enter Try.func23, Try.ntmps23
  go_wp2
  go_loopw [8] (fun i wr => ∃ k : Nat, k ≤ l.length ∧ i = .int .i64 k ∧ Hid (∀ i, i < k → p i = false) ∧ Hid (I wr) ∧ Hid (KpM B w wr)) (fun i _ => l.length - (intOf i).toNat)
  case atStart => exact ⟨0, Nat.zero_le _, rfl, Lib.hid fun i h => by omega, HI, Lib.hid (KpM.refl _ _)⟩
  case round =>
    obtain ⟨k, hk, rfl, HNO, HIR, HK⟩ := hrel
    by_cases hlt : k < l.length
    · obtain ⟨gm, rfl, zz, p1, q1⟩ := (HA.out.kpM HK.out HNE.out) k hlt
      have hcall := HP.out k hlt wr HIR.out HK.out
      generalize l[k].1 = a at p1 hcall
      generalize l[k].2 = b at q1 hcall
      have HC := Lib.hid hcall
      clear hcall
      have i1 : (0 : Int) ≤ (k : Int) := by omega
      have i2 : (k : Int) < (l.length : Int) := by omega
      cases hq : p k
      · have HQ := Lib.hid hq
        rw [hq] at HC
        clear hq
        go_wp2_with (go_at_fn g; refine HC.out.mono ?_; rintro e w' ⟨rfl, hI', hK'⟩; have HI' := Lib.hid hI'; have HK' := Lib.hid (HK.out.trans hK'); clear hI' hK')
        go_roundw
        case rel => exact ⟨k + 1, by omega, by go_num, Lib.hid fun i hi => (by
          by_cases e : i = k
          · subst e; exact HQ.out
          · exact HNO.out i (by omega)), HI', HK'⟩
        case measure => simp [intOf]; omega
      · have HQ := Lib.hid hq
        rw [hq] at HC
        clear hq
        go_wp2_with (go_at_fn g; refine HC.out.mono ?_; rintro e w' ⟨rfl, hI', hK'⟩; have HI' := Lib.hid hI'; have HK' := Lib.hid (HK.out.trans hK'); clear hI' hK')
        go_ret
        exact ⟨k, rfl, .inl ⟨k, hlt, rfl, HQ.out, HNO.out⟩, HI'.out, HK'.out⟩
    · go_wp2
      go_ret
      obtain rfl : k = l.length := by omega
      exact ⟨-1, rfl, .inr ⟨rfl, HNO.out⟩, HIR.out, HK.out⟩

end Go.Proofs.Ytdcbjbmnkajjcaa
