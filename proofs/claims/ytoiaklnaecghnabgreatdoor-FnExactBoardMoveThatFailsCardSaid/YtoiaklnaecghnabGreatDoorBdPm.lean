/- Contract: the model's MakeOnBoard. -/
import Derived.Test.YtoiaklnaecghnabGreatDoorBdMk
import Derived.Test.YtoiaklnaecghnabGreatDoorBdEt
import Derived.Test.YtoiaklnaecghnabGreatDoorBdT
namespace Go.Proofs.YtoiaklnaecghnabGreatDoor
open Go.RowKit

/-- The rows behind a move, told by its cells' numbers. -/
def mbR (R : List (List UInt8)) (wd : Nat) (f t : Int) : List (List UInt8) := mkR R (f.toNat % wd) (f.toNat / wd) (t.toNat % wd) (t.toNat / wd)
theorem boC_in {R : List (List UInt8)} {wd : Nat} (G : GoodR R wd) {f t : Int} (h : boC R wd f t = true) : ∃ F T : Nat, f = F ∧ t = T ∧ F < R.length * wd ∧ T < R.length * wd := by
  unfold boC inR at h
  simp only [Bool.and_eq_true, decide_eq_true_eq] at h
  obtain ⟨⟨h1, h2⟩, ⟨h3, h4⟩, _⟩ := h
  have e : (wd : Int) * (R.length : Int) = ((R.length * wd : Nat) : Int) := by rw [Nat.mul_comm]; push_cast; rfl
  rw [e] at h2 h4
  have := G.hw
  exact ⟨f.toNat, t.toNat, by omega, by omega, by omega, by omega⟩
/-- boMake where a move can be made. -/
theorem boMake_ok {R : List (List UInt8)} {wd : Nat} (G : GoodR R wd) {f t : Int} (h : boC R wd f t = true) (A : Option Addr) (cap : Nat) (w : World) (hA : StAt w A R) :
    Calls Tryz.prog 27 #[.slice A R.length cap, .agg #[.int .i64 f, .int .i64 t]] w fun e w' => ∃ v', e = .returned v' ∧ w'.ownsRow w.heap.size 9 1 v' R.length (txs (mbR R wd f t)) ∧ Below w.heap.size w w' := by
  obtain ⟨F, T, rfl, rfl, hF, hT⟩ := boC_in G h
  exact boMake_any R wd A cap F T _ _ _ _ w hA G.hh.2 G.hw.1 G.hw.2 G.hl rfl rfl rfl rfl (split_num G hF).2.2 (split_num G hT).2.2
theorem mbR_len (R : List (List UInt8)) (wd : Nat) (f t : Int) : (mbR R wd f t).length = R.length := mkR_len _ _ _ _ _
theorem mbR_rows {R : List (List UInt8)} {wd : Nat} (h : ∀ r ∈ R, r.length = wd) (f t : Int) : ∀ r ∈ mbR R wd f t, r.length = wd := by
  unfold mbR mkR
  exact set_rows (set_rows h _ _ _) _ _ _
/-- The text behind a move. -/
def mbT (l : List UInt8) (f t : Int) : List UInt8 := Lib.join (mbR (spl l) ((spl l).headD []).length f t) [47]
def mbOk (l : List UInt8) (f t : Int) : Bool := goodB l && boC (spl l) ((spl l).headD []).length f t

end Go.Proofs.YtoiaklnaecghnabGreatDoor
