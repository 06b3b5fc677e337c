/- Contracts: who wins lines and sums, the program's. -/
import Derived.Test.YtflpncdnneapmaaGmW
namespace Go.Proofs.Ytflpncdnneapmaa
open Go.RowKit Go.Maps Go.Shelf

theorem SumG.sigT {L : Nat} {ls : List (List UInt8)} (h : SumG L ls) : sigT L (joinG ls) := ⟨h.len, joinG_sig ls h.good⟩

theorem winning_ex (L : Nat) (w : World) :
    Calls Try.prog 39 #[] w fun e w' => ∃ B Bt Br Bs, e = .returned (telV Bt Br Bs) ∧ TellI w' L B Bt Br Bs ∧ w.heap.size ≤ B ∧ Below w.heap.size w w' :=
  (winning_any L w).mono fun _ _ ⟨he, h1, h2⟩ => ⟨_, _, _, _, he, h1, Nat.le_succ _, h2⟩
end Go.Proofs.Ytflpncdnneapmaa
