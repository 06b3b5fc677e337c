/- Contracts: the solutions of a puzzle. -/
import Derived.Test.YtjnidfleccbdbaaGreatPzG
import Derived.Test.YtjnidfleccbdbaaGreatPzO
namespace Go.Proofs.YtjnidfleccbdbaaGreat
open Go.RowKit

set_option maxRecDepth 100000 in
set_option maxHeartbeats 1000000 in
theorem noHunt_any (w : World) :
    Calls Tryz.prog 20 #[.agg #[.slice none 0 0, .nilFunc], .slice none 0 0] w fun e w' => e = .returned (.slice none 0 0) ∧ Below w.heap.size w w' := by
  have hB : Below w.heap.size w (w.alloc (Obj.cells #[.slice none 0 0, .nilFunc] 53)) := (Below.refl _ _).alloc (Nat.le_refl _) _
  go_enter Tryz.func20, Tryz.ntmps20
  go_wp2
  go_loopw [5, 7, 11] (fun v _ i wr => i = .int .i64 0 ∧ v = .slice none 0 0 ∧ wr = w.alloc (Obj.cells #[.slice none 0 0, .nilFunc] 53)) (fun _ _ _ _ => 0)
  case atStart => exact ⟨rfl, rfl, rfl⟩
  case round =>
    obtain ⟨rfl, rfl, rfl⟩ := hrel
    go_wp2
    go_ret
    exact ⟨rfl, hB⟩

/-- The solutions, none of what is no puzzle. -/
def solOr (n : Int) (l : List Cl) : List (List UInt8) := if goodP n l then solL n.toNat l else []
/-- A list of texts of one's own, and whether there is one. -/
def TxsB (w : World) (b : Bool) (L : List (List UInt8)) (e : Ending) (w' : World) : Prop := ∃ v, e = .returned (.tuple #[v, .bool b]) ∧ w'.ownsRow w.heap.size 9 1 v L.length (txs L) ∧ Below w.heap.size w w'
theorem goodP_nat {n : Int} {l : List Cl} (h : goodP n l = true) : ∃ m : Nat, n = m ∧ 1 ≤ m ∧ m ≤ 5 := by
  unfold goodP inR at h
  simp only [Bool.and_eq_true, decide_eq_true_eq] at h
  exact ⟨n.toNat, by omega, by omega, by omega⟩
theorem goodP_ok {n : Int} {l : List Cl} (h : goodP n l = true) : ∀ k ∈ l, ckOk n k = true := by
  unfold goodP at h
  simp only [Bool.and_eq_true] at h
  exact List.all_eq_true.1 h.2
theorem grow_good {m : Nat} (h15 : 1 ≤ m ∧ m ≤ 5) : ∀ x ∈ grow m [], x.length = m ∧ goodL (str x) = true := fun x hx => by
  obtain ⟨h1, h2⟩ := (mem_all m x).1 hx
  refine ⟨h1, ?_⟩
  rw [goodL_iff, str_size, byt_str]
  exact ⟨by omega, by omega, h2⟩
theorem grow_few {m : Nat} (h15 : 1 ≤ m ∧ m ≤ 5) : (grow m []).length ≤ 243 := by
  rw [grow_len]
  have : 3 ^ m ≤ 3 ^ 5 := Nat.pow_le_pow_right (by decide) h15.2
  simpa using this

theorem HuntW.step {w wx wy : World} {n : Nat} {l : List Cl} {g o B Bt Br Bs : Nat} {AL : Option Addr} (h : HuntW w n l g o B Bt Br Bs AL wx) (hb : Below wx.heap.size wx wy) : HuntW w n l g o B Bt Br Bs AL wy :=
  ⟨h.bel.trans (hb.mono h.bel.size), h.at_.below hb, h.tell.below hb, h.inn.below hb, h.new, h.ne⟩
theorem StAt.kpM {B : Nat} {w w' : World} {A : Option Addr} {l : List (List UInt8)} (h : StAt w A l) (hf : KpM B w w') (hne : ∀ a, A = some a → a.block ≠ B) : StAt w' A l := by
  intro j hj
  obtain ⟨g, a, c, d⟩ := h j hj
  exact ⟨g, a, Nat.lt_of_lt_of_le c hf.size, (hf.cell c (hne _ a)).trans d⟩
theorem HuntW.fit {w wx wy : World} {n : Nat} {l : List Cl} {g o B Bt Br Bs : Nat} {AL : Option Addr} (h : HuntW w n l g o B Bt Br Bs AL wx) (hgo : g < w.heap.size) (hk : KpM B wx wy) (ht : TellI wy n B Bt Br Bs) : HuntW w n l g o B Bt Br Bs AL wy :=
  ⟨h.bel.trans (hk.to_below h.new h.bel.size), h.at_.kpM hk h.ne, ht, h.inn.kpM hk (fun a e => by have := h.new; injection e with e; subst e; show g ≠ B; omega), h.new, h.ne⟩
/-- The answer of linesThatFit to a hunt. -/
def FitH (w : World) (n : Nat) (l : List Cl) (g o B Bt Br Bs : Nat) (AL : Option Addr) (wx : World) (L : List (List UInt8)) (e : Ending) (w' : World) : Prop :=
  ∃ v, e = .returned v ∧ w'.ownsRow wx.heap.size 9 1 v L.length (txs L) ∧ HuntW w n l g o B Bt Br Bs AL w' ∧ KpM B wx w'
set_option maxRecDepth 100000 in
theorem fitH_any (w : World) (n N3 : Nat) (hN : 3 ^ n = N3) (l : List Cl) (g o B Bt Br Bs cl : Nat) (AL : Option Addr) (hgo : g < w.heap.size) (h15 : 1 ≤ n ∧ n ≤ 5) (cs : List Cl) (A : Option Addr) (c : Nat) (wx : World) (hok : ∀ k ∈ cs, ckOk n k = true) (hcs : cs.length ≤ 100) (hH : HuntW w n l g o B Bt Br Bs AL wx) (hin : ClIn wx A cs) (hne : ∀ a, A = some a → a.block ≠ B) :
    Calls Tryz.prog 20 #[.agg #[.slice AL N3 cl, telV Bt Br Bs], .slice A cs.length c] wx (FitH w n l g o B Bt Br Bs AL wx (solL n cs)) := by
  have h := linesThatFit_any n B Bt Br Bs (grow n []) cs AL A cl c wx h15.2 (grow_good h15) (Nat.le_trans (grow_few h15) (by decide)) hok hcs hH.at_ hH.ne hin hne hH.tell
  rw [grow_len, hN] at h
  refine h.mono ?_
  rintro e w' ⟨v, rfl, ho, ht, hk⟩
  exact ⟨v, rfl, ho, hH.fit hgo hk ht, hk⟩

set_option maxRecDepth 100000 in
set_option maxHeartbeats 2000000 in
theorem Solutions_any (n : Int) (l : List Cl) (g o c : Nat) (w : World) (hin : ClIn w (some ⟨g, o, none⟩) l) (hl : l.length ≤ 2000000) (hc : l.length ≤ c) (hgo : g < w.heap.size) :
    Calls Tryz.prog 13 #[.agg #[.int .i64 n, .slice (some ⟨g, o, none⟩) l.length c]] w (TxsB w (goodP n l) (solOr n l)) := by
  obtain ⟨W0, hW0⟩ : ∃ W0, W0 = w.alloc (Obj.cells #[.int .i64 n, .slice (some ⟨g, o, none⟩) l.length c] 30) := ⟨_, rfl⟩
  have hB0 : Below w.heap.size w W0 := by rw [hW0]; exact (Below.refl _ _).alloc (Nat.le_refl _) _
  have hz : w.heap.size < W0.heap.size := by rw [hW0]; simp
  have HH := Lib.hid (huntFor_any n l g o c W0 (hin.below hB0) hl hc (fun h => by omega))
  have HNH := Lib.hid noHunt_any
  unfold solOr
  cases hg : goodP n l
  · go_enter Tryz.func13, Tryz.ntmps13
    go_wp2_with fail
    rw [← hW0]
    clear hW0
    refine HH.out.mono ?_
    rintro e w1 hp
    rcases hp with ⟨hg', _⟩ | ⟨_, rfl, hb1⟩
    · rw [hg] at hg'; cases hg'
    have HB := Lib.hid (hB0.trans (hb1.mono hB0.size))
    clear hb1 hg
    go_wp2_with fail
    refine (HNH.out _).mono ?_
    rintro e w2 ⟨rfl, hb2⟩
    have HB2 := Lib.hid ((HB.out.alloc HB.out.size _).trans (hb2.mono (by have := HB.out.size; simp; omega)))
    clear hb2
    go_wp2_with fail
    go_ret2
    exact ⟨_, rfl, World.ownsRow_nil _ _ _ _, HB2.out⟩
  · obtain ⟨m, rfl, h15⟩ := goodP_nat hg
    have HF := Lib.hid (fun N3 hN B Bt Br Bs cl AL wx => fitH_any W0 m N3 hN l g o B Bt Br Bs cl AL (by omega) h15 l (some ⟨g, o, none⟩) l.length wx (goodP_ok hg) (Nat.le_trans (goodP_few hg) (by decide)))
    rw [if_pos rfl, show (m : Int).toNat = m from rfl]
    generalize solL m l = L at HF ⊢
    go_enter Tryz.func13, Tryz.ntmps13
    go_wp2_with fail
    rw [← hW0]
    clear hW0
    refine HH.out.mono ?_
    rintro e w1 hp
    rcases hp with ⟨_, AL, cl, B, Bt, Br, Bs, rfl, hHW⟩ | ⟨hg', _⟩
    rotate_left
    · rw [hg] at hg'; cases hg'
    rw [show (m : Int).toNat = m from rfl] at hHW ⊢
    generalize hN : 3 ^ m = N3
    have hHW' := hHW.step ((Below.refl _ _).alloc (Nat.le_refl _) (Obj.cells #[.slice AL N3 cl, telV Bt Br Bs] 53))
    have HW := Lib.hid hHW'
    have hgB : g ≠ B := by have := hHW.new; omega
    have HC := Lib.hid (HF.out N3 hN B Bt Br Bs cl AL _ hHW' hHW'.inn (fun a e => by injection e with e; subst e; exact hgB))
    clear hg hHW hHW' HF hN
    go_wp2_with fail
    refine HC.out.mono ?_
    rintro e w2 ⟨v, rfl, ho, hH2, hk⟩
    have HO := Lib.hid (own_lowerC ho (Nat.le_trans hB0.size (HW.out.bel.size)))
    have HB := Lib.hid (hB0.trans (hH2.bel.mono hB0.size))
    clear ho hH2 hk
    go_wp2_with fail
    go_ret2
    exact ⟨v, rfl, HO.out, HB.out⟩
end Go.Proofs.YtjnidfleccbdbaaGreat
