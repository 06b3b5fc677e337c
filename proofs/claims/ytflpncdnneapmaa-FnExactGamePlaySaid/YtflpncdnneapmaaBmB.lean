/- Contracts: the best moves of a turn: the program's. -/
import Derived.Test.YtflpncdnneapmaaBmA
import Derived.Test.YtflpncdnneapmaaGmX
namespace Go.Proofs.Ytflpncdnneapmaa
open Go.RowKit Go.Maps Go.Shelf

/-- The other one wins behind the j-th move. -/
def loW (tm : Bool) (s : List UInt8) (j : Nat) : Bool := Wn (!tm) ((nxG tm s).getD j [])
theorem loW_at {tm : Bool} {s : List UInt8} {j : Nat} (h : j < (gmM tm s).length) : loW tm s j = Wn (!tm) (behind (str s) (gmM tm s)[j].1 (gmM tm s)[j].2) := by
  have h1 := prW_at h
  unfold prW at h1
  unfold loW
  rw [← Bool.not_not (Wn (!tm) ((nxG tm s).getD j [])), h1, Bool.not_not]
/-- The best moves, among the first k. -/
def bestM (tm : Bool) (s : List UInt8) : List (Int × Int) := keepG (loW tm s) (gmM tm s) (gmM tm s).length
/-- What a call gives: moves of its own; the map told of more. -/
def BmP (L B Bt Br Bs : Nat) (l : List (Int × Int)) (w : World) (e : Ending) (w' : World) : Prop :=
  ∃ A c, e = .returned (.slice A l.length c) ∧ w'.ownsRow w.heap.size 31 2 (.slice A l.length c) l.length (flat l) ∧ TellI w' L B Bt Br Bs ∧ KpN B w.heap.size w w'
theorem own_lowerD {w : World} {b b' : Nat} {e : TypeId} {size n : Nat} {v : Value} {xs : List Value} (h : w.ownsRow b e size v n xs) (hle : b' ≤ b) : w.ownsRow b' e size v n xs := by
  refine ⟨h.1, ?_⟩
  rcases h.2 with h | ⟨g1, cap1, cur, hv, hb, hh, hn, hm, hs, ht⟩
  · exact .inl h
  · exact .inr ⟨g1, cap1, cur, hv, Nat.le_trans hle hb, hh, hn, hm, hs, ht⟩
theorem KpN.before {B n : Nat} {a b c : World} (h : Below a.heap.size a b) (hn : a.heap.size ≤ n) (k : KpN B n b c) : KpN B a.heap.size a c :=
  ⟨k.os.trans h.os, k.tape.trans h.tape, k.output.trans h.output, Nat.le_trans h.size k.size, fun i h1 h2 h3 => (k.far i h1 (by omega) (Nat.lt_of_lt_of_le h3 h.size)).trans (h.block i h3)⟩
theorem grownBy_cellD (W : World) (b k : Nat) (v : Value) : W.grownBy (W.setCell ⟨b, k, none⟩ v) (some b) :=
  ⟨rfl, rfl, rfl, by simp, fun j _ hk => Below.heap_setCell _ _ _ j (fun e => hk (by rw [e]))⟩
theorem tellI_set {W : World} {L B Bt Br Bs : Nat} (h : TellI W L B Bt Br Bs) (gc k : Nat) (v : Value) (h0 : gc ≠ B) (h1 : gc ≠ Bt) (h2 : gc ≠ Br) (h3 : gc ≠ Bs) : TellI (W.setCell ⟨gc, k, none⟩ v) L B Bt Br Bs := by
  obtain ⟨⟨D, m1, m2⟩, hb⟩ := h
  have e : ∀ b, gc ≠ b → (W.setCell ⟨gc, k, none⟩ v).cell? ⟨b, 0, none⟩ = W.cell? ⟨b, 0, none⟩ := fun b hne => World.cell?_setCell_other _ _ _ _ (by intro e; injection e with e _; exact hne e)
  exact ⟨⟨D, m1.kept (grownBy_cellD W gc k v) (by intro e; injection e with e; exact h0 e.symm), m2⟩, ⟨(e _ h1).trans hb.told, (e _ h2).trans hb.rule, (e _ h3).trans hb.tell, by simpa using hb.lt, hb.ne⟩⟩
set_option maxRecDepth 100000 in
set_option maxHeartbeats 4000000 in
theorem tnBest_any (L B Bt Br Bs : Nat) (tm : Bool) (s : List UInt8) (W : World) (hL : L ≤ 12) (hs : sigT L s) (hI : TellI W L B Bt Br Bs) :
    Calls Try.prog 38 #[tnV tm s, telV Bt Br Bs] W (BmP L B Bt Br Bs (bestM tm s) W) := by
  have hl100 : s.length ≤ 100 := by have := hs.1; omega
  have hBl := hI.map.lt
  have hbl := hI.box.lt
  have HN : Hid (TellNext L B Bt Br Bs tm s) := Lib.hid fun x hx W hI => tell_any L B Bt Br Bs hL _ (!tm) x W rfl (sigT_next hs hx) hI
  have HI := Lib.hid hI
  have HM := Lib.hid (fun wx => tnMoves_any tm s wx hl100)
  have hml := gmM_le tm s
  clear hI
  go_enter Try.func38, Try.ntmps38
  go_wp2_with fail
  refine (HM.out _).mono ?_
  rintro e w3 ⟨v, rfl, ho3, hb3⟩
  obtain ⟨A, cap, rfl, AT⟩ := at_of_own ho3
  obtain ⟨W2, hW2⟩ : ∃ W2, W2 = (W.alloc (tnB tm s)).alloc (.cells #[telV Bt Br Bs] 70) := ⟨_, rfl⟩
  have hz2 : W2.heap.size = W.heap.size + 2 := by rw [hW2]; simp
  have hB2 : Below W.heap.size W W2 := by rw [hW2]; exact ((Below.refl _ _).alloc (Nat.le_refl _) _).alloc (by simp) _
  have e1 : (W.alloc (tnB tm s)).heap.size = W.heap.size + 1 := by simp
  have c0 : W2.cell? ⟨W.heap.size, 0, none⟩ = some (.string (str s)) := by rw [hW2, cell_old _ _ _ _ (by omega), World.cell?_alloc_new]; rfl
  have c1 : W2.cell? ⟨W.heap.size, 1, none⟩ = some (.int .u8 (kd tm).toNat) := by rw [hW2, cell_old _ _ _ _ (by omega), World.cell?_alloc_new]; rfl
  have c2 : W2.cell? ⟨W.heap.size + 1, 0, none⟩ = some (telV Bt Br Bs) := by rw [hW2, ← e1, World.cell?_alloc_new]; rfl
  rw [← hW2] at ho3 hb3
  have hz3 := hb3.size
  have hA : ∀ k, (Value.slice A (gmM tm s).length cap).ownBlock = some k → W2.heap.size ≤ k := fun k e => (ho3.lt k e).1
  have HI3 := HI.out.below (hB2.trans (hb3.mono (by omega)))
  have d0 := (hb3.cell (p := ⟨W.heap.size, 0, none⟩) (by show W.heap.size < _; omega)).trans c0
  have d1 := (hb3.cell (p := ⟨W.heap.size, 1, none⟩) (by show W.heap.size < _; omega)).trans c1
  have d2 := (hb3.cell (p := ⟨W.heap.size + 1, 0, none⟩) (by show W.heap.size + 1 < _; omega)).trans c2
  let I : World → Prop := fun w => TellI w L B Bt Br Bs ∧ w.cell? ⟨W.heap.size + 1, 0, none⟩ = some (telV Bt Br Bs) ∧ w.cell? ⟨W.heap.size, 0, none⟩ = some (.string (str s)) ∧ w.cell? ⟨W.heap.size, 1, none⟩ = some (.int .u8 (kd tm).toNat) ∧ W.heap.size + 1 < w.heap.size
  have hII : I w3 := ⟨HI3, d2, d0, d1, by omega⟩
  have hpred : ∀ j (h : j < (gmM tm s).length) W', I W' → Calls Try.prog 74 (#[.agg #[.int .i64 (gmM tm s)[j].1, .int .i64 (gmM tm s)[j].2]] ++ #[.pointer (some ⟨W.heap.size + 1, 0, none⟩), .pointer (some ⟨W.heap.size, 0, none⟩)]) W' fun e W'' => e = .returned (.bool (loW tm s j)) ∧ I W'' ∧ KpM B W' W'' := by
    rintro j hj W' ⟨hI', k2, k0, k1, hz'⟩
    obtain ⟨a, b, q1, q2, ha, hb, hne, hy, hy2⟩ := gm_at j hj
    rw [loW_at hj, ← hy2, q1, q2]
    refine (bestPred_any L B Bt Br Bs tm s a b (W.heap.size + 1) W.heap.size W' ha hb hne hy HN.out hI' k2 k0 k1 hz' (by omega) (by omega) (by omega)).mono ?_
    rintro e W'' ⟨rfl, h1, h2⟩
    exact ⟨rfl, ⟨h1, (h2.cell hz' (by omega)).trans k2, (h2.cell (by omega) (by omega)).trans k0, (h2.cell (by omega) (by omega)).trans k1, Nat.lt_of_lt_of_le hz' h2.size⟩, h2⟩
  have hset : ∀ W' k o x, (Value.slice A (gmM tm s).length cap).ownBlock = some k → I W' → I (W'.setCell ⟨k, o, none⟩ x) := by
    rintro W' k o x hk ⟨hI', k2, k0, k1, hz'⟩
    have hk2 := hA k hk
    have hne : ∀ b q, b < W2.heap.size → (W'.setCell ⟨k, o, none⟩ x).cell? ⟨b, q, none⟩ = W'.cell? ⟨b, q, none⟩ := fun b q hb => World.cell?_setCell_other _ _ _ _ (by intro e; injection e with e _; omega)
    exact ⟨tellI_set hI' k o x (by omega) (by omega) (by omega) (by omega), (hne _ _ (by omega)).trans k2, (hne _ _ (by omega)).trans k0, (hne _ _ (by omega)).trans k1, by simpa using hz'⟩
  have halloc : ∀ W' o, I W' → I (W'.alloc o) := by
    rintro W' o ⟨hI', k2, k0, k1, hz'⟩
    have hb : Below W'.heap.size W' (W'.alloc o) := (Below.refl _ _).alloc (Nat.le_refl _) _
    exact ⟨hI'.below hb, (cell_old _ _ _ _ hz').trans k2, (cell_old _ _ _ _ (by omega)).trans k0, (cell_old _ _ _ _ (by omega)).trans k1, by simp; omega⟩
  have HD := Lib.hid (deleteM_any 74 #[.pointer (some ⟨W.heap.size + 1, 0, none⟩), .pointer (some ⟨W.heap.size, 0, none⟩)] (enters_of Try.func74 (by kernel_rfl) rfl) B I (gmM tm s) (loW tm s) W2.heap.size _ w3 ho3 (fun k hk => by have := hA k hk; omega) hpred hII hset halloc (by omega) (by omega))
  have HB3 := Lib.hid (hB2.trans (hb3.mono (by omega)))
  have hz23 : W.heap.size ≤ W2.heap.size := by omega
  clear hpred ho3 hb3 hB2 hW2 c0 c1 c2 AT hset halloc hII d0 d1 d2 HI3
  go_wp2_with fail
  refine HD.out.mono ?_
  rintro e w4 ⟨A4, c4, rfl, ho4, hI4, hk4⟩
  have HO4 := Lib.hid (own_lowerD ho4 hz23)
  have HI4 := Lib.hid hI4.1
  have HK4 := Lib.hid (KpN.before HB3.out hz23 hk4)
  have HE : Hid (keepG (loW tm s) (gmM tm s) (gmM tm s).length = bestM tm s) := Lib.hid rfl
  rw [HE.out] at HO4 ⊢
  clear ho4 hI4 hk4 HE
  go_wp2
  go_ret
  exact ⟨A4, c4, rfl, HO4.out, HI4.out, HK4.out⟩
end Go.Proofs.Ytflpncdnneapmaa
