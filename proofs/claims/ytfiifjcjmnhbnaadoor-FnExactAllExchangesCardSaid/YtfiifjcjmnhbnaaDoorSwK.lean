/- Lines of at most eight cells as keys of maps: which are seen, which are live. -/
import Derived.Test.YtfiifjcjmnhbnaaDoorSwS
import Derived.Test.YtfiifjcjmnhbnaaDoorSwE
import Derived.Test.YtfiifjcjmnhbnaaDoorHsV
import Derived.DeepKeys4
import Derived.Test.YtfiifjcjmnhbnaaDoorWalkV
import Derived.Test.YtfiifjcjmnhbnaaDoorPlay
namespace Go.Proofs.YtfiifjcjmnhbnaaDoor
open Go.RowKit Go.Maps

theorem laidW : laidOutB Tryd.prog = true := by kernel_rfl
theorem swp_wide : (match Tryd.prog.underlying 39 with | some (.array _ _) | some (.struct _) => true | _ => false) = true := by rw [Tryd.underlying39]
theorem swp_rowT : (39 : TypeId) < Tryd.prog.types.size := of_decide_eq_true (by kernel_rfl)
set_option maxRecDepth 100000 in
theorem swp_law : WideMaps.KeyLaw Tryd.prog 39 := deep_law_laid laidW (m := 3) (by omega) swp_rowT (by kernel_rfl) swp_wide
theorem Tryd.keysW : Keyed Tryd.prog 39 := Keyed.of_law swp_law
/-- The key of a line. -/
def kbW (l : List UInt8) : List UInt8 := keyBytes ((swpP l).map fun x => Lit.int .u8 (x.toNat : Int))
theorem u8_wf8 (x : UInt8) : (Lit.int .u8 (x.toNat : Int)).wf = true := by
  have := x.toNat_lt
  simp [Lit.wf, IntKind.min, IntKind.max, IntKind.bits, IntKind.signed]
  omega
theorem keyW {l : List UInt8} (h : l.length ≤ 8) : keyOf Tryd.prog 39 (swpV l) = some (.string (kbW l)) := by
  obtain ⟨c0, c1, c2, c3, c4, c5, c6, c7, h9⟩ := swp_eight (swpP_len h)
  unfold kbW swpV
  rw [h9]
  have hk : Tryd.prog.keyType 39 = true := by kernel_rfl
  have hc : Tryd.prog.cellsOf 39 = 8 := by kernel_rfl
  have h2 : Tryd.prog.cellsOf 5 = 1 := by kernel_rfl
  unfold keyOf
  rw [Tryd.underlying39]
  have hf : (Value.agg (u8s [c0, c1, c2, c3, c4, c5, c6, c7]).toArray).formed Tryd.prog 39 = true := by simp [Value.formed, Tryd.underlying39, hc, u8s]
  simp only [hk, hf, Bool.and_self, if_true]
  obtain ⟨d, hd⟩ : ∃ d, Tryd.prog.types.size + 1 = d + 3 := ⟨Tryd.prog.types.size - 2, by have : (10 : Nat) ≤ Tryd.prog.types.size := of_decide_eq_true (by kernel_rfl); omega⟩
  rw [hd]
  simp only [Program.keyLits, Tryd.underlying39, Value.cells]
  simp [hc, h2, u8s, u8_wf8, Tryd.underlying5, List.range, List.range.loop]
  done
theorem swpP_inj {l l' : List UInt8} (h : ∀ c ∈ l, c ≠ 0) (h' : ∀ c ∈ l', c ≠ 0) (e : swpP l = swpP l') : l = l' := by rw [← trim_swp h, ← trim_swp h', e]
theorem u8s_inj8 : ∀ {l l' : List UInt8}, u8s l = u8s l' → l = l'
  | [], [], _ => rfl
  | [], _ :: _, e => by simp [u8s] at e
  | _ :: _, [], e => by simp [u8s] at e
  | a :: l, b :: l', e => by
    have e : Value.int .u8 (a.toNat : Int) :: u8s l = Value.int .u8 (b.toNat : Int) :: u8s l' := e
    injection e with e1 e2
    injection e1 with _ e1
    rw [u8s_inj8 e2, UInt8.toNat_inj.1 (by omega : a.toNat = b.toNat)]
theorem swpV_inj {l l' : List UInt8} (h : ∀ c ∈ l, c ≠ 0) (h' : ∀ c ∈ l', c ≠ 0) (e : swpV l = swpV l') : l = l' := by
  unfold swpV at e
  injection e with e
  have e := congrArg Array.toList e
  exact swpP_inj h h' (u8s_inj8 e)
/-- A line of at most eight cells. -/
structure G8 (l : List UInt8) : Prop where
  len : l.length ≤ 8
  nz : ∀ c ∈ l, c ≠ 0
theorem G8.of {n : Nat} {l : List UInt8} (h : goodT n l) (h8 : n ≤ 8) : G8 l :=
  ⟨by rw [h.2.1]; exact h8, sign_nz8 (by have := ((goodL_iff (str l)).1 h.1).2.2; rwa [byt_str] at this)⟩
theorem kbW_inj {l l' : List UInt8} (h : G8 l) (h' : G8 l') (e : kbW l = kbW l') : l = l' := by
  have h1 := keyW h.len
  have h2 := keyW h'.len
  rw [← e] at h2
  exact swpV_inj h.nz h'.nz (Tryd.keysW.inj h1 h2)
/-- Values of maps, read. -/
def bRw : Value → Option (DataW Unit × List MemPlace)
  | .bool b => some (.lit (.bool b), [])
  | _ => none
def iRw : Value → Option (DataW Unit × List MemPlace)
  | .int .i64 n => some (.lit (.int .i64 n), [])
  | _ => none
theorem bRw_inv {v : Value} {b : Bool} {ps : List MemPlace} (h : bRw v = some (.lit (.bool b), ps)) : v = .bool b := by
  unfold bRw at h
  split at h
  · injection h with h
    injection h with h _
    injection h with h
    injection h with h
    rw [h]
  · cases h
theorem iRw_inv {v : Value} {n : Int} {ps : List MemPlace} (h : iRw v = some (.lit (.int .i64 n), ps)) : v = .int .i64 n := by
  unfold iRw at h
  split at h
  · injection h with h
    injection h with h _
    injection h with h
    injection h with _ h
    rw [h]
  · cases h
/-- A look at a key, at the operation. -/
theorem wpList_look {P : Program} (w : World) {ops : Array Oper} {rest : List Oper} {o : Oper} {a : Act} {Q : Exit → Act → World → Prop}
    (hg : o.guard = none) (m x : Operand) (t : TypeId) (hop : o.op = Op.lookup t m x false)
    (k e : TypeId) (K : Keyed P k) (ht : P.underlying t = some (.map k e)) {z : Value} (hz : (zeroValue e).run P w = .ok z w) (R : Value → Option (DataW Unit × List MemPlace)) (b n : Nat) (D : DataW Unit)
    (hm : a.eval m = .map (some b)) (hown : w.ownsMap P k R b n D) {zd : DataW Unit} {zp : List MemPlace} (hR : R z = some (zd, zp)) (key : Value) (kl : Lit) (hx : a.eval x = key) (hkey : keyOf P k key = some kl)
    (hK : ∀ v ps, R v = some (D.atKey kl zd, ps) → wpList P ops Q rest (a.put o.dst v) w) :
    wpList P ops Q (o :: rest) a w := by
  refine wpList_plain hg fun K' hK' => ?_
  obtain ⟨v, ps, hrun, hv⟩ := hown.lookup K ht hz hR hkey
  unfold Oper.wp
  simp [execOp, hop, hm, hx, hrun, Result.andThen]
  exact hK' _ _ (hK v ps hv)
/-- The map has the lines that are seen. -/
structure SeenV (D : DataW Unit) (L : List (List UInt8)) : Prop where
  val : ∀ x ∈ L, hasV D (kbW x) (.lit (.bool true))
  key : ∀ y, Maps.has D (.string y) = true → ∃ x ∈ L, y = kbW x
theorem SeenV.nil {D : DataW Unit} (h : ∀ x, Maps.has D (.string x) = false) : SeenV D [] := ⟨fun e he => absurd he (by simp), fun x hx => absurd hx (by rw [h x]; simp)⟩
theorem SeenV.put {D : DataW Unit} {L : List (List UInt8)} {x : List UInt8} (hD : IsMap D) (h : SeenV D L) (hL : ∀ y ∈ L, G8 y) (hx : G8 x) (hn : x ∉ L) : SeenV (D.put (.string (kbW x)) (.lit (.bool true))) (L ++ [x]) := by
  refine ⟨fun y hy => ?_, fun y hy => ?_⟩
  · rcases List.mem_append.1 hy with hy | hy
    · refine hasV_other _ (h.val y hy) fun e => hn ?_
      rw [← kbW_inj (hL y hy) hx e]
      exact hy
    · obtain rfl : y = x := by simpa using hy
      exact hasV_same hD _ _
  · rcases has_put hy with rfl | hy
    · exact ⟨x, by simp, rfl⟩
    · obtain ⟨z, hz, e⟩ := h.key y hy
      exact ⟨z, List.mem_append_left _ hz, e⟩
theorem SeenV.at {D : DataW Unit} {L : List (List UInt8)} {x : List UInt8} (h : SeenV D L) (hL : ∀ y ∈ L, G8 y) (hx : G8 x) : D.atKey (.string (kbW x)) (.lit (.bool false)) = .lit (.bool (decide (x ∈ L))) := by
  by_cases hm : x ∈ L
  · rw [(h.val x hm).2, decide_eq_true hm]
  · rw [decide_eq_false hm]
    refine atKey_of_not_has ?_ _
    cases hh : Maps.has D (.string (kbW x))
    · rfl
    · obtain ⟨z, hz, e⟩ := h.key _ hh
      rw [kbW_inj hx (hL z hz) e] at hm
      exact absurd hz hm
/-- The map has the live ones of some lines, each with how many plays lead on from it. -/
structure LiveV (D : DataW Unit) (L : List (List UInt8)) : Prop where
  val : ∀ x ∈ L, 0 < swN x → hasV D (kbW x) (.lit (.int .i64 (swN x : Int)))
  key : ∀ y, Maps.has D (.string y) = true → ∃ x ∈ L, 0 < swN x ∧ y = kbW x
theorem LiveV.nil {D : DataW Unit} (h : ∀ x, Maps.has D (.string x) = false) : LiveV D [] := ⟨fun e he => absurd he (by simp), fun x hx => absurd hx (by rw [h x]; simp)⟩
theorem LiveV.put {D : DataW Unit} {L : List (List UInt8)} {x : List UInt8} (hD : IsMap D) (h : LiveV D L) (hL : ∀ y ∈ L, G8 y) (hx : G8 x) (h0 : 0 < swN x) : LiveV (D.put (.string (kbW x)) (.lit (.int .i64 (swN x : Int)))) (x :: L) := by
  refine ⟨fun y hy hy0 => ?_, fun y hy => ?_⟩
  · by_cases e : y = x
    · subst e
      exact hasV_same hD _ _
    · rcases List.mem_cons.1 hy with hy | hy
      · exact absurd hy e
      · exact hasV_other _ (h.val y hy hy0) fun e2 => e (kbW_inj (hL y hy) hx e2)
  · rcases has_put hy with rfl | hy
    · exact ⟨x, by simp, h0, rfl⟩
    · obtain ⟨z, hz, h1, e⟩ := h.key y hy
      exact ⟨z, List.mem_cons_of_mem _ hz, h1, e⟩
theorem LiveV.skip {D : DataW Unit} {L : List (List UInt8)} {x : List UInt8} (h : LiveV D L) (h0 : swN x = 0) : LiveV D (x :: L) := by
  refine ⟨fun y hy hy0 => ?_, fun y hy => ?_⟩
  · rcases List.mem_cons.1 hy with rfl | hy
    · omega
    · exact h.val y hy hy0
  · obtain ⟨z, hz, h1, e⟩ := h.key y hy
    exact ⟨z, List.mem_cons_of_mem _ hz, h1, e⟩
/-- What the map tells of a line. -/
def lvN (L : List (List UInt8)) (x : List UInt8) : Nat := if x ∈ L then swN x else 0
theorem LiveV.at {D : DataW Unit} {L : List (List UInt8)} {x : List UInt8} (h : LiveV D L) (hL : ∀ y ∈ L, G8 y) (hx : G8 x) : D.atKey (.string (kbW x)) (.lit (.int .i64 0)) = .lit (.int .i64 (lvN L x : Int)) := by
  have no : (∀ z ∈ L, 0 < swN z → kbW x ≠ kbW z) → D.atKey (.string (kbW x)) (.lit (.int .i64 0)) = .lit (.int .i64 0) := fun hn => by
    refine atKey_of_not_has ?_ _
    cases hh : Maps.has D (.string (kbW x))
    · rfl
    · obtain ⟨z, hz, h1, e⟩ := h.key _ hh
      exact absurd e (hn z hz h1)
  unfold lvN
  by_cases hm : x ∈ L
  · rw [if_pos hm]
    by_cases h0 : 0 < swN x
    · exact (h.val x hm h0).2 _
    · have e0 : swN x = 0 := by omega
      rw [e0]
      exact no fun z hz h1 e => by rw [kbW_inj hx (hL z hz) e] at e0; omega
  · rw [if_neg hm]
    exact no fun z hz h1 e => hm (by rw [kbW_inj hx (hL z hz) e]; exact hz)
/-- The eight signs of a line, as values. -/
structure Eight (l : List UInt8) (c0 c1 c2 c3 c4 c5 c6 c7 : Int) : Prop where
  cells : u8s (swpP l) = [.int .u8 c0, .int .u8 c1, .int .u8 c2, .int .u8 c3, .int .u8 c4, .int .u8 c5, .int .u8 c6, .int .u8 c7]
theorem eight_of {l : List UInt8} (h : l.length ≤ 8) : ∃ c0 c1 c2 c3 c4 c5 c6 c7, Eight l c0 c1 c2 c3 c4 c5 c6 c7 := by
  obtain ⟨c0, c1, c2, c3, c4, c5, c6, c7, e⟩ := swp_eight (swpP_len h)
  exact ⟨c0.toNat, c1.toNat, c2.toNat, c3.toNat, c4.toNat, c5.toNat, c6.toNat, c7.toNat, ⟨by rw [e]; rfl⟩⟩
theorem Eight.val {l : List UInt8} {c0 c1 c2 c3 c4 c5 c6 c7 : Int} (h : Eight l c0 c1 c2 c3 c4 c5 c6 c7) : swpV l = .agg #[.int .u8 c0, .int .u8 c1, .int .u8 c2, .int .u8 c3, .int .u8 c4, .int .u8 c5, .int .u8 c6, .int .u8 c7] := by
  unfold swpV
  rw [h.cells]
/-- Eight cells in memory. -/
def Cells8 (W : World) (g o : Nat) (c0 c1 c2 c3 c4 c5 c6 c7 : Int) : Prop :=
  W.cell? ⟨g, o, none⟩ = some (.int .u8 c0) ∧ W.cell? ⟨g, o + 1, none⟩ = some (.int .u8 c1) ∧ W.cell? ⟨g, o + 2, none⟩ = some (.int .u8 c2) ∧ W.cell? ⟨g, o + 3, none⟩ = some (.int .u8 c3) ∧ W.cell? ⟨g, o + 4, none⟩ = some (.int .u8 c4) ∧ W.cell? ⟨g, o + 5, none⟩ = some (.int .u8 c5) ∧ W.cell? ⟨g, o + 6, none⟩ = some (.int .u8 c6) ∧ W.cell? ⟨g, o + 7, none⟩ = some (.int .u8 c7)
theorem Eight.at {l : List UInt8} {c0 c1 c2 c3 c4 c5 c6 c7 : Int} (h : Eight l c0 c1 c2 c3 c4 c5 c6 c7) {W : World} {g o : Nat} (hr : W.rangeAt g o (u8s (swpP l))) : Cells8 W g o c0 c1 c2 c3 c4 c5 c6 c7 := by
  rw [h.cells] at hr
  exact ⟨hr 0 _ rfl, hr 1 _ rfl, hr 2 _ rfl, hr 3 _ rfl, hr 4 _ rfl, hr 5 _ rfl, hr 6 _ rfl, hr 7 _ rfl⟩
theorem Cells8.kept {W W' : World} {g o : Nat} {c0 c1 c2 c3 c4 c5 c6 c7 : Int} (h : Cells8 W g o c0 c1 c2 c3 c4 c5 c6 c7) (hb : Below W.heap.size W W') (hg : g < W.heap.size) : Cells8 W' g o c0 c1 c2 c3 c4 c5 c6 c7 := by
  obtain ⟨h0, h1, h2, h3, h4, h5, h6, h7⟩ := h
  have e : ∀ j, W'.cell? ⟨g, j, none⟩ = W.cell? ⟨g, j, none⟩ := fun j => hb.cell (p := ⟨g, j, none⟩) hg
  exact ⟨(e _).trans h0, (e _).trans h1, (e _).trans h2, (e _).trans h3, (e _).trans h4, (e _).trans h5, (e _).trans h6, (e _).trans h7⟩
theorem Cells8.new (W : World) (c0 c1 c2 c3 c4 c5 c6 c7 : Int) (t : TypeId) : Cells8 (W.alloc (Obj.cells #[.int .u8 c0, .int .u8 c1, .int .u8 c2, .int .u8 c3, .int .u8 c4, .int .u8 c5, .int .u8 c6, .int .u8 c7] t)) W.heap.size 0 c0 c1 c2 c3 c4 c5 c6 c7 := by
  unfold Cells8
  refine ⟨?_, ?_, ?_, ?_, ?_, ?_, ?_, ?_⟩ <;> rw [World.cell?_alloc_new] <;> rfl
end Go.Proofs.YtfiifjcjmnhbnaaDoor
namespace Go.Proofs.YtfiifjcjmnhbnaaDoor
open Go.RowKit

theorem own_lowerW {w : World} {b b' : Nat} {e : TypeId} {size n : Nat} {v : Value} {xs : List Value} (h : w.ownsRow b e size v n xs) (hle : b' ≤ b) : w.ownsRow b' e size v n xs := by
  refine ⟨h.1, ?_⟩
  rcases h.2 with h | ⟨g1, cap1, cur, hv, hb, hh, hn, hm, hs, ht⟩
  · exact .inl h
  · exact .inr ⟨g1, cap1, cur, hv, Nat.le_trans hle hb, hh, hn, hm, hs, ht⟩
theorem behind_set (l : List UInt8) (a b : Nat) : behind (str l) (a : Int) (b : Int) = (l.set b (l.getD a 0)).set a 46 := by
  show ((byt (str l)).set b ((byt (str l)).getD a 0)).set a 46 = _
  rw [byt_str]
set_option maxHeartbeats 1000000 in
theorem swpMoves_any (n : Nat) (l : List UInt8) (w : World) (hg : goodT n l) (h8 : n ≤ 8) :
    Calls Tryd.prog 46 #[swpV l] w fun e w' => ∃ v, e = .returned v ∧ w'.ownsRow w.heap.size 55 2 v (mvL l).length (flat (mvL l)) ∧ Below w.heap.size w w' := by
  have G := G8.of hg h8
  have HT := Lib.hid (fun wx => swpText_any l wx G.len G.nz)
  have HM := Lib.hid (fun wx => movesOf_any (str l) wx (by rw [str_size]; have := G.len; unfold maxLen; omega))
  have e1 : mvsOr (canM (str l)) (str l) = mvL l := by unfold mvsOr; rw [hg.1]; rfl
  rw [e1, hg.1] at HM
  obtain ⟨c0, c1, c2, c3, c4, c5, c6, c7, hc⟩ := eight_of G.len
  rw [hc.val] at HT ⊢
  clear e1 G hg hc
  go_enter Tryd.func46, Tryd.ntmps46
  go_wp2_with fail
  refine (HT.out _).mono ?_
  rintro e w1 ⟨rfl, hb1⟩
  go_wp2_with fail
  refine (HM.out _).mono ?_
  rintro e w2 ⟨v, rfl, ho, hb2⟩
  have hz : w.heap.size ≤ w1.heap.size := by have := hb1.size; simp at this; omega
  have HB2 : Hid (Below w.heap.size w w2) := Lib.hid ((((Below.refl w.heap.size w).alloc (Nat.le_refl _) _).trans (hb1.mono (by simp))).trans (hb2.mono hz))
  have HO := Lib.hid (own_lowerW ho hz)
  clear ho hb1 hb2
  go_wp2_with fail
  go_ret
  exact ⟨v, rfl, HO.out, HB2.out⟩
theorem swBehind_any (n : Nat) (l : List UInt8) (a b : Nat) (w : World) (hg : goodT n l) (h8 : n ≤ 8) (ha : a < (str l).size) (hb : b < (str l).size) (hne : a ≠ b) :
    Calls Tryd.prog 33 #[swpV l, .agg #[.int .i64 a, .int .i64 b]] w fun e w' => e = .returned (swpV (behind (str l) (a : Int) (b : Int))) ∧ Below w.heap.size w w' := by
  rw [behind_set]
  rw [str_size] at ha hb
  exact swpBehind_any l a b w (G8.of hg h8).len ha hb hne
end Go.Proofs.YtfiifjcjmnhbnaaDoor
namespace Go.Proofs.YtfiifjcjmnhbnaaDoor
open Go.RowKit Go.Maps

/-- The cells of lines, one behind the other. -/
def fl8 (L : List (List UInt8)) : List Value := L.flatMap fun l => u8s (swpP l)
theorem fl8_app (L M : List (List UInt8)) : fl8 (L ++ M) = fl8 L ++ fl8 M := by simp [fl8]
theorem fl8_one (l : List UInt8) : fl8 [l] = u8s (swpP l) := by simp [fl8]
theorem u8s_len8 {l : List UInt8} (h : l.length ≤ 8) : (u8s (swpP l)).length = 8 := by rw [u8s_len, swpP_len h]
theorem fl8_len : ∀ (L : List (List UInt8)), (∀ x ∈ L, x.length ≤ 8) → (fl8 L).length = L.length * 8
  | [], _ => rfl
  | l :: L, h => by
    have ih := fl8_len L fun x hx => h x (by simp [hx])
    show (u8s (swpP l) ++ fl8 L).length = _
    rw [List.length_append, u8s_len8 (h l (by simp)), ih, List.length_cons]
    omega
theorem fl8_get : ∀ (L : List (List UInt8)) (k j : Nat), (∀ x ∈ L, x.length ≤ 8) → (hk : k < L.length) → j < 8 → (fl8 L)[k * 8 + j]? = (u8s (swpP L[k]))[j]?
  | [], k, j, _, hk, _ => by simp at hk
  | l :: L, 0, j, h, hk, hj => by
    show (u8s (swpP l) ++ fl8 L)[0 * 8 + j]? = _
    rw [List.getElem?_append_left (by rw [u8s_len8 (h l (by simp))]; omega)]
    simp
  | l :: L, k + 1, j, h, hk, hj => by
    have ih := fl8_get L k j (fun x hx => h x (by simp [hx])) (by simpa using hk) hj
    have hl := u8s_len8 (h l (by simp))
    show (u8s (swpP l) ++ fl8 L)[(k + 1) * 8 + j]? = _
    rw [List.getElem?_append_right (by omega), hl, show (k + 1) * 8 + j - 8 = k * 8 + j by omega, ih]
    rfl
/-- A row's address and cells, at any size of its elements. -/
theorem own_openN {w : World} {base n size : Nat} {e : TypeId} {v : Value} {vs : List Value} (ho : w.ownsRow base e size v n vs) (hn : 0 < n) : ∃ g cap, v = .slice (some ⟨g, 0, none⟩) n cap ∧ base ≤ g ∧ g < w.heap.size ∧ n ≤ cap ∧ cap ≤ maxLen ∧ ∀ (k : Nat) (h : k < vs.length), w.cell? ⟨g, k, none⟩ = some vs[k] := by
  obtain ⟨hlen, h2 | ⟨g, cap, cur, rfl, hb, hg, hle, hm, hs, ht⟩⟩ := ho
  · omega
  · have ho : w.ownsRow base e size (.slice (some ⟨g, 0, none⟩) n cap) n vs := ⟨hlen, .inr ⟨g, cap, cur, rfl, hb, hg, hle, hm, hs, ht⟩⟩
    refine ⟨g, cap, rfl, hb, (Array.getElem?_eq_some_iff.1 hg).1, hle, hm, fun k hk => ?_⟩
    have := ho.cells (g := g) rfl k vs[k] (by simp)
    rw [addr_add] at this
    exact this
/-- The lines lie in a row. -/
theorem row_arr {W : World} {R0 : Nat} {L : List (List UInt8)} {v : Value} (h : W.ownsRow R0 39 8 v L.length (fl8 L)) (h8 : ∀ x ∈ L, x.length ≤ 8) {k : Nat} (hk : k < L.length) :
    ∃ g cap, v = .slice (some ⟨g, 0, none⟩) L.length cap ∧ L.length ≤ cap ∧ cap ≤ maxLen ∧ R0 ≤ g ∧ g < W.heap.size ∧ W.rangeAt g (k * 8) (u8s (swpP L[k])) := by
  obtain ⟨g, cap, e, hb, hg, hc, hm, hr⟩ := own_openN h (by omega)
  refine ⟨g, cap, e, hc, hm, hb, hg, fun j u hu => ?_⟩
  have hj : j < 8 := by
    have h1 := (List.getElem?_eq_some_iff.1 hu).1
    rwa [u8s_len8 (h8 _ (List.getElem_mem hk))] at h1
  have hlen := fl8_len L h8
  have h2 : k * 8 + j < (fl8 L).length := by
    have : (k + 1) * 8 ≤ L.length * 8 := Nat.mul_le_mul_right 8 hk
    omega
  rw [hr (k * 8 + j) h2]
  have h3 := fl8_get L k j h8 hk hj
  rw [hu, List.getElem?_eq_getElem h2] at h3
  exact h3
theorem rng_kept8 {w w' : World} {row : Option Nat} {b o : Nat} {cs : List Value} (h : w.rangeAt b o cs) (hg : w.grownBy w' row) (hb : b < w.heap.size) (hne : some b ≠ row) : w'.rangeAt b o cs := fun j v hv => by
  have := hg.block b hb hne
  exact (World.cell?_of_block (a := ⟨b, o + j, none⟩) this).trans (h j v hv)
theorem rng_below8 {w w' : World} {b o : Nat} {cs : List Value} (h : w.rangeAt b o cs) (hb : Below w.heap.size w w') (hl : b < w.heap.size) : w'.rangeAt b o cs := rng_kept8 h (grown_of_below hb) hl (by simp)
theorem there_zw (W : World) {cs : List Value} (h : cs.length = 8) : (W.alloc zwO).there W.heap.size 0 cs.length := by
  have hb : (W.alloc zwO).heap[W.heap.size]? = some zwO := heap_alloc_new W _
  rw [h]
  intro j hj
  unfold World.cell? World.frozen?
  rw [Nat.zero_add, hb]
  rcases (by omega : j = 0 ∨ j = 1 ∨ j = 2 ∨ j = 3 ∨ j = 4 ∨ j = 5 ∨ j = 6 ∨ j = 7) with rfl | rfl | rfl | rfl | rfl | rfl | rfl | rfl <;> exact ⟨rfl, rfl⟩
theorem set_grows8 (W : World) (cs : List Value) : W.heap.size < ((W.alloc zwO).setCells W.heap.size 0 cs).heap.size := by
  have h0 : Below W.heap.size (W.alloc zwO) ((W.alloc zwO).setCells W.heap.size 0 cs) := below_setCells (Nat.le_refl _) _ _ _ (Below.refl _ _)
  have h1 := h0.size
  have h2 : (W.alloc zwO).heap.size = W.heap.size + 1 := by simp
  omega
theorem mvAt_kept8 {W W' : World} {A : Option Addr} {l : List (Int × Int)} {row : Option Nat} (h : MvAt W A l) (hg : W.grownBy W' row) (hne : ∀ a, A = some a → some a.block ≠ row) : MvAt W' A l := by
  intro k hk
  obtain ⟨g, a, b, c, d⟩ := h k hk
  have hb := hg.block g b (hne _ a)
  exact ⟨g, a, Nat.lt_of_lt_of_le b hg.size, (World.cell?_of_block (a := ⟨g, k * 2, none⟩) hb).trans c, (World.cell?_of_block (a := ⟨g, k * 2 + 1, none⟩) hb).trans d⟩
/-- Where the search for lines stands: the lines found in a row, and seen. -/
structure TnW (W : World) (R0 bm : Nat) (n : Nat) (L : List (List UInt8)) (D : DataW Unit) (v : Value) : Prop where
  map : W.ownsMap Tryd.prog 39 bRw bm L.length D
  low : R0 ≤ bm
  sv : SeenV D L
  row : W.ownsRow R0 39 8 v L.length (fl8 L)
  gd : ∀ x ∈ L, goodT n x
section
variable {W W' : World} {R0 bm n : Nat} {L : List (List UInt8)} {D : DataW Unit} {v : Value}
theorem TnW.below (h : TnW W R0 bm n L D v) (hb : Below W.heap.size W W') : TnW W' R0 bm n L D v := ⟨h.map.kept (grown_of_below hb) (by simp), h.low, h.sv, own_below h.row hb, h.gd⟩
theorem TnW.g8 (h : TnW W R0 bm n L D v) (hn : n ≤ 8) : ∀ x ∈ L, G8 x := fun x hx => G8.of (h.gd x hx) hn
theorem TnW.l8 (h : TnW W R0 bm n L D v) (hn : n ≤ 8) : ∀ x ∈ L, x.length ≤ 8 := fun x hx => (h.g8 hn x hx).len
theorem TnW.ne_map (h : TnW W R0 bm n L D v) : v.ownBlock ≠ some bm := by
  obtain ⟨es, clock, hb, _⟩ := h.map
  rcases h.row.2 with ⟨hv, _⟩ | ⟨g, cap, cur, rfl, _, hg, _⟩
  · subst hv; intro h; cases h
  · intro e2
    injection e2 with e2
    have e2 : g = bm := e2
    subst e2
    rw [hg] at hb
    cases hb
end
end Go.Proofs.YtfiifjcjmnhbnaaDoor
