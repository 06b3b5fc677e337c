/- GamePlay: the program's side. -/
import Derived.Test.YtflpncdnneapmaaBmH
import Derived.Test.YtflpncdnneapmaaBmI
import Derived.ScopeJumps
import Derived.WalkMore
namespace Go.Proofs.Ytflpncdnneapmaa
open Go.RowKit Go.Maps Go.Shelf

def tlP : Code → Code
  | .seq _ c => c
  | c => c
def scP : Code → Code
  | .scope c => c
  | c => c
/-- Where the run stands at the label. -/
structure PlR (w : World) (T : List (Int × Int)) (L Bx B Bt Br Bs Rb n : Nat) (tt : Bool) (ut : List UInt8) (F : List (Int × Int)) (v : Value) (w' : World) : Prop where
  rest : F ++ gpl n tt ut = T
  mu : muG 0 ut < n
  few : fewB (str ut) = true
  len : ut.length = L
  box : w'.heap[Bx]? = some (.cells #[.string (str ut), .int .u8 (kd tt).toNat] 66 (0, 0))
  tell : TellI w' L B Bt Br Bs
  row : w'.ownsRow Rb 31 2 v F.length (flat F)
  lt : w.heap.size ≤ Bx ∧ w.heap.size ≤ B ∧ Bx < Rb ∧ B < Rb ∧ Bt < Rb ∧ Br < Rb ∧ Bs < Rb ∧ Rb ≤ w'.heap.size
  ne : Bx ≠ B ∧ Bx ≠ Bt ∧ Bx ≠ Br ∧ Bx ≠ Bs
  below : Below w.heap.size w w'
theorem tellI_grown {W W' : World} {L B Bt Br Bs : Nat} {o : Option Nat} (h : TellI W L B Bt Br Bs) (hg : W.grownBy W' o) (h0 : some B ≠ o) (h1 : some Bt ≠ o) (h2 : some Br ≠ o) (h3 : some Bs ≠ o) : TellI W' L B Bt Br Bs := by
  obtain ⟨⟨D, m1, m2⟩, hb⟩ := h
  have hl := hb.lt
  have hz := hg.size
  have e : ∀ b, b < W.heap.size → some b ≠ o → W'.cell? ⟨b, 0, none⟩ = W.cell? ⟨b, 0, none⟩ := fun b hl hne => World.cell?_of_block (a := ⟨b, 0, none⟩) (hg.block b hl hne)
  exact ⟨⟨D, m1.kept hg h0, m2⟩, ⟨(e _ (by omega) h1).trans hb.told, (e _ (by omega) h2).trans hb.rule, (e _ (by omega) h3).trans hb.tell, ⟨by omega, by omega, by omega⟩, hb.ne⟩⟩
def slLenP : Value → Nat
  | .slice _ n _ => n
  | _ => 0
theorem own_lenP {W : World} {b n : Nat} {e : TypeId} {m : Nat} {v : Value} {xs : List Value} (h : W.ownsRow b e m v n xs) : slLenP v = n := by
  rcases h.2 with ⟨rfl, rfl⟩ | ⟨g, cap, cur, rfl, _⟩ <;> rfl
theorem jump_retP {l : Nat} {J : Act → World → Prop} {Q : Exit → Act → World → Prop} {a : Act} {w : World} (h : Q .ret a w) : Exit.jump l J Q .ret a w := h
theorem own_kpN {B n : Nat} {W W' : World} (hk : KpN B n W W') {base k size : Nat} {e : TypeId} {v : Value} {xs : List Value} (h : W.ownsRow base e size v k xs) (hne : B < base) (hn : W.heap.size ≤ n) : W'.ownsRow base e size v k xs := by
  refine ⟨h.1, ?_⟩
  rcases h.2 with h2 | ⟨g, cap, cur, rfl, hb, hg, r⟩
  · exact .inl h2
  · have := (h.lt g rfl).2
    exact .inr ⟨g, cap, cur, rfl, hb, (hk.far g (by omega) (by omega) this).trans hg, r⟩
/-- The code behind the label. -/
noncomputable def gpRest : Code := tlP (tlP (tlP (tlP (tlP (scP (tlP (Try.f20.body.getD .skip)))))))
set_option maxRecDepth 100000 in
set_option maxHeartbeats 8000000 in
theorem gamePlay_no (wl : List UInt8) (tm : Bool) (w : World) (hs : (str wl).size ≤ maxLen) (hf : fewB (str wl) = false) :
    Calls Try.prog 20 #[.string (str wl), .bool tm] w (BvP [] false w) := by
  have HT := Lib.hid (turnOf_no tm [wl] (some ⟨w.heap.size, 0, none⟩) 1 _ (one_slice w wl) (fun x hx => by simp at hx; subst hx; rw [str_size] at hs; exact hs) (by rw [sumOk_one]; exact hf))
  clear hf hs
  go_enter Try.func20, Try.ntmps20
  go_wp2
  refine wp_scope_straight ?_
  go_wp2_with fail
  refine HT.out.mono ?_
  rintro e w1 ⟨rfl, hb1⟩
  have HB := Lib.hid (((Below.refl w.heap.size w).alloc (Nat.le_refl _) (.cells #[.string (str wl)] 9)).trans (hb1.mono (by simp)))
  have hz := HB.out.size
  clear hb1
  go_wp2_with fail
  (try rw [Exit.noGoto_ret])
  go_ret2
  exact ⟨_, rfl, World.ownsRow_nil _ _ _ _, HB.out.alloc hz _⟩
set_option maxRecDepth 100000 in
set_option maxHeartbeats 8000000 in
theorem winning_exP (L : Nat) (w : World) : Calls Try.prog 39 #[] w fun e w' => ∃ B Bt Br Bs, e = .returned (telV Bt Br Bs) ∧ TellI w' L B Bt Br Bs ∧ (w.heap.size ≤ B ∧ w.heap.size ≤ Bt ∧ w.heap.size ≤ Br ∧ w.heap.size ≤ Bs) ∧ Below w.heap.size w w' :=
  (winning_any L w).mono fun _ _ ⟨he, h1, h2⟩ => ⟨_, _, _, _, he, h1, ⟨by omega, by omega, by omega, by omega⟩, h2⟩
set_option maxRecDepth 100000 in
set_option maxHeartbeats 8000000 in
theorem gp_pass (wl : List UInt8) (tm : Bool) (w : World) (T : List (Int × Int)) (L Bx B Bt Br Bs Rb n : Nat) (tt : Bool) (ut : List UInt8) (F : List (Int × Int)) (v : Value) (wr : World) (hrel : PlR w T L Bx B Bt Br Bs Rb n tt ut F v wr) (hTl : T.length ≤ 2001)
    {J' : Act → World → Prop} {u2 u3 u4 u5 u7 u10 u11 u12 u13 u14 u15 u16 u17 u18 u19 u20 u21 u22 u23 u24 u25 u26 u27 u28 u29 u30 u31 u32 u33 u34 u35 u36 : Value}
    (hJ : ∀ (n' : Nat) (tt' : Bool) (ut' : List UInt8) (F' : List (Int × Int)) (v' u2 u3 u4 u5 u7 u10 u11 u12 u13 u14 u15 u16 u17 u18 u19 u20 u21 u22 u23 u24 u25 u26 u27 u28 u29 u30 u31 u32 u33 u34 u35 u36 : Value) (w' : World), PlR w T L Bx B Bt Br Bs Rb n' tt' ut' F' v' w' → F'.length = F.length + 1 → J' { tmps := #[.string (str wl), .bool tm, u2, u3, u4, u5, .pointer (some ⟨Bx, 0, none⟩), u7, telV Bt Br Bs, v', u10, u11, u12, u13, u14, u15, u16, u17, u18, u19, u20, u21, u22, u23, u24, u25, u26, u27, u28, u29, u30, u31, u32, u33, u34, u35, u36], defers := [] } w') :
    Code.wp Try.prog gpRest (Exit.jump 0 J' (bodyPost Try.prog Try.f20 (BvP T true w))) { tmps := #[.string (str wl), .bool tm, u2, u3, u4, u5, .pointer (some ⟨Bx, 0, none⟩), u7, telV Bt Br Bs, v, u10, u11, u12, u13, u14, u15, u16, u17, u18, u19, u20, u21, u22, u23, u24, u25, u26, u27, u28, u29, u30, u31, u32, u33, u34, u35, u36], defers := [] } wr := by
  obtain ⟨i0, hi, hz0, hz1, hz2⟩ := info_parts Try.infoM
  have HI := Lib.hid hi
  have HZ0 := Lib.hid hz0
  have HZ1 := Lib.hid hz1
  have HZ2 := Lib.hid hz2
  clear hi hz0 hz1 hz2
  obtain ⟨hrest, hmu, hfew, hlen, hbox, htell, hrow, hlt, hne, hbel⟩ := hrel
  obtain ⟨hL0, hsig⟩ := few_sig hfew
  rw [hlen] at hL0 hsig
  have HGA := Lib.hid (fun wx h => tnGame_any L B Bt Br Bs tt ut wx hL0 hsig h)
  have c0 : wr.cell? ⟨Bx, 0, none⟩ = some (.string (str ut)) := by simp [World.cell?, hbox]
  have c1 : wr.cell? ⟨Bx, 1, none⟩ = some (.int .u8 (kd tt).toNat) := by simp [World.cell?, hbox]
  have HBOX := Lib.hid hbox
  have HTE := Lib.hid htell
  have HROW := Lib.hid hrow
  have HBEL := Lib.hid hbel
  have HJ := Lib.hid hJ
  clear hbox htell hrow hbel hJ hsig
  cases hg : gmvO tt ut with
  | none =>
    have HR : gmvR (gmvO tt ut) = .tuple #[.agg #[.int .i64 0, .int .i64 0], .bool false] := by rw [hg]; rfl
    rw [HR] at HGA
    have HTF : Hid (F = T) := Lib.hid (by have := hrest; rw [gpl_none hg, List.append_nil] at this; exact this)
    clear HR hg hrest
    conv => arg 2; whnf
    go_wp2_with fail
    refine (HGA.out _ HTE.out).mono ?_
    rintro e w3 ⟨rfl, hI3, hk3⟩
    have HROW3 := Lib.hid (own_kpN hk3 HROW.out (by omega) (Nat.le_refl _))
    have HBEL3 := Lib.hid (HBEL.out.trans (hk3.to_below (by omega) HBEL.out.size HBEL.out.size))
    have hz3 := HBEL3.out.size
    clear hI3 hk3
    go_wp2_with fail
    refine jump_retP ?_
    go_ret2
    refine ⟨_, rfl, ?_, HBEL3.out.alloc hz3 _⟩
    rw [← HTF.out]
    exact own_lowerD (HROW3.out.alloc _) (by omega)
  | some m =>
    obtain ⟨a, b, rfl, hai, hbi, hneab, hxn, hbe⟩ := gmvO_at hg
    have HR : gmvR (gmvO tt ut) = .tuple #[.agg #[.int .i64 a, .int .i64 b], .bool true] := by rw [hg]; rfl
    rw [HR] at HGA
    obtain ⟨hf1, hf2, hf3⟩ := few_next hfew hxn
    have HT1 : Hid ((F ++ [((a : Int), (b : Int))]) ++ gpl (n - 1) (!tt) (putL (str ut) a b) = T) := Lib.hid (by
      have := hrest
      rw [gpl_some hg (by omega), hbe] at this
      rw [List.append_assoc]
      exact this)
    have hFl : F.length + 1 ≤ 2001 := by
      have h1 := hTl
      rw [← HT1.out, List.length_append, List.length_append, List.length_singleton] at h1
      omega
    have HBH := Lib.hid (fun wx => tnBehind_any tt ut a b wx hai hbi hneab)
    have HF1 := Lib.hid hf1
    clear HR hg hxn hbe hf1 hneab hrest hfew
    generalize putL (str ut) a b = y at *
    conv => arg 2; whnf
    go_wp2_with fail
    refine (HGA.out _ HTE.out).mono ?_
    rintro e w3 ⟨rfl, hI3, hk3⟩
    have hBxr : Bx < wr.heap.size := by omega
    have HROW3 := Lib.hid (own_kpN hk3 HROW.out (by omega) (Nat.le_refl _))
    have HBEL3 := Lib.hid (HBEL.out.trans (hk3.to_below (by omega) HBEL.out.size HBEL.out.size))
    have HBOX3 := Lib.hid ((hk3.far Bx hne.1 hBxr hBxr).trans HBOX.out)
    have hz3 := hk3.size
    have HI3 := Lib.hid hI3
    have hb35 : Below w3.heap.size w3 ((w3.alloc (Obj.cells #[.int .i64 (a : Int), .int .i64 (b : Int)] 31)).alloc (Obj.cells #[.int .i64 (a : Int), .int .i64 (b : Int)] 31)) := ((Below.refl _ _).alloc (Nat.le_refl _) _).alloc (by simp) _
    have hz5 : ((w3.alloc (Obj.cells #[.int .i64 (a : Int), .int .i64 (b : Int)] 31)).alloc (Obj.cells #[.int .i64 (a : Int), .int .i64 (b : Int)] 31)).heap.size = w3.heap.size + 2 := by simp
    have HROW5 := Lib.hid (own_below HROW3.out hb35)
    have HBEL5 := Lib.hid (HBEL3.out.trans (hb35.mono HBEL3.out.size))
    have HBOX5 := Lib.hid ((hb35.block Bx (by omega)).trans HBOX3.out)
    have HI5 := Lib.hid (HI3.out.below hb35)
    have m0 : ((w3.alloc (Obj.cells #[.int .i64 (a : Int), .int .i64 (b : Int)] 31)).alloc (Obj.cells #[.int .i64 (a : Int), .int .i64 (b : Int)] 31)).cell? ⟨w3.heap.size, 0, none⟩ = some (.int .i64 a) := by rw [cell_old _ _ _ _ (by simp), World.cell?_alloc_new]; rfl
    have m1 : ((w3.alloc (Obj.cells #[.int .i64 (a : Int), .int .i64 (b : Int)] 31)).alloc (Obj.cells #[.int .i64 (a : Int), .int .i64 (b : Int)] 31)).cell? ⟨w3.heap.size, 1, none⟩ = some (.int .i64 b) := by rw [cell_old _ _ _ _ (by simp), World.cell?_alloc_new]; rfl
    have HM0 := Lib.hid m0
    have HM1 := Lib.hid m1
    have HLT : Hid (∀ k, v.ownBlock = some k → Rb ≤ k ∧ k < w3.heap.size) := Lib.hid fun k hk => HROW3.out.lt k hk
    have H1 : ∀ u ∈ [Value.int .i64 (a : Int), Value.int .i64 (b : Int)], u.oneCell' = true := fun u hu => by simp at hu; rcases hu with rfl | rfl <;> rfl
    have H3 : F.length + 1 ≤ maxLen := by unfold maxLen; omega
    have H4 : (F.length + 1) * 16 ≤ 140737488355328 := by omega
    clear m0 m1 hk3 hI3 hb35 HGA HTE HROW HBEL HBOX HROW3 HBEL3 HBOX3 HI3 c0 c1
    go_wp2_with (first | (at_builtin; refine wpList_append_st _ rfl _ _ 22 rfl Rb 31 i0 (.agg #[.int .i64 0, .int .i64 0]) 2 16 Try.underlying22 HI.out HZ0.out HZ1.out HZ2.out rfl (by decide) _ _ _ rfl HROW5.out (some ⟨w3.heap.size + 1, 0, none⟩) 1 1 [Value.int .i64 (a : Int), Value.int .i64 (b : Int)] rfl (fun e => by cases e) rfl (fun ad e j' u h => by injection e with e; subst e; exact cell_two_a9 (w3.alloc (Obj.cells #[.int .i64 (a : Int), .int .i64 (b : Int)] 31)) (w3.heap.size + 1) (by simp) _ _ 31 j' u h) H1 H3 H4 (by rw [hz5]; omega) ?_; intro v8 w8 hown8 hg8; have d0 : w8.cell? ⟨w3.heap.size, 0, none⟩ = some (.int .i64 a) := (World.cell?_of_block (a := ⟨w3.heap.size, 0, none⟩) (hg8.block w3.heap.size (by rw [hz5]; omega) (fun e => by have := (HLT.out _ e.symm).2; omega))).trans HM0.out; have d1 : w8.cell? ⟨w3.heap.size, 1, none⟩ = some (.int .i64 b) := (World.cell?_of_block (a := ⟨w3.heap.size, 1, none⟩) (hg8.block w3.heap.size (by rw [hz5]; omega) (fun e => by have := (HLT.out _ e.symm).2; omega))).trans HM1.out; have hbox8 := (hg8.block Bx (by rw [hz5]; omega) (fun e => by have := (HLT.out _ e.symm).1; omega)).trans HBOX5.out; have c0 : w8.cell? ⟨Bx, 0, none⟩ = some (.string (str ut)) := (by simp [World.cell?, hbox8]); have c1 : w8.cell? ⟨Bx, 1, none⟩ = some (.int .u8 (kd tt).toNat) := (by simp [World.cell?, hbox8]); have HBOX8 := Lib.hid hbox8; clear hbox8))
    have hz8 : w3.heap.size + 2 ≤ w8.heap.size := by have := hg8.size; rw [hz5] at this; omega
    have HI8 := Lib.hid (tellI_grown HI5.out hg8 (fun e => by have := (HLT.out _ e.symm).1; omega) (fun e => by have := (HLT.out _ e.symm).1; omega) (fun e => by have := (HLT.out _ e.symm).1; omega) (fun e => by have := (HLT.out _ e.symm).1; omega))
    have HBEL8 : Hid (Below w.heap.size w w8) := Lib.hid (HBEL5.out.grown hg8 (by rw [hz5]; omega) (fun k hk => by have := (HLT.out k hk).1; omega))
    have HROW8 : Hid (w8.ownsRow Rb 31 2 v8 (F ++ [((a : Int), (b : Int))]).length (flat (F ++ [((a : Int), (b : Int))]))) := Lib.hid (by rw [List.length_append, flat_app]; exact hown8)
    clear hown8 hg8 HI5 HBEL5 HROW5 HBOX5 HM0 HM1
    refine (HBH.out _).mono ?_
    rintro e w9 ⟨rfl, hb9⟩
    have HI9 := Lib.hid (HI8.out.below hb9)
    have HBEL9 := Lib.hid (HBEL8.out.trans (hb9.mono (by omega)))
    have HROW9 := Lib.hid (own_below HROW8.out hb9)
    have hbox9 := (hb9.block Bx (by omega)).trans HBOX8.out
    have hz9 := hb9.size
    have q0 : w9.cell? ⟨Bx, 0, none⟩ = some (.string (str ut)) := by simp [World.cell?, hbox9]
    have q1 : w9.cell? ⟨Bx, 1, none⟩ = some (.int .u8 (kd tt).toNat) := by simp [World.cell?, hbox9]
    have f0 : w9.frozen? ⟨Bx, 0, none⟩ = false := by simp [World.frozen?, hbox9]
    have f1 : w9.frozen? ⟨Bx, 1, none⟩ = false := by simp [World.frozen?, hbox9]
    have HBOX9 := Lib.hid hbox9
    clear hb9 hbox9 HI8 HBEL8 HROW8 HBOX8 d0 d1 c0 c1
    go_wp2_with fail
    have hown : ∀ k, v8.ownBlock = some k → k ≠ Bx := fun k hk e => by have := (HROW9.out.lt k hk).1; omega
    have hrel' : PlR w T L Bx B Bt Br Bs Rb (n - 1) (!tt) y (F ++ [((a : Int), (b : Int))]) v8 ((w9.setCell ⟨Bx, 0, none⟩ (.string (str y))).setCell ⟨Bx, 1, none⟩ (.int .u8 (kd (!tt)).toNat)) :=
      ⟨HT1.out, by omega, HF1.out, by omega, heap_set1 (heap_set0 HBOX9.out), tellI_set (tellI_set HI9.out Bx 0 _ hne.1 hne.2.1 hne.2.2.1 hne.2.2.2) Bx 1 _ hne.1 hne.2.1 hne.2.2.1 hne.2.2.2, ownsRow_setCell_other (ownsRow_setCell_other HROW9.out (fun e2 => hown _ e2 rfl) _) (fun e2 => hown _ e2 rfl) _, ⟨hlt.1, hlt.2.1, hlt.2.2.1, hlt.2.2.2.1, hlt.2.2.2.2.1, hlt.2.2.2.2.2.1, hlt.2.2.2.2.2.2.1, by simp; omega⟩, hne, (HBEL9.out.setCell hlt.1 _).setCell hlt.1 _⟩
    refine wp_goto ?_
    exact ⟨rfl, HJ.out (n - 1) (!tt) y (F ++ [((a : Int), (b : Int))]) v8 _ _ _ _ _ _ _ _ _ _ _ _ _ _ _ _ _ _ _ _ _ _ _ _ _ _ _ _ _ _ _ _ _ hrel' (by simp)⟩
set_option maxRecDepth 100000 in
set_option maxHeartbeats 8000000 in
theorem gamePlay_any (wl : List UInt8) (tm : Bool) (w : World) (hs : (str wl).size ≤ maxLen) :
    Calls Try.prog 20 #[.string (str wl), .bool tm] w (BvP (gpL tm wl) (fewB (str wl)) w) := by
  cases hf : fewB (str wl)
  · have e0 : gpL tm wl = [] := by unfold gpL; rw [hf]; rfl
    rw [e0]
    exact gamePlay_no wl tm w hs hf
  · have e0 : gpL tm wl = gpl (muG 0 wl + 1) tm wl := by unfold gpL; rw [if_pos hf]
    have hTl := gpL_len tm wl
    rw [e0] at hTl ⊢
    have HT : Hid (Calls Try.prog 37 #[.bool tm, .slice (some ⟨w.heap.size, 0, none⟩) 1 1] (w.alloc (.cells #[.string (str wl)] 9)) fun e w' => e = .returned (.tuple #[tnV tm wl, .bool true]) ∧ Below (w.alloc (.cells #[.string (str wl)] 9)).heap.size (w.alloc (.cells #[.string (str wl)] 9)) w') := Lib.hid (turnOf_yes tm [wl] (some ⟨w.heap.size, 0, none⟩) 1 _ (one_slice w wl) (by simp) (by rw [sumOk_one]; exact hf))
    have HT0 : Hid ([] ++ gpl (muG 0 wl + 1) tm wl = gpl (muG 0 wl + 1) tm wl) := Lib.hid rfl
    have HFW := Lib.hid hf
    obtain ⟨T, hT⟩ : ∃ T, T = gpl (muG 0 wl + 1) tm wl := ⟨_, rfl⟩
    have HT1 : Hid ([] ++ gpl (muG 0 wl + 1) tm wl = T) := Lib.hid hT.symm
    rw [← hT] at hTl ⊢
    clear hT HT0 e0 hf hs
    go_enter Try.func20, Try.ntmps20
    go_wp2
    refine wp_scope_jumps 0 (fun a w' => ∃ (Bx B Bt Br Bs Rb n : Nat) (tt : Bool) (ut : List UInt8) (F : List (Int × Int)) (v u2 u3 u4 u5 u7 u10 u11 u12 u13 u14 u15 u16 u17 u18 u19 u20 u21 u22 u23 u24 u25 u26 u27 u28 u29 u30 u31 u32 u33 u34 u35 u36 : Value), PlR w T wl.length Bx B Bt Br Bs Rb n tt ut F v w' ∧ a = { tmps := #[.string (str wl), .bool tm, u2, u3, u4, u5, .pointer (some ⟨Bx, 0, none⟩), u7, telV Bt Br Bs, v, u10, u11, u12, u13, u14, u15, u16, u17, u18, u19, u20, u21, u22, u23, u24, u25, u26, u27, u28, u29, u30, u31, u32, u33, u34, u35, u36], defers := [] }) (fun a _ => 3000 - slLenP (a.tmps.getD 9 undef)) rfl ?_ ?_
    · go_wp2_with fail
      refine HT.out.mono ?_
      rintro e w2 ⟨rfl, hb2⟩
      have HB2 := Lib.hid (((Below.refl w.heap.size w).alloc (Nat.le_refl _) (.cells #[.string (str wl)] 9)).trans (hb2.mono (by simp)))
      clear hb2
      go_wp2_with fail
      have hz2 := HB2.out.size
      refine (winning_exP wl.length _).mono ?_
      rintro e w4 ⟨B, Bt, Br, Bs, rfl, hI, ⟨k0, k1, k2, k3⟩, hb4⟩
      simp at k0 k1 k2 k3
      have hz4 := hb4.size
      simp at hz4
      have hl := hI.box.lt
      have hbl := hI.map.lt
      have hrel : PlR w T wl.length w2.heap.size B Bt Br Bs w4.heap.size (muG 0 wl + 1) tm wl [] (.slice none 0 0) w4 :=
        ⟨HT1.out, Nat.lt_succ_self _, HFW.out, rfl, (hb4.block w2.heap.size (by simp)).trans (heap_alloc_new w2 _), hI, World.ownsRow_nil _ _ _ _, ⟨hz2, by omega, by omega, hbl, hl.1, hl.2.1, hl.2.2, Nat.le_refl _⟩, ⟨by omega, by omega, by omega, by omega⟩, (HB2.out.alloc hz2 _).trans (hb4.mono (by simp; omega))⟩
      clear hI hb4 HB2
      go_wp2_with fail
      refine wp_label ?_
      rename_i KK hKK
      show KK _ _
      refine hKK _ _ ?_
      refine gp_pass wl tm w T wl.length _ _ _ _ _ _ _ tm wl [] _ w4 hrel hTl ?_
      intro n' tt' ut' F' v' u2 u3 u4 u5 u7 u10 u11 u12 u13 u14 u15 u16 u17 u18 u19 u20 u21 u22 u23 u24 u25 u26 u27 u28 u29 u30 u31 u32 u33 u34 u35 u36 w' h h1
      exact ⟨_, _, _, _, _, _, n', tt', ut', F', v', u2, u3, u4, u5, u7, u10, u11, u12, u13, u14, u15, u16, u17, u18, u19, u20, u21, u22, u23, u24, u25, u26, u27, u28, u29, u30, u31, u32, u33, u34, u35, u36, h, rfl⟩
    · rintro a wr ⟨Bx, B, Bt, Br, Bs, Rb, n, tt, ut, F, v, u2, u3, u4, u5, u7, u10, u11, u12, u13, u14, u15, u16, u17, u18, u19, u20, u21, u22, u23, u24, u25, u26, u27, u28, u29, u30, u31, u32, u33, u34, u35, u36, hrel, rfl⟩
      refine wp_seq (wp_skip ?_)
      show Code.wp Try.prog gpRest _ _ _
      refine gp_pass wl tm w T wl.length Bx B Bt Br Bs Rb n tt ut F v wr hrel hTl ?_
      intro n' tt' ut' F' v' u2 u3 u4 u5 u7 u10 u11 u12 u13 u14 u15 u16 u17 u18 u19 u20 u21 u22 u23 u24 u25 u26 u27 u28 u29 u30 u31 u32 u33 u34 u35 u36 w' h h1
      refine ⟨⟨Bx, B, Bt, Br, Bs, Rb, n', tt', ut', F', v', u2, u3, u4, u5, u7, u10, u11, u12, u13, u14, u15, u16, u17, u18, u19, u20, u21, u22, u23, u24, u25, u26, u27, u28, u29, u30, u31, u32, u33, u34, u35, u36, h, rfl⟩, ?_⟩
      show 3000 - slLenP v' < 3000 - slLenP v
      have h2 := own_lenP h.row
      have h3 := own_lenP hrel.row
      have h4 := hTl
      rw [← h.rest, List.length_append] at h4
      omega
end Go.Proofs.Ytflpncdnneapmaa
