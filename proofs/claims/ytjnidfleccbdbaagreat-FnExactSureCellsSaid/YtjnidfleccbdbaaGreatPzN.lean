/- Contracts: the lines that fit some clues, the program's. -/
import Derived.Test.YtjnidfleccbdbaaGreatPzM
namespace Go.Proofs.YtjnidfleccbdbaaGreat
open Go.RowKit

theorem ClIn.kpM {B : Nat} {w w' : World} {A : Option Addr} {l : List Cl} (h : ClIn w A l) (hf : KpM B w w') (hne : ∀ a, A = some a → a.block ≠ B) : ClIn w' A l := by
  intro k hk
  obtain ⟨g, o, a, b, c, d, e⟩ := h k hk
  exact ⟨g, o, a, Nat.lt_of_lt_of_le b hf.size, (hf.cell b (hne _ a)).trans c, (hf.cell b (hne _ a)).trans d, (hf.cell b (hne _ a)).trans e⟩
theorem own_kpM {w w' : World} {base B : Nat} {e : TypeId} {size n : Nat} {v : Value} {xs : List Value} (h : w.ownsRow base e size v n xs) (hk : KpM B w w') (hB : B < base) : w'.ownsRow base e size v n xs :=
  own_farB h hk.far fun g hg e => by
    have h1 := (h.lt g hg).1
    have h2 : g = B := Option.some.inj e
    omega
theorem TellI.grownP {W W' : World} {L B Bt Br Bs n : Nat} {row : Option Nat} (h : TellI W L B Bt Br Bs) (hg : W.grownBy W' row) (hrow : ∀ j, row = some j → n ≤ j) (hn : B < n ∧ Bt < n ∧ Br < n ∧ Bs < n) : TellI W' L B Bt Br Bs := by
  obtain ⟨⟨D, m1, m2⟩, hb⟩ := h
  have hs := hg.size
  have e : ∀ b, b < n → b < W.heap.size → W'.cell? ⟨b, 0, none⟩ = W.cell? ⟨b, 0, none⟩ := fun b h1 h2 => World.cell?_of_block (a := ⟨b, 0, none⟩) (hg.block b h2 fun e => by have := hrow b e.symm; omega)
  obtain ⟨l1, l2, l3⟩ := hb.lt
  exact ⟨⟨D, m1.kept hg (fun e => by have := hrow B e.symm; omega), m2⟩, ⟨(e _ hn.2.1 l1).trans hb.told, (e _ hn.2.2.1 l2).trans hb.rule, (e _ hn.2.2.2 l3).trans hb.tell, ⟨by omega, by omega, by omega⟩, hb.ne⟩⟩
theorem KpM.grownP {B : Nat} {w W W' : World} {row : Option Nat} (h : KpM B w W) (hg : W.grownBy W' row) (hrow : ∀ j, row = some j → w.heap.size ≤ j) : KpM B w W' :=
  ⟨hg.os.trans h.os, hg.tape.trans h.tape, hg.output.trans h.output, Nat.le_trans h.far.1 hg.size, fun k hk hlt => (hg.block k (Nat.lt_of_lt_of_le hlt h.far.1) fun e => by have := hrow k e.symm; omega).trans (h.far.2 k hk hlt)⟩
/-- What is asked of a predicate: at each element it answers, keeps I, and writes no old block but B. -/
def PredC (g : Nat) (lb : Array Value) (B : Nat) (I : World → Prop) (l : List Cl) (p : Nat → Bool) (W0 : World) : Prop :=
  ∀ j (h : j < l.length) W, I W → KpM B W0 W → Calls Tryz.prog g (#[.agg #[.int .i64 l[j].1, .int .i64 l[j].2.1, .int .i64 l[j].2.2]] ++ lb) W fun e W' => e = .returned (.bool (p j)) ∧ I W' ∧ KpM B W W'

set_option maxRecDepth 100000 in
set_option maxHeartbeats 2000000 in
theorem indexC_any (g : Nat) (lb : Array Value) (eg : ∀ args w, (callFunc g args).run Tryz.prog w = .ok (.enter g args) w) (B : Nat) (I : World → Prop) (l : List Cl) (p : Nat → Bool) (A : Option Addr) (cap : Nat) (w : World) (hp : PredC g lb B I l p w) (hl : l.length ≤ 1000) (hA : ClIn w A l) (hne : ∀ a, A = some a → a.block ≠ B) (hI : I w) :
    Calls Tryz.prog 40 #[.slice A l.length cap, .func (.func g) #[] lb] w fun e w' => ∃ r : Int, e = .returned (.int .i64 r) ∧ ((∃ j : Nat, j < l.length ∧ r = j ∧ p j = true ∧ ∀ i, i < j → p i = false) ∨ (r = -1 ∧ ∀ i, i < l.length → p i = false)) ∧ I w' ∧ KpM B w w' := by
  have HP := Lib.hid hp
  have HA := Lib.hid hA
  have HNE := Lib.hid hne
  have HI := Lib.hid hI
  clear hp hA hne hI
  go_enter Tryz.func40, Tryz.ntmps40
  go_wp2
  go_loopw [8] (fun i wr => ∃ k : Nat, k ≤ l.length ∧ i = .int .i64 k ∧ Hid (∀ i, i < k → p i = false) ∧ Hid (I wr) ∧ Hid (KpM B w wr)) (fun i _ => l.length - (intOf i).toNat)
  case atStart => exact ⟨0, Nat.zero_le _, rfl, Lib.hid fun i h => by omega, HI, Lib.hid (KpM.refl _ _)⟩
  case round =>
    obtain ⟨k, hk, rfl, HNO, HIR, HK⟩ := hrel
    by_cases hlt : k < l.length
    · obtain ⟨gm, om, rfl, zz, p1, q1, r1⟩ := (HA.out.kpM HK.out HNE.out) k hlt
      have hcall := HP.out k hlt wr HIR.out HK.out
      generalize l[k].1 = a at p1 hcall
      generalize l[k].2.1 = b at q1 hcall
      generalize l[k].2.2 = d at r1 hcall
      have HC := Lib.hid hcall
      clear hcall
      have i1 : (0 : Int) ≤ (k : Int) := by omega
      have i2 : (k : Int) < (l.length : Int) := by omega
      cases hq : p k
      · have HQ := Lib.hid hq
        rw [hq] at HC
        clear hq
        go_wp2_with (go_at_fn g; refine HC.out.mono ?_; rintro e w' ⟨rfl, hI', hK'⟩; have HI' := Lib.hid hI'; have HK' := Lib.hid (HK.out.trans hK'); clear hI' hK')
        go_roundw
        case rel => exact ⟨k + 1, by omega, by go_num, Lib.hid fun i hi => (by
          by_cases e : i = k
          · subst e; exact HQ.out
          · exact HNO.out i (by omega)), HI', HK'⟩
        case measure => simp [intOf]; omega
      · have HQ := Lib.hid hq
        rw [hq] at HC
        clear hq
        go_wp2_with (go_at_fn g; refine HC.out.mono ?_; rintro e w' ⟨rfl, hI', hK'⟩; have HI' := Lib.hid hI'; have HK' := Lib.hid (HK.out.trans hK'); clear hI' hK')
        go_ret
        exact ⟨k, rfl, .inl ⟨k, hlt, rfl, HQ.out, HNO.out⟩, HI'.out, HK'.out⟩
    · go_wp2
      go_ret
      obtain rfl : k = l.length := by omega
      exact ⟨-1, rfl, .inr ⟨rfl, HNO.out⟩, HIR.out, HK.out⟩

set_option maxRecDepth 100000 in
set_option maxHeartbeats 1000000 in
theorem containsC_any (g : Nat) (lb : Array Value) (eg : ∀ args w, (callFunc g args).run Tryz.prog w = .ok (.enter g args) w) (B : Nat) (I : World → Prop) (l : List Cl) (p : Nat → Bool) (A : Option Addr) (cap : Nat) (w : World) (hp : PredC g lb B I l p w) (hl : l.length ≤ 1000) (hA : ClIn w A l) (hne : ∀ a, A = some a → a.block ≠ B) (hI : I w) :
    Calls Tryz.prog 27 #[.slice A l.length cap, .func (.func g) #[] lb] w fun e w' => ∃ r : Bool, e = .returned (.bool r) ∧ (r = true ↔ ∃ j, j < l.length ∧ p j = true) ∧ I w' ∧ KpM B w w' := by
  have HX := Lib.hid (indexC_any g lb eg B I l p A cap w hp hl hA hne hI)
  clear hp hA hne hI eg
  go_enter Tryz.func27, Tryz.ntmps27
  go_wp2_with fail
  refine HX.out.mono ?_
  rintro e w1 ⟨r, rfl, hr, hI1, hK1⟩
  have HR := Lib.hid hr
  have HI1 := Lib.hid hI1
  have HK1 := Lib.hid hK1
  clear hr hI1 hK1
  go_wp2
  go_ret
  refine ⟨decide (0 ≤ r), rfl, ?_, HI1.out, HK1.out⟩
  rw [decide_eq_true_iff]
  rcases HR.out with ⟨j, hj, rfl, hpj, _⟩ | ⟨rfl, hno⟩
  · exact ⟨fun _ => ⟨j, hj, hpj⟩, fun _ => by omega⟩
  · refine ⟨fun h => by omega, fun ⟨j, hj, hpj⟩ => ?_⟩
    rw [hno j hj] at hpj; cases hpj

set_option maxRecDepth 100000 in
set_option maxHeartbeats 1000000 in
/-- The question that is asked of each clue. -/
theorem noFit_any (L B Bt Br Bs hb wb : Nat) (l : List UInt8) (x y z : Int) (w : World) (hL : l.length = L) (hg : goodL (str l) = true) (h5 : l.length ≤ 5) (hc : clueOk l.length x y z = true) (hI : TellI w L B Bt Br Bs) (hh : w.cell? ⟨hb, 1, none⟩ = some (telV Bt Br Bs)) (hw : w.cell? ⟨wb, 0, none⟩ = some (.string (str l))) (hlb : hb < w.heap.size) (hlw : wb < w.heap.size) :
    Calls Tryz.prog 28 #[.agg #[.int .i64 x, .int .i64 y, .int .i64 z], .pointer (some ⟨hb, 0, none⟩), .pointer (some ⟨wb, 0, none⟩)] w (CoP w L B Bt Br Bs (.bool (!fitC (x, y, z) l))) := by
  have hB : Below w.heap.size w (w.alloc (Obj.cells #[.int .i64 x, .int .i64 y, .int .i64 z] 45)) := (Below.refl _ _).alloc (Nat.le_refl _) _
  have HD := Lib.hid (fun wx (h : TellI wx L B Bt Br Bs) => doesFit_any L B Bt Br Bs l x y z wx hL hg h5 hc h)
  have HT := Lib.hid (hI.below hB)
  have c0 : ∀ o, (w.alloc o).cell? ⟨hb, 1, none⟩ = some (telV Bt Br Bs) := fun o => by rw [World.cell?_alloc_past _ _ _ hlb]; exact hh
  have c1 : ∀ o, (w.alloc o).cell? ⟨wb, 0, none⟩ = some (.string (str l)) := fun o => by rw [World.cell?_alloc_past _ _ _ hlw]; exact hw
  have hne : ∀ x : Nat, x < w.heap.size → x ≠ w.heap.size := fun x h => by omega
  clear hI hc hg
  generalize fitC (x, y, z) l = F at *
  generalize str l = s at *
  go_enter Tryz.func28, Tryz.ntmps28
  go_wp2_with fail
  refine (HD.out _ HT.out).mono ?_
  rintro e w1 ⟨rfl, ht1, hk1⟩
  go_wp2_with fail
  go_ret
  exact ⟨rfl, ht1, (KpM.below hB).trans hk1⟩

/-- The lines that fit all clues, and what is kept. -/
def FitP (w : World) (L B Bt Br Bs : Nat) (M : List (List UInt8)) (e : Ending) (w' : World) : Prop :=
  ∃ v, e = .returned v ∧ w'.ownsRow w.heap.size 9 1 v M.length (txs M) ∧ TellI w' L B Bt Br Bs ∧ KpM B w w'
theorem fitL_any (cs : List Cl) (l : List UInt8) (r : Bool) (h : r = true ↔ ∃ j, j < cs.length ∧ (fun j => !fitC (cs.getD j (0, 0, 0)) l) j = true) : fitL cs l = !r := by
  unfold fitL
  cases r
  · have hno : ¬ ∃ j, j < cs.length ∧ (fun j => !fitC (cs.getD j (0, 0, 0)) l) j = true := fun hj => by have := h.2 hj; cases this
    rw [Bool.not_false, List.all_eq_true]
    intro c hc
    obtain ⟨j, hj, rfl⟩ := List.getElem_of_mem hc
    cases hf : fitC cs[j] l
    · exact absurd ⟨j, hj, by simp [List.getD_eq_getElem?_getD, hj, hf]⟩ hno
    · rfl
  · obtain ⟨j, hj, hp⟩ := h.1 rfl
    rw [Bool.not_true, List.all_eq_false]
    refine ⟨cs[j], List.getElem_mem hj, ?_⟩
    simpa [List.getD_eq_getElem?_getD, hj] using hp

set_option maxRecDepth 100000 in
set_option maxHeartbeats 2000000 in
theorem linesThatFit_any (L B Bt Br Bs : Nat) (G : List (List UInt8)) (cs : List Cl) (AL A : Option Addr) (cl c : Nat) (w : World) (h5 : L ≤ 5) (hG : ∀ x ∈ G, x.length = L ∧ goodL (str x) = true) (hGn : G.length ≤ 1000) (hok : ∀ k ∈ cs, ckOk L k = true) (hcs : cs.length ≤ 100) (hA : StAt w AL G) (hneL : ∀ a, AL = some a → a.block ≠ B) (hin : ClIn w A cs) (hne : ∀ a, A = some a → a.block ≠ B) (hI : TellI w L B Bt Br Bs) :
    Calls Tryz.prog 20 #[.agg #[.slice AL G.length cl, telV Bt Br Bs], .slice A cs.length c] w (FitP w L B Bt Br Bs (G.filter (fitL cs))) := by
  have hmf : ∀ (fn : Fn) (first cap : Array Value) (w : World), (Instr.makeFunc fn first cap).run Tryz.prog w = .ok (.func fn first cap) w := fun _ _ _ _ => rfl
  obtain ⟨i0, hi, hz0, hz1, hz2⟩ := info_parts Tryz.infoS
  have HI := Lib.hid hi
  have HZ0 := Lib.hid hz0
  have HZ1 := Lib.hid hz1
  have HZ2 := Lib.hid hz2
  clear hi hz0 hz1 hz2
  have hBl := hI.map.lt
  have hBox : B < w.heap.size ∧ Bt < w.heap.size ∧ Br < w.heap.size ∧ Bs < w.heap.size := ⟨hI.map.lt, hI.box.lt⟩
  have hB0 : Below w.heap.size w (w.alloc (Obj.cells #[.slice AL G.length cl, telV Bt Br Bs] 53)) := (Below.refl _ _).alloc (Nat.le_refl _) _
  have b1 : (w.alloc (Obj.cells #[.slice AL G.length cl, telV Bt Br Bs] 53)).cell? ⟨w.heap.size, 1, none⟩ = some (telV Bt Br Bs) := by rw [cell_new' _ _ _ _ _ rfl]; rfl
  have HX : Hid (∀ wr (l : List UInt8), l ∈ G → KpM B (w.alloc (Obj.cells #[.slice AL G.length cl, telV Bt Br Bs] 53)) wr → TellI wr L B Bt Br Bs → Calls Tryz.prog 27 #[.slice A cs.length c, .func (.func 28) #[] #[.pointer (some ⟨w.heap.size, 0, none⟩), .pointer (some ⟨wr.heap.size, 0, none⟩)]] (wr.alloc (Obj.cells #[.string (str l)] 9)) fun e w' => e = .returned (.bool (!fitL cs l)) ∧ TellI w' L B Bt Br Bs ∧ KpM B (wr.alloc (Obj.cells #[.string (str l)] 9)) w') := Lib.hid fun wr l hl hk ht => by
    obtain ⟨g1, g2⟩ := hG l hl
    have hb : Below wr.heap.size wr (wr.alloc (Obj.cells #[.string (str l)] 9)) := (Below.refl _ _).alloc (Nat.le_refl _) _
    have hsz := hk.size
    simp at hsz
    refine (containsC_any 28 _ (fun args w => enters_of Tryz.func28 (by kernel_rfl) rfl args w) B (fun W => TellI W L B Bt Br Bs) cs (fun j => !fitC (cs.getD j (0, 0, 0)) l) A c _ ?_ (by omega) (((hin.below hB0).kpM hk hne).below hb) hne (ht.below hb)).mono ?_
    · intro j hj W hIW hkW
      have hlt1 : w.heap.size < wr.heap.size := by omega
      have e1 : W.cell? ⟨w.heap.size, 1, none⟩ = some (telV Bt Br Bs) := by
        rw [hkW.cell (by simp; omega) (by omega), World.cell?_alloc_past _ _ _ hlt1, hk.cell (by simp) (by omega)]
        exact b1
      have e2 : W.cell? ⟨wr.heap.size, 0, none⟩ = some (.string (str l)) := by
        rw [hkW.cell (by simp) (by omega), cell_new' _ _ _ _ _ rfl]; rfl
      have hs := hkW.size
      simp at hs
      have := noFit_any L B Bt Br Bs w.heap.size wr.heap.size l cs[j].1 cs[j].2.1 cs[j].2.2 W g1 g2 (by omega) (by rw [g1]; exact hok _ (List.getElem_mem hj)) hIW e1 e2 (by omega) (by omega)
      have e3 : cs.getD j (0, 0, 0) = cs[j] := by simp [List.getD_eq_getElem?_getD, hj]
      simp only [e3]
      exact this
    · rintro e w' ⟨r, rfl, hr, hI', hk'⟩
      exact ⟨by rw [fitL_any cs l r hr, Bool.not_not], hI', hk'⟩
  have HA := Lib.hid (hA.below hB0)
  have HGm : Hid (∀ k (h : k < G.length), G[k] ∈ G) := Lib.hid fun k h => List.getElem_mem h
  have HT := Lib.hid (hI.below hB0)
  have HB0 := Lib.hid (KpM.below hB0 : KpM B w _)
  have HNL := Lib.hid hneL
  have c0 : (w.alloc (Obj.cells #[.slice AL G.length cl, telV Bt Br Bs] 53)).cell? ⟨w.heap.size, 0, none⟩ = some (.slice AL G.length cl) := by rw [cell_new' _ _ _ _ _ rfl]; rfl
  have hlt0 : w.heap.size < (w.alloc (Obj.cells #[.slice AL G.length cl, telV Bt Br Bs] 53)).heap.size := by simp
  clear hG hok hA hneL hin hne hI hB0 b1
  obtain ⟨W0, hW0⟩ : ∃ W0, W0 = w.alloc (Obj.cells #[.slice AL G.length cl, telV Bt Br Bs] 53) := ⟨_, rfl⟩
  rw [← hW0] at HX HA HT HB0 c0 hlt0
  go_enter Tryz.func20, Tryz.ntmps20
  go_wp2_with fail
  rw [← hW0]
  clear hW0
  go_loopw [5, 7, 11] (fun v _ i wr => ∃ k : Nat, k ≤ G.length ∧ i = .int .i64 k ∧ wr.ownsRow W0.heap.size 9 1 v ((G.take k).filter (fitL cs)).length (txs ((G.take k).filter (fitL cs))) ∧ TellI wr L B Bt Br Bs ∧ KpM B W0 wr) (fun _ _ i _ => G.length - (intOf i).toNat)
  case atStart => exact ⟨0, Nat.zero_le _, rfl, World.ownsRow_nil _ _ _ _, HT.out, KpM.refl _ _⟩
  case round =>
    obtain ⟨k, hk, rfl, hown, ht, hkp⟩ := hrel
    by_cases hlt : k < G.length
    · obtain ⟨gL, e1, zz, q1⟩ := (HA.out) k hlt
      have hgB : gL ≠ B := HNL.out _ e1
      subst e1
      have q2 := (hkp.cell zz hgB).trans q1
      have HXk := Lib.hid (HX.out wr G[k] (HGm.out k hlt) hkp ht)
      have hts : Hid ((G.take (k + 1)).filter (fitL cs) = (G.take k).filter (fitL cs) ++ if fitL cs G[k] then [G[k]] else []) := Lib.hid (by
        rw [List.take_succ_eq_append_getElem hlt, List.filter_append]
        simp only [List.filter_cons, List.filter_nil])
      have hfl : ((G.take k).filter (fitL cs)).length ≤ 1000 := by
        have := List.length_filter_le (fitL cs) (G.take k)
        rw [List.length_take] at this
        omega
      generalize hxx : G[k] = x at *
      clear hxx
      generalize (G.take k).filter (fitL cs) = F at *
      have i1 : (0 : Int) ≤ (k : Int) := by omega
      have i2 : (k : Int) < (G.length : Int) := by omega
      have hsz := hkp.size
      have hblt : B < wr.heap.size := by omega
      have hb : Below wr.heap.size wr (wr.alloc (Obj.cells #[.string (str x)] 9)) := (Below.refl _ _).alloc (Nat.le_refl _) _
      have hnew : (wr.alloc (Obj.cells #[.string (str x)] 9)).cell? ⟨wr.heap.size, 0, none⟩ = some (.string (str x)) := by rw [cell_new' _ _ _ _ _ rfl]; rfl
      have HK := Lib.hid (hkp.trans (KpM.below hb))
      have HO := Lib.hid (own_below hown hb)
      clear q1 hown hkp ht hb
      cases hf : fitL cs x
      · rw [hf] at HXk hts
        clear hf
        generalize str x = s at *
        go_wp2_with fail
        refine HXk.out.mono ?_
        rintro e w2 ⟨rfl, ht2, hk2⟩
        have HR := Lib.hid (And.intro ht2 (HK.out.trans hk2))
        have HO2 := Lib.hid (own_kpM HO.out hk2 (Nat.lt_trans hBl hlt0))
        clear ht2 hk2
        go_wp2_with fail
        go_roundw
        case rel => exact ⟨k + 1, by omega, by go_num, by rw [hts.out]; simpa using HO2.out, HR.out.1, HR.out.2⟩
        case measure => simp [intOf]; omega
      · rw [hf] at HXk hts
        clear hf
        have hst : Hid (txs (F ++ [x]) = txs F ++ [.string (str x)]) := Lib.hid (by rw [txs_app]; rfl)
        generalize str x = s at *
        go_wp2_with fail
        refine HXk.out.mono ?_
        rintro e w2 ⟨rfl, ht2, hk2⟩
        have c2 : w2.cell? ⟨wr.heap.size, 0, none⟩ = some (.string s) := (hk2.cell (by simp) (by omega)).trans hnew
        have hs2 := hk2.size
        have HR := Lib.hid (And.intro ht2 (HK.out.trans hk2))
        have HO2 := Lib.hid (own_kpM HO.out hk2 (Nat.lt_trans hBl hlt0))
        clear ht2 hk2
        simp at hs2
        go_wp2_with (first | (at_builtin; refine wpList_append_own _ rfl _ _ 36 rfl W0.heap.size 9 i0 (.string ByteArray.empty) 1 16 Tryz.underlying36 HI.out HZ0.out HZ1.out HZ2.out rfl (by decide) _ F.length (txs F) rfl (HO2.out.alloc _) ⟨w2.heap.size, 0, none⟩ 1 1 [.string s] rfl rfl (cell_one_newP w2 _ _) (fun u hu => by simp at hu; subst hu; rfl) (by unfold maxLen; omega) (by omega) (by simp; omega) ?_; intro v' w4 hown' hgrow _))
        go_roundw
        case rel =>
          have hbb : Below w2.heap.size w2 (w2.alloc (Obj.cells #[.string s] 9)) := (Below.refl _ _).alloc (Nat.le_refl _) _
          have hrow := HO2.out.alloc (Obj.cells #[.string s] 9)
          refine ⟨k + 1, by omega, by go_num, ?_, ?_, ?_⟩
          · rw [hts.out]
            simp only [if_true]
            rw [List.length_append, hst.out]
            exact hown'
          · exact (HR.out.1.below hbb).grownP hgrow (fun j hj => (hrow.lt j hj).1) (by omega)
          · exact (HR.out.2.trans (KpM.below hbb)).grownP hgrow (fun j hj => (hrow.lt j hj).1)
        case measure => simp [intOf]; omega
    · obtain rfl : k = G.length := by omega
      rw [List.take_length] at hown
      have HR := Lib.hid (And.intro hown (And.intro ht (HB0.out.trans hkp)))
      clear hown ht hkp
      go_wp2_with fail
      go_ret
      exact ⟨_, rfl, own_lowerC HR.out.1 (Nat.le_of_lt hlt0), HR.out.2.1, HR.out.2.2⟩
end Go.Proofs.YtjnidfleccbdbaaGreat
