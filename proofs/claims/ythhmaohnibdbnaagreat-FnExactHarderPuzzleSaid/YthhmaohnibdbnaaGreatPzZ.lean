/- Contract: the harder puzzle, the model's. -/
import Derived.Test.YthhmaohnibdbnaaGreatPzY
namespace Go.Proofs.YthhmaohnibdbnaaGreat
open Go.RowKit

/-- Clues taken out from the k-th one on. -/
def hdL (n : Nat) : Nat → Nat → List Cl → List Cl
  | 0, _, cs => cs
  | f + 1, k, cs => if (solL n (woC cs k)).length = 1 then hdL n f k (woC cs k) else hdL n f (k + 1) cs
def harderL (n : Int) (l : List Cl) : List Cl := hdL n.toNat l.length 0 l
def harderOk (n : Int) (l : List Cl) : Bool := goodP n l && decide ((solL n.toNat l).length = 1)
theorem woC_less (l : List Cl) (k : Nat) (h : k < l.length) : (woC l k).length + 1 = l.length := by
  unfold woC
  simp only [List.length_append, List.length_take, List.length_drop]
  omega
theorem hdL_len (n : Nat) : ∀ f k cs, (hdL n f k cs).length ≤ cs.length
  | 0, _, _ => Nat.le_refl _
  | f + 1, k, cs => by
    unfold hdL
    split
    · exact Nat.le_trans (hdL_len n f k _) (woC_len cs k)
    · exact hdL_len n f _ _
theorem harder_few (n : Int) (l : List Cl) : harderOk n l = true → (harderL n l).length ≤ 1000 := fun h => by
  unfold harderOk at h
  rw [Bool.and_eq_true] at h
  have h1 := goodP_few h.1
  have h2 := hdL_len n.toNat l.length 0 l
  unfold harderL
  omega
theorem own_formC {w : World} {base : Nat} {v : Value} {cs : List Cl} (h : w.ownsRow base 69 3 v cs.length (flat3 cs)) (hpos : 0 < cs.length) : ∃ g cap, v = .slice (some ⟨g, 0, none⟩) cs.length cap ∧ base ≤ g ∧ g < w.heap.size ∧ cs.length ≤ cap ∧ cap ≤ maxLen ∧ ClIn w (some ⟨g, 0, none⟩) cs := by
  obtain ⟨hlen, h2 | ⟨g, cap, cur, rfl, hb, hg, hle, hm, hs, ht⟩⟩ := id h
  · omega
  · exact ⟨g, cap, rfl, hb, (Array.getElem?_eq_some_iff.1 hg).1, hle, by
      have : 3 * cap ≤ maxLen ∨ cap ≤ maxLen := by first | exact .inr hm | exact .inl hm
      omega, own_inA h⟩
def slLen : Value → Nat
  | .slice _ n _ => n
  | _ => 0

set_option maxRecDepth 100000 in
set_option maxHeartbeats 4000000 in
theorem sHarderPuzzle_any (n : Int) (l : List Cl) (g o c : Nat) (w : World) (hin : ClIn w (some ⟨g, o, none⟩) l) (hl : l.length ≤ 2000000) (hc : l.length ≤ c) (hc2 : c ≤ l.length) (hgo : g < w.heap.size) :
    Calls Tryz.prog 38 #[.agg #[.int .i64 n, .slice (some ⟨g, o, none⟩) l.length c]] w (PzAns w (harderOk n l) n (harderL n l)) := by
  have hX := BxP.start w n (.slice (some ⟨g, o, none⟩) l.length c)
  have HCL := Lib.hid (pzGood_any n l (some ⟨g, o, none⟩) c _ (hin.below hX.bel) hl)
  have HX := Lib.hid hX
  have HIN := Lib.hid (hin.below hX.bel)
  clear hX hin
  obtain ⟨b, hb⟩ : ∃ b, harderOk n l = b := ⟨_, rfl⟩
  rw [hb]
  have HBq := Lib.hid hb
  clear hb
  cases hg : goodP n l
  · obtain rfl : false = b := by rw [← HBq.out]; unfold harderOk; rw [hg]; rfl
    rw [hg] at HCL
    clear hg
    go_enter Tryz.func38, Tryz.ntmps38
    go_wp2_with fail
    refine HCL.out.mono ?_
    rintro e w1 ⟨rfl, hb1⟩
    have h1 := HX.out.step hb1
    have r0 := h1.r0
    have r1 := h1.r1
    have f0 := h1.fr 0
    have f1 := h1.fr 1
    have HE := Lib.hid (h1.ends (x := .int .i64 0) (World.ownsRow_nil _ w.heap.size 69 3) (Nat.le_refl _) (by simp [Value.ownBlock]))
    clear h1 hb1
    go_wp2_with fail
    exact bodyPost_ret (results_pzc rfl _ _ (w.heap.size + 1) (.int .i64 0) (.slice none 0 0) rfl HE.out.1 HE.out.2.1) rfl ⟨_, rfl, HE.out.2.2.1, HE.out.2.2.2⟩
  · rw [hg] at HCL
    have h6 := goodP_few hg
    obtain ⟨m, rfl, h15⟩ := goodP_nat hg
    have HPS := Lib.hid (fun (cs : List Cl) A c wx (hcl : cs.length ≤ l.length) (hm : ∀ x ∈ cs, x ∈ l) (h : ClIn wx A cs) (ho : ∀ a, A = some a → a.block < wx.heap.size) => pzSolved_any m cs A c wx h15 (fun x hx => goodP_ok hg x (hm x hx)) (by omega) h ho)
    have HP1 := Lib.hid (fun wx (h : ClIn wx (some ⟨g, o, none⟩) l) (ho : w.heap.size ≤ wx.heap.size) => HPS.out l (some ⟨g, o, none⟩) c wx (Nat.le_refl _) (fun _ h => h) h (fun a e => by injection e with e; subst e; exact Nat.lt_of_lt_of_le hgo ho))
    cases hs : decide ((solL m l).length = 1)
    · obtain rfl : false = b := by rw [← HBq.out]; unfold harderOk; rw [hg, show (m : Int).toNat = m from rfl, hs]; rfl
      rw [hs] at HP1
      clear hg hs
      go_enter Tryz.func38, Tryz.ntmps38
      go_wp2_with fail
      refine HCL.out.mono ?_
      rintro e w1 ⟨rfl, hb1⟩
      have HX1 := Lib.hid (HX.out.step hb1)
      have HI1 := Lib.hid (HIN.out.below hb1)
      have c0 := HX1.out.c0
      have c1 := HX1.out.c1
      clear hb1
      go_wp2_with fail
      refine (HP1.out _ HI1.out HX1.out.bel.size).mono ?_
      rintro e w2 ⟨rfl, hb2⟩
      have h1 := HX1.out.step hb2
      have r0 := h1.r0
      have r1 := h1.r1
      have f0 := h1.fr 0
      have f1 := h1.fr 1
      have HE := Lib.hid (h1.ends (x := .int .i64 0) (World.ownsRow_nil _ w.heap.size 69 3) (Nat.le_refl _) (by simp [Value.ownBlock]))
      clear h1 hb2 c0 c1
      go_wp2_with fail
      exact bodyPost_ret (results_pzc rfl _ _ (w.heap.size + 1) (.int .i64 0) (.slice none 0 0) rfl HE.out.1 HE.out.2.1) rfl ⟨_, rfl, HE.out.2.2.1, HE.out.2.2.2⟩
    · obtain rfl : true = b := by rw [← HBq.out]; unfold harderOk; rw [hg, show (m : Int).toNat = m from rfl, hs]; rfl
      rw [hs] at HP1
      obtain ⟨i0, hi, hz0, hz1, hz2⟩ := info_parts Tryz.infoC
      have HI := Lib.hid hi
      have HZ0 := Lib.hid hz0
      have HZ1 := Lib.hid hz1
      have HZ2 := Lib.hid hz2
      clear hi hz0 hz1 hz2
      have HWO := Lib.hid (fun (cs : List Cl) gL cap k (hk : k < cs.length) (h1 : cs.length ≤ l.length) (h2 : cs.length ≤ cap) (h3 : cap ≤ maxLen) wx (h : ClIn wx (some ⟨gL, 0, none⟩) cs) => pzWithout_cap cs gL 0 cap k wx h (by omega) h2 h3 hk)
      have HHL : Hid (harderL (m : Int) l = hdL m l.length 0 l) := Lib.hid rfl
      rw [HHL.out]
      clear hg hs
      go_enter Tryz.func38, Tryz.ntmps38
      go_wp2_with fail
      refine HCL.out.mono ?_
      rintro e w1 ⟨rfl, hb1⟩
      have HX1 := Lib.hid (HX.out.step hb1)
      have HI1 := Lib.hid (HIN.out.below hb1)
      have c0 := HX1.out.c0
      have c1 := HX1.out.c1
      clear hb1
      go_wp2_with fail
      refine (HP1.out _ HI1.out HX1.out.bel.size).mono ?_
      rintro e w2 ⟨rfl, hb2⟩
      have HX2 := Lib.hid (HX1.out.step hb2)
      have c0 := HX2.out.c0
      have c1 := HX2.out.c1
      have hba : Below w2.heap.size w2 (w2.alloc (Obj.cells #[] 69)) := (Below.refl _ _).alloc (Nat.le_refl _) _
      have HI2 := Lib.hid ((HI1.out.below hb2).below hba)
      have c1' : ∀ ob, (w2.alloc ob).cell? ⟨w.heap.size, 1, none⟩ = some (.slice (some ⟨g, o, none⟩) l.length c) := by intro o'; rw [World.cell?_alloc_past _ _ _ (by have := lt_of_cell0 c0; omega)]; exact c1
      have O0 : (w2.alloc (Obj.cells #[] 69)).ownsRow w2.heap.size 69 3 (.slice (some ⟨w2.heap.size, 0, none⟩) 0 0) 0 [] := own_empty w2 _ _
      clear hb2
      go_wp2_with (first | (at_builtin; refine wpList_append_own _ rfl _ _ 29 rfl w2.heap.size 69 i0 (.agg #[.int .i64 0, .int .i64 0, .int .i64 0]) 3 24 Tryz.underlying29 HI.out HZ0.out HZ1.out HZ2.out rfl (by decide) _ 0 [] rfl O0 ⟨g, o, none⟩ l.length c (flat3 l) rfl (by rw [flat3_len]) (cl_news HI2.out) (flat3_one _) (by unfold maxLen; omega) (by omega) (by simp) ?_; intro v1 w3 o1 g1 _))
      have hB3 := hba.grown g1 (by simp) (fun j hj => (O0.lt j hj).1)
      have HX3 := Lib.hid (HX2.out.step hB3)
      have HO3 : Hid (w3.ownsRow w2.heap.size 69 3 v1 l.length (flat3 l)) := Lib.hid (by rw [Nat.zero_add, List.nil_append] at o1; exact o1)
      obtain ⟨A1, cap1, rfl, _⟩ := own_block HO3.out
      have HR2 : Hid (w.heap.size + 1 < w2.heap.size) := Lib.hid HX2.out.lt
      clear hba O0 o1 g1 hB3 c0 c1 c1'
      go_wp2_with fail
      go_loopw [4, 5, 6] (fun v i _ wr => ∃ (f k : Nat) (cs : List Cl) (A : Option Addr) (cap : Nat), f + k = cs.length ∧ i = .int .i64 k ∧ v = .slice A cs.length cap ∧ Hid (hdL m f k cs = hdL m l.length 0 l) ∧ cs.length ≤ l.length ∧ Hid (∀ x ∈ cs, x ∈ l) ∧ Hid (wr.ownsRow w2.heap.size 69 3 (.slice A cs.length cap) cs.length (flat3 cs)) ∧ Hid (BxP w (w.heap.size + 1) m (.slice (some ⟨g, o, none⟩) l.length c) wr)) (fun v i _ _ => slLen v - (intOf i).toNat)
      case atStart => exact ⟨l.length, 0, l, A1, cap1, rfl, rfl, rfl, Lib.hid rfl, Nat.le_refl _, Lib.hid fun _ h => h, HO3, HX3⟩
      case round =>
        obtain ⟨f, k, cs, A, cap, hfk, rfl, rfl, HH, hcl, HM, HO, HXr⟩ := hrel
        cases f with
        | zero =>
          have hnlt : ¬ (k : Int) < (cs.length : Int) := by omega
          have HL : Hid (cs = hdL m l.length 0 l) := Lib.hid HH.out
          have X := HXr.out
          have c0 := X.c0
          have r0 := X.r0
          have r1 := X.r1
          have f0 := X.fr 0
          have f1 := X.fr 1
          have HE := Lib.hid (X.ends (x := .int .i64 m) HO.out (by have := HX2.out.bel.size; omega) (own_newer HO.out HR2.out))
          clear X
          go_wp2_with fail
          refine bodyPost_ret (results_pzc rfl _ _ (w.heap.size + 1) (.int .i64 m) (.slice A cs.length cap) rfl HE.out.1 HE.out.2.1) rfl ⟨_, rfl, ?_, HE.out.2.2.2⟩
          rw [if_pos rfl, ← HL.out]
          exact HE.out.2.2.1
        | succ f =>
          have i1 : (k : Int) < (cs.length : Int) := by omega
          have hkl : k < cs.length := by omega
          obtain ⟨gL, capL, e, hgL, hgs, hle, hmx, hci⟩ := own_formC HO.out (by omega)
          injection e with e1 _ e3
          subst e1; subst e3
          have HWk := Lib.hid (HWO.out cs gL cap k hkl hcl hle hmx wr hci)
          have hwl := woC_less cs k hkl
          have hwm : ∀ x ∈ woC cs k, x ∈ l := fun x hx => HM.out x (mem_woC hx)
          have HNX : Hid (hdL m (f + 1) k cs = if (solL m (woC cs k)).length = 1 then hdL m f k (woC cs k) else hdL m f (k + 1) cs) := Lib.hid rfl
          rw [HNX.out] at HH
          have HPk := Lib.hid (fun A c wx (h : ClIn wx A (woC cs k)) (ho : ∀ a, A = some a → a.block < wx.heap.size) => HPS.out (woC cs k) A c wx (by omega) hwm h ho)
          have HWM := Lib.hid hwm
          generalize woC cs k = cs2 at HWk HH HPk HWM hwl
          clear hwm hci
          by_cases hs1 : (solL m cs2).length = 1
          · rw [if_pos hs1] at HH
            have hs2 : decide ((solL m cs2).length = 1) = true := decide_eq_true hs1
            rw [hs2] at HPk
            clear hs1 hs2
            go_wp2_with fail
            refine HWk.out.mono ?_
            rintro e wa ⟨va, rfl, oa, hba⟩
            have HXa := Lib.hid (HXr.out.step hba)
            have c0 := HXa.out.c0
            have HOa := Lib.hid (own_lowerC oa (show w2.heap.size ≤ wr.heap.size from by omega))
            obtain ⟨Aa, ca, rfl, Ia, Za⟩ := own_block oa
            have HIa := Lib.hid (And.intro Ia Za)
            clear oa hba Ia Za
            go_wp2_with fail
            refine (HPk.out Aa ca _ HIa.out.1 (fun a ha => (HIa.out.2 a ha).2)).mono ?_
            rintro e wb ⟨rfl, hbb⟩
            have HXb := Lib.hid (HXa.out.step hbb)
            have HOb := Lib.hid (own_below HOa.out hbb)
            clear hbb
            go_wp2_with fail
            go_roundw
            case rel => exact ⟨f, k, cs2, Aa, ca, by omega, rfl, rfl, HH, by omega, HWM, HOb, HXb⟩
            case measure => simp [intOf, slLen]; omega
          · rw [if_neg hs1] at HH
            have hs2 : decide ((solL m cs2).length = 1) = false := decide_eq_false hs1
            rw [hs2] at HPk
            clear hs1 hs2
            go_wp2_with fail
            refine HWk.out.mono ?_
            rintro e wa ⟨va, rfl, oa, hba⟩
            have HXa := Lib.hid (HXr.out.step hba)
            have c0 := HXa.out.c0
            have HOa := Lib.hid (own_below HO.out hba)
            obtain ⟨Aa, ca, rfl, Ia, Za⟩ := own_block oa
            have HIa := Lib.hid (And.intro Ia Za)
            clear oa hba Ia Za
            go_wp2_with fail
            refine (HPk.out Aa ca _ HIa.out.1 (fun a ha => (HIa.out.2 a ha).2)).mono ?_
            rintro e wb ⟨rfl, hbb⟩
            have HXb := Lib.hid (HXa.out.step hbb)
            have HOb := Lib.hid (own_below HOa.out hbb)
            clear hbb
            go_wp2_with fail
            go_roundw
            case rel => exact ⟨f, k + 1, cs, some ⟨gL, 0, none⟩, cap, by omega, by go_num, rfl, HH, hcl, HM, HOb, HXb⟩
            case measure => simp [intOf, slLen]; omega
end Go.Proofs.YthhmaohnibdbnaaGreat
