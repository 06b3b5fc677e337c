/- Contracts: how many lines fit; the needless clues. -/
import Derived.Test.YthhmaohnibdbnaaGreatPzD
import Derived.Test.YthhmaohnibdbnaaGreatPzR
namespace Go.Proofs.YthhmaohnibdbnaaGreat
open Go.RowKit

set_option maxRecDepth 100000 in
set_option maxHeartbeats 1000000 in
theorem noCnt_any (w : World) :
    Calls Tryz.prog 52 #[.agg #[.slice none 0 0, .nilFunc], .slice none 0 0] w fun e w' => e = .returned (.int .i64 0) ∧ Below w.heap.size w w' := by
  have hB : Below w.heap.size w (w.alloc (Obj.cells #[.slice none 0 0, .nilFunc] 57)) := (Below.refl _ _).alloc (Nat.le_refl _) _
  have HNH := Lib.hid noHunt_any
  go_enter Tryz.func52, Tryz.ntmps52
  go_wp2_with fail
  refine (HNH.out _).mono ?_
  rintro e w2 ⟨rfl, hb2⟩
  have HB2 := Lib.hid (hB.trans (hb2.mono hB.size))
  clear hb2
  go_wp2_with fail
  go_ret
  exact ⟨rfl, HB2.out⟩

/-- The answer of countThatFit to a hunt. -/
def CntH (w : World) (n : Nat) (l : List Cl) (g o B Bt Br Bs : Nat) (AL : Option Addr) (wx : World) (k : Nat) (e : Ending) (w' : World) : Prop :=
  e = .returned (.int .i64 k) ∧ HuntW w n l g o B Bt Br Bs AL w' ∧ KpM B wx w'
set_option maxRecDepth 100000 in
set_option maxHeartbeats 1000000 in
theorem cntH_any (w : World) (n N3 : Nat) (hN : 3 ^ n = N3) (l : List Cl) (g o B Bt Br Bs cl : Nat) (AL : Option Addr) (hgo : g < w.heap.size) (h15 : 1 ≤ n ∧ n ≤ 5) (cs : List Cl) (A : Option Addr) (c : Nat) (wx : World) (hok : ∀ k ∈ cs, ckOk n k = true) (hcs : cs.length ≤ 100) (hH : HuntW w n l g o B Bt Br Bs AL wx) (hin : ClIn wx A cs) (hne : ∀ a, A = some a → a.block ≠ B) :
    Calls Tryz.prog 52 #[.agg #[.slice AL N3 cl, telV Bt Br Bs], .slice A cs.length c] wx (CntH w n l g o B Bt Br Bs AL wx (solL n cs).length) := by
  have hba : Below wx.heap.size wx (wx.alloc (Obj.cells #[.slice AL N3 cl, telV Bt Br Bs] 57)) := (Below.refl _ _).alloc (Nat.le_refl _) _
  have HF := Lib.hid (fitH_any w n N3 hN l g o B Bt Br Bs cl AL hgo h15 cs A c _ hok hcs (hH.step hba) (hin.below hba) hne)
  have HB := Lib.hid (KpM.below hba : KpM B wx _)
  generalize solL n cs = L at HF ⊢
  clear hH hin hne hok hN hba
  go_enter Tryz.func52, Tryz.ntmps52
  go_wp2_with fail
  refine HF.out.mono ?_
  rintro e w2 ⟨v, rfl, ho, hH2, hk⟩
  obtain ⟨A2, c2, rfl, _, _, hA2, _⟩ := st_own ho
  have HR := Lib.hid (And.intro hH2 (HB.out.trans hk))
  clear ho hH2 hk hA2
  go_wp2_with fail
  go_ret
  exact ⟨rfl, HR.out.1, HR.out.2⟩

/-- The needless ones of the first k clues. -/
def ndB (n : Nat) (l : List Cl) (k : Nat) : Bool := (((solL n (woC l k)).length : Int) == ((solL n l).length : Int))
def ndL (n : Nat) (l : List Cl) : Nat → List Int
  | 0 => []
  | k + 1 => ndL n l k ++ if ndB n l k then [(k : Int)] else []
theorem ndL_len (n : Nat) (l : List Cl) : ∀ k, (ndL n l k).length ≤ k
  | 0 => by simp [ndL]
  | k + 1 => by
    have := ndL_len n l k
    unfold ndL
    split <;> simp <;> omega
def ndOr (n : Int) (l : List Cl) : List Int := if goodP n l then ndL n.toNat l l.length else []
theorem mem_woC {l : List Cl} {k : Nat} {c : Cl} (h : c ∈ woC l k) : c ∈ l := by
  unfold woC at h
  rcases List.mem_append.1 h with h | h
  · exact List.mem_of_mem_take h
  · exact List.mem_of_mem_drop h
theorem woC_len (l : List Cl) (k : Nat) : (woC l k).length ≤ l.length := by
  unfold woC
  simp only [List.length_append, List.length_take, List.length_drop]
  omega
theorem own_block {w : World} {base : Nat} {v : Value} {l : List Cl} (h : w.ownsRow base 69 3 v l.length (flat3 l)) : ∃ A cap, v = .slice A l.length cap ∧ ClIn w A l ∧ (∀ ad, A = some ad → base ≤ ad.block ∧ ad.block < w.heap.size) := by
  obtain ⟨A, cap, rfl, hin, _⟩ := cl_own h
  exact ⟨A, cap, rfl, hin, fun ad e => h.lt ad.block (by rw [e]; rfl)⟩
theorem ndL_next (n : Nat) (l : List Cl) (k : Nat) : ndL n l (k + 1) = ndL n l k ++ if ndB n l k then [(k : Int)] else [] := rfl

set_option maxRecDepth 100000 in
set_option maxHeartbeats 4000000 in
theorem sNeedlessClues_any (n : Int) (l : List Cl) (g o c : Nat) (w : World) (hin : ClIn w (some ⟨g, o, none⟩) l) (hl : l.length ≤ 2000000) (hc : l.length ≤ c) (hc2 : c ≤ l.length) (hgo : g < w.heap.size) :
    Calls Tryz.prog 29 #[.agg #[.int .i64 n, .slice (some ⟨g, o, none⟩) l.length c]] w (ItxB w (goodP n l) (ndOr n l)) := by
  obtain ⟨W0, hW0⟩ : ∃ W0, W0 = w.alloc (Obj.cells #[.int .i64 n, .slice (some ⟨g, o, none⟩) l.length c] 31) := ⟨_, rfl⟩
  have hB0 : Below w.heap.size w W0 := by rw [hW0]; exact (Below.refl _ _).alloc (Nat.le_refl _) _
  have p0 : W0.cell? ⟨w.heap.size, 0, none⟩ = some (.int .i64 n) := by rw [hW0, cell_new' _ _ _ _ _ rfl]; rfl
  have p1 : W0.cell? ⟨w.heap.size, 1, none⟩ = some (.slice (some ⟨g, o, none⟩) l.length c) := by rw [hW0, cell_new' _ _ _ _ _ rfl]; rfl
  have hz : w.heap.size < W0.heap.size := by rw [hW0]; simp
  have HG := Lib.hid (pzGood_any n l (some ⟨g, o, none⟩) c W0 (hin.below hB0) hl)
  unfold ndOr
  cases hg : goodP n l
  · rw [hg] at HG
    clear hg
    go_enter Tryz.func29, Tryz.ntmps29
    go_wp2_with fail
    rw [← hW0]
    clear hW0
    refine HG.out.mono ?_
    rintro e w1 ⟨rfl, hb1⟩
    have HB := Lib.hid (hB0.trans (hb1.mono hB0.size))
    clear hb1
    go_wp2_with fail
    go_ret2
    exact ⟨_, rfl, World.ownsRow_nil _ _ _ _, HB.out⟩
  · rw [hg] at HG
    obtain ⟨m, rfl, h15⟩ := goodP_nat hg
    have hl6 := goodP_few hg
    obtain ⟨i0, hi, hz0, hz1, hz2⟩ := info_parts Tryz.infoN
    have II := Lib.hid hi
    have HZ0 := Lib.hid hz0
    have HZ1 := Lib.hid hz1
    have HZ2 := Lib.hid hz2
    clear hi hz0 hz1 hz2
    have HI := Lib.hid (hin.below hB0)
    have HP := Lib.hid (fun wx (h : ClIn wx (some ⟨g, o, none⟩) l) (ho : w.heap.size ≤ wx.heap.size) => pzAll_any m l (some ⟨g, o, none⟩) c wx h15 (goodP_ok hg) (by omega) h (fun a e => by injection e with e; subst e; exact Nat.lt_of_lt_of_le hgo ho))
    have HPK := Lib.hid (fun k A c wx (h : ClIn wx A (woC l k)) (ho : ∀ a, A = some a → a.block < wx.heap.size) => pzAll_any m (woC l k) A c wx h15 (fun x hx => goodP_ok hg x (mem_woC hx)) (by have := woC_len l k; omega) h ho)
    have HWO := Lib.hid (fun k (hk : k < l.length) wx (h : ClIn wx (some ⟨g, o, none⟩) l) => pzWithout_any l g o c k wx h (by omega) hc (by omega) hk)
    have HLN := Lib.hid (ndL_len m l)
    rw [if_pos rfl, show (m : Int).toNat = m from rfl]
    have HNB : Hid (∀ k, ndB m l k = (((solL m (woC l k)).length : Int) == ((solL m l).length : Int))) := Lib.hid fun _ => rfl
    generalize solL m l = L at HP HNB
    clear hg hin hl
    go_enter Tryz.func29, Tryz.ntmps29
    go_wp2_with fail
    rw [← hW0]
    clear hW0
    refine HG.out.mono ?_
    rintro e w1 ⟨rfl, hb1⟩
    have q0 := ((bcell hb1).1 _ _ hz).trans p0
    have q1 := ((bcell hb1).1 _ _ hz).trans p1
    have HB1 := Lib.hid (And.intro (hB0.trans (hb1.mono hB0.size)) hb1)
    have HI1 := Lib.hid (HI.out.below hb1)
    clear hb1
    go_wp2_with fail
    refine (HP.out _ HI1.out HB1.out.1.size).mono ?_
    rintro e w2 ⟨v, rfl, ho, hb2⟩
    obtain ⟨A2, c2, rfl, _, _, hA2, _⟩ := st_own ho
    have HB2 := Lib.hid (HB1.out.2.trans (hb2.mono HB1.out.2.size))
    have z2 := HB2.out.size
    have r1 := ((bcell HB2.out).1 _ _ hz).trans p1
    clear ho hb2 hA2 q0 q1
    go_wp2_with fail
    go_loopw [4, 6, 19] (fun v _ i wr => ∃ k : Nat, k ≤ l.length ∧ i = .int .i64 k ∧ wr.ownsRow W0.heap.size 3 1 v (ndL m l k).length (itx (ndL m l k)) ∧ Below W0.heap.size W0 wr) (fun _ _ i _ => l.length - (intOf i).toNat)
    case atStart => exact ⟨0, Nat.zero_le _, rfl, World.ownsRow_nil _ _ _ _, HB2.out⟩
    case round =>
      obtain ⟨k, hk, rfl, hown, hbr⟩ := hrel
      by_cases hlt : k < l.length
      · have i1 : (0 : Int) ≤ (k : Int) := by omega
        have i2 : (k : Int) < (l.length : Int) := by omega
        have r0 := ((bcell hbr).1 _ _ hz).trans p0
        have r1 := ((bcell hbr).1 _ _ hz).trans p1
        have zr := hbr.size
        have HO := Lib.hid hown
        have HBR := Lib.hid hbr
        have HIR := Lib.hid (HI.out.below hbr)
        clear hown hbr
        have hln := HLN.out k
        have HB := HNB.out k
        have HNX := Lib.hid (ndL_next m l k)
        have HPKk := Lib.hid (HPK.out k)
        generalize solL m (woC l k) = L2 at HB HPKk
        generalize ndL m l k = F at HO hln HNX
        clear HPK HP HLN HNB
        cases hb : ndB m l k
        · have HQ := Lib.hid (HB.symm.trans hb)
          rw [hb] at HNX
          clear HB hb
          go_wp2_with fail
          go_region_held3 (fun w' => w'.cell? ⟨w.heap.size, 0, none⟩ = some (.int .i64 m) ∧ w'.cell? ⟨w.heap.size, 1, none⟩ = some (.slice (some ⟨g, o, none⟩) l.length c)) (first | exact ⟨r0, r1⟩ | exact ⟨(hx1.cell (by simp; omega)).trans r0, (hx1.cell (by simp; omega)).trans r1⟩ | exact ⟨(hx2.cell (by simp; omega)).trans r0, (hx2.cell (by simp; omega)).trans r1⟩) (first | (go_at_call 51; refine (HWO.out k hlt _ (clin_drew HIR.out)).mono ?_; rintro e wa ⟨va, rfl, oa, hba⟩; have hx1 := (Below.drew (Below.refl _ _)).trans hba; obtain ⟨Aa, ca, rfl, Ia, Za⟩ := own_block oa; clear oa) | (go_at_call 43; refine (HPKk.out Aa ca _ Ia (fun a ha => (Za a ha).2)).mono ?_; rintro e wb ⟨vb, rfl, ob, hbb⟩; obtain ⟨Ab, cb, rfl, _, _, _, _⟩ := st_own ob; have hx2 := hx1.trans (hbb.mono hx1.size); clear ob))
          rw [HQ.out]
          have HBN := Lib.hid (HBR.out.trans (hx2.mono zr))
          have HON := Lib.hid (own_below HO.out hx2)
          clear hx1 hx2 HO
          go_wp2_with fail
          go_roundw
          case rel => exact ⟨k + 1, by omega, by go_num, by rw [HNX.out]; simpa using HON.out, HBN.out⟩
          case measure => simp [intOf]; omega
        · have HQ := Lib.hid (HB.symm.trans hb)
          rw [hb] at HNX
          clear HB hb
          go_wp2_with fail
          go_region_held3 (fun w' => w'.cell? ⟨w.heap.size, 0, none⟩ = some (.int .i64 m) ∧ w'.cell? ⟨w.heap.size, 1, none⟩ = some (.slice (some ⟨g, o, none⟩) l.length c)) (first | exact ⟨r0, r1⟩ | exact ⟨(hx1.cell (by simp; omega)).trans r0, (hx1.cell (by simp; omega)).trans r1⟩ | exact ⟨(hx2.cell (by simp; omega)).trans r0, (hx2.cell (by simp; omega)).trans r1⟩) (first | (go_at_call 51; refine (HWO.out k hlt _ (clin_drew HIR.out)).mono ?_; rintro e wa ⟨va, rfl, oa, hba⟩; have hx1 := (Below.drew (Below.refl _ _)).trans hba; obtain ⟨Aa, ca, rfl, Ia, Za⟩ := own_block oa; clear oa) | (go_at_call 43; refine (HPKk.out Aa ca _ Ia (fun a ha => (Za a ha).2)).mono ?_; rintro e wb ⟨vb, rfl, ob, hbb⟩; obtain ⟨Ab, cb, rfl, _, _, _, _⟩ := st_own ob; have hx2 := hx1.trans (hbb.mono hx1.size); clear ob))
          rw [HQ.out]
          have HBN := Lib.hid (HBR.out.trans (hx2.mono zr))
          have HON := Lib.hid (own_below HO.out hx2)
          have hszn := hx2.size
          clear hx1 hx2 HO
          go_wp2_with (first | (at_builtin; refine wpList_append_own _ rfl _ _ 44 rfl W0.heap.size 3 i0 (.int .i64 0) 1 8 Tryz.underlying44 II.out HZ0.out HZ1.out HZ2.out rfl (by decide) _ F.length (itx F) rfl (HON.out.alloc _) ⟨wb.heap.size, 0, none⟩ 1 1 [.int .i64 k] rfl rfl (cell_one_newP wb _ _) (fun u hu => by simp at hu; subst hu; rfl) (by unfold maxLen; omega) (by omega) (by simp; omega) ?_; intro v' w4 hown' hgrow _))
          go_roundw
          case rel =>
            have hrow := HON.out.alloc (Obj.cells #[.int .i64 (k : Int)] 3)
            refine ⟨k + 1, by omega, by go_num, ?_, ?_⟩
            · rw [HNX.out]
              simp only [if_true]
              rw [List.length_append, itx_app]
              exact hown'
            · exact (HBN.out.alloc HBN.out.size _).grown hgrow (by have := HBN.out.size; simp; omega) (fun j hj => (hrow.lt j hj).1)
          case measure => simp [intOf]; omega
      · obtain rfl : k = l.length := by omega
        have HR := Lib.hid (And.intro hown (hB0.trans (hbr.mono hB0.size)))
        clear hown hbr
        go_wp2_with fail
        go_ret2
        exact ⟨_, rfl, own_lowerC HR.out.1 (Nat.le_of_lt hz), HR.out.2⟩
end Go.Proofs.YthhmaohnibdbnaaGreat
