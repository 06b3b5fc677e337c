/- Contract: the first shortest play on a ring, the model's. -/
import Derived.Test.YtdcbjbmnkajjcaaDoorCiJ
import Derived.Deep.LoopGhost
namespace Go.Proofs.YtdcbjbmnkajjcaaDoor
open Go.RowKit

/-- Where the way down stands. -/
structure PaS (R : List ByteArray) (NX : List (List Nat)) (b : Nat) (s : ByteArray) (q0 : List Nat) (a : Nat) (u : ByteArray) (q : List Nat) (made : List (Int × Int)) : Prop where
  down : DownP NX b a q
  ring : R[a]? = some u
  all : made ++ mvP u q = mvP s q0
theorem PaS.len {R : List ByteArray} {NX : List (List Nat)} {b a : Nat} {s u : ByteArray} {q0 q : List Nat} {made : List (Int × Int)} (h : PaS R NX b s q0 a u q made) : made.length + q.length = q0.length := by
  have := congrArg List.length h.all
  rw [List.length_append, mvP_len, mvP_len] at this
  exact this
theorem PaS.next {R : List ByteArray} {NX : List (List Nat)} {b a j k : Nat} {s s0 u : ByteArray} {q0 q : List Nat} {made : List (Int × Int)} (hO : GrOk s0 R NX) (h : PaS R NX b s q0 a u (j :: q) made) (hk : (NX.getD a [])[j]? = some k) :
    ∃ y, PaS R NX b s q0 k y q (made ++ [(rgTo u u.size).getD j (0, 0)]) := by
  obtain ⟨k', h1, h2, h3, h4, h5⟩ := h.down
  rw [hk] at h1
  injection h1 with h1
  subst h1
  obtain ⟨y, hy, hr⟩ := hO.nx a u j k h.ring hk
  refine ⟨y, h5, hr, ?_⟩
  have := h.all
  rw [mvP, List.getD_eq_getElem?_getD (l := nxC u), hy] at this
  rw [List.append_assoc]
  exact this
def PaPost2 (s v : ByteArray) (w : World) (e : Ending) (w' : World) : Prop := ∃ o, PathIs s v o ∧ AnsP s o w e w' ∧ Below w.heap.size w w' ∧ ∀ q, o = some q → q.length ≤ 100000
set_option maxRecDepth 100000 in
set_option maxHeartbeats 8000000 in
theorem sPath_of (s v : ByteArray) (w : World) (hs : ringB s = true) (hv : ringB v = true) (H : ∀ wx, Calls Tryd.prog 26 #[.string s] wx (RePost s wx)) :
    Calls Tryd.prog 17 #[.string s, .string v] w (PaPost2 s v w) := by
  obtain ⟨i0, hi, hz0, hz1, hz2⟩ := info_parts Tryd.infoM
  have HI := Lib.hid hi
  have HZ0 := Lib.hid hz0
  have HZ1 := Lib.hid hz1
  have HZ2 := Lib.hid hz2
  clear hi hz0 hz1 hz2
  have hsz : ∀ x, ringB x = true → x.size ≤ maxLen := fun x h => by have := (ring_sz h).2; unfold maxLen; omega
  have HGS : Hid (∀ wx, Calls Tryd.prog 24 #[.string s] wx fun e w' => e = .returned (.bool true) ∧ wx = w') := Lib.hid fun wx => by
    have := ciGood_any s wx (hsz s hs)
    rwa [hs] at this
  have HGV : Hid (∀ wx, Calls Tryd.prog 24 #[.string v] wx fun e w' => e = .returned (.bool true) ∧ wx = w') := Lib.hid fun wx => by
    have := ciGood_any v wx (hsz v hv)
    rwa [hv] at this
  have HP := Lib.hid (fun wx => ciPath_of s v wx hs H)
  have HSM := Lib.hid (same_of hs)
  clear H hsz hs hv
  unfold PaPost2 AnsP
  go_enter Tryd.func17, Tryd.ntmps17
  go_wp2_with fail
  refine (HGS.out _).mono ?_
  rintro e w' ⟨rfl, rfl⟩
  go_wp2_with fail
  refine (HGV.out _).mono ?_
  rintro e w' ⟨rfl, rfl⟩
  go_wp2_with fail
  refine (HP.out _).mono ?_
  rintro e w1 ⟨B, R, NX, hM, hO, hn, ⟨hvR, rfl⟩ | ⟨b, x, F, hb, rfl, hw, hF, hf⟩, hb1⟩
  · have HN := Lib.hid (hO.none hvR)
    have HB := Lib.hid hb1
    clear hM hO hvR hb1
    go_wp2
    go_ret2
    exact ⟨none, HN.out, .inl ⟨rfl, rfl⟩, HB.out, fun q h => by cases h⟩
  · obtain ⟨q0, hd0, hq0, h0, hl⟩ := hO.far0 hb hF hf
    obtain ⟨A, cap, rfl⟩ := own_form hw
    obtain ⟨gf, rfl⟩ : ∃ g, A = some ⟨g, 0, none⟩ := by
      rcases hw.2 with ⟨_, h2⟩ | ⟨g, cap', _, h1, _⟩
      · omega
      · injection h1 with h1 _ _
        exact ⟨g, h1⟩
    have hgf : gf < w1.heap.size := (hw.lt gf rfl).2
    have HFC : Hid (∀ (a : Nat) (wx : World), a < NX.length → Below w1.heap.size w1 wx → wx.cell? ⟨gf, a, none⟩ = some (.int .i64 (F.getD a 0))) := Lib.hid fun a wx ha hb => (hb.cell (p := ⟨gf, a, none⟩) hgf).trans ((hw.cellAt a (by omega)).trans (itZ_at F a (by omega)))
    have HFV : Hid (∀ (a d : Nat), a < NX.length → (F.getD a 0 = (d : Int) ↔ dstN NX b d a)) := Lib.hid fun a d ha => by
      rw [List.getD_eq_getElem?_getD, List.getElem?_eq_getElem (by omega)]
      exact farF_val (hf a (by omega))
    have hq5 : q0.length ≤ 100000 := by
      have h1 := dst_lt hO.inR (by omega : 0 < NX.length) (down_run q0 0 hd0).2
      have h2 := hO.len
      omega
    have HPA : Hid (PaS R NX b s q0 0 s q0 []) := Lib.hid ⟨hd0, hO.first, rfl⟩
    have HQ := Lib.hid hq0
    have HB1 := Lib.hid hb1
    have HM := Lib.hid hM
    have HO := Lib.hid hO
    have hnl : NX.length ≤ 100000 := by rw [hO.len]; exact hn
    have HLN : Hid (NX.length = R.length) := Lib.hid hO.len
    have hwz : w.heap.size ≤ w1.heap.size := hb1.size
    have HO1 : Hid (w1.ownsRow w1.heap.size 58 2 (.slice none 0 0) ([] : List (Int × Int)).length (flat [])) := Lib.hid (World.ownsRow_nil _ _ _ _)
    clear hM hO hb hw hF hf hb1 hq0 h0 hd0 hl hgf hn
    go_wp2_with fail
    go_loopg [9, 10] q0.length (fun gk v9 t wr => ∃ (a : Nat) (u : ByteArray) (q : List Nat) (made : List (Int × Int)), q.length = gk ∧ t = .int .i64 a ∧ Hid (PaS R NX b s q0 a u q made) ∧ Hid (wr.ownsRow w1.heap.size 58 2 v9 made.length (flat made)) ∧ Hid (Below w1.heap.size w1 wr))
    case atStart => exact ⟨0, s, q0, [], rfl, rfl, HPA, HO1, Lib.hid (Below.refl _ _)⟩
    case round =>
      obtain ⟨a, u, q, made, hgk, rfl, HPS, HOW, HB⟩ := hrel
      obtain ⟨W, hW⟩ : ∃ W : World, W = wr := ⟨_, rfl⟩
      subst hW
      obtain ⟨vF, hvF⟩ : ∃ v : Value, v = u9 := ⟨_, rfl⟩
      subst hvF
      clear HPA HO1
      have haR := (List.getElem?_eq_some_iff.1 HPS.out.ring).1
      have haN : a < NX.length := by rw [HLN.out]; exact haR
      have hmade := HPS.out.len
      have hca := HFC.out a W haN HB.out
      have a1 : (0 : Int) ≤ (a : Int) := by omega
      have a2 : (a : Int) < (NX.length : Int) := by omega
      match q, hgk, HPS, hmade with
      | [], hgk, HPS, hmade =>
        have hz : F.getD a 0 = 0 := (HFV.out a 0 haN).2 HPS.out.down
        rw [hz] at hca
        have HE : Hid (made = mvP s q0) := Lib.hid (by have := HPS.out.all; rwa [mvP, List.append_nil] at this)
        go_wp2_with fail
        go_ret2
        exact ⟨some q0, HQ.out, .inr ⟨q0, _, rfl, rfl, by have := own_low HOW.out hwz; rw [HE.out, mvP_len] at this; exact this⟩, HB1.out.trans (HB.out.mono hwz), fun q h => by injection h with h; subst h; exact hq5⟩
      | j :: q, hgk, HPS, hmade =>
        obtain ⟨k, hk, hdk, hda, hno, _⟩ := HPS.out.down
        have hz : F.getD a 0 = (q.length : Int) + 1 := by
          have := (HFV.out a (q.length + 1) haN).2 hda
          rw [this]
          omega
        rw [hz] at hca
        have hru : ringB u = true := by
          obtain ⟨p, hp⟩ := HO.out.got u (List.mem_of_getElem? HPS.out.ring)
          exact (same_run HSM.out hp).ring
        have HMV := Lib.hid (fun wx => ciMoves_any u wx hru)
        unfold SpPost at HMV
        have hMle := nxC_le hru
        have hMl : (nxC u).length = (rgTo u u.size).length := by unfold nxC; rw [List.length_map]
        have hIl : (NX.getD a []).length = (rgTo u u.size).length := by rw [HO.out.cnt a u HPS.out.ring, hMl]
        rw [hMl] at hMle
        have HNO : Hid (∀ j' k', j' < j → (NX.getD a [])[j']? = some k' → F.getD k' 0 ≠ (q.length : Int)) := Lib.hid fun j' k' h1 h2 h3 => by
          have hkn := HO.out.inR a k' (List.mem_of_getElem? h2)
          exact hno j' k' h1 h2 ((HFV.out k' q.length hkn).1 h3)
        have HIN := Lib.hid (fun j' k' (h : (NX.getD a [])[j']? = some k') => HO.out.inR a k' (List.mem_of_getElem? h))
        have hkN := HIN.out j k hk
        have hzk : F.getD k 0 = (q.length : Int) := (HFV.out k q.length hkN).2 hdk
        have hjl := (List.getElem?_eq_some_iff.1 hk).1
        obtain ⟨y, HPN⟩ := HPS.out.next HO.out hk
        have HPN := Lib.hid HPN
        have HKJ := Lib.hid hk
        have q1 : (0 : Int) ≤ (q.length : Int) := by omega
        have q2 : (q.length : Int) ≤ 100000 := by simp at hmade; omega
        have hmd : made.length ≤ 100000 := by simp at hmade; omega
        have hgk2 : gk = q.length + 1 := by simpa using hgk.symm
        have HRU := Lib.hid HPS.out.ring
        have HGK := Lib.hid hgk2
        -- the graph's cells
        have HMW := Lib.hid (HM.out.below HB.out)
        obtain ⟨hltB, ⟨Ar, capr, cr0, hrings⟩, ⟨An, capn, cn1, hnext⟩⟩ := HMW.out
        obtain ⟨gn, vn, rfl, zn, cvn, hit⟩ := hnext a haN
        obtain ⟨A3, cap3, rfl, hels⟩ := hit
        have e3 : NX[a] = NX.getD a [] := by rw [List.getD_eq_getElem?_getD, List.getElem?_eq_getElem haN]; rfl
        have HELS : Hid (∀ j', (h : j' < (NX.getD a []).length) → ∃ g, A3 = some ⟨g, 0, none⟩ ∧ g < W.heap.size ∧ W.cell? ⟨g, j', none⟩ = some (.int .i64 ((NX.getD a [])[j'] : Nat))) := Lib.hid (by rw [← e3]; exact hels)
        rw [e3] at cvn
        clear hels hnext e3 hdk hda hno hrings cr0 hltB hgk hgk2 HMW hru hmade hMl
        generalize NX.getD a [] = I at HNO HIN HKJ HELS cvn hIl hjl hk
        generalize hMM : rgTo u u.size = M at HMV hMle HPN hIl
        have HMM := Lib.hid hMM
        have hIle : I.length ≤ 1000 := by omega
        have HIL := Lib.hid hIl
        clear hIl hMM
        go_wp2_with fail
        go_loopg [9, 10, 43] I.length (fun gj v9 t10 t wr => ∃ j' : Nat, j' + gj = I.length ∧ j' ≤ j ∧ v9 = vF ∧ t10 = .int .i64 a ∧ t = .int .i64 j' ∧ Hid (Below W.heap.size W wr))
        case atStart => exact ⟨0, by omega, Nat.zero_le _, rfl, rfl, rfl, Lib.hid (Below.refl _ _)⟩
        case round =>
          obtain ⟨j', hj', hjj, hv0, rfl, rfl, HBW⟩ := hrel
          subst hv0
          obtain ⟨V, hV⟩ : ∃ V : World, V = wr := ⟨_, rfl⟩
          subst hV
          have HBV := Lib.hid (HB.out.trans (HBW.out.mono HB.out.size))
          have hltj : j' < I.length := by omega
          obtain ⟨g3, rfl, z3, c3⟩ := HELS.out j' hltj
          have c3 := (HBW.out.cell (p := ⟨g3, j', none⟩) z3).trans c3
          have hca := (HFC.out a V haN HBV.out)
          rw [hz] at hca
          have hkk : I[j']? = some I[j'] := List.getElem?_eq_getElem hltj
          have hkn := HIN.out j' _ hkk
          have hck := HFC.out I[j'] V hkn HBV.out
          have k1 : (0 : Int) ≤ (j' : Int) := by omega
          have k2 : (j' : Int) < (I.length : Int) := by omega
          have HRM : Hid (∀ wx : World, Below w1.heap.size w1 wx → ∃ g1 cap1, wx.cell? ⟨B, 0, none⟩ = some (.slice (some ⟨g1, 0, none⟩) R.length cap1) ∧ wx.cell? ⟨g1, a, none⟩ = some (.string u) ∧ a < R.length) := Lib.hid fun wx hb => by
            obtain ⟨_, ⟨Ar, capr, cr0, hrings⟩, _⟩ := HM.out.below hb
            have hal := (List.getElem?_eq_some_iff.1 HRU.out).1
            obtain ⟨g1, rfl, z1, c1⟩ := hrings a hal
            refine ⟨g1, capr, cr0, ?_, hal⟩
            have hu := HRU.out
            rw [List.getElem?_eq_getElem hal] at hu
            injection hu with hu
            rw [← hu]
            exact c1
          by_cases hjj2 : j' = j
          · subst hjj2
            have hkk2 : I[j'] = k := by
              rw [hkk] at hk
              injection hk
            rw [hkk2] at c3 hck hkn
            rw [hzk] at hck
            have k3 : (0 : Int) ≤ (k : Int) := by omega
            have k4 : (k : Int) < (NX.length : Int) := by omega
            have heq : ((q.length : Int) == (q.length : Int)) = true := by simp
            obtain ⟨g1, cap1, cB, cU, hal⟩ := HRM.out V HBV.out
            have a3 : (a : Int) < (R.length : Int) := by omega
            clear hkk hkk2 hkn hk HKJ
            go_upto_region 12 with fail
            go_region
            go_wp2_with fail
            refine (HMV.out _).mono ?_
            rintro e w5 ⟨v5, rfl, ho5, hb5⟩
            obtain ⟨A5, cap5, rfl, at5⟩ := at_of_own ho5
            have hjM : j' < M.length := by have := HIL.out; omega
            obtain ⟨gm, rfl, z5, p0, p1⟩ := at5 j' hjM
            have hgd : M.getD j' (0, 0) = M[j'] := by rw [List.getD_eq_getElem?_getD, List.getElem?_eq_getElem hjM]; rfl
            rw [hgd] at HPN
            obtain ⟨f, hf⟩ : ∃ f, f = M[j'].1 := ⟨_, rfl⟩
            obtain ⟨t, ht⟩ : ∃ t, t = M[j'].2 := ⟨_, rfl⟩
            have hft : M[j'] = (f, t) := by rw [hf, ht]
            rw [← hf] at p0
            rw [← ht] at p1
            rw [hft] at HPN
            have m2 : (j' : Int) < (M.length : Int) := by omega
            have hbd5 : Below V.heap.size V w5 := (Below.drew (Below.refl V.heap.size V)).trans hb5
            have HROW := Lib.hid (own_below (own_below HOW.out HBW.out) hbd5)
            have hB5 := HBV.out.trans (hbd5.mono HBV.out.size)
            have H2' : ∀ x ∈ [Value.int .i64 f, Value.int .i64 t], x.oneCell' = true := fun x hx => by simp at hx; rcases hx with rfl | rfl <;> rfl
            have H3' : made.length + 1 ≤ maxLen := by unfold maxLen; omega
            have H4' : (made.length + 1) * 16 ≤ 140737488355328 := by omega
            have H5' : w1.heap.size ≤ (w5.alloc (Obj.cells #[.int .i64 f, .int .i64 t] 58)).heap.size := by have := hB5.size; simp; omega
            have HB5 := Lib.hid hB5
            clear hb5 ho5 at5 hbd5 hB5 hgd hf ht hft cB cU hck c3 hca
            go_wp2_with (first | (at_builtin; refine wpList_append_own _ rfl _ _ 33 rfl w1.heap.size 58 i0 (.agg #[.int .i64 0, .int .i64 0]) 2 16 Tryd.underlying33 HI.out HZ0.out HZ1.out HZ2.out rfl (by decide) _ _ _ rfl (HROW.out.alloc _) ⟨w5.heap.size, 0, none⟩ 1 1 [.int .i64 f, .int .i64 t] rfl rfl (cell_two_new _ _ _ _) H2' H3' H4' H5' ?_; intro v' w6 hown' hgrow _))
            have HO6 : Hid (w6.ownsRow w1.heap.size 58 2 v' (made ++ [(f, t)]).length (flat (made ++ [(f, t)]))) := Lib.hid (by
              have e1 : flat (made ++ [(f, t)]) = flat made ++ [.int .i64 f, .int .i64 t] := by simp [flat]
              rw [e1, List.length_append]
              exact hown')
            have HB6 := Lib.hid ((HB5.out.alloc HB5.out.size (Obj.cells #[.int .i64 f, .int .i64 t] 58)).grown hgrow H5' (fun g e => (HROW.out.lt g e).1))
            clear hown' hgrow
            go_roundg q.length
            case measure => have := HGK.out; omega
            case rel => exact ⟨k, y, q, made ++ [(f, t)], rfl, rfl, HPN, HO6, HB6⟩
          · have hne : F.getD I[j'] 0 ≠ (q.length : Int) := HNO.out j' _ (by omega) hkk
            generalize I[j'] = kk at c3 hck hkn hne
            generalize F.getD kk 0 = z at hck hne
            have k3 : (0 : Int) ≤ (kk : Int) := by omega
            have k4 : (kk : Int) < (NX.length : Int) := by omega
            have heq : (z == (q.length : Int)) = false := by simpa using hne
            clear hkk hkn
            go_upto_region 12 with fail
            go_region
            go_wp2_with fail
            go_roundg (gk - 1)
            case measure => omega
            case rel => exact ⟨j' + 1, by omega, by omega, rfl, rfl, by go_num, Lib.hid HBW.out.drew⟩
end Go.Proofs.YtdcbjbmnkajjcaaDoor
