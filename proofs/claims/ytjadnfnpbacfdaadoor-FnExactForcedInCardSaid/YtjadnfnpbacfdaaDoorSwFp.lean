/- ForcedIn: the model's side and the law's walk. -/
import Derived.Test.YtjadnfnpbacfdaaDoorSwFo
namespace Go.Proofs.YtjadnfnpbacfdaaDoor
open Go.RowKit Go.Shelf Go.Maps

theorem forced_any (t g f : Int) (l : List (Int × Int)) (A : Option Addr) (c : Nat) (w : World) (hn : l.length ≤ 2000000) (hat : MvIn w A l) :
    Calls Tryd.prog 39 #[.int .i64 t, .int .i64 g, .int .i64 f, .slice A l.length c] w fun e w' => e = .returned (foV t g f l) ∧ Below w.heap.size w w' := by
  cases h : foB t g f l
  · rw [foV_no h]
    exact forced_no t g f l A c w hn hat h
  · rw [foV_yes h]
    exact forced_yes t g f l A c w hn hat h
set_option maxRecDepth 100000 in
set_option maxHeartbeats 8000000 in
theorem sForced_no (t g f : Int) (l : List (Int × Int)) (A : Option Addr) (c : Nat) (w : World) (hn : l.length ≤ 2000000) (hat : MvIn w A l) (h : foB t g f l = false) :
    Calls Tryd.prog 37 #[.int .i64 t, .int .i64 g, .int .i64 f, .slice A l.length c] w fun e w' => e = .returned (.tuple #[.int .i64 0, .bool false]) ∧ Below w.heap.size w w' := by
  have HS := Lib.hid (swMoves_any t g f A l.length c w hn)
  cases h1 : askM t g f l.length
  · rw [h1] at HS
    clear h h1 hat
    go_enter Tryd.func37, Tryd.ntmps37
    go_wp2_with fail
    refine HS.out.mono ?_
    rintro e w1 ⟨rfl, hb1⟩
    have HB := Lib.hid hb1
    clear hb1
    go_wp2_with fail
    go_ret2
    exact ⟨rfl, HB.out⟩
  · have hc : few t g f = true := by have := h1; unfold askM at this; rw [Bool.and_eq_true] at this; exact this.1
    have h100 : l.length ≤ 100 := by have := h1; unfold askM at this; rw [Bool.and_eq_true] at this; simpa using this.2
    have h2 : exB t g f l = false := by unfold foB at h; rw [h1] at h; simpa using h
    have HI := Lib.hid (fun wx hat => swIs_any t g f l A c wx hc h100 hat)
    rw [h2] at HI
    rw [h1] at HS
    have HA := Lib.hid hat
    clear h h1 hat hc h2
    go_enter Tryd.func37, Tryd.ntmps37
    go_wp2_with fail
    refine HS.out.mono ?_
    rintro e w1 ⟨rfl, hb1⟩
    have HB := Lib.hid hb1
    clear hb1
    go_wp2_with fail
    refine (HI.out _ (HA.out.below HB.out)).mono ?_
    rintro e w2 ⟨rfl, hb2⟩
    have HB2 := Lib.hid (HB.out.trans (hb2.mono HB.out.size))
    clear hb2
    go_wp2_with fail
    go_ret2
    exact ⟨rfl, HB2.out⟩
set_option maxRecDepth 100000 in
set_option maxHeartbeats 8000000 in
theorem sForced_yes (t g f : Int) (l : List (Int × Int)) (A : Option Addr) (c : Nat) (w : World) (hn : l.length ≤ 2000000) (hat : MvIn w A l) (h : foB t g f l = true) :
    Calls Tryd.prog 37 #[.int .i64 t, .int .i64 g, .int .i64 f, .slice A l.length c] w fun e w' => e = .returned (.tuple #[.int .i64 (frc (firstL t.toNat g.toNat f.toNat) l : Int), .bool true]) ∧ Below w.heap.size w w' := by
  have h2 : askM t g f l.length = true ∧ exB t g f l = true := by unfold foB at h; simpa using h
  have hc : few t g f = true := by have := h2.1; unfold askM at this; rw [Bool.and_eq_true] at this; exact this.1
  have h100 : l.length ≤ 100 := by have := h2.1; unfold askM at this; rw [Bool.and_eq_true] at this; simpa using this.2
  have HSM := Lib.hid (swMoves_any t g f A l.length c w hn)
  have HI := Lib.hid (fun wx hat => swIs_any t g f l A c wx hc h100 hat)
  rw [h2.1] at HSM
  rw [h2.2] at HI
  have HS := Lib.hid (FoI.start h2.2)
  have hf := (few_iff t g f).1 hc
  have HF := Lib.hid (fun wx => liFirst_any t g f wx (by omega) (by omega) (by omega))
  have hg := first_goodT hc
  have h8 : (t + g + f).toNat ≤ 8 := by omega
  generalize (t + g + f).toNat = n at hg h8
  generalize firstL t.toNat g.toNat f.toNat = fl at *
  have HNX := Lib.hid (fun i x cn (h : FoI fl l i x cn) hi => FoI.next hg h hi)
  have HLM := Lib.hid (fun x (hx : x ∈ swA fl) B W ks hk => swLiveMoves_any B n x W ks (swA_good hg x hx) hk)
  have HX8 := Lib.hid (fun x (hx : x ∈ swA fl) => (G8.of (swA_good hg x hx) h8).len)
  have HA := Lib.hid hat
  obtain ⟨z, hz⟩ : ∃ z, z = frc fl l := ⟨_, rfl⟩
  rw [← hz]
  have HZ := Lib.hid hz
  clear hat h h2 hc hg h8 hf hz
  go_enter Tryd.func37, Tryd.ntmps37
  go_wp2_with fail
  refine HSM.out.mono ?_
  rintro e w1 ⟨rfl, hb1⟩
  have HB1 := Lib.hid hb1
  clear hb1
  go_wp2_with fail
  refine (HI.out _ (HA.out.below HB1.out)).mono ?_
  rintro e w2 ⟨rfl, hb2⟩
  have HB2 := Lib.hid (HB1.out.trans (hb2.mono HB1.out.size))
  clear hb2
  go_upto_region 4 with fail
  generalize hW0 : w2.alloc (Obj.cells #[.slice none 0 0, .slice none 0 0] 69) = W0
  have hk0 : EnW W0 w2.heap.size n [] := by rw [← hW0]; exact EnW.new w2 n
  have hb0 : Below w2.heap.size w2 W0 := by rw [← hW0]; exact (Below.refl _ _).alloc (Nat.le_refl _) _
  have HK0 : Hid (∃ ks, EnW W0 w2.heap.size n ks) := Lib.hid ⟨_, hk0⟩
  have HB0 := Lib.hid (HB2.out.trans (hb0.mono HB2.out.size))
  have hlow : w.heap.size ≤ w2.heap.size := HB2.out.size
  clear hW0 hk0 hb0
  go_wp2_with fail
  refine (HF.out _).mono ?_
  rintro e w3 ⟨rfl, rfl⟩
  go_wp2_with fail
  go_loopg [11, 12, 37] l.length (fun gk s v t wr => ∃ (i : Nat) (x : List UInt8) (cn : Nat), i + gk = l.length ∧ s = .string (str x) ∧ v = .int .i64 (cn : Int) ∧ t = .int .i64 i ∧ Hid (FoI fl l i x cn) ∧ Hid (∃ ks, EnW wr w2.heap.size n ks) ∧ Hid (Below w.heap.size w wr))
  case atStart => exact ⟨0, _, 0, by omega, rfl, rfl, rfl, HS, HK0, HB0⟩
  case round =>
    obtain ⟨i, x, cn, hik, rfl, rfl, rfl, HFI, HK, HB⟩ := hrel
    obtain ⟨V, hV⟩ : ∃ V : World, V = wr := ⟨_, rfl⟩
    subst hV
    obtain ⟨G, hG⟩ : ∃ G : Nat, G = gk := ⟨_, rfl⟩
    subst hG
    clear HK0 HB0 HS
    have hcn := HFI.out.few
    by_cases hlt : i < l.length
    · obtain ⟨a, b, e1, e2, hai, hbi, hne, hfn⟩ := HNX.out i x cn HFI.out hlt
      have hxin := HFI.out.1
      have hx8 := HX8.out x hxin
      obtain ⟨gm, o, rfl, hgm, m0, m1⟩ := (HA.out.below HB.out) i hlt
      rw [e1] at m0
      rw [e2] at m1
      have HMK := Lib.hid (fun wx => liMake_any (str x) a b wx (by rw [str_size]; omega) hai hbi hne)
      have HFN := Lib.hid hfn
      rw [show behind (str x) (a : Int) (b : Int) = putL (str x) a b from rfl] at HFN
      generalize putL (str x) a b = y at HMK HFN
      have HLX := Lib.hid (fun B W ks hk => HLM.out x hxin B W ks hk)
      have i1 : (0 : Int) ≤ (i : Int) := by omega
      have i2 : (i : Int) < (l.length : Int) := by omega
      clear e1 e2 hne hfn hxin hx8
      go_upto_region 9 with fail
      generalize hV1 : V.alloc (Obj.cells #[Value.int IntKind.i64 ↑a, Value.int IntKind.i64 ↑b] 64) = V1
      have hbv1 : Below V.heap.size V V1 := by rw [← hV1]; exact (Below.refl _ _).alloc (Nat.le_refl _) _
      have r0 : V1.cell? ⟨V.heap.size, 0, none⟩ = some (.int .i64 a) := by rw [← hV1, World.cell?_alloc_new]; rfl
      have r1 : V1.cell? ⟨V.heap.size, 1, none⟩ = some (.int .i64 b) := by rw [← hV1, World.cell?_alloc_new]; rfl
      have zv1 : V.heap.size < V1.heap.size := by rw [← hV1]; simp
      obtain ⟨ks, hks⟩ := HK.out
      have hne : ¬ Ex w2.heap.size V1 V.heap.size := fun he => by have := hks.ex_old hbv1 he; omega
      have HB1' := Lib.hid (HB.out.trans (hbv1.mono HB.out.size))
      have hk1 := hks.below hbv1
      have HK1 := Lib.hid hk1
      clear hV1 m0 m1 hbv1 hks hk1
      go_wp2_with fail
      refine (HLX.out _ _ _ HK1.out).mono ?_
      rintro e w4 ⟨v4, rfl, ho4, hkn4, hkp4⟩
      have hz4 : w2.heap.size ≤ V1.heap.size := by have := HK1.out.lt; omega
      have HB4 := Lib.hid (HB1'.out.trans ((hkp4.to_below hz4 (fun k he => (HK1.out.ex_in k he).1)).mono hlow))
      have HK4 := Lib.hid hkn4
      have hblk := hkp4.keep V.heap.size zv1 hne
      replace r0 := (World.cell?_of_block (a := ⟨V.heap.size, 0, none⟩) hblk).trans r0
      replace r1 := (World.cell?_of_block (a := ⟨V.heap.size, 1, none⟩) hblk).trans r1
      obtain ⟨A4, c4, rfl, _⟩ := at_of_own (show w4.ownsRow V1.heap.size 64 2 v4 (lvL x).length (flat (lvL x)) from ho4)
      clear ho4 hkn4 hkp4 hblk hne hz4
      have FIN : ∀ (w5 : World), Below w4.heap.size w4 w5 → Hid (∃ ks, EnW w5 w2.heap.size n ks) ∧ Hid (Below w.heap.size w w5) := fun w5 hb5 => ⟨Lib.hid (by obtain ⟨kx, hx⟩ := HK4.out; exact ⟨kx, hx.below hb5⟩), Lib.hid (HB4.out.trans (hb5.mono HB4.out.size))⟩
      by_cases h1 : (lvL x).length = 1
      · have hone : (((lvL x).length : Int) == 1) = true := by simp; omega
        rw [if_pos h1] at HFN
        clear h1
        generalize (lvL x).length = q at *
        go_wp2_with fail
        refine (HMK.out _).mono ?_
        rintro e w5 ⟨rfl, hb5⟩
        obtain ⟨HK5, HB5⟩ := FIN w5 hb5
        clear hb5 r0 r1 FIN
        go_wp2_with fail
        go_roundg (G - 1)
        case measure => omega
        case rel => exact ⟨i + 1, y, _, by omega, rfl, by go_num, by go_num, HFN, HK5, HB5⟩
      · have hone : (((lvL x).length : Int) == 1) = false := by simp; omega
        rw [if_neg h1] at HFN
        clear h1
        generalize (lvL x).length = q at *
        go_wp2_with fail
        refine (HMK.out _).mono ?_
        rintro e w5 ⟨rfl, hb5⟩
        obtain ⟨HK5, HB5⟩ := FIN w5 hb5
        clear hb5 r0 r1 FIN
        go_wp2_with fail
        go_roundg (G - 1)
        case measure => omega
        case rel => exact ⟨i + 1, y, _, by omega, rfl, by go_num, by go_num, HFN, HK5, HB5⟩
    · obtain rfl : i = l.length := by omega
      obtain rfl : cn = z := HFI.out.fin.trans HZ.out.symm
      go_wp2_with fail
      go_ret2
      exact ⟨rfl, HB.out⟩
theorem sForced_any (t g f : Int) (l : List (Int × Int)) (A : Option Addr) (c : Nat) (w : World) (hn : l.length ≤ 2000000) (hat : MvIn w A l) :
    Calls Tryd.prog 37 #[.int .i64 t, .int .i64 g, .int .i64 f, .slice A l.length c] w fun e w' => e = .returned (foV t g f l) ∧ Below w.heap.size w w' := by
  cases h : foB t g f l
  · rw [foV_no h]
    exact sForced_no t g f l A c w hn hat h
  · rw [foV_yes h]
    exact sForced_yes t g f l A c w hn hat h
set_option maxRecDepth 100000 in
set_option maxHeartbeats 4000000 in
theorem walk_FnExactForcedIn (t : Int) (_ : (Lit.int .i64 t).wf = true) (g : Int) (_ : (Lit.int .i64 g).wf = true) (f : Int) (_ : (Lit.int .i64 f).wf = true) (A : Option Addr) (n c : Nat) (l : List (Int × Int)) (w : World) (hin : n = l.length ∧ n ≤ maxLen ∧ MvIn w A l) :
    Calls Tryd.prog 11 #[.int .i64 t, .int .i64 g, .int .i64 f, .slice A n c] w fun e w' => e = .returned (.bool true) ∧ Below w.heap.size w w' := by
  obtain ⟨rfl, hmax, hin⟩ := hin
  have HI := Lib.hid hin
  clear hin
  by_cases hl : 1048576 < l.length
  · go_enter Tryd.func11, Tryd.ntmps11
    go_wp2_with fail
    refine (szMoveS_any _ _ _ _ hmax).mono ?_
    rintro e w1 ⟨rfl, rfl⟩
    rw [if_pos hl]
    go_wp2
    go_ret
    exact ⟨rfl, Below.refl _ _⟩
  · have hln : l.length ≤ 2000000 := by omega
    have hnn : ¬ (1048576 : Int) - (l.length : Int) < 0 := by omega
    obtain ⟨r0, r1, hR⟩ : ∃ (r0 : Int) (r1 : Bool), foV t g f l = .tuple #[.int .i64 r0, .bool r1] := by
      unfold foV intOr
      split
      · exact ⟨_, _, rfl⟩
      · exact ⟨_, _, rfl⟩
    have hR := Lib.hid hR
    go_enter Tryd.func11, Tryd.ntmps11
    go_wp2_with fail
    refine (szMoveS_any _ _ _ _ hmax).mono ?_
    rintro e w1 ⟨rfl, rfl⟩
    rw [if_neg hl]
    go_wp2_with fail
    refine (toMoveS_any l A c _ HI.out hln).mono ?_
    rintro e w1 ⟨rfl, ho1, hb1⟩
    obtain ⟨A1, c1, hv1, at1⟩ := at_of_own ho1
    injection hv1 with hA1 _ hc1
    subst hA1; subst hc1
    have AT1 := Lib.hid at1
    clear ho1 at1
    go_wp2_with fail
    refine (sForced_any t g f l _ _ _ hln AT1.out.into).mono ?_
    rintro e w2 ⟨rfl, hb2⟩
    rw [hR.out]
    have hB2 := hb1.trans (hb2.mono hb1.size)
    have H2 := Lib.hid (HI.out.below hB2)
    clear hb1 hb2 AT1 HI
    go_wp2_with fail
    refine (toMoveS_any l A c _ H2.out hln).mono ?_
    rintro e w3 ⟨rfl, ho3, hb3⟩
    obtain ⟨A3, c3, hv3, at3⟩ := at_of_own ho3
    injection hv3 with hA3 _ hc3
    subst hA3; subst hc3
    have AT3 := Lib.hid at3
    have hB3 := hB2.trans (hb3.mono hB2.size)
    have H3 := Lib.hid (H2.out.below hb3)
    clear ho3 at3 hb3 hB2 H2
    go_wp2_with fail
    refine (forced_any t g f l _ _ _ hln AT3.out.into).mono ?_
    rintro e w4 ⟨rfl, hb4⟩
    rw [hR.out]
    have AT4 := Lib.hid (AT3.out.below hb4)
    have H4 := Lib.hid (H3.out.below hb4)
    have hB4 := hB3.trans (hb4.mono hB3.size)
    clear hb4 AT3 H3 hB3
    go_wp2_with fail
    refine (toMoveS_any l A c _ H4.out hln).mono ?_
    rintro e w5 ⟨rfl, ho5, hb5⟩
    obtain ⟨A5, c5, hv5, at5⟩ := at_of_own ho5
    injection hv5 with hA5 _ hc5
    subst hA5; subst hc5
    have AT5 := Lib.hid at5
    have AT4' := Lib.hid (AT4.out.below hb5)
    have hB5 := hB4.trans (hb5.mono hB4.size)
    clear ho5 at5 hb5 hB4 AT4 H4
    go_wp2_with fail
    refine (eqMoveS_same l _ _ _ _ _ AT4'.out AT5.out hln).mono ?_
    rintro e w6 ⟨rfl, hb6⟩
    have hB6 := hB5.trans (hb6.mono hB5.size)
    clear hb6 hB5 AT4' AT5
    go_wp2
    go_ret
    exact ⟨rfl, hB6⟩
end Go.Proofs.YtjadnfnpbacfdaaDoor
