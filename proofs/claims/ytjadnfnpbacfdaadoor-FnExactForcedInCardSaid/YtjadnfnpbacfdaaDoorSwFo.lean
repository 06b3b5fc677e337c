/- ForcedIn: contracts of both sides and the law's walk. -/
import Derived.Test.YtjadnfnpbacfdaaDoorSwLm
import Derived.Test.YtjadnfnpbacfdaaDoorSwapB
namespace Go.Proofs.YtjadnfnpbacfdaaDoor
open Go.RowKit Go.Shelf Go.Maps

/-- At how many of the moves there was one live move. -/
def frc : List UInt8 → List (Int × Int) → Nat
  | _, [] => 0
  | x, m :: r => (if (lvL x).length = 1 then 1 else 0) + frc (behind (str x) m.1 m.2) r
theorem frc_le : ∀ (l : List (Int × Int)) (x : List UInt8), frc x l ≤ l.length
  | [], x => Nat.zero_le _
  | m :: r, x => by
    have := frc_le r (behind (str x) m.1 m.2)
    unfold frc
    rw [List.length_cons]
    split <;> omega
theorem frc_step (x : List UInt8) (l : List (Int × Int)) (k : Nat) (h : k < l.length) : frc x (l.drop k) = (if (lvL x).length = 1 then 1 else 0) + frc (behind (str x) l[k].1 l[k].2) (l.drop (k + 1)) := by
  rw [List.drop_eq_getElem_cons h]
  rfl
def foB (t g f : Int) (l : List (Int × Int)) : Bool := askM t g f l.length && exB t g f l
def foV (t g f : Int) (l : List (Int × Int)) : Value := intOr (foB t g f l) (frc (firstL t.toNat g.toNat f.toNat) l : Int)
theorem foV_no {t g f : Int} {l : List (Int × Int)} (h : foB t g f l = false) : foV t g f l = .tuple #[.int .i64 0, .bool false] := intOr_no _ _ h
theorem foV_yes {t g f : Int} {l : List (Int × Int)} (h : foB t g f l = true) : foV t g f l = .tuple #[.int .i64 (frc (firstL t.toNat g.toNat f.toNat) l : Int), .bool true] := intOr_yes _ _ h
/-- Where the count stands: i moves made, x the line behind them. -/
def FoI (f : List UInt8) (l : List (Int × Int)) (i : Nat) (x : List UInt8) (cn : Nat) : Prop :=
  x ∈ swA f ∧ (playS (str x) (l.drop i)).2 = l.length - i ∧ cn + frc x (l.drop i) = frc f l
theorem FoI.start {t g f : Int} {l : List (Int × Int)} (h : exB t g f l = true) : FoI (firstL t.toNat g.toNat f.toNat) l 0 (firstL t.toNat g.toNat f.toNat) 0 := by
  unfold exB at h
  rw [Bool.and_eq_true] at h
  have h1 := h.1
  unfold allB fst3 at h1
  exact ⟨swA_root _, by simpa using h1, by simp⟩
theorem FoI.next {n : Nat} {f x : List UInt8} {l : List (Int × Int)} {i cn : Nat} (hg : goodT n f) (h : FoI f l i x cn) (hi : i < l.length) :
    ∃ a b : Nat, l[i].1 = a ∧ l[i].2 = b ∧ a < (str x).size ∧ b < (str x).size ∧ a ≠ b ∧ FoI f l (i + 1) (behind (str x) (a : Int) (b : Int)) (cn + if (lvL x).length = 1 then 1 else 0) := by
  obtain ⟨h1, h2, h3⟩ := h
  obtain ⟨hc, h4, _⟩ := playS_all_step (str x) l i hi h2
  obtain ⟨a, b, e1, e2, ha, hb, hne⟩ := canM_in hc
  have hm : (l[i].1, l[i].2) ∈ mvL x := (mem_moves _ _ _).2 hc
  have h5 := swA_closed hg h1 (mv_nx hm)
  rw [frc_step x l i hi] at h3
  simp only [e1, e2] at h4 h5 h3
  exact ⟨a, b, e1, e2, ha, hb, hne, h5, h4, by omega⟩
theorem FoI.few {f x : List UInt8} {l : List (Int × Int)} {i cn : Nat} (h : FoI f l i x cn) : cn ≤ l.length := by
  have := frc_le l f
  have := h.2.2
  omega
theorem FoI.fin {f x : List UInt8} {l : List (Int × Int)} {cn : Nat} (h : FoI f l l.length x cn) : cn = frc f l := by
  have := h.2.2
  rw [List.drop_length] at this
  exact this
set_option maxRecDepth 100000 in
set_option maxHeartbeats 8000000 in
theorem forced_no (t g f : Int) (l : List (Int × Int)) (A : Option Addr) (c : Nat) (w : World) (hn : l.length ≤ 2000000) (hat : MvIn w A l) (h : foB t g f l = false) :
    Calls Tryd.prog 39 #[.int .i64 t, .int .i64 g, .int .i64 f, .slice A l.length c] w fun e w' => e = .returned (.tuple #[.int .i64 0, .bool false]) ∧ Below w.heap.size w w' := by
  have HX := Lib.hid (isExchange_any t g f l A c w hn hat)
  obtain ⟨b, b2, hv, hb⟩ : ∃ b b2, boolOr (askM t g f l.length) (exB t g f l) = .tuple #[.bool b, .bool b2] ∧ b = false := by
    unfold foB at h
    cases h1 : askM t g f l.length
    · exact ⟨_, _, rfl, rfl⟩
    · rw [h1] at h
      exact ⟨_, _, rfl, by simpa using h⟩
  subst hb
  rw [hv] at HX
  clear hat h hv
  go_enter Tryd.func39, Tryd.ntmps39
  go_wp2_with fail
  refine HX.out.mono ?_
  rintro e w1 ⟨rfl, hb1⟩
  have HB := Lib.hid hb1
  clear hb1
  go_wp2_with fail
  go_ret2
  exact ⟨rfl, HB.out⟩
set_option maxRecDepth 100000 in
set_option maxHeartbeats 8000000 in
theorem forced_yes (t g f : Int) (l : List (Int × Int)) (A : Option Addr) (c : Nat) (w : World) (hn : l.length ≤ 2000000) (hat : MvIn w A l) (h : foB t g f l = true) :
    Calls Tryd.prog 39 #[.int .i64 t, .int .i64 g, .int .i64 f, .slice A l.length c] w fun e w' => e = .returned (.tuple #[.int .i64 (frc (firstL t.toNat g.toNat f.toNat) l : Int), .bool true]) ∧ Below w.heap.size w w' := by
  have HX := Lib.hid (isExchange_any t g f l A c w hn hat)
  have h2 : askM t g f l.length = true ∧ exB t g f l = true := by unfold foB at h; simpa using h
  rw [h2.1, h2.2, boolOr_yes true true rfl] at HX
  have hc : few t g f = true := by have := h2.1; unfold askM at this; rw [Bool.and_eq_true] at this; exact this.1
  have h100 : l.length ≤ 100 := by have := h2.1; unfold askM at this; rw [Bool.and_eq_true] at this; simpa using this.2
  have HS := Lib.hid (FoI.start h2.2)
  have HXX := Lib.hid (fun wx => exchangeOf_yes t g f wx hc)
  have hg := first_goodT hc
  have h8 : (t + g + f).toNat ≤ 8 := by have := (few_iff t g f).1 hc; omega
  generalize (t + g + f).toNat = n at hg h8
  generalize firstL t.toNat g.toNat f.toNat = fl at *
  have HNX := Lib.hid (fun i x cn (h : FoI fl l i x cn) hi => FoI.next hg h hi)
  have HGA := Lib.hid (fun x (hx : x ∈ swA fl) => swA_good hg x hx)
  have HMO := Lib.hid (fun x hx bm k D wx hm hv => movesOn_any n fl x bm k D wx hg h8 hx hm hv)
  have HBHX := Lib.hid (fun x (hx : x ∈ swA fl) a c wx ha hc hne => swBehind_any n x a c wx (swA_good hg x hx) h8 ha hc hne)
  have HX8 := Lib.hid (fun x (hx : x ∈ swA fl) => (G8.of (swA_good hg x hx) h8).len)
  have HA := Lib.hid hat
  clear hat h h2 hc hg h8
  obtain ⟨z, hz⟩ : ∃ z, z = frc fl l := ⟨_, rfl⟩
  rw [← hz]
  have HZ := Lib.hid hz
  clear hz
  go_enter Tryd.func39, Tryd.ntmps39
  go_wp2_with fail
  refine HX.out.mono ?_
  rintro e w1 ⟨rfl, hb1⟩
  have HB1 := Lib.hid hb1
  clear hb1
  go_wp2_with fail
  refine (HXX.out _).mono ?_
  rintro e w2 ⟨bm, D, c0, c1, c2, c3, c4, c5, c6, c7, hce, rfl, hbm, hmap, hlv, hb2⟩
  have HCE := Lib.hid hce
  have HM := Lib.hid hmap
  have HV := Lib.hid hlv
  have HB2 := Lib.hid (HB1.out.trans (hb2.mono HB1.out.size))
  have hlo := hmap.lt
  clear hce hmap hlv hb2
  generalize hms : msL fl = ms at *
  clear hms
  generalize hkk : (swA fl).length = kk at *
  clear hkk
  go_upto_region 6 with fail
  have hB0 : Below w2.heap.size w2 ((w2.alloc (.cells #[.int .u8 c0, .int .u8 c1, .int .u8 c2, .int .u8 c3, .int .u8 c4, .int .u8 c5, .int .u8 c6, .int .u8 c7, .int .i64 ms, .map (some bm)] 57)).alloc (.cells #[.int .u8 c0, .int .u8 c1, .int .u8 c2, .int .u8 c3, .int .u8 c4, .int .u8 c5, .int .u8 c6, .int .u8 c7] 53)) := ((Below.refl _ w2).alloc (Nat.le_refl _) _).alloc (by simp) _
  have hP0 : PoW ((w2.alloc (.cells #[.int .u8 c0, .int .u8 c1, .int .u8 c2, .int .u8 c3, .int .u8 c4, .int .u8 c5, .int .u8 c6, .int .u8 c7, .int .i64 ms, .map (some bm)] 57)).alloc (.cells #[.int .u8 c0, .int .u8 c1, .int .u8 c2, .int .u8 c3, .int .u8 c4, .int .u8 c5, .int .u8 c6, .int .u8 c7] 53)) w2.heap.size bm kk D fl [] (.slice none 0 0) := by
    have h9 : (w2.alloc (.cells #[.int .u8 c0, .int .u8 c1, .int .u8 c2, .int .u8 c3, .int .u8 c4, .int .u8 c5, .int .u8 c6, .int .u8 c7, .int .i64 ms, .map (some bm)] 57)).cell? ⟨w2.heap.size, 9, none⟩ = some (.map (some bm)) := by rw [World.cell?_alloc_new]; rfl
    have hm1 := HM.out.alloc (.cells #[.int .u8 c0, .int .u8 c1, .int .u8 c2, .int .u8 c3, .int .u8 c4, .int .u8 c5, .int .u8 c6, .int .u8 c7, .int .i64 ms, .map (some bm)] 57)
    have hz : (w2.alloc (.cells #[.int .u8 c0, .int .u8 c1, .int .u8 c2, .int .u8 c3, .int .u8 c4, .int .u8 c5, .int .u8 c6, .int .u8 c7, .int .i64 ms, .map (some bm)] 57)).heap.size = w2.heap.size + 1 := by simp
    generalize (w2.alloc (.cells #[.int .u8 c0, .int .u8 c1, .int .u8 c2, .int .u8 c3, .int .u8 c4, .int .u8 c5, .int .u8 c6, .int .u8 c7, .int .i64 ms, .map (some bm)] 57)) = wa at h9 hm1 hz ⊢
    have hx := Box8.new wa c0 c1 c2 c3 c4 c5 c6 c7
    have hx2 := hx
    rw [hz] at hx
    refine ⟨hm1.alloc _, ?_, hx.cells.range HCE.out, fun j hj => ?_, World.ownsRow_nil _ _ _ _, by simp; omega, hlo⟩
    · exact (((Below.refl _ wa).alloc (Nat.le_refl _) _).cell (p := ⟨w2.heap.size, 9, none⟩) (by show w2.heap.size < wa.heap.size; omega)).trans h9
    · unfold World.frozen?
      rw [hx]
      rcases (by omega : j = 0 ∨ j = 1 ∨ j = 2 ∨ j = 3 ∨ j = 4 ∨ j = 5 ∨ j = 6 ∨ j = 7) with rfl | rfl | rfl | rfl | rfl | rfl | rfl | rfl <;> rfl
  have HP0 := Lib.hid hP0
  have HB0 := Lib.hid (HB2.out.trans (hB0.mono HB2.out.size))
  clear hP0 hB0
  generalize ((w2.alloc (.cells #[.int .u8 c0, .int .u8 c1, .int .u8 c2, .int .u8 c3, .int .u8 c4, .int .u8 c5, .int .u8 c6, .int .u8 c7, .int .i64 ms, .map (some bm)] 57)).alloc (.cells #[.int .u8 c0, .int .u8 c1, .int .u8 c2, .int .u8 c3, .int .u8 c4, .int .u8 c5, .int .u8 c6, .int .u8 c7] 53)) = W0 at HP0 HB0 ⊢
  go_wp2_with fail
  go_loopg [15, 43] l.length (fun gk s t wr => ∃ (i : Nat) (x : List UInt8) (cn : Nat), i + gk = l.length ∧ t = .int .i64 i ∧ s = .int .i64 (cn : Int) ∧ Hid (PoW wr w2.heap.size bm kk D x [] (.slice none 0 0)) ∧ Hid (FoI fl l i x cn) ∧ Hid (Below w.heap.size w wr))
  case atStart => exact ⟨0, _, 0, by omega, rfl, rfl, HP0, HS, HB0⟩
  case round =>
    obtain ⟨i, x, cn, hik, rfl, rfl, HP, HF, HB⟩ := hrel
    obtain ⟨V, hV⟩ : ∃ V : World, V = wr := ⟨_, rfl⟩
    subst hV
    obtain ⟨G, hG⟩ : ∃ G : Nat, G = gk := ⟨_, rfl⟩
    subst hG
    clear HP0 HB0 HS
    have hcn := HF.out.few
    by_cases hlt : i < l.length
    · obtain ⟨a, b, e1, e2, hai, hbi, hne, hfn⟩ := HNX.out i x cn HF.out hlt
      have hxin := HF.out.1
      obtain ⟨gm, o, rfl, hgm, m0, m1⟩ := (HA.out.below HB.out) i hlt
      rw [e1] at m0
      rw [e2] at m1
      have hHBH := fun wx => HBHX.out x hxin a b wx hai hbi hne
      have hyin := hfn.1
      have HFN := Lib.hid hfn
      have hx8 := HX8.out x hxin
      generalize behind (str x) (a : Int) (b : Int) = y at hHBH hyin HFN
      have hy8 := HX8.out y hyin
      obtain ⟨d0, d1, d2, d3, d4, d5, d6, d7, hd⟩ := eight_of hx8
      obtain ⟨k0, k1, k2, k3, k4, k5, k6, k7, he⟩ := eight_of hy8
      have HMX := Lib.hid (fun wx hm => HMO.out x hxin bm kk D wx hm HV.out)
      rw [hd.val] at hHBH HMX
      rw [he.val] at hHBH
      have HBH := Lib.hid hHBH
      have HD := Lib.hid hd
      have HE := Lib.hid he
      have HXL := Lib.hid hx8
      have i1 : (0 : Int) ≤ (i : Int) := by omega
      have i2 : (i : Int) < (l.length : Int) := by omega
      clear e1 e2 hne hfn hxin hHBH hyin hd he hy8 hx8
      go_upto_region 9 with fail
      generalize hV1 : V.alloc (Obj.cells #[Value.int IntKind.i64 ↑a, Value.int IntKind.i64 ↑b] 64) = V1
      have hbv1 : Below V.heap.size V V1 := by rw [← hV1]; exact (Below.refl _ _).alloc (Nat.le_refl _) _
      have p0 : V1.cell? ⟨V.heap.size, 0, none⟩ = some (.int .i64 a) := by rw [← hV1, World.cell?_alloc_new]; rfl
      have p1 : V1.cell? ⟨V.heap.size, 1, none⟩ = some (.int .i64 b) := by rw [← hV1, World.cell?_alloc_new]; rfl
      have zv1 : V.heap.size < V1.heap.size := by rw [← hV1]; simp
      have HP1 := Lib.hid (HP.out.below hbv1)
      have HB1' := Lib.hid (HB.out.trans (hbv1.mono HB.out.size))
      obtain ⟨q0, q1, q2, q3, q4, q5, q6, q7⟩ := (HD.out.at HP1.out.ln).zero
      have bx1 := HP1.out.bx
      clear hV1 m0 m1 hbv1 HP HB
      go_wp2_with fail
      refine (HMX.out _ HP1.out.map).mono ?_
      rintro e w3 ⟨v3, rfl, ho3, hb3⟩
      obtain ⟨A3, c3, rfl, _⟩ := at_of_own ho3
      replace p0 := (hb3.cell (p := ⟨V.heap.size, 0, none⟩) zv1).trans p0
      replace p1 := (hb3.cell (p := ⟨V.heap.size, 1, none⟩) zv1).trans p1
      have zv3 : V.heap.size < w3.heap.size := Nat.lt_of_lt_of_le zv1 hb3.size
      have HP3 := Lib.hid (HP1.out.below hb3)
      have HB3 := Lib.hid (HB1'.out.trans (hb3.mono HB1'.out.size))
      clear hb3 ho3 q0 q1 q2 q3 q4 q5 q6 q7 bx1 HP1 HB1'
      obtain ⟨q0, q1, q2, q3, q4, q5, q6, q7⟩ := (HD.out.at HP3.out.ln).zero
      have FIN : ∀ (w4 : World), Below w3.heap.size w3 w4 → Hid (PoW w4 w2.heap.size bm kk D x [] (.slice none 0 0)) ∧ Hid (Below w.heap.size w w4) := fun w4 hb4 => ⟨Lib.hid (HP3.out.below hb4), Lib.hid (HB3.out.trans (hb4.mono HB3.out.size))⟩
      by_cases h1 : (lvL x).length = 1
      · have hone : (((lvL x).length : Int) == 1) = true := by simp; omega
        rw [if_pos h1] at HFN
        clear h1
        generalize (lvL x).length = z at *
        go_wp2_with fail
        refine (HBH.out _).mono ?_
        rintro e w4 ⟨rfl, hb4⟩
        obtain ⟨HP4, HB4⟩ := FIN w4 hb4
        clear hb4 p0 p1 q0 q1 q2 q3 q4 q5 q6 q7 FIN
        obtain ⟨y0, y1, y2, y3, y4, y5, y6, y7⟩ := (HD.out.at HP4.out.ln).zero
        have f0 := HP4.out.fr 0 (by decide)
        have f1 := HP4.out.fr 1 (by decide)
        have f2 := HP4.out.fr 2 (by decide)
        have f3 := HP4.out.fr 3 (by decide)
        have f4 := HP4.out.fr 4 (by decide)
        have f5 := HP4.out.fr 5 (by decide)
        have f6 := HP4.out.fr 6 (by decide)
        have f7 := HP4.out.fr 7 (by decide)
        have HPN := Lib.hid (PoW.made (F := []) HP4.out.map HP4.out.bx HP4.out.ln HXL.out HP4.out.fr HP4.out.lt HP4.out.lo (World.ownsRow_nil _ _ _ _ : w4.ownsRow (w2.heap.size + 2) 64 2 (.slice none 0 0) ([] : List (Int × Int)).length (flat [])) HE.out)
        have hlow : w.heap.size ≤ w2.heap.size + 1 := by have := HB2.out.size; omega
        have HBN := Lib.hid (Below.setCell (Below.setCell (Below.setCell (Below.setCell (Below.setCell (Below.setCell (Below.setCell (Below.setCell HB4.out (p := ⟨w2.heap.size + 1, 0, none⟩) hlow (.int .u8 k0)) (p := ⟨w2.heap.size + 1, 1, none⟩) hlow (.int .u8 k1)) (p := ⟨w2.heap.size + 1, 2, none⟩) hlow (.int .u8 k2)) (p := ⟨w2.heap.size + 1, 3, none⟩) hlow (.int .u8 k3)) (p := ⟨w2.heap.size + 1, 4, none⟩) hlow (.int .u8 k4)) (p := ⟨w2.heap.size + 1, 5, none⟩) hlow (.int .u8 k5)) (p := ⟨w2.heap.size + 1, 6, none⟩) hlow (.int .u8 k6)) (p := ⟨w2.heap.size + 1, 7, none⟩) hlow (.int .u8 k7))
        clear hlow
        go_wp2_with fail
        go_roundg (G - 1)
        case measure => omega
        case rel => exact ⟨i + 1, y, _, by omega, by go_num, by go_num, HPN, HFN, HBN⟩
      · have hone : (((lvL x).length : Int) == 1) = false := by simp; omega
        rw [if_neg h1] at HFN
        clear h1
        generalize (lvL x).length = z at *
        go_wp2_with fail
        refine (HBH.out _).mono ?_
        rintro e w4 ⟨rfl, hb4⟩
        obtain ⟨HP4, HB4⟩ := FIN w4 hb4
        clear hb4 p0 p1 q0 q1 q2 q3 q4 q5 q6 q7 FIN
        obtain ⟨y0, y1, y2, y3, y4, y5, y6, y7⟩ := (HD.out.at HP4.out.ln).zero
        have f0 := HP4.out.fr 0 (by decide)
        have f1 := HP4.out.fr 1 (by decide)
        have f2 := HP4.out.fr 2 (by decide)
        have f3 := HP4.out.fr 3 (by decide)
        have f4 := HP4.out.fr 4 (by decide)
        have f5 := HP4.out.fr 5 (by decide)
        have f6 := HP4.out.fr 6 (by decide)
        have f7 := HP4.out.fr 7 (by decide)
        have HPN := Lib.hid (PoW.made (F := []) HP4.out.map HP4.out.bx HP4.out.ln HXL.out HP4.out.fr HP4.out.lt HP4.out.lo (World.ownsRow_nil _ _ _ _ : w4.ownsRow (w2.heap.size + 2) 64 2 (.slice none 0 0) ([] : List (Int × Int)).length (flat [])) HE.out)
        have hlow : w.heap.size ≤ w2.heap.size + 1 := by have := HB2.out.size; omega
        have HBN := Lib.hid (Below.setCell (Below.setCell (Below.setCell (Below.setCell (Below.setCell (Below.setCell (Below.setCell (Below.setCell HB4.out (p := ⟨w2.heap.size + 1, 0, none⟩) hlow (.int .u8 k0)) (p := ⟨w2.heap.size + 1, 1, none⟩) hlow (.int .u8 k1)) (p := ⟨w2.heap.size + 1, 2, none⟩) hlow (.int .u8 k2)) (p := ⟨w2.heap.size + 1, 3, none⟩) hlow (.int .u8 k3)) (p := ⟨w2.heap.size + 1, 4, none⟩) hlow (.int .u8 k4)) (p := ⟨w2.heap.size + 1, 5, none⟩) hlow (.int .u8 k5)) (p := ⟨w2.heap.size + 1, 6, none⟩) hlow (.int .u8 k6)) (p := ⟨w2.heap.size + 1, 7, none⟩) hlow (.int .u8 k7))
        clear hlow
        go_wp2_with fail
        go_roundg (G - 1)
        case measure => omega
        case rel => exact ⟨i + 1, y, _, by omega, by go_num, by go_num, HPN, HFN, HBN⟩
    · obtain rfl : i = l.length := by omega
      obtain rfl : cn = z := HF.out.fin.trans HZ.out.symm
      go_wp2_with fail
      go_ret2
      exact ⟨rfl, HB.out⟩
end Go.Proofs.YtjadnfnpbacfdaaDoor
