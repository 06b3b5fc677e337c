/- The first word that leads to a line: the model's; heads of lists of words. -/
import Derived.Test.YtoefeooldcbfiaaWoM
import Derived.Test.YtoefeooldcbfiaaRch
namespace Go.Proofs.Ytoefeooldcbfiaa
open Go.RowKit Go.Maps

theorem mvs_filter (s : ByteArray) (p : Int → Bool) : ∀ k, mvsTo (fun f t => canM s f t && p f) s k = (mvsTo (canM s) s k).filter fun m => p m.1
  | 0 => rfl
  | k + 1 => by
    rw [mvsTo, mvsTo, mvs_filter s p k, List.filter_append]
    congr 1
    cases h : canM s k (mvTo s k) <;> cases h2 : p k <;> simp [h2]
theorem kind_T (s : ByteArray) (f t : Int) : kindM true false s f t = (canM s f t && decide (sgAt s f = 84)) := by
  unfold kindM
  cases h : canM s f t
  · rfl
  · rcases can_tf h with e | e <;> simp [e]
theorem kind_F (s : ByteArray) (f t : Int) : kindM false true s f t = (canM s f t && decide (sgAt s f = 70)) := by
  unfold kindM
  cases h : canM s f t
  · rfl
  · rcases can_tf h with e | e <;> simp [e]
theorem head_T (y : List UInt8) : (mvsTo (kindM true false (str y)) (str y) (str y).size).head? = mvW 84 y := by
  rw [show kindM true false (str y) = fun f t => canM (str y) f t && decide (sgAt (str y) f = 84) from funext fun f => funext fun t => kind_T _ f t, mvs_filter (str y) fun f => decide (sgAt (str y) f = 84), List.head?_filter]
  rfl
theorem head_F (y : List UInt8) : (mvsTo (kindM false true (str y)) (str y) (str y).size).head? = mvW 70 y := by
  rw [show kindM false true (str y) = fun f t => canM (str y) f t && decide (sgAt (str y) f = 70) from funext fun f => funext fun t => kind_F _ f t, mvs_filter (str y) fun f => decide (sgAt (str y) f = 70), List.head?_filter]
  rfl
/-- A line, as the one end. -/
def isV (v y : List UInt8) : Bool := decide (y = v)
theorem wl_two (P : List UInt8 → Bool) (n : Nat) (y : List UInt8) : wl sgW P (n + 1) y = (match sgW 70 y with | some z => (wl sgW P n z).map (70 :: ·) | none => []) ++ (match sgW 84 y with | some z => (wl sgW P n z).map (84 :: ·) | none => []) := by
  show (stepW sgW y).flatMap _ = _
  unfold stepW
  cases h1 : sgW 70 y <;> cases h2 : sgW 84 y <;> simp [h1, h2]
theorem wl_some {v z : List UInt8} (h1 : oneL z) {j : Nat} (h : v ∈ lay nxL z j) : wl sgW (isV v) j z ≠ [] := by
  obtain ⟨u, hu, hr⟩ := (lay_run h1 j v).1 h
  have : u ∈ wl sgW (isV v) j z := (mem_wl sgW_tf _ _ _ _).2 ⟨hu, v, hr, decide_eq_true rfl⟩
  intro e
  rw [e] at this
  cases this
theorem wl_no {v z : List UInt8} (h1 : oneL z) (h : ∀ k, v ∉ lay nxL z k) (m : Nat) : wl sgW (isV v) m z = [] := by
  refine wl_none _ sgW_tf _ (fun u y hy => ?_) m
  unfold isV
  rw [decide_eq_false]
  intro e
  subst e
  exact h u.length ((lay_run h1 u.length y).2 ⟨u, rfl, hy⟩)
/-- The first of the words of so many signs that end well. -/
def hdW (P : List UInt8 → Bool) (n : Nat) (y : List UInt8) : List UInt8 := (wl sgW P n y).headD []
theorem headD_map (c : UInt8) (L R : List (List UInt8)) (h : L ≠ []) : (L.map (c :: ·) ++ R).headD [] = c :: L.headD [] := by
  cases L with
  | nil => exact absurd rfl h
  | cons a l => rfl
theorem hd_F {P : List UInt8 → Bool} {n : Nat} {y z : List UInt8} (h : sgW 70 y = some z) (hz : wl sgW P n z ≠ []) : hdW P (n + 1) y = 70 :: hdW P n z := by
  unfold hdW
  rw [wl_two, h]
  exact headD_map 70 _ _ hz
theorem hd_T {P : List UInt8 → Bool} {n : Nat} {y z : List UInt8} (hF : ∀ q, sgW 70 y = some q → wl sgW P n q = []) (h : sgW 84 y = some z) (hz : wl sgW P n z ≠ []) : hdW P (n + 1) y = 84 :: hdW P n z := by
  unfold hdW
  rw [wl_two, h]
  have e : (match sgW 70 y with | some z => (wl sgW P n z).map (70 :: ·) | none => []) = [] := by
    cases hq : sgW 70 y with
    | none => rfl
    | some q =>
      show (wl sgW P n q).map (70 :: ·) = []
      rw [hF q hq]
      rfl
  rw [e, List.nil_append]
  have h2 := headD_map 84 (wl sgW P n z) [] hz
  rwa [List.append_nil] at h2
theorem head_end (v : List UInt8) : hdW (isV v) 0 v = [] := by unfold hdW wl isV; simp
/-- Where the next sign leads. -/
theorem next_sign {y v : List UInt8} (h1 : oneL y) {j : Nat} (h : v ∈ lay nxL y (j + 1)) : ∃ c z, (c = 70 ∨ c = 84) ∧ sgW c y = some z ∧ v ∈ lay nxL z j := by
  obtain ⟨z, hz, hz2⟩ := (lay_first y v j).1 h
  obtain ⟨c, hc⟩ := nx_sg h1 hz
  exact ⟨c, z, sgW_tf _ _ _ hc, hc, hz2⟩
theorem lay_back {y v z : List UInt8} {a : Nat} (hz : z ∈ nxL y) (h : v ∈ lay nxL z a) : v ∈ lay nxL y (a + 1) := (lay_first y v a).2 ⟨z, hz, h⟩
def szS : Value → Nat
  | .string s => s.size
  | _ => 0
theorem le_one {w W : World} {o : Obj} (h : Below (w.heap.size + 1) (w.alloc o) W) : w.heap.size + 1 ≤ W.heap.size := by
  have := h.size
  rwa [World.size_alloc] at this

set_option maxRecDepth 100000 in
set_option maxHeartbeats 8000000 in
theorem woFirst_any (n : Nat) (x v : List UInt8) (k : Nat) (w : World) (hx : goodT n x) (h1 : oneL x) (hv : v ∈ lay nxL x k) :
    Calls Try.prog 47 #[.string (str x), .string (str v)] w fun e w' => e = .returned (.string (str (hdW (isV v) k x))) ∧ Below w.heap.size w w' := by
  have hk : k ≤ 50000 := by
    by_cases h : k ≤ 50000
    · exact h
    · have hw := wayL_le hx
      rw [lay_end (steps_line n) hx k (by omega)] at hv
      cases hv
  have HX := Lib.hid hx
  have HX1 := Lib.hid h1
  have HXV := Lib.hid hv
  clear hx h1 hv
  go_enter Try.func47, Try.ntmps47
  go_wp2
  go_loopw [0, 5] (fun xv ov wr => ∃ (y out : List UInt8) (j : Nat), xv = .string (str y) ∧ ov = .string (str out) ∧ Hid (goodT n y) ∧ Hid (oneL y) ∧ Hid (v ∈ lay nxL y j) ∧ Hid (hdW (isV v) k x = out ++ hdW (isV v) j y) ∧ out.length + j = k ∧ Below w.heap.size w wr) (fun _ ov _ => 60000 - szS ov)
  case atStart => exact ⟨x, [], k, rfl, rfl, HX, HX1, HXV, Lib.hid rfl, by simp, Below.refl _ _⟩
  case round =>
    obtain ⟨y, out, j, rfl, rfl, HG, H1, HV, HHW, hjk, hBO⟩ := hrel
    obtain ⟨wo, hwo⟩ : ∃ wo : World, wo = wr := ⟨_, rfl⟩
    subst hwo
    have HBO0 := Lib.hid hBO
    have hbs := hBO.size
    have hout : (str out).size ≤ 50000 := by rw [str_size]; omega
    clear hBO
    by_cases he : y = v
    · have hq : ((str y).toList == (str v).toList) = true := by rw [same_str, he]; simp
      have hq2 : ((str y).toList != (str v).toList) = false := by unfold bne; rw [hq]; rfl
      have HE : Hid (hdW (isV v) k x = out) := Lib.hid (by
        have e : j = 0 := lay_apart (steps_line n) HG.out HV.out (by simp [he, lay])
        rw [HHW.out, e, he, head_end, List.append_nil])
      clear he
      go_wp2
      go_ret
      exact ⟨by rw [HE.out]; rfl, HBO0.out⟩
    · have hq : ((str y).toList == (str v).toList) = false := by rw [same_str]; simp [he]
      have hq2 : ((str y).toList != (str v).toList) = true := by unfold bne; rw [hq]; rfl
      obtain ⟨j, rfl⟩ : ∃ i, j = i + 1 := by
        cases j with
        | zero => exact absurd (by have h := HV.out; have h2 : v = y := (by simpa [lay] using h); exact h2.symm) he
        | succ i => exact ⟨i, rfl⟩
      have HGL : Hid (goodL (str y) = true) := Lib.hid HG.out.1
      have hy1000 : (str y).size ≤ 1000 := by have h := HG.out.2; rw [str_size]; omega
      have HNX := Lib.hid (next_sign H1.out HV.out)
      clear he
      go_wp2
      go_loopw [0, 5, 14] (fun xv ov t wr => xv = .string (str y) ∧ ov = .string (str out) ∧ ∃ i : Nat, i ≤ 1 ∧ t = .int .i64 i ∧ Hid (0 < i → ∀ q, sgW 70 y = some q → wl sgW (isV v) j q = []) ∧ Below (wo.heap.size + 1) (wo.alloc (Obj.cells #[.string ⟨#[70]⟩, .string ⟨#[84]⟩] 9)) wr) (fun _ _ t _ => 2 - (intOf t).toNat)
      case atStart => exact ⟨rfl, rfl, 0, by omega, rfl, Lib.hid (fun h => absurd h (Nat.lt_irrefl _)), Below.refl _ _⟩
      case round =>
        obtain ⟨rfl, rfl, i, hi, rfl, HF, hB⟩ := hrel
        have HBO : Hid (Below w.heap.size w (wo.alloc (Obj.cells #[.string ⟨#[70]⟩, .string ⟨#[84]⟩] 9))) := Lib.hid (HBO0.out.alloc HBO0.out.size _)
        have cF := (hB.cell (p := ⟨wo.heap.size, 0, none⟩) (Nat.lt_succ_self _)).trans (show _ = some (Value.string ⟨#[70]⟩) by rw [World.cell?_alloc_new]; rfl)
        have cT := (hB.cell (p := ⟨wo.heap.size, 1, none⟩) (Nat.lt_succ_self _)).trans (show _ = some (Value.string ⟨#[84]⟩) by rw [World.cell?_alloc_new]; rfl)
        rcases (show i = 0 ∨ i = 1 by omega) with rfl | rfl
        · rw [show ((0 : Nat) : Int) = 0 from rfl]
          go_wp2_with fail
          refine (liMoves_frog (str y) _ HGL.out).mono ?_
          rintro e w5 ⟨v5, rfl, ho5, hb5⟩
          have HH := Lib.hid (head_F y)
          generalize mvsTo (kindM false true (str y)) (str y) (str y).size = Mv at ho5 HH
          obtain ⟨A5, cap5, rfl, at5⟩ := at_of_own ho5
          have HB5 := Lib.hid (hB.trans (hb5.mono (le_one hB)))
          have AT5 := Lib.hid at5
          clear ho5 at5 hb5 hB
          cases Mv with
          | nil =>
            have hmv : mvW 70 y = none := HH.out.symm
            have hsg : sgW 70 y = none := by unfold sgW; rw [hmv]; simp
            clear hmv
            go_wp2
            go_roundw
            case rel => exact ⟨rfl, rfl, 1, by omega, rfl, Lib.hid (fun _ q hq => by rw [hsg] at hq; cases hq), HB5.out⟩
            case measure => simp [intOf]
          | cons m0 Mr =>
            obtain ⟨p, q⟩ := m0
            have hmv : mvW 70 y = some (p, q) := HH.out.symm
            obtain ⟨hcan, hsgn⟩ := mvW_can hmv
            obtain ⟨a, b, ea, eb, ha, hb, hne⟩ := canM_in hcan
            have ea : p = a := ea
            have eb : q = b := eb
            subst ea; subst eb
            have HZ : Hid (sgW 70 y = some (putL (str y) a b)) := Lib.hid (by unfold sgW; rw [hmv]; rfl)
            have HZG : Hid (goodT n (putL (str y) a b)) := Lib.hid ((steps_line n).keeps _ _ HG.out (sgW_nx HZ.out))
            have HZ1 : Hid (oneL (putL (str y) a b)) := Lib.hid (nx_one H1.out (sgW_nx HZ.out))
            obtain ⟨g5, e5, hg5, m0, m1⟩ := AT5.out 0 (by simp)
            have m0 : w5.cell? ⟨g5, 0, none⟩ = some (.int .i64 (a : Int)) := m0
            have m1 : w5.cell? ⟨g5, 1, none⟩ = some (.int .i64 (b : Int)) := m1
            have hlen0 : (((((a : Int), (b : Int)) :: Mr).length : Int) == 0) = false := by simp; omega
            have hlen1 : (0 : Int) < (((((a : Int), (b : Int)) :: Mr).length : Nat) : Int) := by rw [List.length_cons]; omega
            subst e5
            clear hmv hcan hsgn
            generalize (((a : Int), (b : Int)) :: Mr).length = lenM at hlen0 hlen1
            go_wp2_with fail
            refine (liMake_any (str y) a b _ hy1000 ha hb hne).mono ?_
            rintro e w6 ⟨rfl, hb6⟩
            have HB6 := Lib.hid (HB5.out.trans (hb6.mono (le_one HB5.out)))
            have m0 := (hb6.cell (p := ⟨g5, 0, none⟩) hg5).trans m0
            have m1 := (hb6.cell (p := ⟨g5, 1, none⟩) hg5).trans m1
            have hg6 : g5 < w6.heap.size := Nat.lt_of_lt_of_le hg5 hb6.size
            have HMK := Lib.hid (fun wx => liMake_any (str y) a b wx hy1000 ha hb hne)
            clear hb6
            generalize putL (str y) a b = z at HZ HZG HZ1 HMK
            obtain ⟨d, hd, hd2⟩ := dep_exists (steps_line n) HZG.out
            have hwy := wayL_le HZG.out
            have hd3 : d ≤ 60000 := by omega
            have HD := Lib.hid hd
            go_wp2_with fail
            refine (reAfter_any n d z v _ HZG.out HD.out hd3).mono ?_
            rintro e w7 ⟨a7, rfl, haf, hb7⟩
            have HB7 := Lib.hid (HB6.out.trans (hb7.mono (le_one HB6.out)))
            have m0 := (hb7.cell (p := ⟨g5, 0, none⟩) hg6).trans m0
            have m1 := (hb7.cell (p := ⟨g5, 1, none⟩) hg6).trans m1
            clear hb7 hd hd2 hwy
            rcases haf with ⟨ka, hka, hva, rfl⟩ | ⟨hno, rfl⟩
            · have hka0 : ¬ ((ka : Int) < 0) := by omega
              have HJ : Hid (v ∈ lay nxL z j) := Lib.hid (by
                have h := lay_back (sgW_nx HZ.out) hva
                have e := lay_apart (steps_line n) HG.out h HV.out
                have e : ka = j := by omega
                rw [← e]; exact hva)
              have HHD : Hid (hdW (isV v) (j + 1) y = 70 :: hdW (isV v) j z) := Lib.hid (hd_F HZ.out (wl_some HZ1.out HJ.out))
              have hcat : Hid (str out ++ ⟨#[70]⟩ = str (out ++ [70])) := Lib.hid (by rw [← str_app]; rfl)
              clear hva
              go_wp2_with fail
              refine (HMK.out _).mono ?_
              rintro e w8 ⟨rfl, hb8⟩
              have HB8 := Lib.hid (HB7.out.trans (hb8.mono (le_one HB7.out)))
              clear hb8 m0 m1
              go_wp2
              go_roundw
              case rel =>
                refine ⟨z, out ++ [70], j, rfl, by rw [hcat.out], HZG, HZ1, HJ, Lib.hid ?_, by simp; omega, HBO.out.trans (HB8.out.mono (by have h := HBO.out.size; rwa [World.size_alloc] at h))⟩
                rw [HHW.out, HHD.out, List.append_assoc]
                rfl
              case measure =>
                show 60000 - (str out ++ (⟨#[70]⟩ : ByteArray)).size < 60000 - (str out).size
                rw [hcat.out, str_size, str_size, List.length_append, List.length_singleton]
                rw [str_size] at hout
                omega
            · have hneg : ((-1 : Int) < 0) := by decide
              have HNO : Hid (wl sgW (isV v) j z = []) := Lib.hid (wl_no HZ1.out (fun kk hk => by
                by_cases h : kk < d
                · exact hno kk h hk
                · rw [lay_nil HD.out.2.1 kk (by omega)] at hk; cases hk) j)
              clear hno m0 m1
              go_wp2
              go_roundw
              case rel => exact ⟨rfl, rfl, 1, by omega, rfl, Lib.hid (fun _ q hq => by rw [HZ.out] at hq; injection hq with hq; rw [← hq]; exact HNO.out), HB7.out⟩
              case measure => simp [intOf]
        · rw [show ((1 : Nat) : Int) = 1 from rfl]
          have HFF : Hid (∀ q, sgW 70 y = some q → wl sgW (isV v) j q = []) := Lib.hid (HF.out (by decide))
          go_wp2_with fail
          refine (liMoves_toad (str y) _ HGL.out).mono ?_
          rintro e w5 ⟨v5, rfl, ho5, hb5⟩
          have HH := Lib.hid (head_T y)
          generalize mvsTo (kindM true false (str y)) (str y) (str y).size = Mv at ho5 HH
          obtain ⟨A5, cap5, rfl, at5⟩ := at_of_own ho5
          have HB5 := Lib.hid (hB.trans (hb5.mono (le_one hB)))
          have AT5 := Lib.hid at5
          clear ho5 at5 hb5 hB
          cases Mv with
          | nil =>
            have hmv : mvW 84 y = none := HH.out.symm
            have hsg : sgW 84 y = none := by unfold sgW; rw [hmv]; simp
            clear hmv
            exfalso
            obtain ⟨c, z, hc, hz, hvz⟩ := HNX.out
            rcases hc with rfl | rfl
            · exact wl_some (nx_one H1.out (sgW_nx hz)) hvz (HFF.out z hz)
            · rw [hsg] at hz; cases hz
          | cons m0 Mr =>
            obtain ⟨p, q⟩ := m0
            have hmv : mvW 84 y = some (p, q) := HH.out.symm
            obtain ⟨hcan, hsgn⟩ := mvW_can hmv
            obtain ⟨a, b, ea, eb, ha, hb, hne⟩ := canM_in hcan
            have ea : p = a := ea
            have eb : q = b := eb
            subst ea; subst eb
            have HZ : Hid (sgW 84 y = some (putL (str y) a b)) := Lib.hid (by unfold sgW; rw [hmv]; rfl)
            have HZG : Hid (goodT n (putL (str y) a b)) := Lib.hid ((steps_line n).keeps _ _ HG.out (sgW_nx HZ.out))
            have HZ1 : Hid (oneL (putL (str y) a b)) := Lib.hid (nx_one H1.out (sgW_nx HZ.out))
            obtain ⟨g5, e5, hg5, m0, m1⟩ := AT5.out 0 (by simp)
            have m0 : w5.cell? ⟨g5, 0, none⟩ = some (.int .i64 (a : Int)) := m0
            have m1 : w5.cell? ⟨g5, 1, none⟩ = some (.int .i64 (b : Int)) := m1
            have hlen0 : (((((a : Int), (b : Int)) :: Mr).length : Int) == 0) = false := by simp; omega
            have hlen1 : (0 : Int) < (((((a : Int), (b : Int)) :: Mr).length : Nat) : Int) := by rw [List.length_cons]; omega
            subst e5
            clear hmv hcan hsgn
            generalize (((a : Int), (b : Int)) :: Mr).length = lenM at hlen0 hlen1
            go_wp2_with fail
            refine (liMake_any (str y) a b _ hy1000 ha hb hne).mono ?_
            rintro e w6 ⟨rfl, hb6⟩
            have HB6 := Lib.hid (HB5.out.trans (hb6.mono (le_one HB5.out)))
            have m0 := (hb6.cell (p := ⟨g5, 0, none⟩) hg5).trans m0
            have m1 := (hb6.cell (p := ⟨g5, 1, none⟩) hg5).trans m1
            have hg6 : g5 < w6.heap.size := Nat.lt_of_lt_of_le hg5 hb6.size
            have HMK := Lib.hid (fun wx => liMake_any (str y) a b wx hy1000 ha hb hne)
            clear hb6
            generalize putL (str y) a b = z at HZ HZG HZ1 HMK
            obtain ⟨d, hd, hd2⟩ := dep_exists (steps_line n) HZG.out
            have hwy := wayL_le HZG.out
            have hd3 : d ≤ 60000 := by omega
            have HD := Lib.hid hd
            go_wp2_with fail
            refine (reAfter_any n d z v _ HZG.out HD.out hd3).mono ?_
            rintro e w7 ⟨a7, rfl, haf, hb7⟩
            have HB7 := Lib.hid (HB6.out.trans (hb7.mono (le_one HB6.out)))
            have m0 := (hb7.cell (p := ⟨g5, 0, none⟩) hg6).trans m0
            have m1 := (hb7.cell (p := ⟨g5, 1, none⟩) hg6).trans m1
            clear hb7 hd hd2 hwy
            rcases haf with ⟨ka, hka, hva, rfl⟩ | ⟨hno, rfl⟩
            · have hka0 : ¬ ((ka : Int) < 0) := by omega
              have HJ : Hid (v ∈ lay nxL z j) := Lib.hid (by
                have h := lay_back (sgW_nx HZ.out) hva
                have e := lay_apart (steps_line n) HG.out h HV.out
                have e : ka = j := by omega
                rw [← e]; exact hva)
              have HHD : Hid (hdW (isV v) (j + 1) y = 84 :: hdW (isV v) j z) := Lib.hid (hd_T HFF.out HZ.out (wl_some HZ1.out HJ.out))
              have hcat : Hid (str out ++ ⟨#[84]⟩ = str (out ++ [84])) := Lib.hid (by rw [← str_app]; rfl)
              clear hva
              go_wp2_with fail
              refine (HMK.out _).mono ?_
              rintro e w8 ⟨rfl, hb8⟩
              have HB8 := Lib.hid (HB7.out.trans (hb8.mono (le_one HB7.out)))
              clear hb8 m0 m1
              go_wp2
              go_roundw
              case rel =>
                refine ⟨z, out ++ [84], j, rfl, by rw [hcat.out], HZG, HZ1, HJ, Lib.hid ?_, by simp; omega, HBO.out.trans (HB8.out.mono (by have h := HBO.out.size; rwa [World.size_alloc] at h))⟩
                rw [HHW.out, HHD.out, List.append_assoc]
                rfl
              case measure =>
                show 60000 - (str out ++ (⟨#[84]⟩ : ByteArray)).size < 60000 - (str out).size
                rw [hcat.out, str_size, str_size, List.length_append, List.length_singleton]
                rw [str_size] at hout
                omega
            · have hneg : ((-1 : Int) < 0) := by decide
              have HNO : Hid (wl sgW (isV v) j z = []) := Lib.hid (wl_no HZ1.out (fun kk hk => by
                by_cases h : kk < d
                · exact hno kk h hk
                · rw [lay_nil HD.out.2.1 kk (by omega)] at hk; cases hk) j)
              clear hno m0 m1
              exfalso
              obtain ⟨c, z2, hc, hz, hvz⟩ := HNX.out
              rcases hc with rfl | rfl
              · exact wl_some (nx_one H1.out (sgW_nx hz)) hvz (HFF.out z2 hz)
              · rw [HZ.out] at hz
                injection hz with hz
                rw [← hz] at hvz
                exact wl_some HZ1.out hvz HNO.out
end Go.Proofs.Ytoefeooldcbfiaa
