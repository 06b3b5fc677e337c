/- Contract: the program's board of a text. -/
import Derived.Test.YtoiaklnaecghnabGreatDoorBdR
import Derived.Test.YtoiaklnaecghnabGreatDoorShelfS
import Derived.Test.YtoiaklnaecghnabGreatDoorBack
import Derived.Test.YtoiaklnaecghnabGreatDoorBdC
import Derived.Deep.RegionWith
import Derived.BigRegion
namespace Go.Proofs.YtoiaklnaecghnabGreatDoor
open Go.RowKit

theorem index_one47 : ∀ l : List UInt8, Lib.index l [47] = Lib.indexByte l 47
  | [] => by simp [Lib.index, Lib.indexByte]
  | c :: l => by
    rw [Lib.index, Lib.indexByte, index_one47 l]
    by_cases h : c = 47
    · subst h; simp [List.isPrefixOf]
    · have hp : ([47] : List UInt8).isPrefixOf (c :: l) = false := by simp [List.isPrefixOf, Ne.symm h]
      rw [hp]
      simp [h]

set_option maxRecDepth 100000 in
set_option maxHeartbeats 1000000 in
/-- strings.Split at a wall. -/
theorem split_any (s : ByteArray) (w : World) (hs : s.size ≤ 2000000) :
    Calls Tryz.prog 38 #[.string s, .string ⟨#[47]⟩] w fun e w' => e = .returned (.slice (some ⟨w.heap.size, 0, none⟩) (spl (byt s)).length (spl (byt s)).length) ∧ w' = w.alloc (.cells (txs (spl (byt s))).toArray 9) := by
  have hlen := Lib.splitB_all ⟨#[47]⟩ (by decide) 0 _ s rfl
  have hI : ∀ (x : ByteArray) (c : Array Value), x.size ≤ s.size → Calls Tryz.prog 70 #[.string x, .string ⟨#[47]⟩] (w.alloc (.cells c 9)) fun e w' => e = .returned (.int .i64 (Lib.indexB x ⟨#[47]⟩)) ∧ w' = w.alloc (.cells c 9) := fun x c _ => by
    refine (Tryz.strings_Index_one x 47 _).mono ?_
    rintro e w' ⟨rfl, rfl⟩
    refine ⟨?_, rfl⟩
    rw [show Lib.indexB x ⟨#[47]⟩ = Lib.indexByte x.data.toList 47 from index_one47 _]
  have hC : Calls Tryz.prog 69 #[.string s, .string ⟨#[47]⟩] w fun e w' => e = .returned (.int .i64 (Lib.countB s ⟨#[47]⟩)) ∧ w' = w := by
    refine (Tryz.strings_Count_one s 47 w).mono ?_
    rintro e w' ⟨rfl, rfl⟩
    refine ⟨?_, rfl⟩
    show _ = Ending.returned (Value.int .i64 ((Lib.count s.data.toList [47] : Nat) : Int))
    rw [Lib.count_one]
    rfl
  have hcl := Lib.countB_le ⟨#[47]⟩ (by decide) s.size s (Nat.le_refl _)
  have h := Any.strings_genSplit_core Tryz.lays221 (by kernel_rfl) s ⟨#[47]⟩ 0 (-1) (Lib.countB s ⟨#[47]⟩ + 1) w (by omega) (by decide) (by decide) hI hC (by decide) (by decide) (by rw [if_pos (by decide)]; omega)
  rw [Nat.add_sub_cancel, hlen] at h
  have e2 : Lib.cellsOf (Lib.splitB ⟨#[47]⟩ 0 (Lib.countB s ⟨#[47]⟩) s) (Lib.countB s ⟨#[47]⟩ + 1) = (txs (spl (byt s))).toArray := by
    rw [← hlen, Lib.cellsOf_full, splitB_vals, List.map_map]
    rfl
  rw [e2, ← spl_count] at h
  have HG := Lib.hid h
  clear h e2 hcl hC hI hlen
  go_enter Tryz.func38, Tryz.ntmps38
  go_wp2_with (go_at_call 53; refine (HG.out).mono ?_; rintro e w' ⟨rfl, hw⟩; rw [hw])
  go_ret
  exact ⟨rfl, rfl⟩

/-- The program's board of some rows, with the signs in a block. -/
def bdV (R : List (List UInt8)) (g cap : Nat) : Value := .agg #[.int .i64 (R.headD []).length, .slice (some ⟨g, 0, none⟩) R.flatten.length cap]
def BoP (gb : Bool) (R : List (List UInt8)) (w : World) (e : Ending) (w' : World) : Prop :=
  (gb = true ∧ ∃ g cap, e = .returned (.tuple #[bdV R g cap, .bool true]) ∧ w.heap.size ≤ g ∧ g < w'.heap.size ∧ R.flatten.length ≤ cap ∧ BsAt w' g R.flatten ∧ Below w.heap.size w w') ∨
  (gb = false ∧ e = .returned (.tuple #[.agg #[.int .i64 0, .slice none 0 0], .bool false]) ∧ Below w.heap.size w w')
theorem results_bo (tmps : Array Value) (w : World) (g : Nat) (x y : Value) (hp : tmps.getD 2 undef = .pointer (some ⟨g, 0, none⟩)) (c0 : w.cell? ⟨g, 0, none⟩ = some x) (c1 : w.cell? ⟨g, 1, none⟩ = some y) :
    (results Tryz.f28 tmps).run Tryz.prog w = .ok (.tuple #[.agg #[x, y], tmps.getD 3 undef]) w := by
  have hr : Tryz.f28.results = #[.cell 2 44, .tmp 3] := rfl
  unfold results
  rw [hr]
  simp at hp
  simp [hp, asAddr, c0, c1, go_sem]
theorem cells_tx (w : World) (R : List (List UInt8)) : StAt (w.alloc (.cells (txs R).toArray 9)) (some ⟨w.heap.size, 0, none⟩) R := fun k hk => by
  refine ⟨_, rfl, by simp, ?_⟩
  rw [World.cell?_alloc_new]
  simp [txs, hk]
theorem split_below {w w' : World} {R : List (List UInt8)} (h : w' = w.alloc (.cells (txs R).toArray 9)) : Below w.heap.size w w' := by
  rw [h]; exact (Below.refl _ _).alloc (Nat.le_refl _) _
theorem split_size {w w' : World} {R : List (List UInt8)} (h : w' = w.alloc (.cells (txs R).toArray 9)) : w'.heap.size = w.heap.size + 1 := by
  rw [h]; simp
theorem joinNo_any (R : List (List UInt8)) (g cap : Nat) (w : World) (hA : StAt w (some ⟨g, 0, none⟩) R) (hg : g < w.heap.size) (h5 : R.length ≤ 5) (hcap : R.length ≤ cap) (h6 : R.flatten.length ≤ 100) :
    Calls Tryz.prog 40 #[.slice (some ⟨g, 0, none⟩) R.length cap, .string ⟨#[]⟩] w fun e w' => e = .returned (.string (str R.flatten)) ∧ Below w.heap.size w w' := by
  have e : (R.map str).map (·.data.toList) = R := by
    rw [List.map_map]
    have : ((fun x : ByteArray => x.data.toList) ∘ str) = id := by funext x; exact byt_str x
    rw [this, List.map_id]
  have ej : Lib.join R [] = R.flatten := by
    cases R with
    | nil => rfl
    | cons a R => rw [Lib.join_cons]; simp [Lib.joinTail]
  have h := Tryz.strings_Join g 0 cap (R.map str) ⟨#[]⟩ w (fun j x hx => by
    have hj : j < R.length := by have := (List.getElem?_eq_some_iff.1 hx).1; simpa using this
    obtain ⟨g', e1, _, hc⟩ := hA j hj
    injection e1 with e1
    injection e1 with e1 _
    subst e1
    have e2 : (R.map str)[j]? = some (str R[j]) := by simp [hj]
    rw [e2] at hx
    injection hx with hx
    rw [← hx, Nat.zero_add]
    exact hc) hg (by simp; omega) (by simpa using hcap) (by rw [e]; show (Lib.join R []).length ≤ _; rw [ej]; omega)
  rw [e, List.length_map] at h
  refine h.mono ?_
  rintro e w' ⟨rfl, hb⟩
  refine ⟨?_, hb⟩
  show Ending.returned (.string (str (Lib.join R []))) = _
  rw [ej]

set_option maxRecDepth 100000 in
set_option maxHeartbeats 1000000 in
theorem boardOf_any (s : ByteArray) (w : World) (hs : s.size ≤ 2000000) :
    Calls Tryz.prog 28 #[.string s] w (BoP (goodB (byt s)) (spl (byt s)) w) := by
  have HOK := Lib.hid rowOk_str
  suffices main : ∀ (gb : Bool) (R : List (List UInt8)) (hpos : 0 < R.length), (∀ wx, Calls Tryz.prog 38 #[.string s, .string ⟨#[47]⟩] wx fun e w' => e = .returned (.slice (some ⟨wx.heap.size, 0, none⟩) R.length R.length) ∧ w' = wx.alloc (.cells (txs R).toArray 9)) →
      (R.length ≤ 5 → (∀ j (hj : j < R.length), rowOk (R[0]'hpos).length R[j] = true) → gb = true) → (∀ k (hk : k < R.length), rowOk (R[0]'hpos).length R[k] = false → gb = false) →
      (5 < R.length → gb = false) → (gb = true → R.flatten.length ≤ 100) → ((R.headD []).length = (R[0]'hpos).length) → (∀ j (hj : j < R.length), (str R[j]).size ≤ 2000000) → Calls Tryz.prog 28 #[.string s] w (BoP gb R w) from
    main _ _ (spl_pos _) (fun wx => split_any s wx hs) goodB_yes goodB_no goodB_many
      (fun h => by
        obtain ⟨h1, h2⟩ := (boOk_iff _).1 h
        have := flat_le (spl (byt s)) 5 fun r hr => (h2 r hr).2.1
        omega) (by rw [spl_head])
      (fun j hj => by have h1 := spl_le (byt s) _ (List.getElem_mem hj); rw [byt_len] at h1; rw [str_size]; omega)
  intro gb R hpos hSP hY hNO hMY hFL hHD hSZ
  have HSP := Lib.hid hSP
  have HY := Lib.hid hY
  have HNO := Lib.hid hNO
  have HMY := Lib.hid hMY
  have HFL := Lib.hid hFL
  have HHD := Lib.hid hHD
  have HSZ := Lib.hid hSZ
  clear hSP hY hNO hMY hSZ hFL hHD
  go_enter Tryz.func28, Tryz.ntmps28
  go_wp2_with fail
  obtain ⟨W1, hW1⟩ : ∃ W1, W1 = w.alloc (Obj.cells #[.int .i64 0, .slice none 0 0] 44) := ⟨_, rfl⟩
  rw [← hW1]
  have HB1 : Hid (Below w.heap.size w W1) := by rw [hW1]; exact Lib.hid ((Below.refl _ _).alloc (Nat.le_refl _) _)
  have hz1 : W1.heap.size = w.heap.size + 1 := by rw [hW1]; simp
  have c0 : W1.cell? ⟨w.heap.size, 0, none⟩ = some (.int .i64 0) := by rw [hW1, World.cell?_alloc_new]; rfl
  have c1 : W1.cell? ⟨w.heap.size, 1, none⟩ = some (.slice none 0 0) := by rw [hW1, World.cell?_alloc_new]; rfl
  have f0 : W1.frozen? ⟨w.heap.size, 0, none⟩ = false := by rw [hW1]; simp
  have f1 : W1.frozen? ⟨w.heap.size, 1, none⟩ = false := by rw [hW1]; simp
  clear hW1
  refine (HSP.out _).mono ?_
  rintro e w2 ⟨rfl, hw2⟩
  have hb2 := split_below hw2
  have AT : Hid (StAt w2 (some ⟨w.heap.size + 1, 0, none⟩) R) := Lib.hid (by rw [← hz1, hw2]; exact cells_tx W1 R)
  have hz2 := split_size hw2
  have e0 := (hb2.cell (p := ⟨w.heap.size, 0, none⟩) (by show w.heap.size < _; omega)).trans c0
  have e1 := (hb2.cell (p := ⟨w.heap.size, 1, none⟩) (by show w.heap.size < _; omega)).trans c1
  have e2 := (hb2.frozen (p := ⟨w.heap.size, 0, none⟩) (by show w.heap.size < _; omega)).trans f0
  have e3 := (hb2.frozen (p := ⟨w.heap.size, 1, none⟩) (by show w.heap.size < _; omega)).trans f1
  have HB2 := Lib.hid (HB1.out.trans (hb2.mono (by omega)))
  clear hb2 hw2 c0 c1 f0 f1
  by_cases h5 : 5 < R.length
  · have hno := Lib.hid (HMY.out h5)
    have d5 : (5 : Int) < (R.length : Int) := by omega
    go_wp2
    (try simp only [Exit.inBlock, Exit.then]); refine bodyPost_ret (results_bo _ _ w.heap.size (.int .i64 0) (.slice none 0 0) rfl ?_ ?_) rfl (.inr ⟨hno.out, rfl, ?_⟩)
    · first | exact e0 | (rw [World.cell?_setCell_other _ _ _ _ (by intro e; injection e with _ e; omega)]; exact World.cell?_setCell_same _ _ _ e0)
    · first | exact e1 | exact World.cell?_setCell_same _ _ _ (by rw [World.cell?_setCell_other _ _ _ _ (by intro e; injection e with _ e; omega)]; exact e1)
    · first | exact HB2.out | exact (HB2.out.setCell (Nat.le_refl _) _).setCell (Nat.le_refl _) _
  · have d5 : ¬ ((5 : Int) < (R.length : Int)) := by omega
    go_wp2
    go_loop [15] (fun i => ∃ k : Nat, k ≤ R.length ∧ i = .int .i64 k ∧ Hid (∀ j (hj : j < R.length), j < k → rowOk (R[0]'hpos).length R[j] = true)) (fun i => R.length - (intOf i).toNat)
    case atStart => exact ⟨0, Nat.zero_le _, rfl, Lib.hid fun j _ h => by omega⟩
    case round =>
      obtain ⟨k, hk, rfl, HR⟩ := hrel
      obtain ⟨g0, eA0, hg0, hcell0⟩ := AT.out 0 hpos
      injection eA0 with eA0
      injection eA0 with eA0
      subst eA0
      have i3 : (0 : Int) < (R.length : Int) := by omega
      by_cases hlt : k < R.length
      · obtain ⟨g, eA1, hg, hcell⟩ := AT.out k hlt
        injection eA1 with eA1
        injection eA1 with eA1
        subst eA1
        have HRK := Lib.hid (HOK.out (R[0]'hpos).length R[k])
        have HL0 := Lib.hid (str_size (R[0]'hpos))
        have HNK := Lib.hid (HNO.out k hlt)
        have HNX := Lib.hid (fun (h : rowOk (R[0]'hpos).length R[k] = true) => (fun j hj hjk => if e : j = k then by subst e; exact h else HR.out j hj (by omega) : ∀ j (hj : j < R.length), j < k + 1 → rowOk (R[0]'hpos).length R[j] = true))
        have hsx := HSZ.out k hlt
        clear HR
        have HGL := Lib.hid (fun wx (hz : (str R[k]).size ≤ maxLen) => isLine_any (str R[k]) wx hz)
        generalize rowOk (R[0]'hpos).length R[k] = ok at HRK HNK HNX
        generalize (R[0]'hpos).length = n0 at HRK HL0 HNX
        generalize str R[k] = sx at hcell HRK HGL hsx
        generalize str (R[0]'hpos) = s0 at hcell0 HL0
        have hn0 : s0.size = n0 := HL0.out
        have i1 : (0 : Int) ≤ (k : Int) := by omega
        have i2 : (k : Int) < (R.length : Int) := by omega
        have hsm : sx.size ≤ maxLen := by unfold maxLen; omega
        cases hgl : goodL sx
        · have hok := Lib.hid (HNK.out (by rw [HRK.out, hgl]; rfl))
          have HG := Lib.hid hgl
          clear hgl
          go_wp2_with (go_at_call 39; refine (HGL.out _ hsm).mono ?_; rintro e w' ⟨rfl, rfl⟩; rw [HG.out])
          (try simp only [Exit.inBlock, Exit.then]); refine bodyPost_ret (results_bo _ _ w.heap.size (.int .i64 0) (.slice none 0 0) rfl ?_ ?_) rfl (.inr ⟨hok.out, rfl, ?_⟩)
          · first | exact e0 | (rw [World.cell?_setCell_other _ _ _ _ (by intro e; injection e with _ e; omega)]; exact World.cell?_setCell_same _ _ _ e0)
          · first | exact e1 | exact World.cell?_setCell_same _ _ _ (by rw [World.cell?_setCell_other _ _ _ _ (by intro e; injection e with _ e; omega)]; exact e1)
          · first | exact HB2.out | exact (HB2.out.setCell (Nat.le_refl _) _).setCell (Nat.le_refl _) _
        · have HG := Lib.hid hgl
          by_cases hz5 : 5 < sx.size
          · have hok := Lib.hid (HNK.out (by rw [HRK.out, decide_eq_false (p := sx.size ≤ 5) (by omega)]; simp))
            have d5 : (5 : Int) < (sx.size : Int) := by omega
            clear hgl
            go_wp2_with (go_at_call 39; refine (HGL.out _ hsm).mono ?_; rintro e w' ⟨rfl, rfl⟩; rw [HG.out])
            (try simp only [Exit.inBlock, Exit.then]); refine bodyPost_ret (results_bo _ _ w.heap.size (.int .i64 0) (.slice none 0 0) rfl ?_ ?_) rfl (.inr ⟨hok.out, rfl, ?_⟩)
            · first | exact e0 | (rw [World.cell?_setCell_other _ _ _ _ (by intro e; injection e with _ e; omega)]; exact World.cell?_setCell_same _ _ _ e0)
            · first | exact e1 | exact World.cell?_setCell_same _ _ _ (by rw [World.cell?_setCell_other _ _ _ _ (by intro e; injection e with _ e; omega)]; exact e1)
            · first | exact HB2.out | exact (HB2.out.setCell (Nat.le_refl _) _).setCell (Nat.le_refl _) _
          · have d5 : ¬ ((5 : Int) < (sx.size : Int)) := by omega
            by_cases he : sx.size = n0
            · have hok := Lib.hid (HNX.out (by rw [HRK.out, hgl, decide_eq_true (p := sx.size ≤ 5) (by omega), decide_eq_true he]; rfl))
              have de : ((sx.size : Int) != (s0.size : Int)) = false := by rw [he, hn0]; simp
              clear hgl he hn0
              go_wp2_with (go_at_call 39; refine (HGL.out _ hsm).mono ?_; rintro e w' ⟨rfl, rfl⟩; rw [HG.out])
              go_round
              case rel => exact ⟨k + 1, by omega, by go_num, hok⟩
              case measure => simp [intOf]; omega
            · have hok := Lib.hid (HNK.out (by rw [HRK.out, decide_eq_false he]; simp))
              have de : ((sx.size : Int) != (s0.size : Int)) = true := by rw [bne_iff_ne]; intro e; exact he (by omega)
              clear hgl he hn0
              go_wp2_with (go_at_call 39; refine (HGL.out _ hsm).mono ?_; rintro e w' ⟨rfl, rfl⟩; rw [HG.out])
              (try simp only [Exit.inBlock, Exit.then]); refine bodyPost_ret (results_bo _ _ w.heap.size (.int .i64 0) (.slice none 0 0) rfl ?_ ?_) rfl (.inr ⟨hok.out, rfl, ?_⟩)
              · first | exact e0 | (rw [World.cell?_setCell_other _ _ _ _ (by intro e; injection e with _ e; omega)]; exact World.cell?_setCell_same _ _ _ e0)
              · first | exact e1 | exact World.cell?_setCell_same _ _ _ (by rw [World.cell?_setCell_other _ _ _ _ (by intro e; injection e with _ e; omega)]; exact e1)
              · first | exact HB2.out | exact (HB2.out.setCell (Nat.le_refl _) _).setCell (Nat.le_refl _) _
      · obtain rfl : k = R.length := by omega
        have hy := HY.out (by omega) fun j hj => HR.out j hj hj
        have hfl := HFL.out hy
        have hlen0 := HHD.out
        have HY1 := Lib.hid hy
        clear hy HR
        have hbdV : Hid (∀ g cap, bdV R g cap = .agg #[.int .i64 (R[0]'hpos).length, .slice (some ⟨g, 0, none⟩) R.flatten.length cap]) := Lib.hid fun g cap => by unfold bdV; rw [hlen0]
        clear hlen0
        have HPO := Lib.hid (fun (g cap : Nat) (w' : World) (h1 : w.heap.size ≤ g) (h2 : g < w'.heap.size) (h3 : R.flatten.length ≤ cap) (h4 : BsAt w' g R.flatten) (h5 : Below w.heap.size w w') => (show BoP gb R w (.returned (.tuple #[.agg #[.int .i64 (R[0]'hpos).length, .slice (some ⟨g, 0, none⟩) R.flatten.length cap], .bool true])) w' from .inl ⟨HY1.out, g, cap, by rw [hbdV.out], h1, h2, h3, h4, h5⟩))
        clear hbdV
        have HJ := Lib.hid (fun wx (h : StAt wx (some ⟨w.heap.size + 1, 0, none⟩) R) hg => joinNo_any R (w.heap.size + 1) R.length wx h hg (by omega) (Nat.le_refl _) hfl)
        have hy0 : w.heap.size < w2.heap.size := by omega
        have hy1 : w.heap.size + 1 < w2.heap.size := by omega
        have HL0 := Lib.hid (str_size (R[0]'hpos))
        have HCV := Lib.hid (fun wx => to_bytes_l R.flatten wx)
        generalize R.flatten = F at hfl HJ HCV HPO
        generalize (R[0]'hpos).length = n0 at HL0 HPO
        generalize str (R[0]'hpos) = s0 at hcell0 HL0
        obtain rfl : s0.size = n0 := HL0.out
        clear hg0 HL0
        go_wp2
        have HJ2 := Lib.hid (HJ.out w2.drew (fun k hk => AT.out k hk) hy1)
        go_region_with (go_at_call 40; refine (HJ2.out).mono ?_; rintro e w3 ⟨rfl, hb3⟩; obtain ⟨capB, W4, hconv, hcapB, hbs, hb4, hz4⟩ := HCV.out w3; have l3 := (hb3.cell (p := ⟨w.heap.size + 1, 0, none⟩) hy1).trans hcell0; have y3 := Nat.lt_of_lt_of_le hy1 hb3.size; have x3 := Nat.lt_of_lt_of_le hy0 hb3.size; have l4 := (hb4.cell (p := ⟨w.heap.size + 1, 0, none⟩) y3).trans l3; have m0 := (hb4.cell (p := ⟨w.heap.size, 0, none⟩) x3).trans ((hb3.cell (p := ⟨w.heap.size, 0, none⟩) hy0).trans e0); have m1 := (hb4.cell (p := ⟨w.heap.size, 1, none⟩) x3).trans ((hb3.cell (p := ⟨w.heap.size, 1, none⟩) hy0).trans e1); have m2 := (hb4.frozen (p := ⟨w.heap.size, 0, none⟩) x3).trans ((hb3.frozen (p := ⟨w.heap.size, 0, none⟩) hy0).trans e2); have m3 := (hb4.frozen (p := ⟨w.heap.size, 1, none⟩) x3).trans ((hb3.frozen (p := ⟨w.heap.size, 1, none⟩) hy0).trans e3))
        all_goals
          go_wp2
          (try simp only [Exit.inBlock, Exit.then]); refine bodyPost_ret (results_bo _ _ w.heap.size (.int .i64 s0.size) (.slice (some ⟨w3.heap.size, 0, none⟩) F.length capB) rfl ?_ ?_) rfl (HPO.out w3.heap.size capB _ ?_ ?_ hcapB ?_ ?_)
          · rw [World.cell?_setCell_other _ _ _ _ (by intro e; injection e with _ e; omega)]
            exact World.cell?_setCell_same _ _ _ m0
          · exact World.cell?_setCell_same _ _ _ (by rw [World.cell?_setCell_other _ _ _ _ (by intro e; injection e with _ e; omega)]; exact m1)
          · omega
          · simpa using hz4
          · intro j hj
            rw [World.cell?_setCell_other _ _ _ _ (by intro e; injection e with e; omega), World.cell?_setCell_other _ _ _ _ (by intro e; injection e with e; omega)]
            exact hbs j hj
          · exact (((HB2.out.drew).trans (hb3.mono (by simp; omega))).trans (hb4.mono (by omega))).setCell (Nat.le_refl _) _ |>.setCell (Nat.le_refl _) _
end Go.Proofs.YtoiaklnaecghnabGreatDoor
