/- Contracts: the program's turn of a sum. -/
import Derived.Test.YtflpncdnneapmaaGmU
import Derived.Test.YtflpncdnneapmaaShelfN
namespace Go.Proofs.Ytflpncdnneapmaa
open Go.RowKit Go.Maps Go.Shelf

theorem tail_walls (r : List (List UInt8)) : Lib.joinTail [47] r = wallsG r := by
  unfold Lib.joinTail wallsG
  rw [List.flatMap_def]
  rfl
theorem join_eq : ∀ ls : List (List UInt8), Lib.join ls [47] = joinG ls
  | [] => rfl
  | [w] => Lib.join_one w [47]
  | w :: v :: r => by rw [Lib.join_cons, tail_walls, wallsG_join (by simp), joinG_cons w (by simp)]
theorem join_any (ls : List (List UInt8)) (A : Option Addr) (c : Nat) (w : World) (hA : StO w A ls) (hne : ls ≠ []) (hcap : ls.length ≤ c) (hlen : (joinG ls).length ≤ 1000) (hl : ls.length ≤ 1000) :
    Calls Try.prog 71 #[.slice A ls.length c, .string ⟨#[47]⟩] w fun e w' => e = .returned (.string (str (joinG ls))) ∧ Below w.heap.size w w' := by
  obtain ⟨g, o, rfl, hg, _⟩ := hA 0 (List.length_pos_iff.2 hne)
  have e : (ls.map str).map (·.data.toList) = ls := by
    rw [List.map_map]
    have : ((fun x : ByteArray => x.data.toList) ∘ str) = id := by funext x; exact byt_str x
    rw [this, List.map_id]
  have h := Try.strings_Join g o c (ls.map str) ⟨#[47]⟩ w (fun j x hx => by
    have hj : j < ls.length := by have := (List.getElem?_eq_some_iff.1 hx).1; simpa using this
    obtain ⟨g', o', e1, _, hc⟩ := hA j hj
    injection e1 with e1
    injection e1 with e1 e3
    subst e1
    subst e3
    have e2 : (ls.map str)[j]? = some (str ls[j]) := by simp [hj]
    rw [e2] at hx
    injection hx with hx
    rw [← hx]
    exact hc) hg (by simp; omega) (by simpa using hcap) (by rw [e]; show (Lib.join ls [47]).length ≤ _; rw [join_eq]; omega)
  rw [e, List.length_map] at h
  refine h.mono ?_
  rintro e w' ⟨rfl, hb⟩
  refine ⟨?_, hb⟩
  show Ending.returned (.string (str (Lib.join ls [47]))) = _
  rw [join_eq]
theorem results_to (tmps : Array Value) (w : World) (g : Nat) (x y : Value) (hp : tmps.getD 4 undef = .pointer (some ⟨g, 0, none⟩)) (c0 : w.cell? ⟨g, 0, none⟩ = some x) (c1 : w.cell? ⟨g, 1, none⟩ = some y) :
    (results Try.f37 tmps).run Try.prog w = .ok (.tuple #[.agg #[x, y], tmps.getD 5 undef]) w := by
  have hr : Try.f37.results = #[.cell 4 66, .tmp 5] := rfl
  unfold results
  rw [hr]
  simp at hp
  simp [hp, asAddr, c0, c1, go_sem]

set_option maxRecDepth 100000 in
set_option maxHeartbeats 4000000 in
theorem turnOf_yes (tm : Bool) (ls : List (List UInt8)) (A : Option Addr) (cap : Nat) (w : World) (hA : StO w A ls) (hcap : ls.length ≤ cap) (hok : sumOk ls = true) :
    Calls Try.prog 37 #[.bool tm, .slice A ls.length cap] w fun e w' => e = .returned (.tuple #[tnV tm (joinG ls), .bool true]) ∧ Below w.heap.size w w' := by
  obtain ⟨h1, h3, hgood, hsum⟩ := (sumOk_iff ls).1 hok
  have hG := sumOk_sum hok
  have hlj := hG.le
  have HA := Lib.hid hA
  have HGOOD := Lib.hid hgood
  have HST := Lib.hid (upLen_step ls)
  have HUP : Hid (∀ k, k ≤ ls.length → upLen ls k ≤ 12 * k) := Lib.hid fun k hk => upLen_le ls 12 k hk fun j hj _ => (good_len (hgood _ (List.getElem_mem hj))).2
  have hall : upLen ls ls.length ≤ 10 := by rw [upLen_all]; exact hsum
  have HJ := Lib.hid (fun wx h => join_any ls A cap wx h hG.ne hcap (by omega) (by omega))
  clear hA hgood hG hok hsum hlj
  generalize joinG ls = y at HJ
  show Calls Try.prog 37 #[.bool tm, .slice A ls.length cap] w fun e w' => e = .returned (.tuple #[.agg #[.string (str y), .int .u8 (kd tm).toNat], .bool true]) ∧ Below w.heap.size w w'
  cases tm
  all_goals
    go_enter Try.func37, Try.ntmps37
    go_wp2
    obtain ⟨W1, hW1⟩ : ∃ W1, W1 = w.alloc (Obj.cells #[.string ⟨#[]⟩, .int .u8 0] 66) := ⟨_, rfl⟩
    rw [← hW1]
    have hB1 : Below w.heap.size w W1 := by rw [hW1]; exact (Below.refl _ _).alloc (Nat.le_refl _) _
    have hz : W1.heap.size = w.heap.size + 1 := by rw [hW1]; simp
    have c0 : W1.cell? ⟨w.heap.size, 0, none⟩ = some (.string ⟨#[]⟩) := by rw [hW1, World.cell?_alloc_new]; rfl
    have c1 : W1.cell? ⟨w.heap.size, 1, none⟩ = some (.int .u8 0) := by rw [hW1, World.cell?_alloc_new]; rfl
    have f0 : W1.frozen? ⟨w.heap.size, 0, none⟩ = false := by rw [hW1]; simp
    have f1 : W1.frozen? ⟨w.heap.size, 1, none⟩ = false := by rw [hW1]; simp
    have HA1 := Lib.hid (HA.out.below hB1)
    have HB1 := Lib.hid hB1
    clear hW1 hB1
    go_wp2
    go_loop [6, 21] (fun c i => ∃ k : Nat, k ≤ ls.length ∧ i = .int .i64 k ∧ c = .int .i64 (upLen ls k)) (fun _ i => ls.length - (intOf i).toNat)
    case atStart => exact ⟨0, Nat.zero_le _, rfl, rfl⟩
    case round =>
      obtain ⟨k, hk, rfl, rfl⟩ := hrel
      by_cases hlt : k < ls.length
      · obtain ⟨g, o, rfl, hg, hcell⟩ := HA1.out k hlt
        have hS := Lib.hid (HST.out k hlt)
        have hu := HUP.out k hk
        have hgk := HGOOD.out _ (List.getElem_mem hlt)
        have hx := (good_len hgk).2
        have HIL := Lib.hid (fun wx => isLine_any (str ls[k]) wx (by rw [str_size]; unfold maxLen; omega))
        have HGK := Lib.hid hgk
        clear hgk
        generalize ls[k] = x at hcell hS hx HIL HGK
        have hsx := str_size x
        have i1 : (0 : Int) ≤ (k : Int) := by omega
        have i2 : (k : Int) < (ls.length : Int) := by omega
        go_wp2_with (go_at_call 65; refine (HIL.out _).mono ?_; rintro e w' ⟨rfl, rfl⟩; rw [HGK.out])
        go_round
        case rel => exact ⟨k + 1, by omega, by go_num, by rw [hS.out]; go_num⟩
        case measure => simp [intOf]; omega
      · obtain rfl : k = ls.length := by omega
        go_wp2_with fail
        refine (HJ.out _ HA1.out).mono ?_
        rintro e w2 ⟨rfl, hb2⟩
        have d0 := (hb2.cell (p := ⟨w.heap.size, 0, none⟩) (by show w.heap.size < _; omega)).trans c0
        have d1 := (hb2.cell (p := ⟨w.heap.size, 1, none⟩) (by show w.heap.size < _; omega)).trans c1
        have e0 := (hb2.frozen (p := ⟨w.heap.size, 0, none⟩) (by show w.heap.size < _; omega)).trans f0
        have e1 := (hb2.frozen (p := ⟨w.heap.size, 1, none⟩) (by show w.heap.size < _; omega)).trans f1
        have HB2 := Lib.hid (HB1.out.trans (hb2.mono (by omega)))
        clear hb2 c0 c1 f0 f1
        go_wp2
        (try simp only [Exit.inBlock, Exit.then]); refine bodyPost_ret (results_to _ _ w.heap.size (.string (str y)) (.int .u8 _) rfl ?_ ?_) rfl ⟨rfl, ?_⟩
        · rw [World.cell?_setCell_other _ _ _ _ (by intro e; injection e with _ e; omega)]
          exact World.cell?_setCell_same _ _ _ d0
        · exact World.cell?_setCell_same _ _ _ (by rw [World.cell?_setCell_other _ _ _ _ (by intro e; injection e with _ e; omega)]; exact d1)
        · exact (HB2.out.setCell (Nat.le_refl _) _).setCell (Nat.le_refl _) _

set_option maxRecDepth 100000 in
set_option maxHeartbeats 4000000 in
theorem turnOf_no (tm : Bool) (ls : List (List UInt8)) (A : Option Addr) (cap : Nat) (w : World) (hA : StO w A ls) (hsz : ∀ x ∈ ls, x.length ≤ maxLen) (hok : sumOk ls = false) :
    Calls Try.prog 37 #[.bool tm, .slice A ls.length cap] w fun e w' => e = .returned (.tuple #[.agg #[.string ⟨#[]⟩, .int .u8 0], .bool false]) ∧ Below w.heap.size w w' := by
  have HA := Lib.hid hA
  have HSZ := Lib.hid hsz
  have HST := Lib.hid (upLen_step ls)
  have HBAD : Hid (1 ≤ ls.length → ls.length ≤ 3 → (∀ x ∈ ls, goodL (str x) = true) → 10 < upLen ls ls.length) := Lib.hid fun h1 h3 hg => by
    rw [upLen_all]
    rcases Nat.lt_or_ge 10 (ls.map List.length).sum with h | h
    · exact h
    · rw [(sumOk_iff ls).2 ⟨h1, h3, hg, h⟩] at hok; cases hok
  clear hA hsz hok
  by_cases h13 : ls.length < 1 ∨ 3 < ls.length
  · rcases h13 with h | h
    · have hd : ((ls.length : Int) < 1) := by omega
      go_enter Try.func37, Try.ntmps37
      go_wp2
      obtain ⟨W1, hW1⟩ : ∃ W1, W1 = w.alloc (Obj.cells #[.string ⟨#[]⟩, .int .u8 0] 66) := ⟨_, rfl⟩
      rw [← hW1]
      have HB1 : Hid (Below w.heap.size w W1) := by rw [hW1]; exact Lib.hid ((Below.refl _ _).alloc (Nat.le_refl _) _)
      have hz : W1.heap.size = w.heap.size + 1 := by rw [hW1]; simp
      have c0 : W1.cell? ⟨w.heap.size, 0, none⟩ = some (.string ⟨#[]⟩) := by rw [hW1, World.cell?_alloc_new]; rfl
      have c1 : W1.cell? ⟨w.heap.size, 1, none⟩ = some (.int .u8 0) := by rw [hW1, World.cell?_alloc_new]; rfl
      have f0 : W1.frozen? ⟨w.heap.size, 0, none⟩ = false := by rw [hW1]; simp
      have f1 : W1.frozen? ⟨w.heap.size, 1, none⟩ = false := by rw [hW1]; simp
      have HA1 := Lib.hid (HA.out.below HB1.out)
      clear hW1
      go_wp2
      (try simp only [Exit.inBlock, Exit.then]); refine bodyPost_ret (results_to _ _ w.heap.size (.string ⟨#[]⟩) (.int .u8 0) rfl ?_ ?_) rfl ⟨rfl, ?_⟩
      · first | exact c0 | (rw [World.cell?_setCell_other _ _ _ _ (by intro e; injection e with _ e; omega)]; exact World.cell?_setCell_same _ _ _ c0)
      · first | exact c1 | exact World.cell?_setCell_same _ _ _ (by rw [World.cell?_setCell_other _ _ _ _ (by intro e; injection e with _ e; omega)]; exact c1)
      · first | exact HB1.out | exact (HB1.out.setCell (Nat.le_refl _) _).setCell (Nat.le_refl _) _
    · have hd1 : ¬ ((ls.length : Int) < 1) := by omega
      have hd : ((ls.length : Int) > 3) := by omega
      go_enter Try.func37, Try.ntmps37
      go_wp2
      obtain ⟨W1, hW1⟩ : ∃ W1, W1 = w.alloc (Obj.cells #[.string ⟨#[]⟩, .int .u8 0] 66) := ⟨_, rfl⟩
      rw [← hW1]
      have HB1 : Hid (Below w.heap.size w W1) := by rw [hW1]; exact Lib.hid ((Below.refl _ _).alloc (Nat.le_refl _) _)
      have hz : W1.heap.size = w.heap.size + 1 := by rw [hW1]; simp
      have c0 : W1.cell? ⟨w.heap.size, 0, none⟩ = some (.string ⟨#[]⟩) := by rw [hW1, World.cell?_alloc_new]; rfl
      have c1 : W1.cell? ⟨w.heap.size, 1, none⟩ = some (.int .u8 0) := by rw [hW1, World.cell?_alloc_new]; rfl
      have f0 : W1.frozen? ⟨w.heap.size, 0, none⟩ = false := by rw [hW1]; simp
      have f1 : W1.frozen? ⟨w.heap.size, 1, none⟩ = false := by rw [hW1]; simp
      have HA1 := Lib.hid (HA.out.below HB1.out)
      clear hW1
      go_wp2
      (try simp only [Exit.inBlock, Exit.then]); refine bodyPost_ret (results_to _ _ w.heap.size (.string ⟨#[]⟩) (.int .u8 0) rfl ?_ ?_) rfl ⟨rfl, ?_⟩
      · first | exact c0 | (rw [World.cell?_setCell_other _ _ _ _ (by intro e; injection e with _ e; omega)]; exact World.cell?_setCell_same _ _ _ c0)
      · first | exact c1 | exact World.cell?_setCell_same _ _ _ (by rw [World.cell?_setCell_other _ _ _ _ (by intro e; injection e with _ e; omega)]; exact c1)
      · first | exact HB1.out | exact (HB1.out.setCell (Nat.le_refl _) _).setCell (Nat.le_refl _) _
  · obtain ⟨h1, h3⟩ : 1 ≤ ls.length ∧ ls.length ≤ 3 := by omega
    have HBAD2 := Lib.hid (HBAD.out h1 h3)
    go_enter Try.func37, Try.ntmps37
    go_wp2
    obtain ⟨W1, hW1⟩ : ∃ W1, W1 = w.alloc (Obj.cells #[.string ⟨#[]⟩, .int .u8 0] 66) := ⟨_, rfl⟩
    rw [← hW1]
    have HB1 : Hid (Below w.heap.size w W1) := by rw [hW1]; exact Lib.hid ((Below.refl _ _).alloc (Nat.le_refl _) _)
    have hz : W1.heap.size = w.heap.size + 1 := by rw [hW1]; simp
    have c0 : W1.cell? ⟨w.heap.size, 0, none⟩ = some (.string ⟨#[]⟩) := by rw [hW1, World.cell?_alloc_new]; rfl
    have c1 : W1.cell? ⟨w.heap.size, 1, none⟩ = some (.int .u8 0) := by rw [hW1, World.cell?_alloc_new]; rfl
    have f0 : W1.frozen? ⟨w.heap.size, 0, none⟩ = false := by rw [hW1]; simp
    have f1 : W1.frozen? ⟨w.heap.size, 1, none⟩ = false := by rw [hW1]; simp
    have HA1 := Lib.hid (HA.out.below HB1.out)
    clear hW1
    go_wp2
    go_loop [6, 21] (fun c i => ∃ k : Nat, k ≤ ls.length ∧ i = .int .i64 k ∧ c = .int .i64 (upLen ls k) ∧ upLen ls k ≤ 12 * k ∧ Hid (∀ j (h : j < ls.length), j < k → goodL (str ls[j]) = true)) (fun _ i => ls.length - (intOf i).toNat)
    case atStart => exact ⟨0, Nat.zero_le _, rfl, rfl, by simp [upLen], Lib.hid fun j _ h => by omega⟩
    case round =>
      obtain ⟨k, hk, rfl, rfl, hu, HG⟩ := hrel
      by_cases hlt : k < ls.length
      · obtain ⟨g, o, rfl, hg, hcell⟩ := HA1.out k hlt
        have hS := Lib.hid (HST.out k hlt)
        have hx := HSZ.out _ (List.getElem_mem hlt)
        have HIL := Lib.hid (fun wx => isLine_any (str ls[k]) wx (by rw [str_size]; exact hx))
        have i1 : (0 : Int) ≤ (k : Int) := by omega
        have i2 : (k : Int) < (ls.length : Int) := by omega
        cases hgk : goodL (str ls[k])
        · have HGK := Lib.hid hgk
          clear hgk hS hx
          generalize ls[k] = x at hcell HIL HGK
          go_wp2_with (go_at_call 65; refine (HIL.out _).mono ?_; rintro e w' ⟨rfl, rfl⟩; rw [HGK.out])
          (try simp only [Exit.inBlock, Exit.then]); refine bodyPost_ret (results_to _ _ w.heap.size (.string ⟨#[]⟩) (.int .u8 0) rfl ?_ ?_) rfl ⟨rfl, ?_⟩
          · first | exact c0 | (rw [World.cell?_setCell_other _ _ _ _ (by intro e; injection e with _ e; omega)]; exact World.cell?_setCell_same _ _ _ c0)
          · first | exact c1 | exact World.cell?_setCell_same _ _ _ (by rw [World.cell?_setCell_other _ _ _ _ (by intro e; injection e with _ e; omega)]; exact c1)
          · first | exact HB1.out | exact (HB1.out.setCell (Nat.le_refl _) _).setCell (Nat.le_refl _) _
        · have HGK := Lib.hid hgk
          have hx12 := (good_len hgk).2
          have HG2 : Hid (∀ j (h : j < ls.length), j < k + 1 → goodL (str ls[j]) = true) := Lib.hid fun j hj hjk => by
            by_cases e : j = k
            · subst e; exact hgk
            · exact HG.out j hj (by omega)
          have hu2 : upLen ls k + ls[k].length ≤ 12 * (k + 1) := by omega
          clear hgk hx
          generalize ls[k] = x at hcell hS HIL HGK hx12 hu2
          have hsx := str_size x
          go_wp2_with (go_at_call 65; refine (HIL.out _).mono ?_; rintro e w' ⟨rfl, rfl⟩; rw [HGK.out])
          go_round
          case rel => exact ⟨k + 1, by omega, by go_num, by rw [hS.out]; go_num, by rw [hS.out]; exact hu2, HG2⟩
          case measure => simp [intOf]; omega
      · obtain rfl : k = ls.length := by omega
        have hbad := HBAD2.out fun x hx => by
          obtain ⟨j, hj, rfl⟩ := List.getElem_of_mem hx
          exact HG.out j hj hj
        have hd : ((upLen ls ls.length : Int) > 10) := by omega
        go_wp2
        (try simp only [Exit.inBlock, Exit.then]); refine bodyPost_ret (results_to _ _ w.heap.size (.string ⟨#[]⟩) (.int .u8 0) rfl ?_ ?_) rfl ⟨rfl, ?_⟩
        · first | exact c0 | (rw [World.cell?_setCell_other _ _ _ _ (by intro e; injection e with _ e; omega)]; exact World.cell?_setCell_same _ _ _ c0)
        · first | exact c1 | exact World.cell?_setCell_same _ _ _ (by rw [World.cell?_setCell_other _ _ _ _ (by intro e; injection e with _ e; omega)]; exact c1)
        · first | exact HB1.out | exact (HB1.out.setCell (Nat.le_refl _) _).setCell (Nat.le_refl _) _
end Go.Proofs.Ytflpncdnneapmaa
