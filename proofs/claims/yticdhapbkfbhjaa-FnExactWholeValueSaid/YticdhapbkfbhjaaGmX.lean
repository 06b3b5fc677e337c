/- Contracts: the program's turn of a sum. -/
import Derived.Test.YticdhapbkfbhjaaShelfN
import Derived.Test.YticdhapbkfbhjaaGmU
namespace Go.Proofs.Yticdhapbkfbhjaa
open Go.RowKit Go.Maps Go.Shelf

theorem tail_walls (r : List (List UInt8)) : Lib.joinTail [47] r = wallsG r := by
  unfold Lib.joinTail wallsG
  rw [List.flatMap_def]
  rfl
theorem join_eq : ∀ ls : List (List UInt8), Lib.join ls [47] = joinG ls
  | [] => rfl
  | [w] => Lib.join_one w [47]
  | w :: v :: r => by rw [Lib.join_cons, tail_walls, wallsG_join (by simp), joinG_cons w (by simp)]
theorem join_any (ls : List (List UInt8)) (A : Option Addr) (c : Nat) (w : World) (hA : StO w A ls) (hne : ls ≠ []) (hcap : ls.length ≤ c) (hlen : (joinG ls).length ≤ 1000) (hl : ls.length ≤ 1000) :
    Calls Try.prog 112 #[.slice A ls.length c, .string ⟨#[47]⟩] w fun e w' => e = .returned (.string (str (joinG ls))) ∧ Below w.heap.size w w' := by
  obtain ⟨g, o, rfl, hg, _⟩ := hA 0 (List.length_pos_iff.2 hne)
  have e : (ls.map str).map (·.data.toList) = ls := by
    rw [List.map_map]
    have : ((fun x : ByteArray => x.data.toList) ∘ str) = id := by funext x; exact byt_str x
    rw [this, List.map_id]
  have h := Try.strings_Join g o c (ls.map str) ⟨#[47]⟩ w (fun j x hx => by
    have hj : j < ls.length := by have := (List.getElem?_eq_some_iff.1 hx).1; simpa using this
    obtain ⟨g', o', e1, _, hc⟩ := hA j hj
    injection e1 with e1
    injection e1 with e1 e3
    subst e1
    subst e3
    have e2 : (ls.map str)[j]? = some (str ls[j]) := by simp [hj]
    rw [e2] at hx
    injection hx with hx
    rw [← hx]
    exact hc) hg (by simp; omega) (by simpa using hcap) (by rw [e]; show (Lib.join ls [47]).length ≤ _; rw [join_eq]; omega)
  rw [e, List.length_map] at h
  refine h.mono ?_
  rintro e w' ⟨rfl, hb⟩
  refine ⟨?_, hb⟩
  show Ending.returned (.string (str (Lib.join ls [47]))) = _
  rw [join_eq]
theorem results_to (tmps : Array Value) (w : World) (g : Nat) (x y : Value) (hp : tmps.getD 4 undef = .pointer (some ⟨g, 0, none⟩)) (c0 : w.cell? ⟨g, 0, none⟩ = some x) (c1 : w.cell? ⟨g, 1, none⟩ = some y) :
    (results Try.f90 tmps).run Try.prog w = .ok (.tuple #[.agg #[x, y], tmps.getD 5 undef]) w := by
  have hr : Try.f90.results = #[.cell 4 96, .tmp 5] := rfl
  unfold results
  rw [hr]
  simp at hp
  simp [hp, asAddr, c0, c1, go_sem]

set_option maxRecDepth 100000 in
set_option maxHeartbeats 4000000 in
theorem turnOf_yes (tm : Bool) (ls : List (List UInt8)) (A : Option Addr) (cap : Nat) (w : World) (hA : StO w A ls) (hcap : ls.length ≤ cap) (hok : sumOk ls = true) :
    Calls Try.prog 90 #[.bool tm, .slice A ls.length cap] w fun e w' => e = .returned (.tuple #[tnV tm (joinG ls), .bool true]) ∧ Below w.heap.size w w' := by
  obtain ⟨h1, h3, hgood, hsum⟩ := (sumOk_iff ls).1 hok
  have hG := sumOk_sum hok
  have hlj := hG.le
  have HA := Lib.hid hA
  have HGOOD := Lib.hid hgood
  have HST := Lib.hid (upLen_step ls)
  have HUP : Hid (∀ k, k ≤ ls.length → upLen ls k ≤ 12 * k) := Lib.hid fun k hk => upLen_le ls 12 k hk fun j hj _ => (good_len (hgood _ (List.getElem_mem hj))).2
  have hall : upLen ls ls.length ≤ 10 := by rw [upLen_all]; exact hsum
  have HJ := Lib.hid (fun wx h => join_any ls A cap wx h hG.ne hcap (by omega) (by omega))
  clear hA hgood hG hok hsum hlj
  generalize joinG ls = y at HJ
  show Calls Try.prog 90 #[.bool tm, .slice A ls.length cap] w fun e w' => e = .returned (.tuple #[.agg #[.string (str y), .int .u8 (kd tm).toNat], .bool true]) ∧ Below w.heap.size w w'
  cases tm
  all_goals
    go_enter Try.func90, Try.ntmps90
    go_wp2
    obtain ⟨W1, hW1⟩ : ∃ W1, W1 = w.alloc (Obj.cells #[.string ⟨#[]⟩, .int .u8 0] 96) := ⟨_, rfl⟩
    rw [← hW1]
    have hB1 : Below w.heap.size w W1 := by rw [hW1]; exact (Below.refl _ _).alloc (Nat.le_refl _) _
    have hz : W1.heap.size = w.heap.size + 1 := by rw [hW1]; simp
    have c0 : W1.cell? ⟨w.heap.size, 0, none⟩ = some (.string ⟨#[]⟩) := by rw [hW1, World.cell?_alloc_new]; rfl
    have c1 : W1.cell? ⟨w.heap.size, 1, none⟩ = some (.int .u8 0) := by rw [hW1, World.cell?_alloc_new]; rfl
    have f0 : W1.frozen? ⟨w.heap.size, 0, none⟩ = false := by rw [hW1]; simp
    have f1 : W1.frozen? ⟨w.heap.size, 1, none⟩ = false := by rw [hW1]; simp
    have HA1 := Lib.hid (HA.out.below hB1)
    have HB1 := Lib.hid hB1
    clear hW1 hB1
    go_wp2
    go_loop [6, 21] (fun c i => ∃ k : Nat, k ≤ ls.length ∧ i = .int .i64 k ∧ c = .int .i64 (upLen ls k)) (fun _ i => ls.length - (intOf i).toNat)
    case atStart => exact ⟨0, Nat.zero_le _, rfl, rfl⟩
    case round =>
      obtain ⟨k, hk, rfl, rfl⟩ := hrel
      by_cases hlt : k < ls.length
      · obtain ⟨g, o, rfl, hg, hcell⟩ := HA1.out k hlt
        have hS := Lib.hid (HST.out k hlt)
        have hu := HUP.out k hk
        have hgk := HGOOD.out _ (List.getElem_mem hlt)
        have hx := (good_len hgk).2
        have HIL := Lib.hid (fun wx => isLine_any (str ls[k]) wx (by rw [str_size]; unfold maxLen; omega))
        have HGK := Lib.hid hgk
        clear hgk
        generalize ls[k] = x at hcell hS hx HIL HGK
        have hsx := str_size x
        have i1 : (0 : Int) ≤ (k : Int) := by omega
        have i2 : (k : Int) < (ls.length : Int) := by omega
        go_wp2_with (go_at_call 49; refine (HIL.out _).mono ?_; rintro e w' ⟨rfl, rfl⟩; rw [HGK.out])
        go_round
        case rel => exact ⟨k + 1, by omega, by go_num, by rw [hS.out]; go_num⟩
        case measure => simp [intOf]; omega
      · obtain rfl : k = ls.length := by omega
        go_wp2_with fail
        refine (HJ.out _ HA1.out).mono ?_
        rintro e w2 ⟨rfl, hb2⟩
        have d0 := (hb2.cell (p := ⟨w.heap.size, 0, none⟩) (by show w.heap.size < _; omega)).trans c0
        have d1 := (hb2.cell (p := ⟨w.heap.size, 1, none⟩) (by show w.heap.size < _; omega)).trans c1
        have e0 := (hb2.frozen (p := ⟨w.heap.size, 0, none⟩) (by show w.heap.size < _; omega)).trans f0
        have e1 := (hb2.frozen (p := ⟨w.heap.size, 1, none⟩) (by show w.heap.size < _; omega)).trans f1
        have HB2 := Lib.hid (HB1.out.trans (hb2.mono (by omega)))
        clear hb2 c0 c1 f0 f1
        go_wp2
        (try simp only [Exit.inBlock, Exit.then]); refine bodyPost_ret (results_to _ _ w.heap.size (.string (str y)) (.int .u8 _) rfl ?_ ?_) rfl ⟨rfl, ?_⟩
        · rw [World.cell?_setCell_other _ _ _ _ (by intro e; injection e with _ e; omega)]
          exact World.cell?_setCell_same _ _ _ d0
        · exact World.cell?_setCell_same _ _ _ (by rw [World.cell?_setCell_other _ _ _ _ (by intro e; injection e with _ e; omega)]; exact d1)
        · exact (HB2.out.setCell (Nat.le_refl _) _).setCell (Nat.le_refl _) _

set_option maxRecDepth 100000 in
set_option maxHeartbeats 4000000 in
theorem turnOf_no (tm : Bool) (ls : List (List UInt8)) (A : Option Addr) (cap : Nat) (w : World) (hA : StO w A ls) (hsz : ∀ x ∈ ls, x.length ≤ maxLen) (hok : sumOk ls = false) :
    Calls Try.prog 90 #[.bool tm, .slice A ls.length cap] w fun e w' => e = .returned (.tuple #[.agg #[.string ⟨#[]⟩, .int .u8 0], .bool false]) ∧ Below w.heap.size w w' := by
  have HA := Lib.hid hA
  have HSZ := Lib.hid hsz
  have HST := Lib.hid (upLen_step ls)
  have HBAD : Hid (1 ≤ ls.length → ls.length ≤ 3 → (∀ x ∈ ls, goodL (str x) = true) → 10 < upLen ls ls.length) := Lib.hid fun h1 h3 hg => by
    rw [upLen_all]
    rcases Nat.lt_or_ge 10 (ls.map List.length).sum with h | h
    · exact h
    · rw [(sumOk_iff ls).2 ⟨h1, h3, hg, h⟩] at hok; cases hok
  clear hA hsz hok
  by_cases h13 : ls.length < 1 ∨ 3 < ls.length
  · rcases h13 with h | h
    · have hd : ((ls.length : Int) < 1) := by omega
      go_enter Try.func90, Try.ntmps90
      go_wp2
      obtain ⟨W1, hW1⟩ : ∃ W1, W1 = w.alloc (Obj.cells #[.string ⟨#[]⟩, .int .u8 0] 96) := ⟨_, rfl⟩
      rw [← hW1]
      have HB1 : Hid (Below w.heap.size w W1) := by rw [hW1]; exact Lib.hid ((Below.refl _ _).alloc (Nat.le_refl _) _)
      have hz : W1.heap.size = w.heap.size + 1 := by rw [hW1]; simp
      have c0 : W1.cell? ⟨w.heap.size, 0, none⟩ = some (.string ⟨#[]⟩) := by rw [hW1, World.cell?_alloc_new]; rfl
      have c1 : W1.cell? ⟨w.heap.size, 1, none⟩ = some (.int .u8 0) := by rw [hW1, World.cell?_alloc_new]; rfl
      have f0 : W1.frozen? ⟨w.heap.size, 0, none⟩ = false := by rw [hW1]; simp
      have f1 : W1.frozen? ⟨w.heap.size, 1, none⟩ = false := by rw [hW1]; simp
      have HA1 := Lib.hid (HA.out.below HB1.out)
      clear hW1
      go_wp2
      (try simp only [Exit.inBlock, Exit.then]); refine bodyPost_ret (results_to _ _ w.heap.size (.string ⟨#[]⟩) (.int .u8 0) rfl ?_ ?_) rfl ⟨rfl, ?_⟩
      · first | exact c0 | (rw [World.cell?_setCell_other _ _ _ _ (by intro e; injection e with _ e; omega)]; exact World.cell?_setCell_same _ _ _ c0)
      · first | exact c1 | exact World.cell?_setCell_same _ _ _ (by rw [World.cell?_setCell_other _ _ _ _ (by intro e; injection e with _ e; omega)]; exact c1)
      · first | exact HB1.out | exact (HB1.out.setCell (Nat.le_refl _) _).setCell (Nat.le_refl _) _
    · have hd1 : ¬ ((ls.length : Int) < 1) := by omega
      have hd : ((ls.length : Int) > 3) := by omega
      go_enter Try.func90, Try.ntmps90
      go_wp2
      obtain ⟨W1, hW1⟩ : ∃ W1, W1 = w.alloc (Obj.cells #[.string ⟨#[]⟩, .int .u8 0] 96) := ⟨_, rfl⟩
      rw [← hW1]
      have HB1 : Hid (Below w.heap.size w W1) := by rw [hW1]; exact Lib.hid ((Below.refl _ _).alloc (Nat.le_refl _) _)
      have hz : W1.heap.size = w.heap.size + 1 := by rw [hW1]; simp
      have c0 : W1.cell? ⟨w.heap.size, 0, none⟩ = some (.string ⟨#[]⟩) := by rw [hW1, World.cell?_alloc_new]; rfl
      have c1 : W1.cell? ⟨w.heap.size, 1, none⟩ = some (.int .u8 0) := by rw [hW1, World.cell?_alloc_new]; rfl
      have f0 : W1.frozen? ⟨w.heap.size, 0, none⟩ = false := by rw [hW1]; simp
      have f1 : W1.frozen? ⟨w.heap.size, 1, none⟩ = false := by rw [hW1]; simp
      have HA1 := Lib.hid (HA.out.below HB1.out)
      clear hW1
      go_wp2
      (try simp only [Exit.inBlock, Exit.then]); refine bodyPost_ret (results_to _ _ w.heap.size (.string ⟨#[]⟩) (.int .u8 0) rfl ?_ ?_) rfl ⟨rfl, ?_⟩
      · first | exact c0 | (rw [World.cell?_setCell_other _ _ _ _ (by intro e; injection e with _ e; omega)]; exact World.cell?_setCell_same _ _ _ c0)
      · first | exact c1 | exact World.cell?_setCell_same _ _ _ (by rw [World.cell?_setCell_other _ _ _ _ (by intro e; injection e with _ e; omega)]; exact c1)
      · first | exact HB1.out | exact (HB1.out.setCell (Nat.le_refl _) _).setCell (Nat.le_refl _) _
  · obtain ⟨h1, h3⟩ : 1 ≤ ls.length ∧ ls.length ≤ 3 := by omega
    have HBAD2 := Lib.hid (HBAD.out h1 h3)
    go_enter Try.func90, Try.ntmps90
    go_wp2
    obtain ⟨W1, hW1⟩ : ∃ W1, W1 = w.alloc (Obj.cells #[.string ⟨#[]⟩, .int .u8 0] 96) := ⟨_, rfl⟩
    rw [← hW1]
    have HB1 : Hid (Below w.heap.size w W1) := by rw [hW1]; exact Lib.hid ((Below.refl _ _).alloc (Nat.le_refl _) _)
    have hz : W1.heap.size = w.heap.size + 1 := by rw [hW1]; simp
    have c0 : W1.cell? ⟨w.heap.size, 0, none⟩ = some (.string ⟨#[]⟩) := by rw [hW1, World.cell?_alloc_new]; rfl
    have c1 : W1.cell? ⟨w.heap.size, 1, none⟩ = some (.int .u8 0) := by rw [hW1, World.cell?_alloc_new]; rfl
    have f0 : W1.frozen? ⟨w.heap.size, 0, none⟩ = false := by rw [hW1]; simp
    have f1 : W1.frozen? ⟨w.heap.size, 1, none⟩ = false := by rw [hW1]; simp
    have HA1 := Lib.hid (HA.out.below HB1.out)
    clear hW1
    go_wp2
    go_loop [6, 21] (fun c i => ∃ k : Nat, k ≤ ls.length ∧ i = .int .i64 k ∧ c = .int .i64 (upLen ls k) ∧ upLen ls k ≤ 12 * k ∧ Hid (∀ j (h : j < ls.length), j < k → goodL (str ls[j]) = true)) (fun _ i => ls.length - (intOf i).toNat)
    case atStart => exact ⟨0, Nat.zero_le _, rfl, rfl, by simp [upLen], Lib.hid fun j _ h => by omega⟩
    case round =>
      obtain ⟨k, hk, rfl, rfl, hu, HG⟩ := hrel
      by_cases hlt : k < ls.length
      · obtain ⟨g, o, rfl, hg, hcell⟩ := HA1.out k hlt
        have hS := Lib.hid (HST.out k hlt)
        have hx := HSZ.out _ (List.getElem_mem hlt)
        have HIL := Lib.hid (fun wx => isLine_any (str ls[k]) wx (by rw [str_size]; exact hx))
        have i1 : (0 : Int) ≤ (k : Int) := by omega
        have i2 : (k : Int) < (ls.length : Int) := by omega
        cases hgk : goodL (str ls[k])
        · have HGK := Lib.hid hgk
          clear hgk hS hx
          generalize ls[k] = x at hcell HIL HGK
          go_wp2_with (go_at_call 49; refine (HIL.out _).mono ?_; rintro e w' ⟨rfl, rfl⟩; rw [HGK.out])
          (try simp only [Exit.inBlock, Exit.then]); refine bodyPost_ret (results_to _ _ w.heap.size (.string ⟨#[]⟩) (.int .u8 0) rfl ?_ ?_) rfl ⟨rfl, ?_⟩
          · first | exact c0 | (rw [World.cell?_setCell_other _ _ _ _ (by intro e; injection e with _ e; omega)]; exact World.cell?_setCell_same _ _ _ c0)
          · first | exact c1 | exact World.cell?_setCell_same _ _ _ (by rw [World.cell?_setCell_other _ _ _ _ (by intro e; injection e with _ e; omega)]; exact c1)
          · first | exact HB1.out | exact (HB1.out.setCell (Nat.le_refl _) _).setCell (Nat.le_refl _) _
        · have HGK := Lib.hid hgk
          have hx12 := (good_len hgk).2
          have HG2 : Hid (∀ j (h : j < ls.length), j < k + 1 → goodL (str ls[j]) = true) := Lib.hid fun j hj hjk => by
            by_cases e : j = k
            · subst e; exact hgk
            · exact HG.out j hj (by omega)
          have hu2 : upLen ls k + ls[k].length ≤ 12 * (k + 1) := by omega
          clear hgk hx
          generalize ls[k] = x at hcell hS HIL HGK hx12 hu2
          have hsx := str_size x
          go_wp2_with (go_at_call 49; refine (HIL.out _).mono ?_; rintro e w' ⟨rfl, rfl⟩; rw [HGK.out])
          go_round
          case rel => exact ⟨k + 1, by omega, by go_num, by rw [hS.out]; go_num, by rw [hS.out]; exact hu2, HG2⟩
          case measure => simp [intOf]; omega
      · obtain rfl : k = ls.length := by omega
        have hbad := HBAD2.out fun x hx => by
          obtain ⟨j, hj, rfl⟩ := List.getElem_of_mem hx
          exact HG.out j hj hj
        have hd : ((upLen ls ls.length : Int) > 10) := by omega
        go_wp2
        (try simp only [Exit.inBlock, Exit.then]); refine bodyPost_ret (results_to _ _ w.heap.size (.string ⟨#[]⟩) (.int .u8 0) rfl ?_ ?_) rfl ⟨rfl, ?_⟩
        · first | exact c0 | (rw [World.cell?_setCell_other _ _ _ _ (by intro e; injection e with _ e; omega)]; exact World.cell?_setCell_same _ _ _ c0)
        · first | exact c1 | exact World.cell?_setCell_same _ _ _ (by rw [World.cell?_setCell_other _ _ _ _ (by intro e; injection e with _ e; omega)]; exact c1)
        · first | exact HB1.out | exact (HB1.out.setCell (Nat.le_refl _) _).setCell (Nat.le_refl _) _
end Go.Proofs.Yticdhapbkfbhjaa
namespace Go.Proofs.Yticdhapbkfbhjaa
open Go.RowKit Go.Maps Go.Shelf

abbrev knB : Obj := Obj.cells #[.slice none 0 0, .slice none 0 0] 128
theorem sumOk_one (wl : List UInt8) : sumOk [wl] = fewB (str wl) := by
  unfold sumOk fewB
  rw [str_size]
  simp
theorem KnW.ex {W : World} {B L k : Nat} {ks : List (List UInt8)} (h : KnW W B L ks) (he : Ex B W k) : B ≤ k ∧ k < W.heap.size := by
  obtain ⟨bs, vs, vw, h⟩ := h
  exact h.ex_in k he
/-- What is known at a box that was just made, and something made behind it. -/
theorem new_box (w : World) (o : Obj) (L : Nat) : KnW ((w.alloc knB).alloc o) w.heap.size L [] ∧ ∀ k, Ex w.heap.size ((w.alloc knB).alloc o) k → k = w.heap.size := by
  have h0 := KnW.new w L
  have hb : Below (w.alloc knB).heap.size (w.alloc knB) ((w.alloc knB).alloc o) := (Below.refl _ _).alloc (Nat.le_refl _) _
  refine ⟨h0.below hb, fun k he => ?_⟩
  obtain ⟨bs, vs, vw, h⟩ := h0
  have h1 := h.ex_old hb he
  have h2 := (h.below hb).ex_in k he
  simp at h1
  omega
/-- A call of win, and what lies below its box. -/
theorem win_below (B L : Nat) (tm : Bool) (ls : List (List UInt8)) (A : Option Addr) (cap : Nat) (W : World) (ks : List (List UInt8)) (hs : SumG L ls) (hA : StO W A ls) (hx : ∀ a, A = some a → ¬ Ex B W a.block) (hK : KnW W B L ks) :
    Calls Try.prog 111 #[.pointer (some ⟨B, 0, none⟩), .slice A ls.length cap, .bool tm] W fun e W' => e = .returned (.bool (Wn tm (joinG ls))) ∧ (∃ ks', KnW W' B L ks') ∧ KpX B W W' ∧ Below B W W' := by
  refine (win_any _ B L tm ls A cap W ks rfl hs hA hx hK).mono ?_
  rintro e w' ⟨rfl, ks', h1, _, h3⟩
  have hB : B < W.heap.size := by obtain ⟨_, _, _, h⟩ := hK; exact h.lt
  exact ⟨rfl, ⟨ks', h1⟩, h3, h3.to_below (Nat.le_of_lt hB) fun k he => (hK.ex he).1⟩
theorem one_slice (w : World) (wl : List UInt8) : StO (w.alloc (.cells #[.string (str wl)] 9)) (some ⟨w.heap.size, 0, none⟩) [wl] := fun k hk => by
  obtain rfl : k = 0 := by simpa using hk
  exact ⟨w.heap.size, 0, rfl, by simp, by rw [World.cell?_alloc_new]; rfl⟩

/-- The outcome out of who wins. -/
def outC (a b : Bool) : UInt8 := if a && b then 49 else if a then 84 else if b then 70 else 50
set_option maxHeartbeats 4000000 in
theorem gaOutcome_any (ls : List (List UInt8)) (A : Option Addr) (cap : Nat) (w : World) (hA : StO w A ls) (hAl : ∀ a, A = some a → a.block < w.heap.size) (hok : sumOk ls = true) :
    Calls Try.prog 89 #[.slice A ls.length cap] w fun e w' => e = .returned (.string (str [outC (Wn true (joinG ls)) (Wn false (joinG ls))])) ∧ Below w.heap.size w w' := by
  have hG := sumOk_sum hok
  have hb : Below w.heap.size w (w.alloc knB) := (Below.refl _ _).alloc (Nat.le_refl _) _
  have hK := KnW.new w (joinG ls).length
  have hA1 := hA.below hb
  have hx : ∀ a, A = some a → ¬ Ex w.heap.size (w.alloc knB) a.block := fun a e he => by
    have := hAl a e
    have := (hK.ex he).1
    omega
  have hBl : w.heap.size < (w.alloc knB).heap.size := by simp
  have HW1 := Lib.hid (win_below w.heap.size _ true ls A cap _ [] hG hA1 hx hK)
  have HW2 : Hid (∀ W, (∃ ks', KnW W w.heap.size (joinG ls).length ks') → KpX w.heap.size (w.alloc knB) W → Calls Try.prog 111 #[.pointer (some ⟨w.heap.size, 0, none⟩), .slice A ls.length cap, .bool false] W fun e W' => e = .returned (.bool (Wn false (joinG ls))) ∧ Below w.heap.size W W') := Lib.hid fun W ⟨ks', hK'⟩ hkp => by
    refine (win_below w.heap.size _ false ls A cap W ks' hG (hA1.kp hkp hx) (fun a e he => hx a e (hkp.ex _ (by have := hAl a e; omega) he)) hK').mono ?_
    rintro e w' ⟨rfl, _, _, hb⟩
    exact ⟨rfl, hb⟩
  clear hA hA1 hG hok hK hx
  generalize Wn true (joinG ls) = a at HW1
  generalize Wn false (joinG ls) = b at HW2
  cases a <;> cases b
  all_goals
    go_enter Try.func89, Try.ntmps89
    go_wp2_with fail
    refine HW1.out.mono ?_
    rintro e w1 ⟨rfl, hk1, hp1, hb1⟩
    have HK1 := Lib.hid hk1
    have HP1 := Lib.hid hp1
    have HB1 := Lib.hid hb1
    clear hk1 hp1 hb1
    go_wp2_with fail
    refine (HW2.out _ HK1.out HP1.out).mono ?_
    rintro e w2 ⟨rfl, hb2⟩
    go_wp2
    go_ret
    exact ⟨rfl, hb.trans (HB1.out.trans hb2)⟩
/-- Whether an outcome is a second one's win. -/
theorem outC_two (a b : Bool) : ((str [outC a b]).toList == [50]) = (!a && !b) := by
  have h := same_str [outC a b] [50]
  have e : (str [50]).toList = [50] := by rw [Lib.toList_data]; rfl
  rw [e] at h
  rw [h]
  cases a <;> cases b <;> decide
end Go.Proofs.Yticdhapbkfbhjaa
namespace Go.Proofs.Yticdhapbkfbhjaa
open Go.RowKit Go.Maps Go.Shelf

theorem SumG.sigT {L : Nat} {ls : List (List UInt8)} (h : SumG L ls) : sigT L (joinG ls) := ⟨h.len, joinG_sig ls h.good⟩

theorem winning_ex (L : Nat) (w : World) :
    Calls Try.prog 63 #[] w fun e w' => ∃ B Bt Br Bs, e = .returned (telV Bt Br Bs) ∧ TellI w' L B Bt Br Bs ∧ w.heap.size ≤ B ∧ Below w.heap.size w w' :=
  (winning_any L w).mono fun _ _ ⟨he, h1, h2⟩ => ⟨_, _, _, _, he, h1, Nat.le_succ _, h2⟩
end Go.Proofs.Yticdhapbkfbhjaa
namespace Go.Proofs.Yticdhapbkfbhjaa
open Go.RowKit Go.Maps Go.Shelf

/-- The outcome's index out of who wins. -/
def outI (a b : Bool) : Int := if a && b then 0 else if a then 3 else if b then 2 else 1

set_option maxRecDepth 100000 in
set_option maxHeartbeats 4000000 in
theorem outcomeOf_no (Bt Br Bs : Nat) (ls : List (List UInt8)) (A : Option Addr) (cap : Nat) (w : World) (hA : StO w A ls) (hsz : ∀ x ∈ ls, x.length ≤ maxLen) (hf : sumOk ls = false) :
    Calls Try.prog 62 #[telV Bt Br Bs, .slice A ls.length cap] w fun e w' => e = .returned (.tuple #[.int .i64 0, .bool false]) ∧ Below w.heap.size w w' := by
  have HT := Lib.hid (turnOf_no true ls A cap w hA hsz hf)
  clear hf hA
  go_enter Try.func62, Try.ntmps62
  go_wp2_with fail
  refine HT.out.mono ?_
  rintro e w1 ⟨rfl, hb1⟩
  go_wp2
  go_ret2
  exact ⟨rfl, hb1.alloc hb1.size _⟩
set_option maxRecDepth 100000 in
set_option maxHeartbeats 4000000 in
theorem outcomeOf_yes (L B Bt Br Bs : Nat) (ls : List (List UInt8)) (A : Option Addr) (cap : Nat) (w : World) (hL : (joinG ls).length = L) (hA : StO w A ls) (hcap : ls.length ≤ cap) (hf : sumOk ls = true) (hI : TellI w L B Bt Br Bs) :
    Calls Try.prog 62 #[telV Bt Br Bs, .slice A ls.length cap] w fun e w' => e = .returned (.tuple #[.int .i64 (outI (Wn true (joinG ls)) (Wn false (joinG ls))), .bool true]) ∧ TellI w' L B Bt Br Bs ∧ KpM B w w' := by
  have hTA : ∀ tm wx, StO wx A ls → Calls Try.prog 90 #[.bool tm, .slice A ls.length cap] wx fun e w' => e = .returned (.tuple #[.agg #[.string (str (joinG ls)), .int .u8 (kd tm).toNat], .bool true]) ∧ Below wx.heap.size wx w' := fun tm wx h => turnOf_yes tm ls A cap wx h hcap hf
  have hG := sumOk_sum hf
  have hL12 := hG.le
  have hsig := hG.sigT
  rw [hL] at hL12 hsig
  have HA := Lib.hid hA
  have HI := Lib.hid hI
  have hBl := hI.map.lt
  have hTE : ∀ tm wx, TellI wx L B Bt Br Bs → Calls Try.prog 113 #[.agg #[.string (str (joinG ls)), .int .u8 (kd tm).toNat], .pointer (some ⟨Bt, 0, none⟩), .pointer (some ⟨Br, 0, none⟩), .pointer (some ⟨Bs, 0, none⟩)] wx fun e w' => e = .returned (.bool (Wn tm (joinG ls))) ∧ TellI w' L B Bt Br Bs ∧ KpM B wx w' := fun tm wx h => tell_any L B Bt Br Bs hL12 _ tm (joinG ls) wx rfl hsig h
  clear hf hA hG hI hL hsig
  have HTA := Lib.hid (hTA true)
  have HTB := Lib.hid (hTA false)
  have HT1 := Lib.hid (hTE true)
  have HT2 := Lib.hid (hTE false)
  clear hTA hTE
  generalize Wn true (joinG ls) = a at HT1 ⊢
  generalize Wn false (joinG ls) = b at HT2 ⊢
  generalize (kd true).toNat = c1 at HTA HT1
  generalize (kd false).toNat = c2 at HTB HT2
  generalize str (joinG ls) = y at HTA HTB HT1 HT2
  cases a <;> cases b
  all_goals
    go_enter Try.func62, Try.ntmps62
    go_wp2_with fail
    refine (HTA.out _ HA.out).mono ?_
    rintro e w1 ⟨rfl, hb1⟩
    have hA1 := (HA.out.below hb1).below ((Below.refl _ w1).alloc (Nat.le_refl _) (Obj.cells #[.string y, .int .u8 c1] 96))
    have hz1 := hb1.size
    go_wp2_with fail
    refine (HTB.out _ hA1).mono ?_
    rintro e w2 ⟨rfl, hb2⟩
    have hz2 := hb2.size
    simp at hz2
    obtain ⟨W3, hW3⟩ : ∃ W3, W3 = w2.alloc (Obj.cells #[.string y, .int .u8 c2] 96) := ⟨_, rfl⟩
    have c60 : W3.cell? ⟨w1.heap.size, 0, none⟩ = some (.string y) := by rw [hW3, cell_old _ _ _ _ (by omega), hb2.cell (p := ⟨w1.heap.size, 0, none⟩) (by simp), World.cell?_alloc_new]; rfl
    have c61 : W3.cell? ⟨w1.heap.size, 1, none⟩ = some (.int .u8 c1) := by rw [hW3, cell_old _ _ _ _ (by omega), hb2.cell (p := ⟨w1.heap.size, 1, none⟩) (by simp), World.cell?_alloc_new]; rfl
    have c80 : W3.cell? ⟨w2.heap.size, 0, none⟩ = some (.string y) := by rw [hW3, World.cell?_alloc_new]; rfl
    have c81 : W3.cell? ⟨w2.heap.size, 1, none⟩ = some (.int .u8 c2) := by rw [hW3, World.cell?_alloc_new]; rfl
    have hz3 : W3.heap.size = w2.heap.size + 1 := by rw [hW3]; simp
    have HB3 : Hid (Below w.heap.size w W3) := by
      rw [hW3]
      exact Lib.hid (((hb1.alloc hz1 _).trans (hb2.mono (by simp; omega))).alloc (by omega) _)
    have HI3 : TellI W3 L B Bt Br Bs := HI.out.below HB3.out
    have z6 : w1.heap.size < W3.heap.size := by omega
    have z8 : w2.heap.size < W3.heap.size := by omega
    have n6 : w1.heap.size ≠ B := by omega
    have n8 : w2.heap.size ≠ B := by omega
    clear hb1 hb2 hA1
    go_wp2
    rw [← hW3]
    clear hW3
    go_region_held3 (fun w' => w'.cell? ⟨w1.heap.size, 0, none⟩ = some (.string y) ∧ w'.cell? ⟨w1.heap.size, 1, none⟩ = some (.int .u8 c1) ∧ w'.cell? ⟨w2.heap.size, 0, none⟩ = some (.string y) ∧ w'.cell? ⟨w2.heap.size, 1, none⟩ = some (.int .u8 c2)) (first | exact ⟨c60, c61, c80, c81⟩ | exact ⟨(hk4.cell z6 n6).trans c60, (hk4.cell z6 n6).trans c61, (hk4.cell z8 n8).trans c80, (hk4.cell z8 n8).trans c81⟩ | exact ⟨((hk4.trans hk5).cell z6 n6).trans c60, ((hk4.trans hk5).cell z6 n6).trans c61, ((hk4.trans hk5).cell z8 n8).trans c80, ((hk4.trans hk5).cell z8 n8).trans c81⟩) (first | (go_at_call 113; with_reducible refine (HT1.out _ (by first | exact HI3.below (Below.drew (Below.refl _ _)) | exact HI3.below (below_drewN (Below.refl _ _) _) | exact HI3)).mono ?_; rintro e w4 ⟨rfl, hI4, hk4⟩) | (go_at_call 113; with_reducible refine (HT2.out _ hI4).mono ?_; rintro e w5 ⟨rfl, hI5, hk5⟩))
    go_wp2
    go_ret2
    exact ⟨rfl, hI5, (KpM.below (Below.drew HB3.out)).trans (hk4.trans hk5)⟩

end Go.Proofs.Yticdhapbkfbhjaa
