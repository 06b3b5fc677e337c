/- Contracts: the best clue, the model's; slices.Min and slices.Index at ints. -/
import Derived.Test.YthhmaohnibdbnaaGreatPzS
namespace Go.Proofs.YthhmaohnibdbnaaGreat
open Go.RowKit

set_option maxRecDepth 100000 in
set_option maxHeartbeats 2000000 in
/-- slices.Min at ints. -/
theorem minN_any (L : List Int) (hpos : 0 < L.length) (hl : L.length ≤ 60000) (A : Option Addr) (c : Nat) (w : World) (hat : InAt w A L) :
    Calls Tryz.prog 55 #[.slice A L.length c] w fun e w' => ∃ m, e = .returned (.int .i64 m) ∧ m ∈ L ∧ (∀ x, x ∈ L → m ≤ x) ∧ w = w' := by
  obtain ⟨g, o, rfl, hg, c0⟩ := hat 0 hpos
  rw [Nat.add_zero] at c0
  have HAT := Lib.hid hat
  have HNE : Hid (L.take 1 = [L[0]]) := Lib.hid (by rw [List.take_one, List.head?_eq_getElem?, List.getElem?_eq_getElem hpos]; rfl)
  obtain ⟨x0, hx0⟩ : ∃ x, L[0] = x := ⟨_, rfl⟩
  rw [hx0] at c0 HNE
  clear hat hx0
  go_enter Tryz.func55, Tryz.ntmps55
  go_wp2
  go_loop [3, 4] (fun m t => ∃ (k : Nat) (y : Int), 1 ≤ k ∧ k ≤ L.length ∧ t = .int .i64 k ∧ m = .int .i64 y ∧ y ∈ L.take k ∧ ∀ x, x ∈ L.take k → y ≤ x) (fun _ t => L.length - (intOf t).toNat)
  case atStart => exact ⟨1, x0, Nat.le_refl _, hpos, rfl, rfl, by rw [HNE.out]; simp, fun x hx => by rw [HNE.out] at hx; simp at hx; omega⟩
  case round =>
    obtain ⟨k, y, h1, hk, rfl, rfl, hy, hall⟩ := hrel
    by_cases hlt : k < L.length
    · obtain ⟨g', o', e, _, ck⟩ := HAT.out k hlt
      injection e with e
      injection e with e1 e2
      subst e1; subst e2
      have HT : Hid (L.take (k + 1) = L.take k ++ [L[k]]) := Lib.hid (List.take_succ_eq_append_getElem hlt)
      generalize L[k] = z at ck HT
      have HALL := Lib.hid hall
      have HY := Lib.hid hy
      clear hall hy
      go_wp2
      refine ⟨⟨k + 1, min y z, by omega, by omega, by go_num, rfl, ?_, fun x hx => ?_⟩, by simp [intOf]; omega⟩
      · rw [HT.out]
        rcases Int.le_total y z with h | h
        · rw [show min y z = y by omega]; exact List.mem_append.2 (.inl HY.out)
        · rw [show min y z = z by omega]; simp
      · rw [HT.out, List.mem_append] at hx
        rcases hx with hx | hx
        · have := HALL.out x hx; omega
        · obtain rfl : x = z := by simpa using hx
          omega
    · obtain rfl : k = L.length := by omega
      rw [List.take_length] at hy hall
      go_wp2
      go_ret
      exact ⟨y, rfl, hy, hall, rfl⟩

set_option maxRecDepth 100000 in
set_option maxHeartbeats 2000000 in
/-- slices.Index at ints: the first place of what is there. -/
theorem indexN_any (L : List Int) (y : Int) (hl : L.length ≤ 60000) (A : Option Addr) (c : Nat) (w : World) (hat : InAt w A L) (hy : y ∈ L) :
    Calls Tryz.prog 54 #[.slice A L.length c, .int .i64 y] w fun e w' => ∃ j : Nat, e = .returned (.int .i64 j) ∧ j < L.length ∧ (L.getD j 0 = y) ∧ (∀ i, i < j → L.getD i 0 ≠ y) ∧ Below w.heap.size w w' := by
  have HAT := Lib.hid hat
  have HY := Lib.hid hy
  clear hat hy
  go_enter Tryz.func54, Tryz.ntmps54
  go_wp2
  go_loopw [8] (fun i wr => ∃ k : Nat, k ≤ L.length ∧ i = .int .i64 k ∧ Hid (∀ j, j < k → L.getD j 0 ≠ y) ∧ Below w.heap.size w wr) (fun i _ => L.length - (intOf i).toNat)
  case atStart => exact ⟨0, Nat.zero_le _, rfl, Lib.hid fun j h => by omega, Below.refl _ _⟩
  case round =>
    obtain ⟨k, hk, rfl, HNO, hB⟩ := hrel
    by_cases hlt : k < L.length
    · obtain ⟨g, o, rfl, hg, ck⟩ := (HAT.out.below hB) k hlt
      have HG : Hid (L.getD k 0 = L[k]) := Lib.hid (by simp [List.getD_eq_getElem?_getD, hlt])
      have i1 : (0 : Int) ≤ (k : Int) := by omega
      have i2 : (k : Int) < (L.length : Int) := by omega
      generalize L[k] = z at ck HG
      by_cases hyz : y = z
      · subst hyz
        go_wp2
        go_ret
        exact ⟨k, rfl, hlt, HG.out, HNO.out, hB⟩
      · go_wp2
        go_roundw
        case rel => exact ⟨k + 1, by omega, by go_num, Lib.hid fun j hj => (by
          by_cases e : j = k
          · subst e; rw [HG.out]; exact fun h => hyz h.symm
          · exact HNO.out j (by omega)), hB⟩
        case measure => simp [intOf]; omega
    · exfalso
      obtain ⟨j, hj, rfl⟩ := List.getElem_of_mem HY.out
      exact HNO.out j (by omega) (by simp [List.getD_eq_getElem?_getD, hj])

/-- How many lines fit one clue alone. -/
def cnI (n : Nat) (l : List Cl) (j : Nat) : Int := ((solL n ((l.drop j).take 1)).length : Int)
/-- The first of the clues that the fewest lines fit. -/
def bestN (n : Nat) (l : List Cl) : Nat → Nat
  | 0 => 0
  | k + 1 => if k = 0 ∨ cnI n l k < cnI n l (bestN n l k) then k else bestN n l k
theorem bestN_is (n : Nat) (l : List Cl) : ∀ k, 0 < k → bestN n l k < k ∧ (∀ j, j < k → cnI n l (bestN n l k) ≤ cnI n l j) ∧ ∀ j, j < bestN n l k → cnI n l (bestN n l k) < cnI n l j
  | 0, h => by omega
  | 1, _ => by
    have e : bestN n l 1 = 0 := by simp [bestN]
    rw [e]
    refine ⟨by omega, fun j hj => ?_, fun j hj => by omega⟩
    obtain rfl : j = 0 := by omega
    omega
  | k + 2, _ => by
    obtain ⟨h1, h2, h3⟩ := bestN_is n l (k + 1) (by omega)
    have e : bestN n l (k + 2) = if k + 1 = 0 ∨ cnI n l (k + 1) < cnI n l (bestN n l (k + 1)) then k + 1 else bestN n l (k + 1) := rfl
    rw [e]
    by_cases hc : cnI n l (k + 1) < cnI n l (bestN n l (k + 1))
    · rw [if_pos (.inr hc)]
      refine ⟨by omega, fun j hj => ?_, fun j hj => ?_⟩
      · by_cases ej : j = k + 1
        · subst ej; omega
        · have := h2 j (by omega); omega
      · have := h2 j (by omega); omega
    · rw [if_neg (by omega)]
      refine ⟨by omega, fun j hj => ?_, h3⟩
      by_cases ej : j = k + 1
      · subst ej; omega
      · exact h2 j (by omega)
/-- What the answer of BestClue is. -/
def bestOk (n : Int) (l : List Cl) : Bool := goodP n l && !l.isEmpty
def bestV (n : Int) (l : List Cl) : Value := .tuple #[.int .i64 (if bestOk n l then ((bestN n.toNat l l.length : Nat) : Int) else 0), .bool (bestOk n l)]

set_option maxRecDepth 100000 in
set_option maxHeartbeats 4000000 in
theorem sBestClue_any (n : Int) (l : List Cl) (g o c : Nat) (w : World) (hin : ClIn w (some ⟨g, o, none⟩) l) (hl : l.length ≤ 2000000) (hc : l.length ≤ c) (hc2 : c ≤ l.length) (hgo : g < w.heap.size) :
    Calls Tryz.prog 36 #[.agg #[.int .i64 n, .slice (some ⟨g, o, none⟩) l.length c]] w fun e w' => e = .returned (bestV n l) ∧ Below w.heap.size w w' := by
  obtain ⟨W0, hW0⟩ : ∃ W0, W0 = w.alloc (Obj.cells #[.int .i64 n, .slice (some ⟨g, o, none⟩) l.length c] 31) := ⟨_, rfl⟩
  have hB0 : Below w.heap.size w W0 := by rw [hW0]; exact (Below.refl _ _).alloc (Nat.le_refl _) _
  have p0 : W0.cell? ⟨w.heap.size, 0, none⟩ = some (.int .i64 n) := by rw [hW0, cell_new' _ _ _ _ _ rfl]; rfl
  have p1 : W0.cell? ⟨w.heap.size, 1, none⟩ = some (.slice (some ⟨g, o, none⟩) l.length c) := by rw [hW0, cell_new' _ _ _ _ _ rfl]; rfl
  have hz : w.heap.size < W0.heap.size := by rw [hW0]; simp
  have HG := Lib.hid (pzGood_any n l (some ⟨g, o, none⟩) c W0 (hin.below hB0) hl)
  obtain ⟨V, hV⟩ : ∃ V, V = bestV n l := ⟨_, rfl⟩
  rw [← hV]
  unfold bestV bestOk at hV
  cases hg : goodP n l
  · rw [hg] at HG
    have HVV : Hid (V = .tuple #[.int .i64 0, .bool false]) := Lib.hid (by rw [hV, hg]; rfl)
    clear hg hV
    go_enter Tryz.func36, Tryz.ntmps36
    go_wp2_with fail
    rw [← hW0]
    clear hW0
    refine HG.out.mono ?_
    rintro e w1 ⟨rfl, hb1⟩
    have HB := Lib.hid (hB0.trans (hb1.mono hB0.size))
    clear hb1
    go_wp2_with fail
    go_ret2
    exact ⟨congrArg Ending.returned HVV.out.symm, HB.out⟩
  · rw [hg] at HG
    obtain ⟨m, rfl, h15⟩ := goodP_nat hg
    have hl6 := goodP_few hg
    by_cases hl0 : l.length = 0
    · have HVV : Hid (V = .tuple #[.int .i64 0, .bool false]) := Lib.hid (by rw [hV, List.eq_nil_of_length_eq_zero hl0]; simp)
      have HL0 : Hid ((l.length : Int) = 0) := Lib.hid (by omega)
      clear hg hV hl0
      go_enter Tryz.func36, Tryz.ntmps36
      go_wp2_with fail
      rw [← hW0]
      clear hW0
      refine HG.out.mono ?_
      rintro e w1 ⟨rfl, hb1⟩
      have q0 := ((bcell hb1).1 _ _ hz).trans p0
      have q1 := ((bcell hb1).1 _ _ hz).trans p1
      have HB := Lib.hid (hB0.trans (hb1.mono hB0.size))
      have hl0 := HL0.out
      clear hb1
      go_wp2_with fail
      go_ret2
      exact ⟨congrArg Ending.returned HVV.out.symm, HB.out⟩
    · have hpos : 0 < l.length := by omega
      have hl0i : (l.length : Int) ≠ 0 := by omega
      have HVV : Hid (V = .tuple #[.int .i64 ((bestN m l l.length : Nat) : Int), .bool true]) := Lib.hid (by
        have e : l.isEmpty = false := by cases l with | nil => simp at hpos | cons a b => rfl
        rw [hV, hg, e]; rfl)
      have HI := Lib.hid (hin.below hB0)
      have HPK := Lib.hid (fun k (hk : k < l.length) A c wx (h : ClIn wx A ((l.drop k).take 1)) (ho : ∀ a, A = some a → a.block < wx.heap.size) => by
        have h := pzAll_any m ((l.drop k).take 1) A c wx h15 (fun x hx => goodP_ok hg x (List.mem_of_mem_drop (List.mem_of_mem_take hx))) (by rw [List.length_take]; omega) h ho
        rw [show ((l.drop k).take 1).length = 1 by rw [List.length_take, List.length_drop]; omega] at h
        exact h)
      clear hg hV hin hl
      go_enter Tryz.func36, Tryz.ntmps36
      go_wp2_with fail
      rw [← hW0]
      clear hW0
      refine HG.out.mono ?_
      rintro e w1 ⟨rfl, hb1⟩
      have q0 := ((bcell hb1).1 _ _ hz).trans p0
      have q1 := ((bcell hb1).1 _ _ hz).trans p1
      have HB1 := Lib.hid hb1
      clear hb1
      go_wp2_with fail
      rw [show ((l.length : Int) == 0) = false by simpa using hl0]
      go_loopw [4, 5, 6, 7, 20] (fun b t _ _ i wr => ∃ k : Nat, k ≤ l.length ∧ i = .int .i64 k ∧ b = .int .i64 (bestN m l k : Nat) ∧ t = .int .i64 (if k = 0 then 0 else cnI m l (bestN m l k)) ∧ Below W0.heap.size W0 wr) (fun _ _ _ _ i _ => l.length - (intOf i).toNat)
      case atStart => exact ⟨0, Nat.zero_le _, rfl, rfl, rfl, HB1.out⟩
      case round =>
        obtain ⟨k, hk, rfl, rfl, rfl, hbr⟩ := hrel
        by_cases hlt : k < l.length
        · have i1 : (0 : Int) ≤ (k : Int) := by omega
          have i2 : (k : Int) < (l.length : Int) := by omega
          have i3 : (k : Int) + 1 ≤ (c : Int) := by omega
          have i4 : (0 : Int) ≤ (k : Int) + 1 := by omega
          have i5 : (k : Int) ≤ (k : Int) + 1 := by omega
          have i6 : IntKind.i64.wrap ((k : Int) + 1) = (k : Int) + 1 := by rw [IntKind.wrap_i64]; omega
          have i7 : (c == k) = false := by simp; omega
          have i8 : ¬ c = k := by omega
          have r0 := ((bcell hbr).1 _ _ hz).trans p0
          have r1 := ((bcell hbr).1 _ _ hz).trans p1
          have zr := hbr.size
          have HBR := Lib.hid hbr
          have HIR := Lib.hid (((HI.out.below hbr).drop k).take 1)
          clear hbr q0 q1
          have HPKk := Lib.hid (HPK.out k hlt)
          have HCN : Hid (cnI m l k = ((solL m ((l.drop k).take 1)).length : Int)) := Lib.hid rfl
          generalize solL m ((l.drop k).take 1) = L2 at HPKk HCN
          have HN1 : Hid (bestN m l (k + 1) = if k = 0 ∨ cnI m l k < cnI m l (bestN m l k) then k else bestN m l k) := Lib.hid rfl
          rw [HCN.out] at HN1
          generalize hxn : bestN m l k = bk at *
          generalize hxb : cnI m l bk = xb at *
          have HXB := Lib.hid hxb
          clear hxb hxn
          have HT0 : Hid (k ≠ 0 → (if k = 0 then 0 else xb) = xb) := Lib.hid fun h => by rw [if_neg h]
          generalize (if k = 0 then 0 else xb) = tv at *
          clear HPK
          go_wp2_with fail
          go_region_held3 (fun w' => w'.cell? ⟨w.heap.size, 0, none⟩ = some (.int .i64 m) ∧ w'.cell? ⟨w.heap.size, 1, none⟩ = some (.slice (some ⟨g, o, none⟩) l.length c)) (first | exact ⟨r0, r1⟩ | exact ⟨(hx2.cell (by simp; omega)).trans r0, (hx2.cell (by simp; omega)).trans r1⟩) (first | (go_at_call 43; refine (HPKk.out _ _ _ (clin_drew HIR.out) (fun a ha => by injection ha with ha; subst ha; have := hB0.size; simp; omega)).mono ?_; rintro e wb ⟨vb, rfl, ob, hbb⟩; obtain ⟨Ab, cb, rfl, _, _, _, _⟩ := st_own ob; have hx2 := (Below.drew (Below.refl _ _)).trans hbb; clear ob))
          have HBN := Lib.hid (HBR.out.trans (hx2.mono zr))
          clear hx2 hbb
          by_cases hk0 : k = 0
          · have hq : ((k : Int) == 0) = true := by simpa using hk0
            rw [if_pos (.inl hk0)] at HN1
            have HK0 := Lib.hid hk0
            clear hk0
            go_wp2_with fail
            go_roundw
            case rel => exact ⟨k + 1, by omega, by go_num, by rw [HN1.out], by rw [if_neg (by omega), HN1.out, HCN.out], HBN.out⟩
            case measure => simp [intOf]; omega
          · have hq : ((k : Int) == 0) = false := by simpa using hk0
            obtain rfl := HT0.out hk0
            by_cases hx : (L2.length : Int) < tv
            · rw [if_pos (.inr hx)] at HN1
              have HK0 := Lib.hid hk0
              clear hk0
              go_wp2_with fail
              go_roundw
              case rel => exact ⟨k + 1, by omega, by go_num, by rw [HN1.out], by rw [if_neg (by omega), HN1.out, HCN.out], HBN.out⟩
              case measure => simp [intOf]; omega
            · rw [if_neg (by rintro (h | h); exact hk0 h; exact hx h)] at HN1
              have HK0 := Lib.hid hk0
              clear hk0
              go_wp2_with fail
              go_roundw
              case rel => exact ⟨k + 1, by omega, by go_num, by rw [HN1.out], by rw [if_neg (by omega), HN1.out, HXB.out], HBN.out⟩
              case measure => simp [intOf]; omega
        · obtain rfl : k = l.length := by omega
          have HR := Lib.hid (hB0.trans (hbr.mono hB0.size))
          clear hbr
          go_wp2_with fail
          go_ret2
          exact ⟨congrArg Ending.returned HVV.out.symm, HR.out⟩
end Go.Proofs.YthhmaohnibdbnaaGreat
