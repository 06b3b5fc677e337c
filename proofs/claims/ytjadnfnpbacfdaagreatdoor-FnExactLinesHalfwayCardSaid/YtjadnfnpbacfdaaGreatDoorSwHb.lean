/- Contract: the model's live lines halfway, in order. -/
import Derived.Test.YtjadnfnpbacfdaaGreatDoorSwHa
import Derived.Test.YtjadnfnpbacfdaaGreatDoorSwRc
import Derived.Test.YtjadnfnpbacfdaaGreatDoorList
namespace Go.Proofs.YtjadnfnpbacfdaaGreatDoor
open Go.RowKit

/-- The place of a line in a rising list. -/
theorem ins_atW (x : List UInt8) : ∀ (S : List (List UInt8)) (k : Nat), x ∉ S → k ≤ S.length → (∀ q (h : q < S.length), q < k → S[q] < x) → (∀ h : k < S.length, ¬ S[k] < x) → ins x S = S.take k ++ x :: S.drop k
  | [], k, _, hk, _, _ => by
    obtain rfl : k = 0 := by simpa using hk
    rfl
  | y :: S, 0, hx, _, _, h2 => by
    have h3 : ¬ y < x := h2 (by simp)
    have h4 : ¬ y = x := fun e => hx (by simp [e])
    unfold ins
    rw [if_neg h3, if_neg h4]
    rfl
  | y :: S, k + 1, hx, hk, h1, h2 => by
    have h3 : y < x := h1 0 (by simp) (by omega)
    have h5 := ins_atW x S k (fun h => hx (List.mem_cons_of_mem _ h)) (by simpa using hk) (fun q h hq => h1 (q + 1) (by simpa using h) (by omega)) (fun h => h2 (by simpa using h))
    unfold ins
    rw [if_pos h3, h5]
    rfl
theorem ins_lenW (x : List UInt8) : ∀ l : List (List UInt8), (ins x l).length ≤ l.length + 1
  | [] => by simp [ins]
  | y :: l => by
    have := ins_lenW x l
    unfold ins
    split
    · simp; omega
    · split <;> simp
theorem insAll_lenW : ∀ (xs a : List (List UInt8)), (insAll xs a).length ≤ a.length + xs.length
  | [], a => by simp [insAll]
  | x :: xs, a => by
    have h1 := insAll_lenW xs (ins x a)
    have h2 := ins_lenW x a
    show (insAll xs (ins x a)).length ≤ _
    rw [List.length_cons]
    omega
theorem txs_cells {w : World} {g : Nat} {S : List (List UInt8)} (h : ∀ k (hk : k < S.length), w.cell? ⟨g, k, none⟩ = some (.string (str S[k]))) (k : Nat) : ∀ j u, (txs (S.drop k))[j]? = some u → w.cell? ((⟨g, k, none⟩ : Addr).add j) = some u := by
  intro j u hu
  have hj : j < (S.drop k).length := by have := (List.getElem?_eq_some_iff.1 hu).1; rwa [txs_len] at this
  rw [List.length_drop] at hj
  have e : (⟨g, k, none⟩ : Addr).add j = ⟨g, k + j, none⟩ := by
    unfold Addr.add
    split
    · simp_all
    · rfl
  rw [e, h (k + j) (by omega)]
  have e2 : (txs (S.drop k))[j]? = some (.string (str S[k + j])) := by unfold txs; rw [List.getElem?_map, List.getElem?_drop, List.getElem?_eq_getElem (by omega)]; rfl
  rw [e2] at hu
  exact hu
theorem txs_below {w w' : World} {g : Nat} {S : List (List UInt8)} (hb : Below w.heap.size w w') (hg : g < w.heap.size) (h : ∀ k (hk : k < S.length), w.cell? ⟨g, k, none⟩ = some (.string (str S[k]))) (k : Nat) : ∀ j u, (txs (S.drop k))[j]? = some u → w'.cell? ((⟨g, k, none⟩ : Addr).add j) = some u :=
  txs_cells (fun q hq => (hb.cell (p := ⟨g, q, none⟩) hg).trans (h q hq)) k
/-- Halfway: how many moves, and the lines. -/
def hvB (t g f : Int) : Bool := few t g f && hasEx t g f
def hvK (t g f : Int) : Nat := (exLen t g f).toNat / 2
def hvL (t g f : Int) : List (List UInt8) := insAll (layW (firstL t.toNat g.toNat f.toNat) (hvK t g f)) []
theorem own_noneW (w : World) : (w.alloc (Obj.cells #[] 9)).ownsRow w.heap.size 9 1 (.slice (some ⟨w.heap.size, 0, none⟩) 0 0) 0 [] := World.ownsRow_made w #[] 0 (Nat.le_refl _) (by decide) rfl
set_option maxRecDepth 100000 in
set_option maxHeartbeats 1000000 in
theorem ownS_nil (w : World) :
    Calls Tryz.prog 11 #[.slice none 0 0] w fun e w' => ∃ v, e = .returned v ∧ w'.ownsRow w.heap.size 9 1 v 0 [] ∧ Below w.heap.size w w' := by
  obtain ⟨i0, hi, hz0, hz1, hz2⟩ := info_parts Tryz.infoS
  have HI := Lib.hid hi
  have HZ0 := Lib.hid hz0
  have HZ1 := Lib.hid hz1
  have HZ2 := Lib.hid hz2
  clear hi hz0 hz1 hz2
  go_enter Tryz.func11, Tryz.ntmps11
  go_wp2_with (first
    | (at_builtin; refine wpList_append_st _ rfl _ _ 22 rfl w.heap.size 9 i0 (.string ByteArray.empty) 1 16 Tryz.underlying22 HI.out HZ0.out HZ1.out HZ2.out rfl (by decide) _ 0 [] rfl (own_noneW w) none 0 0 [] rfl (fun _ => ⟨rfl, rfl⟩) rfl (fun _ e => by cases e) (by simp) (by decide) (by decide) (by simp) ?_; intro v1 w1 ho1 hg1))
  go_ret
  have b1 := ((Below.refl w.heap.size w).alloc (Nat.le_refl _) (Obj.cells #[] 9)).grown hg1 (by simp) (fun j hj => ((own_noneW w).lt _ hj).1)
  exact ⟨v1, rfl, by simpa using ho1, b1⟩
set_option maxRecDepth 100000 in
set_option maxHeartbeats 1000000 in
theorem ownS_some (ls : List (List UInt8)) (g cap : Nat) (w : World) (hg : g < w.heap.size) (hA : ∀ k (h : k < ls.length), w.cell? ⟨g, k, none⟩ = some (.string (str ls[k]))) (hl : ls.length ≤ 100000) :
    Calls Tryz.prog 11 #[.slice (some ⟨g, 0, none⟩) ls.length cap] w fun e w' => ∃ v, e = .returned v ∧ w'.ownsRow w.heap.size 9 1 v ls.length (txs ls) ∧ Below w.heap.size w w' := by
  obtain ⟨i0, hi, hz0, hz1, hz2⟩ := info_parts Tryz.infoS
  have HI := Lib.hid hi
  have HZ0 := Lib.hid hz0
  have HZ1 := Lib.hid hz1
  have HZ2 := Lib.hid hz2
  clear hi hz0 hz1 hz2
  have hcells : ∀ j u, (txs ls)[j]? = some u → (w.alloc (Obj.cells #[] 9)).cell? ((⟨g, 0, none⟩ : Addr).add j) = some u := by
    intro j u hu
    have hj : j < ls.length := by have := (List.getElem?_eq_some_iff.1 hu).1; rwa [txs_len] at this
    rw [addr_add]
    have e2 : (txs ls)[j]? = some (.string (str ls[j])) := by simp [txs, hj]
    rw [e2] at hu
    injection hu with hu
    rw [← hu, ← hA j hj]
    rw [World.cell?_alloc_lt]; exact hg
  have HCE := Lib.hid hcells
  clear hcells hA
  go_enter Tryz.func11, Tryz.ntmps11
  go_wp2_with (first
    | (at_builtin; refine wpList_append_st _ rfl _ _ 22 rfl w.heap.size 9 i0 (.string ByteArray.empty) 1 16 Tryz.underlying22 HI.out HZ0.out HZ1.out HZ2.out rfl (by decide) _ 0 [] rfl (own_noneW w) (some ⟨g, 0, none⟩) ls.length cap (txs ls) rfl (fun e => by cases e) (by rw [txs_len, Nat.mul_one]) (fun _ e => by cases e; exact HCE.out) (txs_one _) (by unfold maxLen; omega) (by omega) (by simp) ?_; intro v1 w1 ho1 hg1))
  go_ret
  have b1 := ((Below.refl w.heap.size w).alloc (Nat.le_refl _) (Obj.cells #[] 9)).grown hg1 (by simp) (fun j hj => ((own_noneW w).lt _ hj).1)
  exact ⟨v1, rfl, by simpa using ho1, b1⟩
/-- The model's answer: a list of texts somewhere, and a flag. -/
def HvPost (l : List (List UInt8)) (c : Bool) (w : World) (e : Ending) (w' : World) : Prop :=
  ∃ A cap, e = .returned (.tuple #[.slice A l.length cap, .bool c]) ∧ StAt w' A l ∧ Below w.heap.size w w'
set_option maxRecDepth 100000 in
set_option maxHeartbeats 4000000 in
theorem sHalf_no (t g f : Int) (w : World) (h : hvB t g f = false) :
    Calls Tryz.prog 4 #[.int .i64 t, .int .i64 g, .int .i64 f] w (HvPost [] false w) := by
  have HE := Lib.hid (fun wx => sExLen_any t g f wx)
  rw [show (few t g f && hasEx t g f) = false from h, intOr_no false _ rfl] at HE
  clear h
  go_enter Tryz.func4, Tryz.ntmps4
  go_wp2_with fail
  refine (HE.out _).mono ?_
  rintro e w1 ⟨rfl, hb1⟩
  have HB := Lib.hid hb1
  clear hb1
  go_wp2_with fail
  go_ret2
  exact ⟨none, 0, rfl, fun k hk => by simp at hk, HB.out⟩
theorem hv_parts {t g f : Int} (h : hvB t g f = true) : few t g f = true ∧ 0 < swN (firstL t.toNat g.toNat f.toNat) ∧ ∃ K : Nat, exLen t g f = K ∧ msL (firstL t.toNat g.toNat f.toNat) = K ∧ hvK t g f = K / 2 ∧ K ≤ 128 := by
  unfold hvB at h
  rw [Bool.and_eq_true] at h
  have h1 := has_ex h.1
  rw [h.2] at h1
  unfold hasX at h1
  rw [Bool.and_eq_true] at h1
  have h2 := exLen_in h.1
  have h3 := ms_first h.1
  have h4 : exLen t g f = g * (t + f) + t * f := rfl
  refine ⟨h.1, by simpa using h1.2, (exLen t g f).toNat, by omega, by omega, rfl, by omega⟩
set_option maxRecDepth 100000 in
set_option maxHeartbeats 8000000 in
theorem sHalf_yes (t g f : Int) (w : World) (h : hvB t g f = true) :
    Calls Tryz.prog 4 #[.int .i64 t, .int .i64 g, .int .i64 f] w (HvPost (hvL t g f) true w) := by
  obtain ⟨i0, hi, hz0, hz1, hz2⟩ := info_parts Tryz.infoS
  have HI := Lib.hid hi
  have HZ0 := Lib.hid hz0
  have HZ1 := Lib.hid hz1
  have HZ2 := Lib.hid hz2
  clear hi hz0 hz1 hz2
  obtain ⟨hc, h0, K, hK1, hK2, hK3, hK4⟩ := hv_parts h
  have hg := first_goodT hc
  have HE := Lib.hid (fun wx => sExLen_any t g f wx)
  rw [show (few t g f && hasEx t g f) = true from h, intOr_yes true _ rfl, hK1] at HE
  have HLV := Lib.hid (fun B W ks hk => swLive_any B t g f W ks hc hk)
  unfold hvL
  rw [hK3]
  generalize (t + g + f).toNat = n at *
  generalize firstL t.toNat g.toNat f.toNat = l at *
  have HLT := Lib.hid (fun d (hd : layW l d = []) => layW_lt hg h0 (k := K / 2) (by omega) hd)
  have hPn := layW_ne hg h0 (k := K / 2) (by omega)
  have hPd := layW_nodup (w := l) (K / 2)
  have hPf := layW_few hg h0 (K / 2)
  have H0 := Lib.hid h0
  have hdiv : ((K : Int)).tdiv 2 = ((K / 2 : Nat) : Int) := by rw [Int.tdiv_eq_ediv_of_nonneg (by omega)]; omega
  clear h hc hg h0 hK1 hK2 hK3
  go_enter Tryz.func4, Tryz.ntmps4
  go_wp2_with fail
  refine (HE.out _).mono ?_
  rintro e w1 ⟨rfl, hb1⟩
  have HB1 := Lib.hid hb1
  clear hb1
  go_wp2_with fail
  refine (HLV.out _ _ [] (EnW.new w1 _)).mono ?_
  rintro e w3 ⟨v, d, rfl, hd, hd0, hd1, hly, _, hkp⟩
  have hn := EnW.new w1 n
  have hb3 := hkp.to_below (by simp) (fun k he => (hn.ex_in k he).1)
  have HB3 : Hid (Below w.heap.size w w3) := Lib.hid ((HB1.out.alloc HB1.out.size _).trans (hb3.mono (by have := HB1.out.size; simp; omega)))
  have hKd := HLT.out d (hd1 H0.out)
  obtain ⟨A, cL, rfl, hop⟩ := hly.open
  obtain ⟨g1, A', c', rfl, d1, hst⟩ := hop (K / 2) hKd
  have HST := Lib.hid hst
  clear hd0 hd1 hly hkp hop hb3 hn HLV HE HLT hst
  generalize layW l (K / 2) = P at *
  have i1 : (0 : Int) ≤ ((K / 2 : Nat) : Int) := by omega
  have i2 : ((K / 2 : Nat) : Int) < (d : Int) := by omega
  generalize K / 2 = kh at *
  go_wp2_with fail
  go_loopg [11, 37] P.length (fun gk v t wr => ∃ i : Nat, i + gk = P.length ∧ t = .int .i64 i ∧ Hid (StOk wr v (insAll (P.take i) [])) ∧ Hid (Below w3.heap.size w3 wr))
  case atStart => exact ⟨0, by omega, rfl, Lib.hid (.inl ⟨rfl, rfl⟩), Lib.hid (Below.refl _ _)⟩
  case round =>
    obtain ⟨i, hik, rfl, HS, HB⟩ := hrel
    obtain ⟨W, hW⟩ : ∃ W : World, W = wr := ⟨_, rfl⟩
    subst hW
    obtain ⟨G, hG⟩ : ∃ G : Nat, G = gk := ⟨_, rfl⟩
    subst hG
    by_cases hlt : i < P.length
    · obtain ⟨gp, rfl, hgp, dx⟩ := (HST.out.below HB.out) i hlt
      have hx : P[i] ∉ insAll (P.take i) [] := fun h => by
        rw [mem_insAll] at h
        rcases h with h | h
        · obtain ⟨j, hj, e⟩ := List.mem_iff_getElem.1 h
          rw [List.length_take] at hj
          rw [List.getElem_take] at e
          have := (List.getElem_inj hPd).1 e
          omega
        · cases h
      have HNX : Hid (insAll (P.take (i + 1)) [] = ins P[i] (insAll (P.take i) [])) := Lib.hid (by rw [List.take_succ_eq_append_getElem hlt, insAll_snoc])
      have hSl : (insAll (P.take i) []).length ≤ 59049 := by
        have h1 := insAll_lenW (P.take i) []
        rw [List.length_take] at h1
        simp at h1
        omega
      generalize insAll (P.take i) [] = S at *
      generalize P[i] = x at *
      have j1 : (0 : Int) ≤ (i : Int) := by omega
      have j2 : (i : Int) < (P.length : Int) := by omega
      rcases HS.out with ⟨rfl, hv⟩ | ⟨hne, g, c, hv, hle, hcm, hg, hcs⟩
      · subst hv
        have H6a : 0 + 1 ≤ maxLen := by unfold maxLen; omega
        have H6b : (0 + 1) * 16 ≤ 140737488355328 := by omega
        have H7a : 0 + 1 + 0 ≤ maxLen := by unfold maxLen; omega
        have H7b : (0 + 1 + 0) * 16 ≤ 140737488355328 := by omega
        have HIN : Hid (ins x [] = [x]) := Lib.hid rfl
        rw [HIN.out] at HNX
        clear hx hSl
        go_wp2_with fail
        go_loop [14] (fun a => a = .int .i64 0) (fun _ => 0)
        case atStart => rfl
        case round =>
          obtain rfl := hrel
          go_wp2_with fail
          refine (ownS_nil W).mono ?_
          rintro e w5 ⟨v5, rfl, ho5, hb5⟩
          go_wp2_with (first
            | (at_builtin; refine wpList_append_st _ rfl _ _ 22 rfl W.heap.size 9 i0 (.string ByteArray.empty) 1 16 Tryz.underlying22 HI.out HZ0.out HZ1.out HZ2.out rfl (by decide) _ _ _ rfl ho6 none 0 0 [] rfl (fun _ => ⟨rfl, rfl⟩) rfl (fun _ e => by cases e) (by simp) H7a H7b b6.size ?_; intro v7 w7 ho7 hg7)
            | (at_builtin; refine wpList_append_st _ rfl _ _ 22 rfl W.heap.size 9 i0 (.string ByteArray.empty) 1 16 Tryz.underlying22 HI.out HZ0.out HZ1.out HZ2.out rfl (by decide) _ _ _ rfl (ho5.alloc _) (some ⟨w5.heap.size, 0, none⟩) 1 1 (txs [x]) rfl (fun e => by cases e) rfl (fun _ e => by cases e; exact cell_one_new _ _ _) (txs_one _) H6a H6b (by have := hb5.size; simp; omega) ?_; intro v6 w6 ho6 hg6; have b6 := (hb5.alloc hb5.size (Obj.cells #[.string (str x)] 9)).grown hg6 (by have := hb5.size; simp; omega) (fun j hj => ((ho5.alloc (Obj.cells #[.string (str x)] 9)).lt _ hj).1)))
          have b7 := b6.grown hg7 b6.size (fun j hj => (ho6.lt _ hj).1)
          have HOK : Hid (StOk w7 v7 [x]) := Lib.hid (st_ok (l := [x]) (by simpa [txs] using ho7) (by simp))
          have HB7 := Lib.hid (HB.out.trans (b7.mono HB.out.size))
          clear ho5 hb5 ho6 hg6 b6 ho7 hg7 b7
          go_roundg (G - 1)
          case measure => omega
          case rel => exact ⟨i + 1, by omega, by go_num, by rw [HNX.out]; exact HOK, HB7⟩
      · subst hv
        have HCS := Lib.hid hcs
        clear hcs
        have hc2 : c ≤ 9223372036854775807 := by unfold maxLen at hcm; omega
        go_wp2_with fail
        go_loop [14] (fun a => ∃ k : Nat, k ≤ S.length ∧ a = .int .i64 k ∧ Hid (∀ q (h : q < S.length), q < k → S[q] < x)) (fun a => S.length - (intOf a).toNat)
        case atStart => exact ⟨0, Nat.zero_le _, rfl, Lib.hid fun q _ h => by omega⟩
        case round =>
          obtain ⟨k, hk, rfl, HQ⟩ := hrel
          by_cases hks : k < S.length
          · have hck := HCS.out k hks
            have HLT := Lib.hid (less_str S[k] x)
            have k1 : (0 : Int) ≤ (k : Int) := by omega
            have k2 : (k : Int) < (S.length : Int) := by omega
            by_cases hyx : S[k] < x
            · have hb : Op.bytesLess (str S[k]).toList (str x).toList = true := by rw [HLT.out]; simpa using hyx
              have HQ2 : Hid (∀ q (h : q < S.length), q < k + 1 → S[q] < x) := Lib.hid fun q h hq => by
                by_cases e : q < k
                · exact HQ.out q h e
                · obtain rfl : q = k := by omega
                  exact hyx
              clear hyx
              generalize S[k] = z at *
              go_wp2_with fail
              go_round
              case rel => exact ⟨k + 1, by omega, by go_num, HQ2⟩
              case measure => simp [intOf]; omega
            · have hb : Op.bytesLess (str S[k]).toList (str x).toList = false := by rw [HLT.out]; simpa using hyx
              have HA := Lib.hid (ins_atW x S k hx hk HQ.out (fun _ => hyx))
              have k3 : (k : Int) ≤ (c : Int) := by omega
              have k4 : (k : Int) ≤ (S.length : Int) := by omega
              clear hyx HLT
              generalize S[k] = z at *
              have HOW := Lib.hid (ownS_some (S.take k) g c W hg (fun q hq => by rw [List.getElem_take]; exact HCS.out q (by rw [List.length_take] at hq; omega)) (by rw [List.length_take]; omega))
              rw [List.length_take, show min k S.length = k by omega] at HOW
              have H6a : k + 1 ≤ maxLen := by unfold maxLen; omega
              have H6b : (k + 1) * 16 ≤ 140737488355328 := by omega
              have H7a : k + 1 + (S.length - k) ≤ maxLen := by unfold maxLen; omega
              have H7b : (k + 1 + (S.length - k)) * 16 ≤ 140737488355328 := by omega
              go_wp2_with fail
              refine HOW.out.mono ?_
              rintro e w5 ⟨v5, rfl, ho5, hb5⟩
              go_wp2_with (first
                | (at_builtin; refine wpList_append_st _ rfl _ _ 22 rfl W.heap.size 9 i0 (.string ByteArray.empty) 1 16 Tryz.underlying22 HI.out HZ0.out HZ1.out HZ2.out rfl (by decide) _ _ _ rfl ho6 _ (S.length - k) _ (txs (S.drop k)) rfl ?_ ?_ ?_ ?_ ?_ ?_ ?_ ?_; rotate_right; intro v7 w7 ho7 hg7)
                | (at_builtin; refine wpList_append_st _ rfl _ _ 22 rfl W.heap.size 9 i0 (.string ByteArray.empty) 1 16 Tryz.underlying22 HI.out HZ0.out HZ1.out HZ2.out rfl (by decide) _ _ _ rfl (ho5.alloc _) (some ⟨w5.heap.size, 0, none⟩) 1 1 (txs [x]) rfl (fun e => by cases e) rfl (fun _ e => by cases e; exact cell_one_new _ _ _) (txs_one _) H6a H6b (by have := hb5.size; simp; omega) ?_; intro v6 w6 ho6 hg6; have b6 := (hb5.alloc hb5.size (Obj.cells #[.string (str x)] 9)).grown hg6 (by have := hb5.size; simp; omega) (fun j hj => ((ho5.alloc (Obj.cells #[.string (str x)] 9)).lt _ hj).1)))
              · have b7 := b6.grown hg7 b6.size (fun j hj => (ho6.lt _ hj).1)
                have HOK : Hid (StOk w7 v7 (ins x S)) := Lib.hid (by
                  have e : txs (S.take k) ++ txs [x] ++ (txs (S.drop k)) = txs (ins x S) := by rw [HA.out, txs_app]; simp [txs]
                  rw [e] at ho7
                  have e2 : k + 1 + (S.length - k) = (ins x S).length := by rw [HA.out]; simp; omega
                  rw [e2] at ho7
                  exact st_ok ho7 (by rw [HA.out]; simp))
                have HB7 := Lib.hid (HB.out.trans (b7.mono HB.out.size))
                clear ho5 hb5 ho6 hg6 b6 ho7 hg7 b7
                go_roundg (G - 1)
                case measure => omega
                case rel => exact ⟨i + 1, by omega, by go_num, by rw [HNX.out]; exact HOK, HB7⟩
              all_goals first
                | assumption
                | exact b6.size
                | (intro e; cases e; done)
                | (intro ad e j u hu; injection e with e; subst e; exact txs_below b6 hg HCS.out k j u hu)
                | (rw [txs_len, List.length_drop]; omega)
                | exact txs_one _
                | (intro j u hu; exact txs_below b6 hg HCS.out _ j u hu)
                | rfl
                | (intro u hu; cases hu)
          · obtain rfl : k = S.length := by omega
            have HA := Lib.hid (ins_atW x S S.length hx (Nat.le_refl _) HQ.out (fun h => absurd h (by omega)))
            obtain ⟨cc, hcc⟩ : ∃ cc, cc = c := ⟨_, rfl⟩
            have HOW0 := Lib.hid (ownS_some (S.take S.length) g c W hg (fun q hq => by rw [List.getElem_take]; exact HCS.out q (by rw [List.length_take] at hq; omega)) (by rw [List.length_take]; omega))
            clear hcc
            rcases Classical.em (c = S.length) with rfl | hcl
            all_goals
              have HOW := HOW0
              rw [List.length_take, show min S.length S.length = S.length by omega] at HOW
              have H6a : S.length + 1 ≤ maxLen := by unfold maxLen; omega
              have H6b : (S.length + 1) * 16 ≤ 140737488355328 := by omega
              have H7a : S.length + 1 + (0) ≤ maxLen := by unfold maxLen; omega
              have H7b : (S.length + 1 + (0)) * 16 ≤ 140737488355328 := by omega
              go_wp2_with fail
              refine HOW.out.mono ?_
              rintro e w5 ⟨v5, rfl, ho5, hb5⟩
              go_wp2_with (first
                | (at_builtin; refine wpList_append_st _ rfl _ _ 22 rfl W.heap.size 9 i0 (.string ByteArray.empty) 1 16 Tryz.underlying22 HI.out HZ0.out HZ1.out HZ2.out rfl (by decide) _ _ _ rfl ho6 _ (0) _ ([]) rfl ?_ ?_ ?_ ?_ ?_ ?_ ?_ ?_; rotate_right; intro v7 w7 ho7 hg7)
                | (at_builtin; refine wpList_append_st _ rfl _ _ 22 rfl W.heap.size 9 i0 (.string ByteArray.empty) 1 16 Tryz.underlying22 HI.out HZ0.out HZ1.out HZ2.out rfl (by decide) _ _ _ rfl (ho5.alloc _) (some ⟨w5.heap.size, 0, none⟩) 1 1 (txs [x]) rfl (fun e => by cases e) rfl (fun _ e => by cases e; exact cell_one_new _ _ _) (txs_one _) H6a H6b (by have := hb5.size; simp; omega) ?_; intro v6 w6 ho6 hg6; have b6 := (hb5.alloc hb5.size (Obj.cells #[.string (str x)] 9)).grown hg6 (by have := hb5.size; simp; omega) (fun j hj => ((ho5.alloc (Obj.cells #[.string (str x)] 9)).lt _ hj).1)))
              · have b7 := b6.grown hg7 b6.size (fun j hj => (ho6.lt _ hj).1)
                have HOK : Hid (StOk w7 v7 (ins x S)) := Lib.hid (by
                  have e : txs (S.take S.length) ++ txs [x] ++ ([]) = txs (ins x S) := by rw [HA.out]; simp [txs]
                  rw [e] at ho7
                  have e2 : S.length + 1 + (0) = (ins x S).length := by rw [HA.out]; simp
                  rw [e2] at ho7
                  exact st_ok ho7 (by rw [HA.out]; simp))
                have HB7 := Lib.hid (HB.out.trans (b7.mono HB.out.size))
                clear ho5 hb5 ho6 hg6 b6 ho7 hg7 b7
                go_roundg (G - 1)
                case measure => omega
                case rel => exact ⟨i + 1, by omega, by go_num, by rw [HNX.out]; exact HOK, HB7⟩
              all_goals first
                | assumption
                | exact b6.size
                | (intro e; cases e; done)
                | (intro ad e j u hu; cases hu)
                | (rw [txs_len, List.length_drop]; omega)
                | exact txs_one _
                | (intro j u hu; exact txs_below b6 hg HCS.out _ j u hu)
                | rfl
                | (intro u hu; cases hu)
    · obtain rfl : i = P.length := by omega
      have hS := HS.out
      rw [List.take_length] at hS
      obtain ⟨AR, cR, hvR, hatR⟩ := hS.at
      have HAT := Lib.hid hatR
      subst hvR
      clear hS hatR
      generalize insAll P [] = Q at *
      go_wp2_with fail
      go_ret2
      exact ⟨AR, cR, rfl, HAT.out, HB3.out.trans (HB.out.mono HB3.out.size)⟩
end Go.Proofs.YtjadnfnpbacfdaaGreatDoor
