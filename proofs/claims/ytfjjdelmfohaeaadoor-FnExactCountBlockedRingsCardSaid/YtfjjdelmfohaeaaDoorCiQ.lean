/- Contracts: rings counted, the program's. -/
import Derived.Test.YtfjjdelmfohaeaaDoorCiP
import Derived.Test.YtfjjdelmfohaeaaDoorCntW
import Derived.Test.YtfjjdelmfohaeaaDoorMany
namespace Go.Proofs.YtfjjdelmfohaeaaDoor
open Go.RowKit

theorem size_setCs (b : Nat) : ∀ (vs : List Value) (o : Nat) (w : World), (w.setCells b o vs).heap.size = w.heap.size
  | [], _, _ => rfl
  | v :: r, o, w => by rw [World.setCells, size_setCs b r]; simp
theorem below_setCs {B b : Nat} {a : World} (hb : B ≤ b) : ∀ (vs : List Value) (o : Nat) (w : World), Below B a w → Below B a (w.setCells b o vs)
  | [], _, _, h => h
  | v :: r, o, w, h => by rw [World.setCells]; exact below_setCs hb r _ _ (h.setCell hb _)

/-- 'clear' on the rest of a list of texts. -/
theorem run_clear_slice_at {P : Program} (w : World) (b o n c : Nat) (hn : 0 < n) (hc : ∀ j, j < n → (w.cell? ⟨b, o + j, none⟩).isSome = true) (hf : ∀ j, j < n → w.frozen? ⟨b, o + j, none⟩ = false)
    (ht : P.underlying 42 = some (.slice 9)) (hv : ∀ w, (zeroValue 9).run P w = .ok (.string ByteArray.empty) w) (ty : TypeId) :
    (Builtin.clear_ #[42] ty #[.slice (some ⟨b, o, none⟩) n c]).run P w = .ok (.tuple #[]) (w.setCells b o (List.replicate n (.string ByteArray.empty))) :=
  Lib.run_clear_slice w 42 9 ty (.string ByteArray.empty) ht hv rfl rfl b o n c hn hc hf

set_option maxRecDepth 100000 in
set_option maxHeartbeats 2000000 in
theorem deleteDel_any (L : List (List UInt8)) (v : Value) (base : Nat) (w : World) (hown : w.ownsRow base 9 1 v L.length (txs L)) (hbase : base ≤ w.heap.size) (hr : ∀ x ∈ L, ringB (str x) = true) (hn : L.length ≤ 100000) :
    Calls Tryd.prog 86 #[v, .func (.func 88) #[] #[]] w fun e w' => ∃ A c, e = .returned (.slice A (keepL L).length c) ∧ StAt w' A (keepL L) ∧ Below base w w' := by
  obtain ⟨A, cap, rfl, hcap, hcm, hat, hA0, hA⟩ := st_own hown
  have HAT := Lib.hid hat
  have HR := Lib.hid hr
  have HO := Lib.hid hown
  clear hown hat
  go_enter Tryd.func86, Tryd.ntmps86
  go_wp2_with fail
  refine (indexDel_any L A cap _ HAT.out HR.out hn).mono ?_
  rintro e w1 ⟨r, rfl, hix, hb1⟩
  have HB1 := Lib.hid (hb1.mono hbase)
  have HO1 := Lib.hid (own_below HO.out hb1)
  have HAT1 := Lib.hid (HAT.out.below hb1)
  clear hb1 HAT HO
  rcases hix with ⟨rfl, hall⟩ | ⟨i, rfl, hi, hd, hno⟩
  · have HK := Lib.hid (keep_all L hall)
    clear hall
    go_wp2
    go_ret
    exact ⟨A, cap, by rw [HK.out]; rfl, by rw [HK.out]; exact HAT1.out, HB1.out⟩
  · obtain ⟨g, rfl, hg, _⟩ := HAT1.out i hi
    obtain ⟨hgb, _, _⟩ := hA _ rfl
    have hgb : base ≤ g := hgb
    have HS := Lib.hid (DelSt.start hi hd hno)
    have hne : ((i : Int) == -1) = false := beq_eq_false_iff_ne.2 (by omega)
    clear hd hno HAT1 hA0 hA hr
    go_wp2
    go_loopw [5, 6, 7] (fun x y _ wr => ∃ (a b : Nat) (C : List (List UInt8)), x = .int .i64 a ∧ y = .int .i64 b ∧ Hid (DelSt L C a b) ∧ wr.ownsRow base 9 1 (.slice (some ⟨g, 0, none⟩) L.length cap) L.length (txs C) ∧ Below base w wr) (fun _ y _ _ => L.length - (intOf y).toNat)
    case atStart => exact ⟨i, i + 1, L, rfl, by go_num, HS, HO1.out, HB1.out⟩
    case round =>
      obtain ⟨a, b, C, rfl, rfl, HD, hown, hB⟩ := hrel
      have hab := HD.out.lt
      have hbl := HD.out.ble
      have hcl := HD.out.len
      clear HB1 HO1 HS
      by_cases hlt : b < L.length
      · obtain ⟨hc, he⟩ := HD.out.at hlt
        have c0 := (hown.cellAt b (by omega)).trans (show (txs C)[b]? = some (.string (str L[b])) by rw [← he]; simp [txs, hc])
        have i1 : (0 : Int) ≤ (b : Int) := by omega
        have i2 : (b : Int) < (L.length : Int) := by omega
        have HX := Lib.hid (HR.out L[b] (List.getElem_mem hlt))
        have HN := Lib.hid (fun h => HD.out.skip hlt h)
        have HP := Lib.hid (fun h => HD.out.put hlt h)
        clear he hc
        generalize L[b] = x at c0 HX HN HP
        go_wp2_with fail
        refine (del_any x _ HX.out).mono ?_
        rintro e w2 ⟨rfl, hb2⟩
        have hown2 := own_below hown hb2
        have hB2 := hB.trans (hb2.mono (by have := (hown.lt g rfl).2; omega))
        clear hown hB hb2 c0
        cases hd : delB x
        · have HQ := Lib.hid (HP.out hd)
          have j1 : (0 : Int) ≤ (a : Int) := by omega
          have j2 : (a : Int) < (L.length : Int) := by omega
          have f0 := hown2.frozenAt a
          have e0 := (hown2.cellAt a (by omega)).trans (show (txs C)[a]? = some (.string (str (C[a]'(by omega)))) by simp [txs, show a < C.length by omega])
          generalize C[a]'(by omega) = z at e0
          have hst := (hown2.stored a (.string (str x))).1
          rw [txs_set] at hst
          have HST := Lib.hid hst
          clear hd hst hown2 hcl HD HN HP
          go_wp2
          go_roundw
          case rel => exact ⟨a + 1, b + 1, _, by go_num, by go_num, HQ, HST.out, hB2.setCell hgb _⟩
          case measure => simp [intOf]; omega
        · have HQ := Lib.hid (HN.out hd)
          have HO2 := Lib.hid hown2
          clear hd hown2 HN HP HD hcl
          go_wp2
          go_roundw
          case rel => exact ⟨a, b + 1, C, rfl, by go_num, HQ, HO2.out, hB2⟩
          case measure => simp [intOf]; omega
      · obtain rfl : b = L.length := by omega
        have hal := HD.out.alen
        rw [List.take_length] at hal
        have hfr := HD.out.front
        rw [List.take_length] at hfr
        have hz := (hown.lt g rfl).2
        have hcl2 := run_clear_slice_at (P := Tryd.prog) wr g a (L.length - a) (cap - a) (by omega)
          (fun j hj => by
            have := hown.cellAt (a + j) (by omega)
            rw [this]
            simp [txs, show a + j < C.length by omega])
          (fun j _ => hown.frozenAt (a + j)) Tryd.underlying42 Tryd.zeroValue9
        have HKP : Hid (StAt (wr.setCells g a (List.replicate (L.length - a) (.string ByteArray.empty))) (some ⟨g, 0, none⟩) (keepL L)) := Lib.hid fun k hk => by
          refine ⟨g, rfl, by rw [size_setCs]; exact hz, ?_⟩
          rw [World.cell?_setCells_out g _ _ _ _ (fun _ _ => .inl (by show k < a; omega))]
          refine (hown.cellAt k (by omega)).trans ?_
          have e : (C.take a)[k]? = some ((keepL L)[k]) := by rw [hfr]; exact List.getElem?_eq_getElem hk
          rw [List.getElem?_take] at e
          simp only [show k < a by omega, if_true] at e
          show (txs C)[k]? = _
          unfold txs
          rw [List.getElem?_map, e]
          rfl
        have HBE := Lib.hid (below_setCs (a := w) hgb (List.replicate (L.length - a) (.string ByteArray.empty)) a wr hB)
        have HAL := Lib.hid hal
        have j1 : (0 : Int) ≤ (a : Int) := by omega
        have j2 : (a : Int) ≤ (L.length : Int) := by omega
        have j3 : (L.length : Int) ≤ (cap : Int) := by omega
        clear hal hfr hown hcl HD
        go_wp2
        go_ret
        exact ⟨_, _, by rw [← HAL.out]; rfl, HKP.out, HBE.out⟩
end Go.Proofs.YtfjjdelmfohaeaaDoor
