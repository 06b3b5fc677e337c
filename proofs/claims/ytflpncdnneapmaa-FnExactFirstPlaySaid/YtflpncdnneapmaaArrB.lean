/- The program's arrivals: one pass from the label on. -/
import Derived.Test.YtflpncdnneapmaaArrA
import Derived.Test.YtflpncdnneapmaaLay
import Derived.ScopeJumps
import Derived.WalkMore
import Derived.Maps.AppendAt
import Derived.StringKeys
namespace Go.Proofs.Ytflpncdnneapmaa
open Go.RowKit Go.Maps

def tlC : Code → Code
  | .seq _ c => c
  | c => c
def scC : Code → Code
  | .scope c => c
  | c => c
/-- The code behind the label. -/
noncomputable def arrRest : Code := tlC (tlC (tlC (tlC (tlC (scC (tlC (Try.f31.body.getD .skip)))))))
theorem zeroI (w : World) : (zeroValue 3).run Try.prog w = .ok (.int .i64 0) w := by kernel_rfl
theorem keyStr {x : List UInt8} (h : x.length ≤ maxLen) : keyOf Try.prog 9 (.string (str x)) = some (.string x) := WideMaps.keyOf_string_mk Try.underlying9 (by rw [str_size]; exact h)
theorem farB_of_grown {w w' : World} {row : Option Nat} (h : w.grownBy w' row) : FarB row w w' := ⟨h.size, fun k hne hk => h.block k hk hne⟩
/-- Where the run stands at the label: k layers are done. -/
structure ARel (c d : Nat) (wl : List UInt8) (w0 : World) (ba bn bx k : Nat) (wr : World) : Prop where
  lt_a : w0.heap.size ≤ ba
  lt_n : w0.heap.size ≤ bn
  lt_x : w0.heap.size ≤ bx
  nx : bn ≠ bx
  an : ba ≠ bn
  ax : ba ≠ bx
  all : ∃ D, wr.ownsMap Try.prog 9 arrR ba 59049 D ∧ AllV nxL wl D k []
  now : ∃ D, wr.ownsMap Try.prog 9 intR bn 59049 D ∧ NowV nxL wl D k []
  next : ∃ D, wr.ownsMap Try.prog 9 intR bx 59049 D ∧ ∀ v, Maps.has D (.string v) = false
  below : Below w0.heap.size w0 wr
  hk : k < d
/-- The map at the end. -/
def AFin (wl : List UInt8) (d : Nat) (w0 : World) (ba : Nat) (wr : World) : Prop :=
  w0.heap.size ≤ ba ∧ (∃ D, wr.ownsMap Try.prog 9 arrR ba 59049 D ∧ AllV nxL wl D d []) ∧ Below w0.heap.size w0 wr
theorem size_zero {P : Program} {k : TypeId} {R : Value → Option (DataW Unit × List MemPlace)} {w : World} {b n : Nat} {D : DataW Unit} (h : w.ownsMap P k R b n D) (K : Keyed P k) (hk : P.underlying k = some .string)
    (l : List (List UInt8)) (hl : l.Nodup) (hm : ∀ v, v ∈ l ↔ Maps.has D (.string v) = true) : Maps.size D = l.length := by
  obtain ⟨h1, h2, h3⟩ := keys_nodup h K hk
  rw [← h3]
  exact (List.Perm.length_eq ((List.perm_ext_iff_of_nodup h1 hl).2 fun v => (h2 v).trans (hm v).symm))

set_option maxRecDepth 100000 in
set_option maxHeartbeats 4000000 in
theorem arr_pass (c d k : Nat) (wl : List UInt8) (w0 wz : World) (ba bn bx : Nat) (hg : goodT c wl) (hd : IsDep nxL wl d) (hd2 : d ≤ 60000) (hrel0 : ARel c d wl w0 ba bn bx k wz)
    {Q : Exit → Act → World → Prop} {J : Act → World → Prop} {u2 u3 u1 u8 u9 u10 u11 u12 u13 u14 u15 u16 u17 u18 u19 u20 u21 u22 u23 u24 u25 u26 u27 u28 u29 u30 u31 u32 u33 u34 u35 u36 u37 u38 u39 u40 u41 u42 u43 u44 u45 u46 u47 u48 u49 u50 u51 u52 u53 u54 : Value}
    (hJ : ∀ (u2 u3 u1 u8 u9 u10 u11 u12 u13 u14 u15 u16 u17 u18 u19 u20 u21 u22 u23 u24 u25 u26 u27 u28 u29 u30 u31 u32 u33 u34 u35 u36 u37 u38 u39 u40 u41 u42 u43 u44 u45 u46 u47 u48 u49 u50 u51 u52 u53 u54 : Value) (w' : World), ARel c d wl w0 ba bx bn (k + 1) w' → J { tmps := #[.string (str wl), u1, u2, u3, .map (some ba), .int .i64 ((k : Int) + 1), .map (some bx), .map (some bn), u8, u9, u10, u11, u12, u13, u14, u15, u16, u17, u18, u19, u20, u21, u22, u23, u24, u25, u26, u27, u28, u29, u30, u31, u32, u33, u34, u35, u36, u37, u38, u39, u40, u41, u42, u43, u44, u45, u46, u47, u48, u49, u50, u51, u52, u53, u54], defers := [] } w')
    (hQ : ∀ (u1 u8 u9 u10 u11 u12 u13 u14 u15 u16 u17 u18 u19 u20 u21 u22 u23 u24 u25 u26 u27 u28 u29 u30 u31 u32 u33 u34 u35 u36 u37 u38 u39 u40 u41 u42 u43 u44 u45 u46 u47 u48 u49 u50 u51 u52 u53 u54 : Value) (w' : World), AFin wl d w0 ba w' → Q .ret { tmps := #[.string (str wl), u1, .map (some ba), .bool true, .map (some ba), .int .i64 (k : Int), .map (some bn), .map (some bx), u8, u9, u10, u11, u12, u13, u14, u15, u16, u17, u18, u19, u20, u21, u22, u23, u24, u25, u26, u27, u28, u29, u30, u31, u32, u33, u34, u35, u36, u37, u38, u39, u40, u41, u42, u43, u44, u45, u46, u47, u48, u49, u50, u51, u52, u53, u54], defers := [] } w') :
    Code.wp Try.prog arrRest (Exit.jump 0 J Q) { tmps := #[.string (str wl), u1, u2, u3, .map (some ba), .int .i64 (k : Int), .map (some bn), .map (some bx), u8, u9, u10, u11, u12, u13, u14, u15, u16, u17, u18, u19, u20, u21, u22, u23, u24, u25, u26, u27, u28, u29, u30, u31, u32, u33, u34, u35, u36, u37, u38, u39, u40, u41, u42, u43, u44, u45, u46, u47, u48, u49, u50, u51, u52, u53, u54], defers := [] } wz := by
  have HG : Hid (∀ k v, v ∈ lay nxL wl k → goodT c v) := Lib.hid fun k v hv => (lay_good (steps_line c) hg k v hv).1
  have HAP : Hid (∀ j k v, v ∈ lay nxL wl j → v ∈ lay nxL wl k → j = k) := Lib.hid fun j k v h1 h2 => lay_apart (steps_line c) hg h1 h2
  obtain ⟨ha0, hn0, hx0, hnx, han, hax, ⟨Da0, hall0, hAV0⟩, ⟨Dn0, hnow0, hNV0⟩, ⟨Dx0, hnext0, hXV0⟩, hB0, hk⟩ := hrel0
  have HD := Lib.hid hd
  have HAV0 := Lib.hid hAV0
  have HNV0 := Lib.hid hNV0
  have HXV0 := Lib.hid hXV0
  have HB0 := Lib.hid hB0
  have HALL0 := Lib.hid hall0
  have HNEXT0 := Lib.hid hnext0
  have hltn := hnow0.lt
  have hlta := hall0.lt
  have hltx := hnext0.lt
  have HJ := Lib.hid hJ
  have HQ := Lib.hid hQ
  clear hJ hQ hd hg hAV0 hNV0 hXV0 hB0 hall0 hnext0
  conv => arg 2; whnf
  go_wp2_with (first
    | (at_range; refine wpList_range_own _ rfl _ 84 rfl 9 3 Try.keysS Try.underlying84 _ bn _ _ rfl hnow0 ?_; intro w1 hrg0 hg0 hs0)
    | go_in)
  try go_frame
  go_loopw [8] (fun _ wq => ∃ (us : List (List UInt8)) (left : Lit → Bool) (cnt : Nat) (Dn Da Dx : DataW Unit), us.Nodup ∧ (∀ v, v ∈ us → v ∈ lay nxL wl k) ∧
      wq.ranges Try.prog 9 intR bn wz.heap.size 59049 Dn left cnt ∧ NowV nxL wl Dn k us ∧ (∀ v, left (.string v) = Maps.has Dn (.string v)) ∧
      wq.ownsMap Try.prog 9 arrR ba 59049 Da ∧ AllV nxL wl Da k us ∧ wq.ownsMap Try.prog 9 intR bx 59049 Dx ∧ NextV nxL wl Dx k us [] 0 ∧ Below w0.heap.size w0 wq)
    (fun _ wq => wq.rangeLeft bn wz.heap.size)
  case atStart => exact ⟨[], _, _, Dn0, Da0, Dx0, List.nodup_nil, fun v h => by simp at h, hrg0, HNV0.out, fun v => rfl, HALL0.out.kept hg0 (by simp), HAV0.out, HNEXT0.out.kept hg0 (by simp), nextV_start _ HXV0.out, HB0.out.grown hg0 HB0.out.size (fun j hj => by cases hj)⟩
  case round =>
    obtain ⟨us, left, cnt, Dn, Da, Dx, hnd, hus, hrg, hNV, hleft, hall, hAV, hnext, hXV, hB⟩ := hrel
    obtain ⟨wq, hwq⟩ : ∃ wq : World, wq = wr := ⟨_, rfl⟩
    subst hwq
    have hrg00 := hrg
    go_wp2_with (first
      | (at_next; refine wpList_next_ranges _ rfl _ rfl 9 Try.keysS intR (fun l : List UInt8 => Value.string (str l)) (Value.int .i64) (fun key kl hk => by obtain ⟨x, hx, _⟩ := Maps.keyOf_str Try.underlying9 hk; exact ⟨x, hx⟩) (fun v y hv => by obtain ⟨c, rfl, _⟩ := plainElem_int_inv Try.underlying3 hv; exact ⟨c, rfl⟩) bn wz.heap.size 59049 _ _ _ rfl hrg ?_ ?_)
      | go_in)
    · intro hc0 hl0
      have hall2 : us.Perm (lay nxL wl k) := by
        refine (List.perm_ext_iff_of_nodup hnd (rising_nodup (lay_rising k))).2 fun v => ⟨hus v, fun hv => ?_⟩
        by_cases hin : v ∈ us
        · exact hin
        · have h1 := (hNV.1 v hv hin).1
          rw [← hleft v, hl0] at h1
          cases h1
      have hAV2 := allV_row hAV hall2
      have hNX2 := nextV_end hXV hall2
      have hempty : ∀ v, Maps.has Dn (.string v) = false := fun v => by rw [← hleft v, hl0]
      have hlen := fun ty => hnext.len Try.underlying84 ty
      have hsz : Maps.size Dx = (lay nxL wl (k + 1)).length := size_zero hnext Try.keysS Try.underlying9 _ (rising_nodup (lay_rising _)) fun v =>
        ⟨fun hv => (hNX2.1 v hv (by simp)).1, fun hv => (hNX2.2 v hv).1⟩
      rw [hsz] at hlen
      have hown := hrg.owns
      have HO := Lib.hid hown
      have HX := Lib.hid hnext
      have HA := Lib.hid hall
      clear hown hnext hall hrg hrg00 hNV hXV hAV hsz
      by_cases hlast : k + 1 < d
      · have hpos : 0 < (lay nxL wl (k + 1)).length := List.length_pos_iff.2 (HD.out.2.2 _ hlast)
        have hks : IntKind.i64.wrap ((k : Int) + 1) = ((k + 1 : Nat) : Int) := by rw [IntKind.wrap_i64]; omega
        generalize (lay nxL wl (k + 1)).length = N at hlen hpos
        go_wp2
        go_step3
        refine ⟨rfl, ?_⟩
        apply HJ.out
        exact ⟨ha0, hx0, hn0, fun e => hnx e.symm, hax, han, ⟨Da, HA.out, hAV2⟩, ⟨Dx, HX.out, hNX2⟩, ⟨Dn, HO.out, hempty⟩, hB, hlast⟩
      · have he : k + 1 = d := by omega
        have hz : (lay nxL wl (k + 1)).length = 0 := by rw [he, HD.out.2.1]; rfl
        rw [hz] at hlen
        go_wp2
        show Q .ret _ _
        apply HQ.out
        exact ⟨ha0, ⟨Da, HA.out, by rw [← he]; exact hAV2⟩, hB⟩
    · intro x c0 kl yd yp w2 cnt2 hkey hlk hv hat hrg2 hlt hg2 hs2 hen
      obtain ⟨x', ex, rfl, hxl⟩ := Maps.keyOf_str Try.underlying9 hkey
      obtain rfl : x = x' := by
        have : str x = str x' := by injection ex
        exact str_inj.1 this
      clear ex
      obtain ⟨c1, ec, ey, _⟩ := plainElem_int_inv Try.underlying3 hv
      injection ec with _ ec
      subst ec
      injection ey with ey1 ey2
      subst ey1
      have hhas : Maps.has Dn (.string x) = true := by rw [← hleft x]; exact hlk
      obtain ⟨hxk, hxu⟩ := hNV.2 x hhas
      have hc0 : c0 = wr (pc nxL wl k x) := by
        have h1 := (hNV.1 x hxk hxu).2 .nil
        rw [hat] at h1
        injection h1 with h1
        injection h1
      have hgx := HG.out k x hxk
      have hall2 := hall.kept hg2 (by simp; omega)
      have hnext2 := hnext.kept hg2 (by simp; omega)
      have hB2 := hB.grown hg2 hB.size (fun j hj => by injection hj with hj; have := HB0.out.size; omega)
      have hNV3 := nowV_step (x := x) hNV
      have hAV3 := allV_step (x := x) hall.isMap hAV (fun j hj hv => by have := HAP.out _ _ _ hv hxk; omega) hxu
      have hNX3 := nextV_zero x hXV
      rw [← hc0] at hAV3
      have HC0 := Lib.hid hc0
      have HAV3 := Lib.hid hAV3
      have HNV3 := Lib.hid hNV3
      have hmv : arrR (.agg #[.int .i64 (k : Int), .int .i64 c0]) = some (arrD k c0, []) := rfl
      have hkx := keyStr hxl
      have hs2' := hs2
      clear hc0 hat hkey hv hall hnext hB hs2 hrg hAV hNV hXV hAV3 hNV3
      go_wp2_with (first
        | (at_mapUpdate; refine wpList_mapUpdate_own _ rfl _ _ _ 49 rfl 9 58 Try.keysS Try.underlying49 arrR ba 59049 Da rfl hall2 (by decide) _ _ (.string x) rfl rfl hkx _ [] hmv ?_; intro w3 hall3 hg3)
        | (go_at_call 66; refine (linesBehind_any x _ hgx.1).mono ?_; rintro e w4 ⟨v4, rfl, ho4, hb4⟩; obtain ⟨A4, cap4, rfl, hlc4, hcm4, hat4, hno4, hbl4⟩ := st_own ho4))
      have hsz2 : wz.heap.size < w2.heap.size := by have := hrg2.lt; omega
      have hall4 := (hall3.kept (grown_of_below hb4) (by simp))
      have hall4 := own_few (c := c) hall4 Try.keysS Try.underlying9 fun v hv => by
        rcases HAV3.out.2.2 v hv with ⟨j, _, hj⟩ | hj
        · exact HG.out j v hj
        · rcases List.mem_append.1 hj with hj | hj
          · exact HG.out k v (hus v hj)
          · obtain rfl : v = x := by simpa using hj
            exact hgx
      have hnext4 := (hnext2.kept hg3 (by simp; omega)).kept (grown_of_below hb4) (by simp)
      have hrg4 := (hrg2.kept hg3 (by simp; omega) (by simp; omega)).kept (grown_of_below hb4) (by simp) (by simp)
      have hB4 := (hB2.grown hg3 hB2.size (fun j hj => by injection hj with hj; omega)).trans (hb4.mono (Nat.le_trans hB2.size hg3.size))
      have hsz4 : bx < w3.heap.size := Nat.lt_of_lt_of_le hnext2.lt hg3.size
      have HNE4 : Hid (∀ a, A4 = some a → some a.block ≠ some bx) := Lib.hid fun a ha e => by injection e with e; have := (hbl4 a ha).1; omega
      have HAT4 := Lib.hid hat4
      have HALL4 := Lib.hid hall4
      have HRG4 := Lib.hid hrg4
      have HB4 := Lib.hid hB4
      have HNX3 := Lib.hid hNX3
      have hlen4 := nxL_len x
      have hx10 := hgx.2
      clear hall2 hall3 hall4 hnext2 hrg2 hrg4 hB2 hB4 hb4 hg3 ho4 hat4 hbl4
      obtain ⟨N, hN⟩ : ∃ N, nxL x = N := ⟨_, rfl⟩
      rw [hN] at hlc4 hlen4 HAT4
      have HN := Lib.hid hN
      rw [hN]
      have HKX := Lib.hid hkx
      clear hN hs2' hkx hmv hhas hlk hg2 hno4
      have HNX0 := HNX3
      go_loopw [35] (fun t wr => ∃ (i : Nat) (Dx : DataW Unit), i ≤ N.length ∧ t = .int .i64 i ∧ wr.ownsMap Try.prog 9 intR bx 59049 Dx ∧ NextV nxL wl Dx k us x i ∧ w4.grownBy wr (some bx)) (fun t _ => N.length - (intOf t).toNat)
      case atStart => exact ⟨0, Dx, Nat.zero_le _, rfl, hnext4, HNX3.out, World.grownBy.refl _ _⟩
      case round =>
        obtain ⟨i, Di, hi, rfl, hmap, hNXi, hgw⟩ := hrel
        obtain ⟨wi, hwi⟩ : ∃ wi : World, wi = wr := ⟨_, rfl⟩
        subst hwi
        clear hnext4
        by_cases hlti : i < N.length
        · obtain ⟨g, rfl, z1, p1⟩ := (HAT4.out.farB (farB_of_grown hgw) HNE4.out) i hlti
          have HSTEP : Hid (∀ {cc : Int}, Di.atKey (.string N[i]) (.lit (.int .i64 0)) = .lit (.int .i64 cc) → ∃ n : Nat, cc = wr n ∧ NextV nxL wl (Di.put (.string N[i]) (.lit (.int .i64 (wr (n + pc nxL wl k x))))) k us x (i + 1)) := by
            show _
            intro cc hcc
            have hI := HN.out
            subst hI
            exact nextV_step hmap.isMap hNXi hlti hcc
          have hgN : goodT c N[i] := (steps_line c).keeps x _ hgx (by rw [HN.out]; exact List.getElem_mem hlti)
          have hkN : keyOf Try.prog 9 (.string (str N[i])) = some (.string N[i]) := keyStr (by have := hgN.2; unfold maxLen; omega)
          generalize N[i] = y at p1 HSTEP hkN hgN
          go_wp2_with (first
            | (at_lookup; refine wpList_lookup_own_int _ rfl _ _ 84 rfl 9 3 .i64 Try.keysS Try.underlying84 Try.underlying3 (zeroI _) bx 59049 Di rfl hmap _ (.string y) rfl hkN ?_; intro cc hat hwc; obtain ⟨nn, hcc, hNX2⟩ := HSTEP.out hat; obtain ⟨M, hM⟩ : ∃ M, M = wr (nn + pc nxL wl k x) := ⟨_, rfl⟩; have hs1 : (cc + c0 + 9223372036854775808) % 18446744073709551616 - 9223372036854775808 = M := (by rw [hM, hcc, HC0.out]; exact wr_add _ _); have hs0 : IntKind.i64.wrap (cc + c0) = M := (by rw [hM, hcc, HC0.out]; exact wr_wrap _ _); have HM : Hid (M = wr (nn + pc nxL wl k x)) := Lib.hid hM; have hval : intR (.int .i64 M) = some (.lit (.int .i64 M), []) := (by rw [hM]; exact intR_mk _); rw [← hM] at hNX2; clear hM hcc hat hwc)
            | (at_mapUpdate; refine wpList_mapUpdate_own _ rfl _ _ _ 84 rfl 9 3 Try.keysS Try.underlying84 intR bx 59049 Di rfl hmap (by decide) _ _ (.string y) rfl rfl hkN (.lit (.int .i64 M)) [] hval ?_; intro w5 hmap5 hg5))
          refine ⟨⟨i + 1, _, by omega, by go_num, own_few (c := c) hmap5 Try.keysS Try.underlying9 fun v hv => ?_, hNX2, hgw.trans hg5⟩, by simp [intOf]; omega⟩
          rcases hNX2.2 v hv with ⟨u, hu, hv⟩ | hv
          · exact (steps_line c).keeps u v (HG.out k u (hus u hu)) hv
          · exact (steps_line c).keeps x v hgx (List.mem_of_mem_take hv)
        · obtain rfl : i = N.length := by omega
          rw [← HN.out] at hNXi
          have hNX6 := nextV_row [] hNXi
          have hrg5 := HRG4.out.kept hgw (by simp; omega) (by simp; omega)
          have hkx := HKX.out
          go_wp2_with (first
            | (at_delete; refine wpList_delete_ranges _ rfl _ _ 84 9 rfl 3 Try.keysS Try.underlying84 _ bn wz.heap.size 59049 _ _ _ rfl hrg5 _ (.string x) rfl hkx ?_; intro w6 cnt6 hrg6 hle6 hturn6; try go_frame)
            | go_in)
          rw [Maps.strike_twice] at hrg6
          go_roundw
          case rel =>
            refine ⟨us ++ [x], _, cnt6, _, _, Di, ?_, fun v hv => ?_, hrg6, HNV3.out, fun v => ?_, (HALL4.out.kept hgw (by simp; omega)).kept hturn6.grown (by simp; omega), HAV3.out, hmap.kept hturn6.grown (by simp; omega), hNX6,
              (HB4.out.grown hgw HB4.out.size (fun j hj => by injection hj with hj; omega)).grown hturn6.grown (Nat.le_trans HB4.out.size hgw.size) (fun j hj => by injection hj with hj; omega)⟩
            · exact List.nodup_append.2 ⟨hnd, by simp, fun a ha b hb => by simp at hb; subst hb; exact fun e => hxu (e ▸ ha)⟩
            · rcases List.mem_append.1 hv with hv | hv
              · exact hus v hv
              · obtain rfl : v = x := by simpa using hv
                exact hxk
            · by_cases e : v = x
              · subst e
                rw [has_del_same, hleft v]
                simp [Lit.sameKey]
              · rw [has_del_other (key_ne e), hleft v, sameKey_ne (key_ne e)]
                simp
          case measure => rw [hrg6.left_eq, hrg00.left_eq]; omega
end Go.Proofs.Ytflpncdnneapmaa
