/- Contract: the program's arrivals. -/
import Derived.Test.YtflpncdnneapmaaArrB
namespace Go.Proofs.Ytflpncdnneapmaa
open Go.RowKit Go.Maps

/-- A line of at most ten cells, as the program and the model ask it. -/
def reachB (s : ByteArray) : Bool := goodL s && decide (s.size ≤ 10)
theorem reach_good {l : List UInt8} (h : reachB (str l) = true) : goodT l.length l := by
  unfold reachB at h
  rw [Bool.and_eq_true, decide_eq_true_eq, str_size] at h
  exact ⟨h.1, rfl, h.2⟩
theorem dep_of {l : List UInt8} (h : reachB (str l) = true) : ∃ d, IsDep nxL l d ∧ d ≤ 60000 := by
  obtain ⟨d, h1, h2⟩ := dep_exists (steps_line l.length) (reach_good h)
  have := wayL_le (reach_good h)
  exact ⟨d, h1, by omega⟩

set_option maxHeartbeats 400000 in
theorem isReach_any (s : ByteArray) (w : World) (hs : s.size ≤ maxLen) :
    Calls Try.prog 30 #[.string s] w fun e w' => e = .returned (.bool (reachB s)) ∧ w = w' := by
  cases hc : goodL s
  · have hR : Hid (reachB s = false) := Lib.hid (by unfold reachB; rw [hc]; rfl)
    have hC := Lib.hid hc
    clear hc
    go_enter Try.func30, Try.ntmps30
    go_wp2_with (go_at_call 65; refine (isLine_any _ _ hs).mono ?_; rintro e w' ⟨rfl, rfl⟩; rw [hC.out])
    go_ret
    exact ⟨by rw [hR.out]; rfl, rfl⟩
  · have hC := Lib.hid hc
    have h12 := ((goodL_iff s).1 hc).2.1
    have hR : Hid (reachB s = decide (s.size ≤ 10)) := Lib.hid (by unfold reachB; rw [hc]; simp)
    clear hc
    go_enter Try.func30, Try.ntmps30
    go_wp2_with (go_at_call 65; refine (isLine_any _ _ hs).mono ?_; rintro e w' ⟨rfl, rfl⟩; rw [hC.out])
    go_ret
    exact ⟨by rw [hR.out]; exact congrArg (fun b => Ending.returned (.bool b)) (decide_eq_decide.2 (by omega)), rfl⟩

set_option maxHeartbeats 400000 in
theorem reFew_any (s : ByteArray) (w : World) (hs : s.size ≤ maxLen) :
    Calls Try.prog 26 #[.string s] w fun e w' => e = .returned (.bool (reachB s)) ∧ w = w' := by
  cases hc : goodL s
  · have hR : Hid (reachB s = false) := Lib.hid (by unfold reachB; rw [hc]; rfl)
    have hC := Lib.hid hc
    clear hc
    go_enter Try.func26, Try.ntmps26
    go_wp2_with (go_at_call 61; refine (liGood_any _ _ hs).mono ?_; rintro e w' ⟨rfl, rfl⟩; rw [hC.out])
    go_ret
    exact ⟨by rw [hR.out]; rfl, rfl⟩
  · have hC := Lib.hid hc
    have h12 := ((goodL_iff s).1 hc).2.1
    have hR : Hid (reachB s = decide (s.size ≤ 10)) := Lib.hid (by unfold reachB; rw [hc]; simp)
    clear hc
    go_enter Try.func26, Try.ntmps26
    go_wp2_with (go_at_call 61; refine (liGood_any _ _ hs).mono ?_; rintro e w' ⟨rfl, rfl⟩; rw [hC.out])
    go_ret
    exact ⟨by rw [hR.out]; exact congrArg (fun b => Ending.returned (.bool b)) (decide_eq_decide.2 (by omega)), rfl⟩

/-- An entry of a map's literal, at the operation. -/
theorem wpList_insert_new {P : Program} (w : World) {ops : Array Oper} {rest : List Oper} {o : Oper} {a : Act} {Q : Exit → Act → World → Prop}
    (hg : o.guard = none) (m x v : Operand) (t : TypeId) (hop : o.op = Op.insert t m x v)
    (k e : TypeId) (K : Keyed P k) (ht : P.underlying t = some (.map k e)) (R : Value → Option (DataW Unit × List MemPlace)) (b n : Nat) (D : DataW Unit)
    (hm : a.eval m = .map (some b)) (hown : w.ownsMap P k R b n D) (hn : n < maxLen) (key val : Value) (kl : Lit) (hx : a.eval x = key) (hv : a.eval v = val) (hkey : keyOf P k key = some kl)
    (d : DataW Unit) (ps : List MemPlace) (hval : R val = some (d, ps))
    (hK : ∀ w', w'.ownsMap P k R b (n + 1) (D.put kl d) → w.grownBy w' (some b) → wpList P ops Q rest (a.put o.dst undef) w') :
    wpList P ops Q (o :: rest) a w := by
  refine wpList_plain hg fun K' hK' => ?_
  obtain ⟨w', hrun, r1, r2⟩ := hown.update K ht hn hkey hval
  unfold Oper.wp
  simp [execOp, hop, hm, hx, hv, hrun, Result.andThen]
  exact hK' _ _ (hK w' r1 r2)

set_option maxRecDepth 100000 in
set_option maxHeartbeats 1000000 in
theorem arrivals_no (wl : List UInt8) (w : World) (hs : (str wl).size ≤ maxLen) (hr : reachB (str wl) = false) :
    Calls Try.prog 31 #[.string (str wl)] w fun e w' => e = .returned (.tuple #[.map none, .bool false]) ∧ w = w' := by
  have hR := Lib.hid hr
  clear hr
  go_enter Try.func31, Try.ntmps31
  go_wp2
  go_step3
  go_wp2_with (go_at_call 30; refine (isReach_any _ _ hs).mono ?_; rintro e w' ⟨rfl, rfl⟩; rw [hR.out])
  rw [Exit.noGoto_ret]
  go_ret2
  exact ⟨rfl, rfl⟩

set_option maxRecDepth 100000 in
set_option maxHeartbeats 1000000 in
theorem arrivals_yes (d : Nat) (wl : List UInt8) (w : World) (hr : reachB (str wl) = true) (hd : IsDep nxL wl d) (hd2 : d ≤ 60000) :
    Calls Try.prog 31 #[.string (str wl)] w fun e w' => ∃ ba, e = .returned (.tuple #[.map (some ba), .bool true]) ∧ AFin wl d w ba w' := by
  have hg := reach_good hr
  have hs : (str wl).size ≤ maxLen := by have := hg.2; rw [str_size]; unfold maxLen; omega
  have hR := Lib.hid hr
  have HD := Lib.hid hd
  have HG := Lib.hid hg
  have hkw := keyStr (x := wl) (by have := hg.2; unfold maxLen; omega)
  have hw1 : intR (.int .i64 1) = some (.lit (.int .i64 1), []) := by have := intR_mk 1; rwa [wr_small 1 (by decide)] at this
  have hmm := @run_makeMap Try.prog
  clear hr hd hg
  go_enter Try.func31, Try.ntmps31
  go_wp2
  refine wp_scope_jumps 0 (fun a w' => ∃ (k bn bx : Nat) (u2 u3 u1 u8 u9 u10 u11 u12 u13 u14 u15 u16 u17 u18 u19 u20 u21 u22 u23 u24 u25 u26 u27 u28 u29 u30 u31 u32 u33 u34 u35 u36 u37 u38 u39 u40 u41 u42 u43 u44 u45 u46 u47 u48 u49 u50 u51 u52 u53 u54 : Value), ARel wl.length d wl w w.heap.size bn bx k w' ∧ a = { tmps := #[.string (str wl), u1, u2, u3, .map (some w.heap.size), .int .i64 (k : Int), .map (some bn), .map (some bx), u8, u9, u10, u11, u12, u13, u14, u15, u16, u17, u18, u19, u20, u21, u22, u23, u24, u25, u26, u27, u28, u29, u30, u31, u32, u33, u34, u35, u36, u37, u38, u39, u40, u41, u42, u43, u44, u45, u46, u47, u48, u49, u50, u51, u52, u53, u54], defers := [] }) (fun a _ => d - (intOf (a.tmps.getD 5 undef)).toNat) rfl ?_ ?_
  · go_wp2_with (first
      | (go_at_call 30; refine (isReach_any _ _ hs).mono ?_; rintro e w' ⟨rfl, rfl⟩; rw [hR.out])
      | (refine wpList_insert_new _ rfl _ _ _ 84 rfl 9 3 Try.keysS Try.underlying84 intR (w.heap.size + 1) 0 (.map []) rfl ?_ (by decide) _ _ (.string wl) rfl rfl hkw _ [] hw1 ?_; rotate_right; intro w1 hown1 hg1))
    · go_step3
      have hsz := hg1.size
      have hown2 := hown1.alloc (Obj.map #[] 0)
      have hrel : ARel wl.length d wl w w.heap.size (w.heap.size + 1) w1.heap.size 0 (w1.alloc (Obj.map #[] 0)) := by
        simp at hsz
        have o1 := World.ownsMap_made (H := Unit) w Try.prog 9 arrR
        have o1 := ((o1.alloc (Obj.map #[] 0)).kept hg1 (by simp)).alloc (Obj.map #[] 0)
        have o3 := World.ownsMap_made (H := Unit) w1 Try.prog 9 intR
        refine ⟨Nat.le_refl _, by omega, by omega, by omega, by omega, by omega, ⟨_, o1.mono (by decide), fun j v hj => absurd hj (by omega), fun v hv => (by simp at hv), fun v hv => (by simp [Maps.has] at hv)⟩,
          ⟨_, hown2.mono (by decide), fun v hv _ => ?_, fun v hv => ?_⟩, ⟨_, o3.mono (by decide), fun v => by simp [Maps.has]⟩,
          ((((Below.refl w.heap.size w).alloc (Nat.le_refl _) _).alloc (by simp) _).grown hg1 (by simp; omega) (fun j hj => by injection hj with hj; omega)).alloc (by omega) _, HD.out.1⟩
        · obtain rfl : v = wl := by simpa [lay] using hv
          have := hasV_same (D := DataW.map []) ⟨[], rfl⟩ v (.lit (.int .i64 1))
          simpa [pc, wr_small 1 (by decide)] using this
        · rcases has_put hv with rfl | hv
          · simp [lay]
          · simp [Maps.has] at hv
      rename_i KK hKK
      show KK _ _
      refine hKK _ _ ?_
      refine arr_pass wl.length d 0 wl w _ w.heap.size (w.heap.size + 1) w1.heap.size HG.out HD.out hd2 hrel ?_ ?_
      · intros
        refine ⟨0 + 1, _, _, _, _, _, _, _, _, _, _, _, _, _, _, _, _, _, _, _, _, _, _, _, _, _, _, _, _, _, _, _, _, _, _, _, _, _, _, _, _, _, _, _, _, _, _, _, _, _, _, _, _, ?_, rfl⟩
        assumption
      · intros
        show bodyPost Try.prog Try.f31 _ _ _ _
        go_ret2
        exact ⟨_, rfl, by assumption⟩
    · have := World.ownsMap_made (H := Unit) (w.alloc (Obj.map #[] 0)) Try.prog 9 intR
      rwa [World.size_alloc] at this
  · rintro a wr ⟨k, bn, bx, u2, u3, u1, u8, u9, u10, u11, u12, u13, u14, u15, u16, u17, u18, u19, u20, u21, u22, u23, u24, u25, u26, u27, u28, u29, u30, u31, u32, u33, u34, u35, u36, u37, u38, u39, u40, u41, u42, u43, u44, u45, u46, u47, u48, u49, u50, u51, u52, u53, u54, hrel, rfl⟩
    have hk := hrel.hk
    refine wp_seq (wp_skip ?_)
    show Code.wp Try.prog arrRest _ _ _
    refine arr_pass wl.length d k wl w wr w.heap.size bn bx HG.out HD.out hd2 hrel ?_ ?_
    · intros
      refine ⟨⟨k + 1, _, _, _, _, _, _, _, _, _, _, _, _, _, _, _, _, _, _, _, _, _, _, _, _, _, _, _, _, _, _, _, _, _, _, _, _, _, _, _, _, _, _, _, _, _, _, _, _, _, _, _, _, ?_, rfl⟩, ?_⟩
      · assumption
      · show d - ((k : Int) + 1).toNat < d - ((k : Int)).toNat
        omega
    · intros
      show bodyPost Try.prog Try.f31 _ _ _ _
      go_ret2
      exact ⟨_, rfl, by assumption⟩
end Go.Proofs.Ytflpncdnneapmaa
