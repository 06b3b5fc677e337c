/- How many plays lead to a line: both sides, and the law's walk. -/
import Derived.Test.YtoefeooldcbfiaaCnt
import Derived.Test.YtoefeooldcbfiaaStops
import Derived.Laws.Rows
namespace Go.Proofs.Ytoefeooldcbfiaa
open Go.RowKit Go.Maps

theorem Try.zeroA (w : World) : (zeroValue 64).run Try.prog w = .ok (.agg #[.int .i64 0, .int .i64 0]) w := by kernel_rfl
theorem results_at (tmps : Array Value) (w : World) (g : Nat) (x y : Value) (hp : tmps.getD 4 undef = .pointer (some ⟨g, 0, none⟩)) (c0 : w.cell? ⟨g, 0, none⟩ = some x) (c1 : w.cell? ⟨g, 1, none⟩ = some y) :
    (results Try.f79 tmps).run Try.prog w = .ok (.tuple #[.agg #[x, y], tmps.getD 5 undef]) w := by
  have hr : Try.f79.results = #[.cell 4 64, .tmp 5] := rfl
  unfold results
  rw [hr]
  simp at hp
  simp [hp, asAddr, c0, c1, go_sem]
/-- What is known of the arrival at a line. -/
def AtV (wl vt : List UInt8) (d : Nat) (a b : Int) : Prop :=
  (∀ k, k < d → vt ∈ lay nxL wl k → a = k ∧ b = wr (pc nxL wl k vt)) ∧ ((∀ k, k < d → vt ∉ lay nxL wl k) → a = 0 ∧ b = 0)

set_option maxRecDepth 100000 in
set_option maxHeartbeats 1000000 in
theorem arrivalAt_noV (s : ByteArray) (t : ByteArray) (w : World) (ht : t.size ≤ maxLen) (hr : reachB t = false) :
    Calls Try.prog 79 #[.string s, .string t] w fun e w' => e = .returned (.tuple #[.agg #[.int .i64 0, .int .i64 0], .bool false]) ∧ Below w.heap.size w w' := by
  have hR := Lib.hid hr
  have hz := fun w => Try.zeroA w
  clear hr
  go_enter Try.func79, Try.ntmps79
  go_wp2_with (go_at_call 69; refine (isReach_any _ _ ht).mono ?_; rintro e w' ⟨rfl, rfl⟩; rw [hR.out])
  (try simp only [Exit.inBlock, Exit.then]); refine bodyPost_ret (results_at _ _ w.heap.size (.int .i64 0) (.int .i64 0) rfl ?_ ?_) rfl ?_
  · rw [World.cell?_alloc_new]; rfl
  · rw [World.cell?_alloc_new]; rfl
  · exact ⟨rfl, (Below.refl _ _).alloc (Nat.le_refl _) _⟩

set_option maxRecDepth 100000 in
set_option maxHeartbeats 1000000 in
theorem arrivalAt_noW (wl : List UInt8) (vt : List UInt8) (w : World) (hs : (str wl).size ≤ maxLen) (hr : reachB (str wl) = false) (hv : reachB (str vt) = true) :
    Calls Try.prog 79 #[.string (str wl), .string (str vt)] w fun e w' => e = .returned (.tuple #[.agg #[.int .i64 0, .int .i64 0], .bool false]) ∧ Below w.heap.size w w' := by
  have hR := Lib.hid hr
  have hV := Lib.hid hv
  have hvl : vt.length ≤ maxLen := by have := (reach_good hv).2; unfold maxLen; omega
  have ht : (str vt).size ≤ maxLen := by rw [str_size]; exact hvl
  have hlk := fun wx => Maps.look_nil (P := Try.prog) (w := wx) false Try.keysS Try.underlying60 (Try.zeroA wx) (keyStr hvl)
  clear hr hv
  go_enter Try.func79, Try.ntmps79
  go_wp2_with (first
    | (go_at_call 69; refine (isReach_any _ _ ht).mono ?_; rintro e w' ⟨rfl, rfl⟩; rw [hV.out])
    | (go_at_call 45; refine (arrivals_no wl _ hs hR.out).mono ?_; rintro e w' ⟨rfl, rfl⟩))
  (try simp only [Exit.inBlock, Exit.then]); refine bodyPost_ret (results_at _ _ w.heap.size (.int .i64 0) (.int .i64 0) rfl ?_ ?_) rfl ?_
  · rw [World.cell?_alloc_new]; rfl
  · rw [World.cell?_alloc_new]; rfl
  · exact ⟨rfl, (Below.refl _ _).alloc (Nat.le_refl _) _⟩

set_option maxRecDepth 100000 in
set_option maxHeartbeats 1000000 in
theorem arrivalAt_yes (d : Nat) (wl : List UInt8) (vt : List UInt8) (w : World) (hr : reachB (str wl) = true) (hd : IsDep nxL wl d) (hd2 : d ≤ 60000) (hv : reachB (str vt) = true) :
    Calls Try.prog 79 #[.string (str wl), .string (str vt)] w fun e w' => ∃ a b, e = .returned (.tuple #[.agg #[.int .i64 a, .int .i64 b], .bool true]) ∧ AtV wl vt d a b ∧ Below w.heap.size w w' := by
  have hR := Lib.hid hr
  have hV := Lib.hid hv
  have HD := Lib.hid hd
  have hvl : vt.length ≤ maxLen := by have := (reach_good hv).2; unfold maxLen; omega
  have ht : (str vt).size ≤ maxLen := by rw [str_size]; exact hvl
  clear hr hv hd
  go_enter Try.func79, Try.ntmps79
  go_wp2_with (go_at_call 69; refine (isReach_any _ _ ht).mono ?_; rintro e w' ⟨rfl, rfl⟩; rw [hV.out])
  refine (arrivals_yes d wl _ hR.out HD.out hd2).mono ?_
  rintro e w1 ⟨ba, rfl, hba, ⟨D, hown, hA⟩, hb1⟩
  obtain ⟨v, ps, hrun, hRv⟩ := hown.lookup Try.keysS Try.underlying60 (Try.zeroA w1) (arrR_mk 0 0) (keyStr hvl)
  obtain ⟨a, b, rfl, hab⟩ := arrR_inv hRv
  injection hab with hab _
  have hAT : AtV wl vt d a b := by
    refine ⟨fun k hk hvk => ?_, fun hno => ?_⟩
    · have := (hA.1 k vt hk hvk).2 (arrD 0 0)
      rw [hab] at this
      exact arrD_inj this
    · have hn : Maps.has D (.string vt) = false := by
        cases hb : Maps.has D (.string vt)
        · rfl
        · rcases hA.2.2 vt hb with ⟨j, hj, hvj⟩ | h
          · exact absurd hvj (hno j hj)
          · simp at h
      rw [atKey_of_not_has hn] at hab
      have := arrD_inj hab
      exact ⟨this.1.symm, this.2.symm⟩
  have HAT := Lib.hid hAT
  have HB := Lib.hid (((Below.refl w.heap.size w).alloc (Nat.le_refl _) (Obj.cells #[.int .i64 0, .int .i64 0] 64)).trans (hb1.mono (by simp)))
  obtain ⟨b0, b1⟩ := bcell hb1
  have e0 : w1.cell? ⟨w.heap.size, 0, none⟩ = some (.int .i64 0) := by rw [b0 _ _ (by simp), World.cell?_alloc_new]; rfl
  have e1 : w1.cell? ⟨w.heap.size, 1, none⟩ = some (.int .i64 0) := by rw [b0 _ _ (by simp), World.cell?_alloc_new]; rfl
  have f0 : w1.frozen? ⟨w.heap.size, 0, none⟩ = false := by rw [b1 _ _ (by simp)]; simp
  have f1 : w1.frozen? ⟨w.heap.size, 1, none⟩ = false := by rw [b1 _ _ (by simp)]; simp
  clear hown hA hRv hab hAT hb1 b0 b1
  go_wp2
  (try simp only [Exit.inBlock, Exit.then]); refine bodyPost_ret (results_at _ _ w.heap.size (.int .i64 a) (.int .i64 b) rfl ?_ ?_) rfl ?_
  · rw [World.cell?_setCell_other _ _ _ _ (by intro e; injection e with _ e; omega)]
    exact World.cell?_setCell_same _ _ _ e0
  · exact World.cell?_setCell_same _ _ _ (by rw [World.cell?_setCell_other _ _ _ _ (by intro e; injection e with _ e; omega)]; exact e1)
  · exact ⟨a, b, rfl, HAT.out, (HB.out.setCell (Nat.le_refl _) _).setCell (Nat.le_refl _) _⟩

/-- The counts of a layer. -/
def cts (wl : List UInt8) (k : Nat) : List Int := (lay nxL wl k).map fun v => wr (pc nxL wl k v)
theorem cts_len (wl : List UInt8) (k : Nat) : (cts wl k).length = (lay nxL wl k).length := by simp [cts]
theorem cts_zero (wl : List UInt8) : cts wl 0 = [1] := by simp [cts, lay, pc, wr_small 1 (by decide)]

end Go.Proofs.Ytoefeooldcbfiaa
