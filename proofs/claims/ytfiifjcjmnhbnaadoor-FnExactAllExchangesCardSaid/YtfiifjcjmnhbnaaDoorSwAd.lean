/- Contracts: a row of moves cloned; all plays from a live line, the program's. -/
import Derived.Test.YtfiifjcjmnhbnaaDoorSwAa
import Derived.Test.YtfiifjcjmnhbnaaDoorSwAc
import Derived.Test.YtfiifjcjmnhbnaaDoorSwLm
import Derived.Lib.SliceRun
import Derived.Maps.AppendAt
namespace Go.Proofs.YtfiifjcjmnhbnaaDoor
open Go.RowKit Go.Shelf Go.Maps

theorem own_noneM (w : World) : (w.alloc (Obj.cells #[] 55)).ownsRow w.heap.size 55 2 (.slice (some ⟨w.heap.size, 0, none⟩) 0 0) 0 [] := World.ownsRow_made w #[] 0 (Nat.le_refl _) (by decide) rfl
theorem flat_oneM (l : List (Int × Int)) : ∀ u ∈ flat l, u.oneCell' = true := fun u hu => by
  unfold flat at hu
  obtain ⟨m, _, hm⟩ := List.mem_flatMap.1 hu
  simp at hm
  rcases hm with rfl | rfl <;> rfl
set_option maxRecDepth 100000 in
set_option maxHeartbeats 1000000 in
theorem cloneM_any (v : Value) (b : Nat) (F : List (Int × Int)) (w : World) (h : w.ownsRow b 55 2 v F.length (flat F)) (hF : F.length ≤ 60000) :
    Calls Tryd.prog 32 #[v] w fun e w' => ∃ v', e = .returned v' ∧ w'.ownsRow w.heap.size 55 2 v' F.length (flat F) ∧ Below w.heap.size w w' := by
  obtain ⟨i0, hi, hz0, hz1, hz2⟩ := info_parts Tryd.infoM
  have HI := Lib.hid hi
  have HZ0 := Lib.hid hz0
  have HZ1 := Lib.hid hz1
  have HZ2 := Lib.hid hz2
  clear hi hz0 hz1 hz2
  have q22 : ∀ (w : World) (a : Option Addr) (n c n' c' : Nat), (binOp .eql 36 (.slice a n c) (.slice none n' c')).run Tryd.prog w = .ok (.bool a.isNone) w := fun w a n c n' c' => Lib.run_eql_slice_nil w _ _ a n c n' c' Tryd.underlying36
  have hown := h
  rcases h.2 with ⟨rfl, h0⟩ | ⟨g, cap, cur, rfl, _, hg, _⟩
  · have e0 := List.eq_nil_of_length_eq_zero h0
    subst e0
    clear h hown
    go_enter Tryd.func32, Tryd.ntmps32
    go_wp2_with fail
    go_ret
    exact ⟨_, rfl, World.ownsRow_nil _ _ _ _, Below.refl _ _⟩
  · have hlt : g < w.heap.size := (hown.lt g rfl).2
    have HC : Hid (∀ o : Obj, ∀ ad : Addr, some (⟨g, 0, none⟩ : Addr) = some ad → ∀ j u, (flat F)[j]? = some u → (w.alloc o).cell? (ad.add j) = some u) := Lib.hid fun o ad e j u hu => by
      cases e
      exact (hown.alloc o).cells (g := g) rfl j u hu
    have HL : Hid ((flat F).length = F.length * 2) := Lib.hid hown.1
    have H1 := Lib.hid (flat_oneM F)
    have H3 : 0 + F.length ≤ maxLen := by unfold maxLen; omega
    have H4 : (0 + F.length) * 16 ≤ 140737488355328 := by omega
    clear h hown hg
    generalize flat F = us at *
    generalize F.length = n at *
    go_enter Tryd.func32, Tryd.ntmps32
    go_wp2_with (first
      | (at_builtin; refine wpList_append_st _ rfl _ _ 36 rfl w.heap.size 55 i0 (.agg #[.int .i64 0, .int .i64 0]) 2 16 Tryd.underlying36 HI.out HZ0.out HZ1.out HZ2.out rfl (by decide) _ 0 [] rfl (own_noneM w) (some ⟨g, 0, none⟩) n cap us rfl (fun e => by cases e) HL.out (HC.out _) H1.out H3 H4 (by simp) ?_; intro v1 w1 ho1 hg1))
    go_ret
    have b1 := ((Below.refl w.heap.size w).alloc (Nat.le_refl _) (Obj.cells #[] 55)).grown hg1 (by simp) (fun j hj => ((own_noneM w).lt _ hj).1)
    exact ⟨v1, rfl, by simpa using ho1, b1⟩
theorem cell_one_newA (w : World) (a : Value) (t : TypeId) : ∀ j u, [a][j]? = some u → (w.alloc (.cells #[a] t)).cell? ((⟨w.heap.size, 0, none⟩ : Addr).add j) = some u := by
  intro j u h
  rw [addr_add, World.cell?_alloc_new]
  simpa using h
theorem own_formA {w : World} {b : Nat} {e : TypeId} {m n : Nat} {v : Value} {xs : List Value} (h : w.ownsRow b e m v n xs) : ∃ A cap, v = .slice A n cap := by
  rcases h.2 with ⟨h1, h2⟩ | ⟨g, cap, _, h1, _⟩
  · exact ⟨none, 0, by rw [h1, h2]⟩
  · exact ⟨_, cap, h1⟩
theorem own_lowA {w : World} {b b' : Nat} {e : TypeId} {size n : Nat} {v : Value} {xs : List Value} (h : w.ownsRow b e size v n xs) (hle : b' ≤ b) : w.ownsRow b' e size v n xs :=
  ⟨h.1, h.2.imp id fun ⟨g, cap, cur, a1, a2, r⟩ => ⟨g, cap, cur, a1, Nat.le_trans hle a2, r⟩⟩
theorem Tryd.infoMS : (Tryd.prog.info? 36).map (fun i => (i.zero, i.size, i.bytes)) = some (some (.slice none 0 0), 1, 24) := by kernel_rfl
set_option maxRecDepth 100000 in
set_option maxHeartbeats 4000000 in
theorem addPlays_end (n bm q : Nat) (f l : List UInt8) (D : DataW Unit) (base : Nat) (vp : Value) (vs : List Value) (PS : List (List (Int × Int))) (vm : Value) (F : List (Int × Int)) (w : World)
    (hgf : goodT n f) (h8 : n ≤ 8) (hv : LiveV D (swA f)) (hin : l ∈ swA f) (hnil : lvL l = []) (hm : w.ownsMap Tryd.prog 39 iRw bm q D) (hbw : base ≤ w.heap.size)
    (hp : PlW w base vp vs PS) (hvm : w.ownsRow base 55 2 vm F.length (flat F)) (hPS : PS.length ≤ 1000) (hF : F.length ≤ 60000) :
    Calls Tryd.prog 15 #[.map (some bm), vp, swpV l, vm] w (AdPost base vp vs PS vm F [[]] w) := by
  obtain ⟨i0, hi, hz0, hz1, hz2⟩ := info_parts Tryd.infoMS
  have HI := Lib.hid hi
  have HZ0 := Lib.hid hz0
  have HZ1 := Lib.hid hz1
  have HZ2 := Lib.hid hz2
  clear hi hz0 hz1 hz2
  have HMO := Lib.hid (fun wx hm => movesOn_any n f l bm q D wx hgf h8 hin hm hv)
  have hl8 := (G8.of (swA_good hgf l hin) h8).len
  rw [hnil] at HMO
  obtain ⟨c0, c1, c2, c3, c4, c5, c6, c7, hc⟩ := eight_of hl8
  rw [hc.val] at HMO ⊢
  have HP := Lib.hid hp
  have HVM := Lib.hid hvm
  have HM := Lib.hid hm
  clear hp hvm hm hc hnil hin hl8 hv hgf
  go_enter Tryd.func15, Tryd.ntmps15
  go_upto_region 1 with fail
  generalize hW0 : w.alloc (Obj.cells #[.int .u8 c0, .int .u8 c1, .int .u8 c2, .int .u8 c3, .int .u8 c4, .int .u8 c5, .int .u8 c6, .int .u8 c7] 39) = W0
  have hb0 : Below w.heap.size w W0 := by rw [← hW0]; exact (Below.refl _ _).alloc (Nat.le_refl _) _
  have hx0 : Box8 W0 w.heap.size c0 c1 c2 c3 c4 c5 c6 c7 := by rw [← hW0]; exact Box8.new _ _ _ _ _ _ _ _ _
  have HM0 := Lib.hid (HM.out.kept (grown_of_below hb0) (by simp))
  have HB0 := Lib.hid hb0
  obtain ⟨q0, q1, q2, q3, q4, q5, q6, q7⟩ := hx0.cells.zero
  clear hW0 hb0 hx0
  go_wp2_with fail
  refine (HMO.out _ HM0.out).mono ?_
  rintro e w2 ⟨v2, rfl, ho2, hb2⟩
  obtain ⟨A2, cap2, rfl⟩ := own_formA ho2
  have HB2 := Lib.hid (HB0.out.trans (hb2.mono HB0.out.size))
  have HV2 := Lib.hid (own_below HVM.out HB2.out)
  have HCL := Lib.hid (cloneM_any vm base F w2 HV2.out hF)
  clear ho2 hb2 q0 q1 q2 q3 q4 q5 q6 q7
  go_wp2_with fail
  refine HCL.out.mono ?_
  rintro e w3 ⟨u, rfl, hu, hb3⟩
  obtain ⟨Au, capu, rfl⟩ := own_formA hu
  have hw2 : w.heap.size ≤ w2.heap.size := HB2.out.size
  have HB3 := Lib.hid (HB2.out.trans (hb3.mono hw2))
  have HU := Lib.hid hu
  have HP3 := Lib.hid ((HP.out.below HB3.out).below ((Below.refl _ _).alloc (Nat.le_refl _) (Obj.cells #[.slice Au F.length capu] 36)))
  have hlen : vs.length = PS.length := HP.out.len
  have H3 : vs.length + 1 ≤ maxLen := by unfold maxLen; omega
  have H4 : (vs.length + 1) * 24 ≤ 140737488355328 := by omega
  have H5 : base ≤ (w3.alloc (Obj.cells #[.slice Au F.length capu] 36)).heap.size := by have := HB3.out.size; simp; omega
  clear hu hb3 HCL
  go_wp2_with (first | (at_builtin; refine wpList_append_own_at _ rfl _ _ 22 rfl base 36 i0 (.slice none 0 0) 1 24 Tryd.underlying22 HI.out HZ0.out HZ1.out HZ2.out rfl (by decide) _ _ _ rfl HP3.out.out ⟨w3.heap.size, 0, none⟩ 1 1 [.slice Au F.length capu] rfl rfl (cell_one_newA _ _ _) (fun u hu => by simp at hu; subst hu; rfl) H3 H4 H5 ?_; intro v' w4 hown' hgrow _ hat))
  go_ret
  have hbA : Below w3.heap.size w3 (w3.alloc (Obj.cells #[.slice Au F.length capu] 36)) := (Below.refl _ _).alloc (Nat.le_refl _) _
  have hBA : Below w.heap.size w (w3.alloc (Obj.cells #[.slice Au F.length capu] 36)) := HB3.out.trans (hbA.mono HB3.out.size)
  have hua := own_below (own_lowA HU.out (Nat.le_trans hbw hw2)) hbA
  have hva := own_below HVM.out hBA
  refine ⟨v', rfl, ⟨⟨vs ++ [.slice Au F.length capu], ?_, fun x hx => ?_⟩, ?_, ?_, ?_⟩⟩
  · have := HP3.out.push (p := F) hua (fun x hx g hg e => by
      obtain ⟨p, hpx⟩ := HP.out.at hx
      have h1 := (hpx.lt g hg).2
      have h2 := (HU.out.lt g e).1
      omega) hown' hgrow
    simpa using this
  · rcases List.mem_append.1 hx with h | h
    · exact .inl h
    · simp at h
      subst h
      exact .inr fun g e => Nat.le_trans hw2 (HU.out.lt g e).1
  · exact own_blkS hva fun g hg => hgrow.block g (hva.lt g hg).2 fun e => rows_apartS hva HP3.out.out T_mm g hg e.symm
  · exact (FrA.ofBelow hBA).then (FrA.ofGrown hgrow) (.inl rfl) (.inl rfl)
  · rcases hat with h | h
    · exact .inl h
    · refine .inr fun g e => ?_
      rw [h] at e
      injection e with e
      have := hBA.size
      omega
end Go.Proofs.YtfiifjcjmnhbnaaDoor
