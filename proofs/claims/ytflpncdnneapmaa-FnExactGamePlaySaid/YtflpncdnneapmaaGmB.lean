/- Games: the model's helpers: moves of one player, texts of sums, a sum with another line. -/
import Derived.Test.YtflpncdnneapmaaGmA
import Derived.Test.YtflpncdnneapmaaKpX
import Derived.Test.YtflpncdnneapmaaSl
namespace Go.Proofs.Ytflpncdnneapmaa
open Go.RowKit

theorem own_none (w : World) : (w.alloc (Obj.cells #[] 9)).ownsRow w.heap.size 9 1 (.slice (some ⟨w.heap.size, 0, none⟩) 0 0) 0 [] := World.ownsRow_made w #[] 0 (Nat.le_refl _) (by decide) rfl
theorem kind_gm (tm : Bool) (s : ByteArray) (f t : Int) : kindM tm (!tm) s f t = gmW tm s f t := by
  unfold kindM gmW
  cases hc : canM s f t
  · simp
  · rcases (can_sgn hc).2 with h | h <;> cases tm <;> simp [h, kd]
theorem liMoves_kd (tm : Bool) (s : List UInt8) (w : World) (hg : goodL (str s) = true) :
    Calls Try.prog 28 #[.string (str s), .bool tm, .bool (!tm)] w (SpPost w (gmM tm s)) := by
  have e := mvsTo_eq _ _ (str s) (kind_gm tm (str s)) (str s).size
  cases tm
  · have h := liMoves_frog (str s) w hg
    rw [show kindM false true = kindM false (!false) from rfl, e] at h
    exact h
  · have h := liMoves_toad (str s) w hg
    rw [show kindM true false = kindM true (!true) from rfl, e] at h
    exact h
theorem gm_at {tm : Bool} {s : List UInt8} (j : Nat) (h : j < (gmM tm s).length) : ∃ a b : Nat, (gmM tm s)[j].1 = a ∧ (gmM tm s)[j].2 = b ∧ a < s.length ∧ b < s.length ∧ a ≠ b ∧ putL (str s) a b ∈ nxG tm s ∧ putL (str s) a b = behind (str s) (gmM tm s)[j].1 (gmM tm s)[j].2 := by
  have hm : (gmM tm s)[j] ∈ gmM tm s := List.getElem_mem h
  have hc : canM (str s) (gmM tm s)[j].1 (gmM tm s)[j].2 = true ∧ _ := (mem_gmM.1 hm)
  obtain ⟨a, b, e1, e2, ha, hb, hne⟩ := canM_in hc.1
  rw [str_size] at ha hb
  have he : putL (str s) a b = behind (str s) (gmM tm s)[j].1 (gmM tm s)[j].2 := by unfold behind; rw [e1, e2]; rfl
  exact ⟨a, b, e1, e2, ha, hb, hne, by rw [he]; exact List.mem_map.2 ⟨_, hm, rfl⟩, he⟩
theorem gmM_le (tm : Bool) (s : List UInt8) : (gmM tm s).length ≤ s.length := by
  have := mvsTo_le (gmW tm (str s)) (str s) (str s).size
  unfold gmM
  rw [str_size] at this
  rwa [str_size]
theorem nxG_good {tm : Bool} {s x : List UInt8} (hg : goodL (str s) = true) (h : x ∈ nxG tm s) : goodL (str x) = true := by
  obtain ⟨f, t, hc, _, rfl⟩ := mem_nxG.1 h
  exact behind_good hg hc

/-- The cells of a slice's address, wherever it begins, hold a list of texts. -/
def StO (w : World) (A : Option Addr) (l : List (List UInt8)) : Prop :=
  ∀ k (h : k < l.length), ∃ g o, A = some ⟨g, o, none⟩ ∧ g < w.heap.size ∧ w.cell? ⟨g, o + k, none⟩ = some (.string (str l[k]))
theorem StAt.toO {w : World} {A : Option Addr} {l : List (List UInt8)} (h : StAt w A l) : StO w A l := fun k hk => by
  obtain ⟨g, a, b, c⟩ := h k hk
  exact ⟨g, 0, a, b, by rw [Nat.zero_add]; exact c⟩
theorem StO.below {w w' : World} {A : Option Addr} {l : List (List UInt8)} (h : StO w A l) (hb : Below w.heap.size w w') : StO w' A l := by
  intro k hk
  obtain ⟨g, o, a, b, c⟩ := h k hk
  exact ⟨g, o, a, Nat.lt_of_lt_of_le b hb.size, (hb.cell (p := ⟨g, o + k, none⟩) b).trans c⟩
theorem addr_off (g o j : Nat) : (⟨g, o, none⟩ : Addr).add j = ⟨g, o + j, none⟩ := by
  unfold Addr.add
  split
  · simp_all
  · rfl
/-- The text that the model keeps a sum under. -/
def keyG (tm : Bool) (s : List UInt8) : List UInt8 := (if tm then 116 else 102) :: 47 :: s
theorem keyG_inj {tm tm' : Bool} {s s' : List UInt8} (h : keyG tm s = keyG tm' s') : tm = tm' ∧ s = s' := by
  unfold keyG at h
  injection h with h1 h2
  injection h2 with _ h3
  refine ⟨?_, h3⟩
  cases tm <;> cases tm' <;> simp at h1 ⊢
def wallsG (ls : List (List UInt8)) : List UInt8 := ls.flatMap fun w => 47 :: w
theorem wallsG_join : ∀ {ls : List (List UInt8)}, ls ≠ [] → wallsG ls = 47 :: joinG ls
  | [], h => absurd rfl h
  | [w], _ => by simp [wallsG, joinG]
  | w :: v :: r, _ => by
    have ih := wallsG_join (ls := v :: r) (by simp)
    rw [joinG_cons w (by simp)]
    show (47 :: w) ++ wallsG (v :: r) = _
    rw [ih]
    simp
theorem wallsG_take (ls : List (List UInt8)) (k : Nat) (h : k < ls.length) : wallsG (ls.take (k + 1)) = wallsG (ls.take k) ++ 47 :: ls[k] := by
  unfold wallsG
  rw [List.take_succ_eq_append_getElem h, List.flatMap_append]
  simp
theorem wallsG_len {ls : List (List UInt8)} (h : ∀ x ∈ ls, x.length ≤ 12) (k : Nat) : (wallsG (ls.take k)).length ≤ 13 * k := by
  induction k with
  | zero => simp [wallsG]
  | succ k ih =>
    by_cases hk : k < ls.length
    · rw [wallsG_take ls k hk, List.length_append, List.length_cons]
      have := h ls[k] (List.getElem_mem hk)
      omega
    · rw [List.take_of_length_le (by omega)] at ih ⊢
      omega

set_option maxHeartbeats 1000000 in
theorem gaKey_any (tm : Bool) (ls : List (List UInt8)) (A : Option Addr) (cap : Nat) (w : World) (hA : StO w A ls) (hne : ls ≠ []) (hl : ls.length ≤ 3) (h12 : ∀ x ∈ ls, x.length ≤ 12) :
    Calls Try.prog 94 #[.slice A ls.length cap, .bool tm] w fun e w' => e = .returned (.string (str (keyG tm (joinG ls)))) ∧ w = w' := by
  obtain ⟨c, hc⟩ : ∃ c : UInt8, c = if tm then 116 else 102 := ⟨_, rfl⟩
  have hfin : Hid (c :: wallsG (ls.take ls.length) = keyG tm (joinG ls)) := by
    show _ = _
    rw [List.take_length, wallsG_join hne, hc]
    rfl
  have HC := Lib.hid hc
  clear hc
  have HA := Lib.hid hA
  have HT := Lib.hid (wallsG_take ls)
  have HL := Lib.hid (wallsG_len h12)
  have H12 := Lib.hid h12
  clear hA hne h12
  cases tm
  all_goals
    go_enter Try.func94, Try.ntmps94
    go_wp2
    go_loop [5, 11] (fun o i => ∃ k : Nat, k ≤ ls.length ∧ i = .int .i64 k ∧ o = .string (str (c :: wallsG (ls.take k)))) (fun _ i => ls.length - (intOf i).toNat)
    case atStart => exact ⟨0, Nat.zero_le _, rfl, by rw [HC.out]; rfl⟩
    case round =>
      obtain ⟨k, hk, rfl, rfl⟩ := hrel
      by_cases hlt : k < ls.length
      · obtain ⟨g, o, rfl, hg, hcell⟩ := HA.out k hlt
        have hS := Lib.hid (HT.out k hlt)
        have h1 := HL.out k
        have h2 := H12.out _ (List.getElem_mem hlt)
        generalize ls[k] = x at hcell hS h2
        generalize wallsG (ls.take k) = y at h1 hS ⊢
        have z1 : (str x).size ≤ 12 := by rw [str_size]; exact h2
        have z2 : (str (c :: y)).size ≤ 100 := by rw [str_size]; simp; omega
        have i1 : (0 : Int) ≤ (k : Int) := by omega
        have i2 : (k : Int) < (ls.length : Int) := by omega
        go_wp2
        go_round
        case rel =>
          refine ⟨k + 1, by omega, by go_num, ?_⟩
          rw [hS.out, show (⟨#[47]⟩ : ByteArray) = str [47] from rfl, str_app, str_app]
          rfl
        case measure => simp [intOf]; omega
      · go_wp2
        go_ret
        obtain rfl : k = ls.length := by omega
        refine ⟨?_, rfl⟩
        rw [← hfin.out]
        rfl

set_option maxRecDepth 100000 in
set_option maxHeartbeats 1000000 in
theorem l1OwnS_any (ls : List (List UInt8)) (A : Option Addr) (cap : Nat) (w : World) (hA : StO w A ls) (hne : ls ≠ []) (hl : ls.length ≤ 1000) :
    Calls Try.prog 107 #[.slice A ls.length cap] w fun e w' => ∃ v, e = .returned v ∧ w'.ownsRow w.heap.size 9 1 v ls.length (txs ls) ∧ Below w.heap.size w w' := by
  obtain ⟨i0, hi, hz0, hz1, hz2⟩ := info_parts Try.infoS
  have HI := Lib.hid hi
  have HZ0 := Lib.hid hz0
  have HZ1 := Lib.hid hz1
  have HZ2 := Lib.hid hz2
  clear hi hz0 hz1 hz2
  have hlen : 0 < ls.length := List.length_pos_iff.2 hne
  obtain ⟨g, o, rfl, hg, _⟩ := hA 0 hlen
  have hcells : ∀ j u, (txs ls)[j]? = some u → (w.alloc (Obj.cells #[] 9)).cell? ((⟨g, o, none⟩ : Addr).add j) = some u := by
    intro j u hu
    have hj : j < ls.length := by have := (List.getElem?_eq_some_iff.1 hu).1; rwa [txs_len] at this
    obtain ⟨g', o', e1, _, hc⟩ := hA j hj
    injection e1 with e1
    injection e1 with e1 e3
    subst e1
    subst e3
    rw [addr_off]
    have e2 : (txs ls)[j]? = some (.string (str ls[j])) := by simp [txs, hj]
    rw [e2] at hu
    injection hu with hu
    rw [← hu, ← hc]
    rw [World.cell?_alloc_lt]; exact hg
  have HCE := Lib.hid hcells
  clear hcells hA
  go_enter Try.func107, Try.ntmps107
  go_wp2_with (first
    | (at_builtin; refine wpList_append_st _ rfl _ _ 61 rfl w.heap.size 9 i0 (.string ByteArray.empty) 1 16 Try.underlying61 HI.out HZ0.out HZ1.out HZ2.out rfl (by decide) _ 0 [] rfl (own_none w) (some ⟨g, o, none⟩) ls.length cap (txs ls) rfl (fun e => by cases e) (by rw [txs_len, Nat.mul_one]) (fun _ e => by cases e; exact HCE.out) (txs_one _) (by unfold maxLen; omega) (by omega) (by simp) ?_; intro v1 w1 ho1 hg1))
  go_ret
  have b1 := ((Below.refl w.heap.size w).alloc (Nat.le_refl _) (Obj.cells #[] 9)).grown hg1 (by simp) (fun j hj => ((own_none w).lt _ hj).1)
  exact ⟨v1, rfl, by simpa using ho1, b1⟩

set_option maxRecDepth 100000 in
set_option maxHeartbeats 1000000 in
theorem gaWith_any (ls : List (List UInt8)) (k : Nat) (x : List UInt8) (A : Option Addr) (cap : Nat) (w : World) (hA : StO w A ls) (hk : k < ls.length) (hl : ls.length ≤ 1000) :
    Calls Try.prog 95 #[.slice A ls.length cap, .int .i64 k, .string (str x)] w fun e w' => ∃ g c, e = .returned (.slice (some ⟨g, 0, none⟩) ls.length c) ∧ w.heap.size ≤ g ∧ StAt w' (some ⟨g, 0, none⟩) (ls.set k x) ∧ Below w.heap.size w w' := by
  have hne : ls ≠ [] := List.ne_nil_of_length_pos (by omega)
  have HOW := Lib.hid (l1OwnS_any ls A cap w hA hne hl)
  clear hA
  go_enter Try.func95, Try.ntmps95
  go_wp2_with fail
  refine HOW.out.mono ?_
  rintro e w1 ⟨v, rfl, ho1, hb1⟩
  obtain ⟨g, c, rfl, hg, hlt, hle, hm, hcells⟩ := own_open ho1 (by omega)
  have hck := hcells k (by rw [txs_len]; exact hk)
  have hfz := ho1.frozenAt k
  have HO := Lib.hid ho1
  have HB := Lib.hid hb1
  generalize hq : (txs ls)[k]'(by rw [txs_len]; exact hk) = q at hck
  clear ho1 hb1 hcells hq
  have i1 : (0 : Int) ≤ (k : Int) := by omega
  have i2 : (k : Int) < (ls.length : Int) := by omega
  go_wp2
  go_ret
  have h2 := HO.out.stored k (.string (str x))
  refine ⟨g, c, rfl, hg, ?_, HB.out.setCell hg _⟩
  have e : (txs ls).set k (.string (str x)) = txs (ls.set k x) := by simp [txs]
  rw [e] at h2
  intro j hj
  have hj' : j < ls.length := by simpa using hj
  refine ⟨g, rfl, by simpa using hlt, ?_⟩
  rw [h2.1.cellAt j (by omega)]
  unfold txs
  rw [List.getElem?_map, List.getElem?_eq_getElem hj]
  rfl

/-- A line of few cells. -/
def fewB (s : ByteArray) : Bool := goodL s && decide (s.size ≤ 10)
set_option maxHeartbeats 400000 in
theorem gaFew_any (s : ByteArray) (w : World) (hs : s.size ≤ maxLen) :
    Calls Try.prog 35 #[.string s] w fun e w' => e = .returned (.bool (fewB s)) ∧ w = w' := by
  cases hc : goodL s
  · have hR : Hid (fewB s = false) := Lib.hid (by unfold fewB; rw [hc]; rfl)
    have hC := Lib.hid hc
    clear hc
    go_enter Try.func35, Try.ntmps35
    go_wp2_with (go_at_call 61; refine (liGood_any _ _ hs).mono ?_; rintro e w' ⟨rfl, rfl⟩; rw [hC.out])
    go_ret
    exact ⟨by rw [hR.out]; rfl, rfl⟩
  · have hC := Lib.hid hc
    have h12 := ((goodL_iff s).1 hc).2.1
    have hR : Hid (fewB s = decide (s.size ≤ 10)) := Lib.hid (by unfold fewB; rw [hc]; simp)
    clear hc
    go_enter Try.func35, Try.ntmps35
    go_wp2_with (go_at_call 61; refine (liGood_any _ _ hs).mono ?_; rintro e w' ⟨rfl, rfl⟩; rw [hC.out])
    go_ret
    exact ⟨by rw [hR.out]; exact congrArg (fun b => Ending.returned (.bool b)) (decide_eq_decide.2 (by omega)), rfl⟩
end Go.Proofs.Ytflpncdnneapmaa
