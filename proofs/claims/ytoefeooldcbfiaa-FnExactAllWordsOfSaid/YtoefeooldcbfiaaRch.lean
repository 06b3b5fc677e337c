/- Whether a line is reached, and by how many moves: both sides, and three laws' walks. -/
import Derived.Test.YtoefeooldcbfiaaAt
import Derived.Test.YtoefeooldcbfiaaBndB
import Derived.Test.YtoefeooldcbfiaaMany
namespace Go.Proofs.Ytoefeooldcbfiaa
open Go.RowKit Go.Maps

/-- The layer in which a line lies, or -1. -/
def AfV (wl vt : List UInt8) (d : Nat) (a : Int) : Prop := (∃ k : Nat, k < d ∧ vt ∈ lay nxL wl k ∧ a = k) ∨ ((∀ k, k < d → vt ∉ lay nxL wl k) ∧ a = -1)
/-- What an arrival says, the plays counted well. -/
theorem at_cases {wl vt : List UInt8} {d : Nat} {a b : Int} (hr : reachB (str wl) = true) (h : AtV wl vt d a b) :
    (∃ k m : Nat, k < d ∧ vt ∈ lay nxL wl k ∧ a = k ∧ b = m ∧ 1 ≤ m ∧ m < 9223372036854775808) ∨ ((∀ k, k < d → vt ∉ lay nxL wl k) ∧ a = 0 ∧ b = 0) := by
  by_cases hx : ∃ k, k < d ∧ vt ∈ lay nxL wl k
  · obtain ⟨k, hk, hv⟩ := hx
    obtain ⟨h1, h2⟩ := h.1 k hk hv
    exact .inl ⟨k, pc nxL wl k vt, hk, hv, h1, by rw [h2, wr_pc (reach_good hr)], pc_pos k vt hv, pc_small (reach_good hr) k⟩
  · have hno : ∀ k, k < d → vt ∉ lay nxL wl k := fun k hk hv => hx ⟨k, hk, hv⟩
    obtain ⟨h1, h2⟩ := h.2 hno
    exact .inr ⟨hno, h1, h2⟩

set_option maxRecDepth 100000 in
set_option maxHeartbeats 4000000 in
theorem reAfter_any (n d : Nat) (wl vt : List UInt8) (w : World) (hg : goodT n wl) (hd : IsDep nxL wl d) (hd2 : d ≤ 60000) :
    Calls Try.prog 55 #[.string (str wl), .string (str vt)] w fun e w' => ∃ a : Int, e = .returned (.int .i64 a) ∧ AfV wl vt d a ∧ Below w.heap.size w w' := by
  have HG := Lib.hid hg
  have HD := Lib.hid hd
  clear hg hd
  go_enter Try.func55, Try.ntmps55
  go_wp2_with fail
  refine (reLayers_any _ d wl _ HG.out HD.out hd2).mono ?_
  rintro e w1 ⟨v1, rfl, ⟨g, c, vs, rfl, hgl, hn, hvl, hat, hcell⟩, hb1⟩
  have HAT := Lib.hid hat
  have HCE := Lib.hid hcell
  have HB1 := Lib.hid hb1
  clear hat hcell hb1
  go_wp2
  go_loop [12] (fun t => ∃ k : Nat, k ≤ d ∧ t = .int .i64 k ∧ Hid (∀ j, j < k → vt ∉ lay nxL wl j)) (fun t => d - (intOf t).toNat)
  case atStart => exact ⟨0, Nat.zero_le _, rfl, Lib.hid fun j hj => by omega⟩
  case round =>
    obtain ⟨k, hk, rfl, HN⟩ := hrel
    by_cases hlt : k < d
    · have hck := HCE.out k (by omega)
      have hst := HAT.out k (by omega)
      obtain ⟨g2, c2, e2, hc2, hc2m, hg2, hs2⟩ := ok_form hst (HD.out.2.2 k hlt)
      rw [e2] at hck
      have hlenL : (lay nxL wl k).length ≤ 59049 := few_good (rising_nodup (lay_rising k)) fun v hv => (lay_good (steps_line _) HG.out k v hv).1
      have HSX := Lib.hid hs2
      clear hst hs2 e2
      obtain ⟨L, hL⟩ : ∃ L, lay nxL wl k = L := ⟨_, rfl⟩
      have HL := Lib.hid hL
      rw [hL] at hck HSX hlenL hc2
      clear hL
      go_wp2
      go_loop [19] (fun t => ∃ i : Nat, i ≤ L.length ∧ t = .int .i64 i ∧ Hid (∀ v, v ∈ L.take i → v ≠ vt)) (fun t => L.length - (intOf t).toNat)
      case atStart => exact ⟨0, Nat.zero_le _, rfl, Lib.hid fun v hv => by simp at hv⟩
      case round =>
        obtain ⟨i, hi, rfl, HT⟩ := hrel
        by_cases hlti : i < L.length
        · have hcs := HSX.out i hlti
          have HS := Lib.hid (same_str L[i] vt)
          have HTK := Lib.hid (List.take_succ_eq_append_getElem hlti)
          have HIN := Lib.hid (List.getElem_mem hlti)
          generalize L[i] = x at hcs HS HTK HIN
          by_cases he : x = vt
          · have hb : ((str x).toList == (str vt).toList) = true := by rw [HS.out]; simp [he]
            go_wp2
            go_ret
            exact ⟨k, rfl, .inl ⟨k, hlt, by rw [HL.out, ← he]; exact HIN.out, rfl⟩, HB1.out⟩
          · have hb : ((str x).toList == (str vt).toList) = false := by rw [HS.out]; simp [he]
            go_wp2
            go_round
            case rel => exact ⟨i + 1, by omega, by go_num, Lib.hid fun v hv => by
              rw [HTK.out, List.mem_append] at hv
              rcases hv with hv | hv
              · exact HT.out v hv
              · obtain rfl : v = x := by simpa using hv
                exact he⟩
            case measure => simp [intOf]; omega
        · obtain rfl : i = L.length := by omega
          go_wp2
          go_round
          case rel =>
            refine ⟨k + 1, by omega, by go_num, Lib.hid fun j hj hv => ?_⟩
            by_cases e : j = k
            · subst e
              rw [HL.out] at hv
              exact HT.out vt (by rw [List.take_length]; exact hv) rfl
            · exact HN.out j (by omega) hv
          case measure => simp [intOf]; omega
    · obtain rfl : k = d := by omega
      go_wp2
      go_ret
      exact ⟨-1, rfl, .inr ⟨HN.out, rfl⟩, HB1.out⟩

/-- Both answers of CanReach. -/
def CrV (wl vt : List UInt8) (d : Nat) (b : Bool) : Prop := (b = true ∧ ∃ k : Nat, k < d ∧ vt ∈ lay nxL wl k) ∨ (b = false ∧ ∀ k, k < d → vt ∉ lay nxL wl k)
theorem CrV.one {wl vt : List UInt8} {d : Nat} {b c : Bool} (h1 : CrV wl vt d b) (h2 : CrV wl vt d c) : b = c := by
  rcases h1 with ⟨e1, k, hk, hv⟩ | ⟨e1, h1⟩ <;> rcases h2 with ⟨e2, j, hj, hv2⟩ | ⟨e2, h2⟩
  · rw [e1, e2]
  · exact absurd hv (h2 k hk)
  · exact absurd hv2 (h1 j hj)
  · rw [e1, e2]
/-- Both answers of MovesBetween. -/
def MbV (wl vt : List UInt8) (d : Nat) (a : Int) (b : Bool) : Prop := (b = true ∧ ∃ k : Nat, k < d ∧ vt ∈ lay nxL wl k ∧ a = k) ∨ (b = false ∧ a = 0 ∧ ∀ k, k < d → vt ∉ lay nxL wl k)
theorem MbV.one {n : Nat} {wl vt : List UInt8} {d : Nat} {a a' : Int} {b c : Bool} (hg : goodT n wl) (h1 : MbV wl vt d a b) (h2 : MbV wl vt d a' c) : a = a' ∧ b = c := by
  rcases h1 with ⟨e1, k, hk, hv, ha⟩ | ⟨e1, ha, h1⟩ <;> rcases h2 with ⟨e2, j, hj, hv2, ha2⟩ | ⟨e2, ha2, h2⟩
  · have := lay_apart (steps_line n) hg hv hv2
    exact ⟨by rw [ha, ha2, this], by rw [e1, e2]⟩
  · exact absurd hv (h2 k hk)
  · exact absurd hv2 (h1 j hj)
  · exact ⟨by rw [ha, ha2], by rw [e1, e2]⟩

end Go.Proofs.Ytoefeooldcbfiaa
