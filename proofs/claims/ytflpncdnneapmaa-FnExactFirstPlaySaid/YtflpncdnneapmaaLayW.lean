/- Contract: the model's layers: the walk. -/
import Derived.Test.YtflpncdnneapmaaLayS
namespace Go.Proofs.Ytflpncdnneapmaa
open Go.RowKit

def slLen : Value → Nat
  | .slice _ n _ => n
  | _ => 0
theorem kinds_can (s : ByteArray) (n : Nat) : mvsTo (kindM true true s) s n = mvsTo (canM s) s n := mvsTo_eq _ _ s (fun f t => by simp [kindM]) n
theorem getD_in (l : List (List UInt8)) (i : Nat) (h : i < l.length) : l.getD i [] = l[i] := by rw [List.getD_eq_getElem?_getD, List.getElem?_eq_getElem h]; rfl
theorem one_made (w : World) (v : Value) (t : TypeId) (base : Nat) (hb : base ≤ w.heap.size) : (w.alloc (.cells #[v] t)).ownsRow base t 1 (.slice (some ⟨w.heap.size, 0, none⟩) 1 1) 1 [v] :=
  ⟨rfl, .inr ⟨w.heap.size, 1, #[v], rfl, hb, (MapKept.heap_alloc w _).1, Nat.le_refl _, by decide, rfl, rfl⟩⟩
theorem own_form {w : World} {base n : Nat} {e : TypeId} {v : Value} {vs : List Value} (ho : w.ownsRow base e 1 v n vs) (hn : 0 < n) : ∃ g cap, v = .slice (some ⟨g, 0, none⟩) n cap ∧ base ≤ g ∧ g < w.heap.size ∧ n ≤ cap ∧ cap ≤ maxLen ∧ ∀ k (h : k < vs.length), w.cell? ⟨g, k, none⟩ = some vs[k] := by
  obtain ⟨hlen, h2 | ⟨g, cap, cur, rfl, hb, hg, hle, hm, hs, ht⟩⟩ := ho
  · omega
  · have ho : w.ownsRow base e 1 (.slice (some ⟨g, 0, none⟩) n cap) n vs := ⟨hlen, .inr ⟨g, cap, cur, rfl, hb, hg, hle, hm, hs, ht⟩⟩
    refine ⟨g, cap, rfl, hb, (Array.getElem?_eq_some_iff.1 hg).1, hle, hm, fun k hk => ?_⟩
    have := ho.cells (g := g) rfl k vs[k] (by simp)
    rw [addr_at, Nat.zero_add] at this
    exact this
theorem ok_form {w : World} {v : Value} {l : List (List UInt8)} (h : StOk w v l) (hne : l ≠ []) : ∃ g c, v = .slice (some ⟨g, 0, none⟩) l.length c ∧ l.length ≤ c ∧ c ≤ maxLen ∧ g < w.heap.size ∧ ∀ k (h : k < l.length), w.cell? ⟨g, k, none⟩ = some (.string (str l[k])) := by
  rcases h with ⟨e, _⟩ | ⟨_, h⟩
  · exact absurd e hne
  · exact h
theorem nx_move {n : Nat} {u : List UInt8} (_ : goodT n u) (j : Nat) (h : j < (mvsTo (canM (str u)) (str u) (str u).size).length) :
    ∃ a b : Nat, (mvsTo (canM (str u)) (str u) (str u).size)[j].1 = a ∧ (mvsTo (canM (str u)) (str u) (str u).size)[j].2 = b ∧ a < (str u).size ∧ b < (str u).size ∧ a ≠ b ∧ ∃ h2 : j < (nxL u).length, (nxL u)[j] = putL (str u) a b := by
  have hc := (mem_moves (str u) _ _).1 (List.getElem_mem h)
  obtain ⟨a, b, e1, e2, ha, hb, hne⟩ := canM_in hc
  have e1 : (mvsTo (canM (str u)) (str u) (str u).size)[j].1 = (a : Int) := e1
  have e2 : (mvsTo (canM (str u)) (str u) (str u).size)[j].2 = (b : Int) := e2
  refine ⟨a, b, e1, e2, ha, hb, hne, by simpa [nxL] using h, ?_⟩
  simp only [nxL, List.getElem_map, behind]
  rw [e1, e2]
  rfl

set_option maxRecDepth 100000 in
set_option maxHeartbeats 4000000 in
theorem reLayers_any (n d : Nat) (wl : List UInt8) (w : World) (hg : goodT n wl) (hd : IsDep nxL wl d) (hd2 : d ≤ 60000) :
    Calls Try.prog 62 #[.string (str wl)] w fun e w' => ∃ v, e = .returned v ∧ LyOk w' (lay nxL wl) d v ∧ Below w.heap.size w w' := by
  obtain ⟨i0, hi, hz0, hz1, hz2⟩ := info_parts Try.infoSS
  have HI := Lib.hid hi
  have HZ0 := Lib.hid hz0
  have HZ1 := Lib.hid hz1
  have HZ2 := Lib.hid hz2
  clear hi hz0 hz1 hz2
  have HD := Lib.hid hd
  have HG : Hid (∀ k v, v ∈ lay nxL wl k → goodT n v) := Lib.hid fun k v hv => (lay_good (steps_line n) hg k v hv).1
  have hd1 := hd.1
  clear hd hg
  go_enter Try.func62, Try.ntmps62
  go_wp2
  go_loopw [3] (fun v3 wr => ∃ (k : Nat) (vs : List Value), k < d ∧ vs.length = k + 1 ∧ wr.ownsRow w.heap.size 61 1 v3 (k + 1) vs ∧ LyAt wr (lay nxL wl) vs ∧ Below w.heap.size w wr) (fun v3 _ => d - slLen v3)
  case atStart =>
    have o1 := one_made w (.string (str wl)) 9 w.heap.size (Nat.le_refl _)
    have o2 := one_made (w.alloc (.cells #[.string (str wl)] 9)) (.slice (some ⟨w.heap.size, 0, none⟩) 1 1) 61 w.heap.size (by simp)
    rw [World.size_alloc] at o2
    refine ⟨0, [.slice (some ⟨w.heap.size, 0, none⟩) 1 1], hd1, rfl, o2, fun k hk => ?_, ((Below.refl w.heap.size w).alloc (Nat.le_refl _) _).alloc (by simp) _⟩
    obtain rfl : k = 0 := by simpa using hk
    exact st_ok (l := [wl]) (o1.alloc _) (by simp)
  case round =>
    obtain ⟨k, vs, hk, hvl, hown, hly, hB⟩ := hrel
    obtain ⟨w0, hw0⟩ : ∃ w0 : World, w0 = wr := ⟨_, rfl⟩
    subst hw0
    obtain ⟨g, cap, rfl, hgb, hg, hncap, hcapm, hcells⟩ := own_form hown (by omega)
    have hck := hcells k (by omega)
    have hL := HD.out.2.2 k hk
    have hGL := HG.out k
    have HNX : Hid (swept (lay nxL wl k) (lay nxL wl k).length 0 = lay nxL wl (k + 1)) := Lib.hid (swept_all _)
    obtain ⟨g2, c2, e2, hc2, hc2m, hg2, hs2⟩ := ok_form (hly k (by omega)) hL
    rw [e2] at hck
    have HLY := Lib.hid hly
    have HOWN := Lib.hid hown
    have HS2 := Lib.hid hs2
    have HGL := Lib.hid hGL
    have HFEW : Hid (∀ i j, i < (lay nxL wl k).length → (swept (lay nxL wl k) i j).length ≤ 59049) := Lib.hid fun i j h => swept_few hGL i j h
    have hlenL : (lay nxL wl k).length ≤ 59049 := few_good (rising_nodup (lay_rising k)) hGL
    clear hly hown hs2 hcells e2 hGL hL
    generalize lay nxL wl k = L at hck HNX HS2 HGL HFEW hlenL hc2
    go_wp2
    go_loopw [4, 19] (fun v4 t wr => ∃ i : Nat, i ≤ L.length ∧ t = .int .i64 i ∧ StOk wr v4 (swept L i 0) ∧ Below w0.heap.size w0 wr) (fun _ t _ => L.length - (intOf t).toNat)
    case atStart => exact ⟨0, Nat.zero_le _, rfl, .inl ⟨swept_start _, rfl⟩, Below.refl _ _⟩
    case round =>
      obtain ⟨i, hi, rfl, hok, hB1⟩ := hrel
      by_cases hlt : i < L.length
      · have hcs := (hB1.cell (p := ⟨g2, i, none⟩) hg2).trans (HS2.out i hlt)
        have hgu := HGL.out _ (List.getElem_mem hlt)
        have HU := Lib.hid (getD_in L i hlt)
        have HROW := Lib.hid (swept_row L i hlt)
        have HMV := Lib.hid (nx_move hgu)
        have HF := Lib.hid (fun j => HFEW.out i j hlt)
        have hsz : (str L[i]).size ≤ 12 := ((goodL_iff _).1 hgu.1).2.1
        have hgs := hgu.1
        have hlm := mvsTo_le (canM (str L[i])) (str L[i]) (str L[i]).size
        have hml : (nxL L[i]).length = (mvsTo (canM (str L[i])) (str L[i]) (str L[i]).size).length := by simp [nxL]
        have HML := Lib.hid hml
        have hlm2 := fun wx => liMoves_all (str L[i]) wx hgs
        rw [kinds_can] at hlm2
        have HLM := Lib.hid hlm2
        clear hml hgu hgs hlm2
        generalize L[i] = u at hcs HU HMV hsz hlm HML HLM
        generalize mvsTo (canM (str u)) (str u) (str u).size = M at HMV hlm HML HLM
        go_wp2_with fail
        refine (HLM.out _).mono ?_
        rintro e w1 ⟨v1, rfl, ho1, hb1⟩
        obtain ⟨A1, cap1, rfl, AT1⟩ := at_of_own ho1
        have AT := Lib.hid AT1
        have hok1 := hok.below hb1
        have HB1 := Lib.hid (hB1.trans (hb1.mono hB1.size))
        clear ho1 AT1 hb1 hok hB1 hcs
        go_wp2
        go_loopw [4, 26] (fun v4 t wr => ∃ j : Nat, j ≤ M.length ∧ t = .int .i64 j ∧ StOk wr v4 (swept L i j) ∧ Below w1.heap.size w1 wr) (fun _ t _ => M.length - (intOf t).toNat)
        case atStart => exact ⟨0, Nat.zero_le _, rfl, hok1, Below.refl _ _⟩
        case round =>
          obtain ⟨j, hj, rfl, hok, hB1⟩ := hrel
          clear hok1
          by_cases hltj : j < M.length
          · obtain ⟨gm, rfl, z1, p1, q1⟩ := (AT.out.below hB1) j hltj
            obtain ⟨a, b, e1, e2, ha, hb, hne, h2, e3⟩ := HMV.out j hltj
            rw [e1] at p1
            rw [e2] at q1
            have HNXT : Hid (swept L i (j + 1) = ins (putL (str u) a b) (swept L i j)) := by
              show _ = _
              have h4 : j < (nxL (L.getD i [])).length := by rw [HU.out]; exact h2
              rw [swept_next L i j h4]
              simp only [HU.out]
              rw [e3]
            have hrise := swept_rising L i j
            have hfew := HF.out j
            clear e1 e2 e3 h2
            generalize swept L i j = S at hok HNXT hrise hfew
            go_wp2_with fail
            refine (liMake_any (str u) a b _ (by omega) ha hb hne).mono ?_
            rintro e w2 ⟨rfl, hb2⟩
            have hok2 := (hok.below ((Below.refl _ _).alloc (Nat.le_refl _) _)).below hb2
            have hB2 := (hB1.alloc hB1.size _).trans (hb2.mono (by have := hB1.size; simp; omega))
            clear hok hB1 hb2 p1 q1
            go_wp2_with fail
            refine (reAdd_any S (putL (str u) a b) _ _ hrise hok2 (by omega)).mono ?_
            rintro e w3 ⟨v5, rfl, hok3, hb3⟩
            have hB3 := hB2.trans (hb3.mono hB2.size)
            clear hb3 hB2 hok2
            go_wp2
            go_roundw
            case rel => exact ⟨j + 1, by omega, by go_num, by rw [HNXT.out]; exact hok3, hB3⟩
            case measure => simp [intOf]; omega
          · obtain rfl : j = M.length := by omega
            go_wp2
            go_roundw
            case rel =>
              refine ⟨i + 1, by omega, by go_num, ?_, HB1.out.trans (hB1.mono HB1.out.size)⟩
              rw [HROW.out, HU.out, HML.out]
              exact hok
            case measure => simp [intOf]; omega
      · obtain rfl : i = L.length := by omega
        rw [HNX.out] at hok
        rcases hok with ⟨hnil, rfl⟩ | ⟨hnn, g3, c3, rfl, h31, h32, h33, h34⟩
        · go_wp2
          go_ret
          have e : k + 1 = d := by
            rcases Nat.lt_or_ge (k + 1) d with h | h
            · exact absurd hnil (HD.out.2.2 _ h)
            · omega
          refine ⟨_, rfl, ?_, hB.trans (hB1.mono hB.size)⟩
          have h := (LyOk.of_own HOWN.out (by omega) HLY.out).below hB1
          rw [e] at h ⊢
          exact h
        · have hnn2 := hnn
          have hlt : k + 1 < d := by
            rcases Nat.lt_or_ge (k + 1) d with h | h
            · exact h
            · obtain e : k + 1 = d := by omega
              rw [e] at hnn
              exact absurd HD.out.2.1 hnn
          have hpos : 0 < (lay nxL wl (k + 1)).length := List.length_pos_iff.2 hnn
          have ho1 := own_below HOWN.out hB1
          have hly1 := HLY.out.below hB1
          have hu : StOk wr (.slice (some ⟨g3, 0, none⟩) (lay nxL wl (k + 1)).length c3) (lay nxL wl (k + 1)) := .inr ⟨hnn, g3, c3, rfl, h31, h32, h33, h34⟩
          have HUO := Lib.hid hu
          have HO1 := Lib.hid ho1
          have HLY1 := Lib.hid hly1
          have hsml : (lay nxL wl (k + 1)).length ≤ 59049 := few_good (rising_nodup (lay_rising _)) (HG.out _)
          have HEQ : Hid (∀ m, m = k + 1 → lay nxL wl m = lay nxL wl (k + 1)) := Lib.hid fun m e => by rw [e]
          clear hu ho1 hly1 h34 hnn hnn2 HNX HS2 hck
          generalize hP : lay nxL wl (k + 1) = P at *
          clear hP
          have H3 : k + 1 + 1 ≤ maxLen := by unfold maxLen; omega
          have H4 : (k + 1 + 1) * 24 ≤ 140737488355328 := by omega
          have H5 : w.heap.size ≤ (wr.alloc (Obj.cells #[Value.slice (some ⟨g3, 0, none⟩) P.length c3] 61)).heap.size := by have := hB.size; have := hB1.size; simp; omega
          go_wp2_with (first | (at_builtin; refine wpList_append_own _ rfl _ _ 95 rfl w.heap.size 61 i0 (.slice none 0 0) 1 24 Try.underlying95 HI.out HZ0.out HZ1.out HZ2.out rfl (by decide) _ _ _ rfl (HO1.out.alloc _) ⟨wr.heap.size, 0, none⟩ 1 1 [.slice (some ⟨g3, 0, none⟩) P.length c3] rfl rfl (cell_one_new _ _ _) (fun u hu => by simp at hu; subst hu; rfl) H3 H4 H5 ?_; intro v' w3 hown' hgrow _))
          go_roundw
          case rel =>
            have hA := HO1.out.alloc (Obj.cells #[Value.slice (some ⟨g3, 0, none⟩) P.length c3] 61)
            have hBA := (Below.refl wr.heap.size wr).alloc (Nat.le_refl _) (Obj.cells #[Value.slice (some ⟨g3, 0, none⟩) P.length c3] 61)
            have hlyA := HLY1.out.below hBA
            have huA := HUO.out.below hBA
            refine ⟨k + 1, vs ++ [.slice (some ⟨g3, 0, none⟩) P.length c3], hlt, by simp [hvl], hown', fun m hm => ?_, ((hB.trans (hB1.mono hB.size)).alloc (by have := hB.size; have := hB1.size; omega) _).grown hgrow H5 fun j hj => (hA.lt _ hj).1⟩
            by_cases hmk : m < vs.length
            · rw [List.getElem_append_left hmk]
              exact (hlyA m hmk).grown hgrow (apart_rows hA (by omega) hlyA (hlyA m hmk))
            · have e : m = vs.length := by simp at hm; omega
              subst e
              rw [List.getElem_append_right (Nat.le_refl _)]
              rw [HEQ.out _ hvl]
              simp only [Nat.sub_self, List.getElem_cons_zero]
              exact huA.grown hgrow (apart_rows hA (by omega) hlyA huA)
          case measure =>
            obtain ⟨g4, c4, e4, _⟩ := own_form hown' (by omega)
            subst e4
            simp [slLen]
            omega
end Go.Proofs.Ytflpncdnneapmaa
