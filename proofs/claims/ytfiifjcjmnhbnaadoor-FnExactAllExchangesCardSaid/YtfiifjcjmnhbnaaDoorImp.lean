/- Contracts: the program's functions on lines. -/
import Derived.Test.YtfiifjcjmnhbnaaDoorPlain
import Derived.Test.YtfiifjcjmnhbnaaDoorShelf
import Derived.Lib.Repeat
namespace Go.Proofs.YtfiifjcjmnhbnaaDoor
open Go.RowKit

theorem results_tmp4 {fn : Func} {t u v x : Tmp} (h : fn.results = #[.tmp t, .tmp u, .tmp v, .tmp x]) (tmps : Array Value) (P : Program) (w : World) :
    (results fn tmps).run P w = .ok (.tuple #[tmps.getD t undef, tmps.getD u undef, tmps.getD v undef, tmps.getD x undef]) w := by
  unfold results
  simp [h, go_sem]

/-- Where '.FT' has a byte. -/
theorem index_signs (c : UInt8) : Lib.indexByte (⟨#[46, 70, 84]⟩ : ByteArray).data.toList ((c.toNat : Int)).toNat.toUInt8 = if c = 46 then 0 else if c = 70 then 1 else if c = 84 then 2 else -1 := by
  have e : ((c.toNat : Int)).toNat.toUInt8 = c := by simp
  rw [e]
  by_cases h1 : c = 46
  · subst h1; rfl
  · by_cases h2 : c = 70
    · subst h2; rfl
    · by_cases h3 : c = 84
      · subst h3; rfl
      · simp [Lib.indexByte, h1, h2, h3, Ne.symm h1, Ne.symm h2, Ne.symm h3]

theorem rep_eq (c : UInt8) (n : Nat) : (⟨(Lib.repeatL (⟨#[c]⟩ : ByteArray).data.toList n).toArray⟩ : ByteArray) = str (List.replicate n c) := by
  have h := Lib.repeatL_replicate c 1 n
  simp only [List.replicate_one, Nat.mul_one] at h
  show (⟨(Lib.repeatL [c] n).toArray⟩ : ByteArray) = _
  rw [h]
  rfl

theorem repeat_any (c : UInt8) (n : Int) (w : World) (h0 : 0 ≤ n) (hn : n ≤ 1000) :
    Calls Tryd.prog 39 #[.string ⟨#[c]⟩, .int .i64 n] w fun e w' => e = .returned (.string (str (List.replicate n.toNat c))) ∧ Below w.heap.size w w' := by
  obtain ⟨k, rfl⟩ := Int.eq_ofNat_of_zero_le h0
  refine (Tryd.strings_Repeat ⟨#[c]⟩ k w (by omega) (by show 1 * k ≤ _; omega)).mono ?_
  rintro e w' ⟨rfl, hb⟩
  refine ⟨?_, hb⟩
  rw [rep_eq]
  rfl

theorem count_any (s : ByteArray) (c : UInt8) (w : World) :
    Calls Tryd.prog 55 #[.string s, .string ⟨#[c]⟩] w fun e w' => e = .returned (.int .i64 (cnt c (byt s))) ∧ w = w' := by
  refine (Tryd.strings_Count_one s c w).mono ?_
  rintro e w' ⟨rfl, rfl⟩
  refine ⟨?_, rfl⟩
  refine congrArg (fun n : Nat => Ending.returned (.int .i64 n)) ?_
  unfold Lib.countByte cnt byt
  rw [List.count, List.countP_eq_length_filter]

set_option maxHeartbeats 400000 in
theorem index_any (c : UInt8) (w : World) :
    Calls Tryd.prog 64 #[.string ⟨#[46, 70, 84]⟩, .int .u8 c.toNat] w fun e w' => e = .returned (.int .i64 (if c = 46 then 0 else if c = 70 then 1 else if c = 84 then 2 else -1)) ∧ w = w' := by
  refine (Tryd.strings_IndexByte ⟨#[46, 70, 84]⟩ c.toNat w).mono ?_
  rintro e w' ⟨rfl, rfl⟩
  rw [index_signs]
  exact ⟨rfl, rfl⟩

/-- The index of a sign, as the program's own order has it. -/
def sgIx (c : UInt8) : Int := if c = 46 then 0 else if c = 70 then 1 else if c = 84 then 2 else -1

theorem index_any' (c : UInt8) (w : World) :
    Calls Tryd.prog 64 #[.string ⟨#[46, 70, 84]⟩, .int .u8 c.toNat] w fun e w' => e = .returned (.int .i64 (sgIx c)) ∧ w = w' := index_any c w

theorem sgIx_sign (c : UInt8) : decide (sgIx c < 0) = !isSign c := by
  rcases sign_cases c with h | h | h | h
  · subst h; rfl
  · subst h; rfl
  · subst h; rfl
  · rw [h]
    have h1 : c ≠ 84 := fun e => by subst e; simp [isSign] at h
    have h2 : c ≠ 70 := fun e => by subst e; simp [isSign] at h
    have h3 : c ≠ 46 := fun e => by subst e; simp [isSign] at h
    simp [sgIx, h1, h2, h3]

set_option maxHeartbeats 400000 in
theorem isLine_any (s : ByteArray) (w : World) (hs : s.size ≤ maxLen) :
    Calls Tryd.prog 54 #[.string s] w fun e w' => e = .returned (.bool (goodL s)) ∧ w = w' := by
  unfold maxLen at hs
  by_cases h1 : s.size < 1
  · have hg : goodL s = false := by simp [goodL]; omega
    rw [hg]
    have hd : ((s.size : Int) < 1) := by omega
    go_enter Tryd.func54, Tryd.ntmps54
    go_wp2
    go_ret
    exact ⟨rfl, rfl⟩
  · by_cases h2 : 12 < s.size
    · have hg : goodL s = false := by simp [goodL]; intro a; omega
      rw [hg]
      go_enter Tryd.func54, Tryd.ntmps54
      go_wp2
      go_ret
      exact ⟨rfl, rfl⟩
    · have hg : Hid (goodL s = (byt s).all isSign) := by
        show goodL s = (byt s).all isSign
        simp [goodL, byt]
        omega
      go_enter Tryd.func54, Tryd.ntmps54
      go_wp2
      go_loop [3, 14] (fun _ i => ∃ k : Nat, k ≤ s.size ∧ i = .int .i64 k ∧ Hid (((byt s).take k).all isSign = true)) (fun _ i => s.size - (intOf i).toNat)
      case atStart => exact ⟨0, Nat.zero_le _, rfl, rfl⟩
      case round =>
        obtain ⟨k, hk, rfl, hA⟩ := hrel
        by_cases hlt : k < s.size
        · have hts := Lib.hid (take_snoc s k hlt)
          have hsg := Lib.hid (sgIx_sign s[k])
          cases he : isSign s[k]
          · have hE := Lib.hid he
            have hneg : sgIx s[k] < 0 := by have := hsg.out; rw [he] at this; simpa using this
            clear he
            go_wp2_with (go_at_call 64; refine (index_any' _ _).mono ?_; rintro e w' ⟨rfl, rfl⟩)
            go_ret
            refine ⟨congrArg (fun b => Ending.returned (.bool b)) ?_, rfl⟩
            have e1 : ((byt s).take (k + 1)).all isSign = false := by
              rw [hts.out, List.all_append]
              simp [hE.out]
            show false = goodL s
            rw [hg.out, ← List.take_append_drop (k + 1) (byt s), List.all_append, e1]
            rfl
          · have hE := Lib.hid he
            have hneg : ¬ sgIx s[k] < 0 := by have := hsg.out; rw [he] at this; simpa using this
            clear he
            go_wp2_with (go_at_call 64; refine (index_any' _ _).mono ?_; rintro e w' ⟨rfl, rfl⟩)
            go_round
            case rel =>
              refine ⟨k + 1, by omega, by go_num, ?_⟩
              show _ = _
              rw [hts.out, List.all_append, hA.out]
              simp [hE.out]
            case measure => simp [intOf]; omega
        · go_wp2
          go_ret
          refine ⟨congrArg (fun b => Ending.returned (.bool b)) ?_, rfl⟩
          obtain rfl : k = s.size := by omega
          show true = goodL s
          rw [hg.out, ← hA.out, take_all]

set_option maxHeartbeats 400000 in
theorem areCounts_any (t g f : Int) (w : World) :
    Calls Tryd.prog 38 #[.int .i64 t, .int .i64 g, .int .i64 f] w fun e w' => e = .returned (.bool (three t g f)) ∧ w = w' := by
  have i0 : ∀ w, (Instr.index 84 (.agg #[.int .i64 g, .int .i64 f, .int .i64 t]) (.int .i64 0)).run Tryd.prog w = .ok (.int .i64 g) w := fun _ => by kernel_rfl
  have i1 : ∀ w, (Instr.index 84 (.agg #[.int .i64 g, .int .i64 f, .int .i64 t]) (.int .i64 1)).run Tryd.prog w = .ok (.int .i64 f) w := fun _ => by kernel_rfl
  have i2 : ∀ w, (Instr.index 84 (.agg #[.int .i64 g, .int .i64 f, .int .i64 t]) (.int .i64 2)).run Tryd.prog w = .ok (.int .i64 t) w := fun _ => by kernel_rfl
  go_enter Tryd.func38, Tryd.ntmps38
  go_wp2
  go_loop [8, 14] (fun _ i => ∃ k : Int, i = .int .i64 k ∧ ((k = 0) ∨ (k = 1 ∧ 0 ≤ g ∧ g ≤ 12) ∨ (k = 2 ∧ 0 ≤ g ∧ g ≤ 12 ∧ 0 ≤ f ∧ f ≤ 12) ∨ (k = 3 ∧ 0 ≤ g ∧ g ≤ 12 ∧ 0 ≤ f ∧ f ≤ 12 ∧ 0 ≤ t ∧ t ≤ 12))) (fun _ i => 3 - (intOf i).toNat)
  case atStart => exact ⟨0, rfl, .inl rfl⟩
  case round =>
    have no : ∀ x, x ∈ [t, g, f] → (x < 0 ∨ 12 < x) → Hid (three t g f = false) := by
      intro x hx hlt
      show _ = _
      rw [Bool.eq_false_iff]
      intro h
      have := (three_iff t g f).1 h
      simp at hx
      omega
    obtain ⟨k, rfl, rfl | ⟨rfl, _, _⟩ | ⟨rfl, _, _, _, _⟩ | ⟨rfl, _, _, _, _, _, _⟩⟩ := hrel
    · rcases Int.lt_or_le g 0 with h1 | h1
      · have h3 := no g (by simp) (.inl h1)
        go_wp2
        go_ret
        exact ⟨congrArg (fun b => Ending.returned (.bool b)) h3.out.symm, rfl⟩
      · rcases Int.lt_or_le 12 g with h2 | h2
        · have h3 := no g (by simp) (.inr h2)
          go_wp2
          go_ret
          exact ⟨congrArg (fun b => Ending.returned (.bool b)) h3.out.symm, rfl⟩
        · go_wp2
          go_round
          case rel => exact ⟨1, rfl, by omega⟩
          case measure => simp [intOf]
    · rcases Int.lt_or_le f 0 with h1 | h1
      · have h3 := no f (by simp) (.inl h1)
        go_wp2
        go_ret
        exact ⟨congrArg (fun b => Ending.returned (.bool b)) h3.out.symm, rfl⟩
      · rcases Int.lt_or_le 12 f with h2 | h2
        · have h3 := no f (by simp) (.inr h2)
          go_wp2
          go_ret
          exact ⟨congrArg (fun b => Ending.returned (.bool b)) h3.out.symm, rfl⟩
        · go_wp2
          go_round
          case rel => exact ⟨2, rfl, by omega⟩
          case measure => simp [intOf]
    · rcases Int.lt_or_le t 0 with h1 | h1
      · have h3 := no t (by simp) (.inl h1)
        go_wp2
        go_ret
        exact ⟨congrArg (fun b => Ending.returned (.bool b)) h3.out.symm, rfl⟩
      · rcases Int.lt_or_le 12 t with h2 | h2
        · have h3 := no t (by simp) (.inr h2)
          go_wp2
          go_ret
          exact ⟨congrArg (fun b => Ending.returned (.bool b)) h3.out.symm, rfl⟩
        · go_wp2
          go_round
          case rel => exact ⟨3, rfl, by omega⟩
          case measure => simp [intOf]
    · by_cases h1 : 1 ≤ t + g + f
      · have h3 : Hid (three t g f = decide (t + g + f ≤ 12)) := by
          show _ = _
          rw [Bool.eq_iff_iff, three_iff]
          simp
          omega
        go_wp2
        go_ret
        exact ⟨congrArg (fun b => Ending.returned (.bool b)) h3.out.symm, rfl⟩
      · have h3 : Hid (three t g f = false) := by
          show _ = _
          rw [Bool.eq_false_iff]
          intro h
          have := (three_iff t g f).1 h
          omega
        go_wp2
        go_ret
        exact ⟨congrArg (fun b => Ending.returned (.bool b)) h3.out.symm, rfl⟩

/-- The answer of a function that gives a string, or none. -/
def strOr (c : Bool) (l : List UInt8) : Value := if c then .tuple #[.string (str l), .bool true] else .tuple #[.string (str []), .bool false]
def intOr (c : Bool) (n : Int) : Value := if c then .tuple #[.int .i64 n, .bool true] else .tuple #[.int .i64 0, .bool false]

set_option maxHeartbeats 400000 in
theorem firstLine_any (t g f : Int) (w : World) :
    Calls Tryd.prog 26 #[.int .i64 t, .int .i64 g, .int .i64 f] w fun e w' => e = .returned (strOr (three t g f) (firstL t.toNat g.toNat f.toNat)) ∧ Below w.heap.size w w' := by
  cases hc : three t g f
  · have hC := Lib.hid hc
    clear hc
    go_enter Tryd.func26, Tryd.ntmps26
    go_wp2_with (go_at_call 38; refine (areCounts_any _ _ _ _).mono ?_; rintro e w' ⟨rfl, rfl⟩; rw [hC.out])
    go_ret2
    exact ⟨rfl, Below.refl _ _⟩
  · have hC := Lib.hid hc
    obtain ⟨⟨_, _⟩, ⟨_, _⟩, ⟨_, _⟩, _, _⟩ := (three_iff t g f).1 hc
    clear hc
    have z1 : (str (List.replicate t.toNat 84)).size ≤ 100 := by rw [str_size, List.length_replicate]; omega
    have z2 : (str (List.replicate g.toNat 46)).size ≤ 100 := by rw [str_size, List.length_replicate]; omega
    have z3 : (str (List.replicate f.toNat 70)).size ≤ 100 := by rw [str_size, List.length_replicate]; omega
    go_enter Tryd.func26, Tryd.ntmps26
    go_wp2_with (go_at_call 38; refine (areCounts_any _ _ _ _).mono ?_; rintro e w' ⟨rfl, rfl⟩; rw [hC.out])
    refine (repeat_any 84 _ _ (by omega) (by omega)).mono ?_; rintro e w1 ⟨rfl, hb1⟩
    go_wp2_with fail
    refine (repeat_any 46 _ _ (by omega) (by omega)).mono ?_; rintro e w2 ⟨rfl, hb2⟩
    go_wp2_with fail
    refine (repeat_any 70 _ _ (by omega) (by omega)).mono ?_; rintro e w3 ⟨rfl, hb3⟩
    go_wp2
    go_ret2
    refine ⟨congrArg (fun b => Ending.returned (.tuple #[.string b, .bool true])) ?_, (hb1.trans (hb2.mono hb1.size)).trans (hb3.mono (Nat.le_trans hb1.size hb2.size))⟩
    show str _ ++ str _ ++ str _ = _
    rw [str_app, str_app]
    rfl

/-- The answer of CountOf. -/
def countsOr (s : ByteArray) : Value := if goodL s then .tuple #[.int .i64 (cnt 84 (byt s)), .int .i64 (cnt 46 (byt s)), .int .i64 (cnt 70 (byt s)), .bool true] else .tuple #[.int .i64 0, .int .i64 0, .int .i64 0, .bool false]

set_option maxHeartbeats 400000 in
theorem countOf_any (s : ByteArray) (w : World) (hs : s.size ≤ maxLen) :
    Calls Tryd.prog 40 #[.string s] w fun e w' => e = .returned (countsOr s) ∧ w = w' := by
  cases hc : goodL s
  · have hC := Lib.hid hc
    have hR : Hid (countsOr s = .tuple #[.int .i64 0, .int .i64 0, .int .i64 0, .bool false]) := by show _ = _; unfold countsOr; rw [hc]; rfl
    clear hc
    go_enter Tryd.func40, Tryd.ntmps40
    go_wp2_with (go_at_call 54; refine (isLine_any _ _ hs).mono ?_; rintro e w' ⟨rfl, rfl⟩; rw [hC.out])
    (try simp only [Exit.inBlock, Exit.then]); refine bodyPost_ret (results_tmp4 rfl _ _ _) rfl ?_
    exact ⟨congrArg Ending.returned hR.out.symm, rfl⟩
  · have hC := Lib.hid hc
    have hR : Hid (countsOr s = .tuple #[.int .i64 (cnt 84 (byt s)), .int .i64 (cnt 46 (byt s)), .int .i64 (cnt 70 (byt s)), .bool true]) := by show _ = _; unfold countsOr; rw [hc]; rfl
    clear hc
    go_enter Tryd.func40, Tryd.ntmps40
    go_wp2_with (go_at_call 54; refine (isLine_any _ _ hs).mono ?_; rintro e w' ⟨rfl, rfl⟩; rw [hC.out])
    refine (count_any s 84 _).mono ?_; rintro e w1 ⟨rfl, rfl⟩
    go_wp2_with fail
    refine (count_any s 46 _).mono ?_; rintro e w1 ⟨rfl, rfl⟩
    go_wp2_with fail
    refine (count_any s 70 _).mono ?_; rintro e w1 ⟨rfl, rfl⟩
    go_wp2
    (try simp only [Exit.inBlock, Exit.then]); refine bodyPost_ret (results_tmp4 rfl _ _ _) rfl ?_
    exact ⟨congrArg Ending.returned hR.out.symm, rfl⟩

set_option maxHeartbeats 400000 in
theorem lastLine_any (s : ByteArray) (w : World) (hs : s.size ≤ maxLen) :
    Calls Tryd.prog 27 #[.string s] w fun e w' => e = .returned (strOr (goodL s) (lastL (byt s))) ∧ Below w.heap.size w w' := by
  cases hc : goodL s
  · have hR : Hid (countsOr s = .tuple #[.int .i64 0, .int .i64 0, .int .i64 0, .bool false]) := by show _ = _; unfold countsOr; rw [hc]; rfl
    clear hc
    go_enter Tryd.func27, Tryd.ntmps27
    go_wp2_with (go_at_call 40; refine (countOf_any _ _ hs).mono ?_; rintro e w' ⟨rfl, rfl⟩; rw [hR.out])
    go_ret2
    exact ⟨rfl, Below.refl _ _⟩
  · have hR : Hid (countsOr s = .tuple #[.int .i64 (cnt 84 (byt s)), .int .i64 (cnt 46 (byt s)), .int .i64 (cnt 70 (byt s)), .bool true]) := by show _ = _; unfold countsOr; rw [hc]; rfl
    obtain ⟨_, _, _⟩ := (goodL_iff s).1 hc
    have hb := byt_len s
    have l1 := cnt_le 70 (byt s)
    have l2 := cnt_le 46 (byt s)
    have l3 := cnt_le 84 (byt s)
    have z1 : (str (List.replicate (cnt 70 (byt s)) 70)).size ≤ 100 := by rw [str_size, List.length_replicate]; omega
    have z2 : (str (List.replicate (cnt 46 (byt s)) 46)).size ≤ 100 := by rw [str_size, List.length_replicate]; omega
    have z3 : (str (List.replicate (cnt 84 (byt s)) 84)).size ≤ 100 := by rw [str_size, List.length_replicate]; omega
    have c1 : cnt 70 (byt s) ≤ 12 := by omega
    have c2 : cnt 46 (byt s) ≤ 12 := by omega
    have c3 : cnt 84 (byt s) ≤ 12 := by omega
    clear hc hb l1 l2 l3
    go_enter Tryd.func27, Tryd.ntmps27
    go_wp2_with (go_at_call 40; refine (countOf_any _ _ hs).mono ?_; rintro e w' ⟨rfl, rfl⟩; rw [hR.out])
    refine (repeat_any 70 _ _ (by omega) (by omega)).mono ?_; rintro e w1 ⟨rfl, hb1⟩
    go_wp2_with fail
    refine (repeat_any 46 _ _ (by omega) (by omega)).mono ?_; rintro e w2 ⟨rfl, hb2⟩
    go_wp2_with fail
    refine (repeat_any 84 _ _ (by omega) (by omega)).mono ?_; rintro e w3 ⟨rfl, hb3⟩
    go_wp2
    go_ret2
    refine ⟨congrArg (fun b => Ending.returned (.tuple #[.string b, .bool true])) ?_, (hb1.trans (hb2.mono hb1.size)).trans (hb3.mono (Nat.le_trans hb1.size hb2.size))⟩
    show str _ ++ str _ ++ str _ = _
    rw [str_app, str_app]
    rfl
end Go.Proofs.YtfiifjcjmnhbnaaDoor
namespace Go.Proofs.YtfiifjcjmnhbnaaDoor
open Go.RowKit

def u8s (l : List UInt8) : List Value := l.map fun c => .int .u8 (c.toNat : Int)
theorem u8s_len (l : List UInt8) : (u8s l).length = l.length := by simp [u8s]
theorem good_sign {s : ByteArray} (h : goodL s = true) (k : Nat) (hk : k < s.size) : isSign s[k] = true := by
  have h1 := ((goodL_iff s).1 h).2.2
  rw [List.all_eq_true] at h1
  apply h1
  have : (byt s)[k]'(by rw [byt_len]; exact hk) = s[k] := rfl
  rw [← this]
  exact List.getElem_mem _

theorem Tryd.info5 : (Tryd.prog.info? 5).map (fun i => (i.zero, i.size, i.bytes)) = some (some (.int .u8 0), 1, 1) := by kernel_rfl

theorem addr_add (g j : Nat) : (⟨g, 0, none⟩ : Addr).add j = ⟨g, j, none⟩ := by
  unfold Addr.add
  split
  · simp_all
  · simp
theorem made_one (z : Value) (hz : z.cells = #[z]) (n : Nat) : (madeCells z.cells n).toList = List.replicate n z := by
  rw [hz]
  apply List.ext_getElem
  · simp [madeCells]
  · intro i h1 h2
    simp [madeCells, Nat.mod_one]
/-- What the new text's cells hold behind k rounds. -/
def othCells (s : ByteArray) (k : Nat) : List Value := List.replicate (s.size - k) (.int .u8 0) ++ u8s (otherL ((byt s).take k))
theorem othCells_len (s : ByteArray) (k : Nat) (hk : k ≤ s.size) : (othCells s k).length = s.size := by
  simp [othCells, u8s_len, otherL_len, byt_len]; omega
theorem othCells_set (s : ByteArray) (k : Nat) (hk : k < s.size) : (othCells s k).set (s.size - 1 - k) (.int .u8 (oSign s[k]).toNat) = othCells s (k + 1) := by
  unfold othCells
  obtain ⟨j, hj⟩ : ∃ j, s.size - k = j + 1 := ⟨s.size - k - 1, by omega⟩
  have e1 : s.size - 1 - k = j := by omega
  have e2 : s.size - (k + 1) = j := by omega
  have e3 : otherL ((byt s).take (k + 1)) = oSign s[k] :: otherL ((byt s).take k) := by
    rw [take_snoc s k hk]
    simp [otherL]
  rw [e1, e2, e3, hj, List.replicate_succ', List.append_assoc, List.set_append_right _ _ (by simp)]
  simp [u8s]

set_option maxHeartbeats 400000 in
theorem pairs_any (s : ByteArray) (w : World) (hs : s.size ≤ maxLen) :
    Calls Tryd.prog 43 #[.string s] w fun e w' => e = .returned (intOr (goodL s) (pairSt (byt s)).1) ∧ w = w' := by
  cases hc : goodL s
  · have hC := Lib.hid hc
    clear hc
    go_enter Tryd.func43, Tryd.ntmps43
    go_wp2_with (go_at_call 54; refine (isLine_any _ _ hs).mono ?_; rintro e w' ⟨rfl, rfl⟩; rw [hC.out])
    go_ret2
    exact ⟨rfl, rfl⟩
  · have hC := Lib.hid hc
    obtain ⟨_, _, _⟩ := (goodL_iff s).1 hc
    clear hc
    go_enter Tryd.func43, Tryd.ntmps43
    go_wp2_with (go_at_call 54; refine (isLine_any _ _ hs).mono ?_; rintro e w' ⟨rfl, rfl⟩; rw [hC.out])
    go_loop [4, 5, 6, 12] (fun t n _ i => ∃ k : Nat, k ≤ s.size ∧ i = .int .i64 k ∧ n = .int .i64 (pairSt ((byt s).take k)).1 ∧ t = .int .i64 (pairSt ((byt s).take k)).2) (fun _ _ _ i => s.size - (intOf i).toNat)
    case atStart => exact ⟨0, Nat.zero_le _, rfl, rfl, rfl⟩
    case round =>
      obtain ⟨k, hk, rfl, rfl, rfl⟩ := hrel
      by_cases hlt : k < s.size
      · have HS : Hid (pairSt ((byt s).take (k + 1)) = pairStep (pairSt ((byt s).take k)) s[k]) := by
          show _ = _
          rw [take_snoc s k hlt, pairSt_snoc]
        have hb := pairSt_le ((byt s).take k)
        have hl : ((byt s).take k).length ≤ 100 := by rw [List.length_take, byt_len]; omega
        have hq : ((byt s).take k).length * ((byt s).take k).length ≤ 100 * 100 := Nat.mul_le_mul hl hl
        have b1 : (pairSt ((byt s).take k)).1 ≤ 10000 := by omega
        have b2 : (pairSt ((byt s).take k)).2 ≤ 100 := by omega
        clear hb hl hq
        generalize pairSt ((byt s).take k) = p at HS b1 b2
        obtain ⟨p1, p2⟩ := p
        rcases byte_split s[k] with ⟨hc, hv⟩ | ⟨hc, hv⟩ | ⟨hc, hv, hv2⟩
        all_goals
          have hC := Lib.hid hc
          clear hc
          go_wp2
          go_round
          case rel =>
            refine ⟨k + 1, by omega, by go_num, ?_, ?_⟩ <;> (rw [HS.out]; simp only [hC.out, pairStep]; first | go_num | rfl)
          case measure => simp [intOf]; omega
      · go_wp2
        go_ret2
        obtain rfl : k = s.size := by omega
        exact ⟨by rw [take_all]; rfl, rfl⟩
end Go.Proofs.YtfiifjcjmnhbnaaDoor
namespace Go.Proofs.YtfiifjcjmnhbnaaDoor
open Go.RowKit

/-- 'strOr' and its like, opened. -/
theorem strOr_no (c : Bool) (l : List UInt8) (h : c = false) : strOr c l = .tuple #[.string (str []), .bool false] := by rw [h]; rfl
theorem strOr_yes (c : Bool) (l : List UInt8) (h : c = true) : strOr c l = .tuple #[.string (str l), .bool true] := by rw [h]; rfl
theorem intOr_no (c : Bool) (n : Int) (h : c = false) : intOr c n = .tuple #[.int .i64 0, .bool false] := by rw [h]; rfl
theorem intOr_yes (c : Bool) (n : Int) (h : c = true) : intOr c n = .tuple #[.int .i64 n, .bool true] := by rw [h]; rfl

end Go.Proofs.YtfiifjcjmnhbnaaDoor
