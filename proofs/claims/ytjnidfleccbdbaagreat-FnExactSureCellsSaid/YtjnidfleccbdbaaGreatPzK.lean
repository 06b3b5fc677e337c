/- Contracts: all lines that fit some clues, the model's. -/
import Derived.Test.YtjnidfleccbdbaaGreatPzJ
import Derived.Test.YtjnidfleccbdbaaGreatPzD
namespace Go.Proofs.YtjnidfleccbdbaaGreat
open Go.RowKit

/-- All texts of signs that go on with a text, so many signs more, in order. -/
def grow : Nat → List UInt8 → List (List UInt8)
  | 0, l => [l]
  | r + 1, l => ([46, 70, 84] : List UInt8).flatMap fun c => grow r (l ++ [c])
theorem grow_next (r : Nat) (l : List UInt8) : grow (r + 1) l = grow r (l ++ [46]) ++ (grow r (l ++ [70]) ++ grow r (l ++ [84])) := by simp [grow]
theorem grow_len : ∀ (r : Nat) (l : List UInt8), (grow r l).length = 3 ^ r
  | 0, l => rfl
  | r + 1, l => by rw [grow_next]; simp only [List.length_append, grow_len]; rw [Nat.pow_succ]; omega
theorem mem_grow : ∀ (r : Nat) (l x : List UInt8), x ∈ grow r l ↔ ∃ y, x = l ++ y ∧ y.length = r ∧ ∀ c ∈ y, isSign c = true
  | 0, l, x => by
    simp only [grow, List.mem_singleton]
    constructor
    · rintro rfl; exact ⟨[], by simp, rfl, by simp⟩
    · rintro ⟨y, rfl, hy, _⟩; rw [List.eq_nil_of_length_eq_zero hy, List.append_nil]
  | r + 1, l, x => by
    rw [grow_next]
    simp only [List.mem_append, mem_grow r]
    constructor
    · rintro (⟨y, rfl, h1, h2⟩ | ⟨y, rfl, h1, h2⟩ | ⟨y, rfl, h1, h2⟩)
      · exact ⟨46 :: y, by simp, by simp [h1], fun c hc => (List.mem_cons.1 hc).elim (fun h => by rw [h]; rfl) (h2 c)⟩
      · exact ⟨70 :: y, by simp, by simp [h1], fun c hc => (List.mem_cons.1 hc).elim (fun h => by rw [h]; rfl) (h2 c)⟩
      · exact ⟨84 :: y, by simp, by simp [h1], fun c hc => (List.mem_cons.1 hc).elim (fun h => by rw [h]; rfl) (h2 c)⟩
    · rintro ⟨y, rfl, h1, h2⟩
      match y, h1, h2 with
      | c :: y, h1, h2 =>
        have hl : y.length = r := by simpa using h1
        have hy : ∀ d ∈ y, isSign d = true := fun d hd => h2 d (by simp [hd])
        have hc := h2 c (by simp)
        rcases sign_cases c with rfl | rfl | rfl | h
        · exact .inr (.inr ⟨y, by simp, hl, hy⟩)
        · exact .inr (.inl ⟨y, by simp, hl, hy⟩)
        · exact .inl ⟨y, by simp, hl, hy⟩
        · rw [h] at hc; cases hc
/-- A line fits all of some clues; the lines of so many cells that do. -/
def fitL (cs : List Cl) (l : List UInt8) : Bool := cs.all fun c => fitC c l
def solL (n : Nat) (cs : List Cl) : List (List UInt8) := (grow n []).filter (fitL cs)
theorem solL_le (n : Nat) (cs : List Cl) : (solL n cs).length ≤ 3 ^ n := by
  have := List.length_filter_le (fitL cs) (grow n [])
  rw [grow_len] at this
  exact this
theorem fitL_next (cs : List Cl) (l : List UInt8) (k : Nat) (h : k < cs.length) : fitL (cs.take (k + 1)) l = (fitL (cs.take k) l && fitC cs[k] l) := by
  unfold fitL
  rw [List.take_succ_eq_append_getElem h, List.all_append]
  simp

/-- A box with a list of texts of its own. -/
structure LkB (W : World) (B : Nat) (acc : List (List UInt8)) (v : Value) : Prop where
  box : W.heap[B]? = some (.cells #[v] 36 (0, 0))
  row : W.ownsRow (B + 1) 9 1 v acc.length (txs acc)
def LkW (W : World) (B : Nat) (acc : List (List UInt8)) : Prop := ∃ v, LkB W B acc v
theorem LkB.lt {W : World} {B : Nat} {acc : List (List UInt8)} {v : Value} (h : LkB W B acc v) : B < W.heap.size := (Array.getElem?_eq_some_iff.1 h.box).1
theorem LkB.cell {W : World} {B : Nat} {acc : List (List UInt8)} {v : Value} (h : LkB W B acc v) : W.cell? ⟨B, 0, none⟩ = some v ∧ W.frozen? ⟨B, 0, none⟩ = false ∧ ∀ o, 1 ≤ o → W.cell? ⟨B, o, none⟩ = none := by
  refine ⟨by simp [World.cell?, h.box], by simp [World.frozen?, h.box], fun o ho => ?_⟩
  obtain ⟨j, rfl⟩ : ∃ j, o = j + 1 := ⟨o - 1, by omega⟩
  simp [World.cell?, h.box]
theorem LkB.ex {W : World} {B : Nat} {acc : List (List UInt8)} {v : Value} (h : LkB W B acc v) (k : Nat) : Ex B W k ↔ k = B ∨ v.ownBlock = some k := by
  obtain ⟨c0, _, c2⟩ := h.cell
  constructor
  · rintro (h | ⟨o, u, hc, hv⟩)
    · exact .inl h
    · match o with
      | 0 => rw [c0] at hc; injection hc with hc; subst hc; exact .inr hv
      | o + 1 => rw [c2 _ (by omega)] at hc; cases hc
  · rintro (h | h)
    · exact .inl h
    · exact .inr ⟨0, _, c0, h⟩
theorem LkB.ex_in {W : World} {B : Nat} {acc : List (List UInt8)} {v : Value} (h : LkB W B acc v) (k : Nat) (he : Ex B W k) : B ≤ k ∧ k < W.heap.size := by
  rcases (h.ex k).1 he with rfl | h1
  · exact ⟨Nat.le_refl _, h.lt⟩
  · have := h.row.lt k h1; omega
theorem LkW.ex_in {W : World} {B : Nat} {acc : List (List UInt8)} (h : LkW W B acc) (k : Nat) (he : Ex B W k) : B ≤ k ∧ k < W.heap.size := by
  obtain ⟨v, h⟩ := h
  exact h.ex_in k he
theorem LkB.below {W W' : World} {B : Nat} {acc : List (List UInt8)} {v : Value} (h : LkB W B acc v) (hb : Below W.heap.size W W') : LkB W' B acc v := ⟨(hb.block B h.lt).trans h.box, own_below h.row hb⟩
theorem LkW.below {W W' : World} {B : Nat} {acc : List (List UInt8)} (h : LkW W B acc) (hb : Below W.heap.size W W') : LkW W' B acc := by
  obtain ⟨v, h⟩ := h
  exact ⟨v, h.below hb⟩
theorem LkW.lt {W : World} {B : Nat} {acc : List (List UInt8)} (h : LkW W B acc) : B < W.heap.size := by
  obtain ⟨v, h⟩ := h
  exact h.lt
theorem ClIn.kp {B : Nat} {w w' : World} {A : Option Addr} {l : List Cl} (h : ClIn w A l) (hf : KpX B w w') (hne : ∀ a, A = some a → ¬ Ex B w a.block) : ClIn w' A l := by
  intro k hk
  obtain ⟨g, o, e, hg, c0, c1, c2⟩ := h k hk
  have hb := hf.keep g hg (hne _ e)
  have hc : ∀ o, w'.cell? ⟨g, o, none⟩ = w.cell? ⟨g, o, none⟩ := fun o => World.cell?_of_block (a := ⟨g, o, none⟩) hb
  exact ⟨g, o, e, Nat.lt_of_lt_of_le hg hf.size, by rw [hc]; exact c0, by rw [hc]; exact c1, by rw [hc]; exact c2⟩
theorem cell_one_newP (w : World) (a : Value) (t : TypeId) : ∀ j u, [a][j]? = some u → (w.alloc (.cells #[a] t)).cell? ((⟨w.heap.size, 0, none⟩ : Addr).add j) = some u := by
  intro j u h
  rw [addr_add, World.cell?_alloc_new]
  simpa using h
/-- What a search leaves. -/
def LookP (B : Nat) (acc : List (List UInt8)) (W : World) (e : Ending) (W' : World) : Prop := e = .returned (.tuple #[]) ∧ LkW W' B acc ∧ KpX B W W'

set_option maxRecDepth 100000 in
set_option maxHeartbeats 2000000 in
/-- All signs are there: the clues are asked. -/
theorem look_end (n : Nat) (l : List UInt8) (cs : List Cl) (A : Option Addr) (c B : Nat) (acc : List (List UInt8)) (W : World) (hn : l.length = n) (h15 : 1 ≤ n ∧ n ≤ 5) (hg : goodL (str l) = true) (hok : ∀ k ∈ cs, ckOk n k = true) (hcs : cs.length ≤ 100) (hin : ClIn W A cs) (hL : LkW W B acc) (hacc : acc.length ≤ 1000) :
    Calls Tryz.prog 17 #[.int .i64 n, .slice A cs.length c, .string (str l), .pointer (some ⟨B, 0, none⟩)] W (LookP B (acc ++ if fitL cs l then [l] else []) W) := by
  obtain ⟨i0, hi, hz0, hz1, hz2⟩ := info_parts Tryz.infoS
  have HI := Lib.hid hi
  have HZ0 := Lib.hid hz0
  have HZ1 := Lib.hid hz1
  have HZ2 := Lib.hid hz2
  clear hi hz0 hz1 hz2
  have hsz : (str l).size = n := by rw [str_size]; exact hn
  have heq : (((str l).size : Int) == (n : Int)) = true := by rw [hsz]; simp
  have HF := Lib.hid (fun (k : Cl) (hk : k ∈ cs) wx => pzFits_any l k.1 k.2.1 k.2.2 wx hg (by omega) (by rw [hn]; exact hok k hk))
  have HN := Lib.hid hin
  have HL := Lib.hid hL
  obtain ⟨D, hD⟩ : ∃ D, acc ++ (if fitL cs l then [l] else []) = D := ⟨_, rfl⟩
  rw [hD]
  have HD := Lib.hid hD
  have hBl := hL.lt
  clear hin hL hg hok hsz hD
  go_enter Tryz.func17, Tryz.ntmps17
  go_wp2_with fail
  go_loopw [9, 18] (fun _ i wr => ∃ k : Nat, k ≤ cs.length ∧ i = .int .i64 k ∧ Hid (fitL (cs.take k) l = true) ∧ Below W.heap.size W wr) (fun _ i _ => cs.length - (intOf i).toNat)
  case atStart => exact ⟨0, Nat.zero_le _, rfl, Lib.hid rfl, Below.refl _ _⟩
  case round =>
    obtain ⟨k, hk, rfl, hall, hB⟩ := hrel
    by_cases hlt : k < cs.length
    · obtain ⟨g, o, rfl, z1, p1, q1, r1⟩ := (HN.out.below hB) k hlt
      have HK := Lib.hid (HF.out cs[k] (List.getElem_mem hlt))
      have HS : Hid (fitL (cs.take (k + 1)) l = fitC (cs[k].1, cs[k].2.1, cs[k].2.2) l) := Lib.hid (by rw [fitL_next cs l k hlt, hall.out]; rfl)
      have HNO : Hid (fitC (cs[k].1, cs[k].2.1, cs[k].2.2) l = false → fitL cs l = false) := Lib.hid fun h => by
        unfold fitL
        rw [List.all_eq_false]
        exact ⟨cs[k], List.getElem_mem hlt, by rw [show fitC cs[k] l = false from h]; simp⟩
      generalize cs[k].1 = a at p1 HK HS HNO
      generalize cs[k].2.1 = b at q1 HK HS HNO
      generalize cs[k].2.2 = d at r1 HK HS HNO
      have i1 : (0 : Int) ≤ (k : Int) := by omega
      have i2 : (k : Int) < (cs.length : Int) := by omega
      have HBB := Lib.hid hB
      have hz := hB.size
      clear hall hB
      cases hf : fitC (a, b, d) l
      · rw [hf] at HK
        have HE : Hid (acc = D) := Lib.hid (by rw [← HD.out, HNO.out hf]; simp)
        clear hf HS HNO
        generalize str l = s at *
        go_wp2_with fail
        refine (HK.out _).mono ?_
        rintro e w2 ⟨rfl, hb2⟩
        have hBe := (HBB.out.alloc hz (Obj.cells #[.int .i64 a, .int .i64 b, .int .i64 d] 45)).trans (hb2.mono (by simp <;> omega))
        have HBe := Lib.hid hBe
        clear hBe hb2
        go_wp2_with fail
        go_end0
        exact ⟨rfl, by rw [← HE.out]; exact HL.out.below HBe.out, KpX.below hBl HBe.out⟩
      · rw [hf] at HK HS
        clear hf HNO
        generalize str l = s at *
        go_wp2_with fail
        refine (HK.out _).mono ?_
        rintro e w2 ⟨rfl, hb2⟩
        go_wp2_with fail
        go_roundw
        case rel => exact ⟨k + 1, by omega, by go_num, HS, (HBB.out.alloc hz _).trans (hb2.mono (by simp <;> omega))⟩
        case measure => simp [intOf]; omega
    · obtain rfl : k = cs.length := by omega
      have HE : Hid (acc ++ [l] = D) := Lib.hid (by rw [← HD.out]; have := hall.out; rw [List.take_length] at this; rw [this]; rfl)
      obtain ⟨v, hv⟩ := HL.out.below hB
      obtain ⟨vp, va, vc, rfl⟩ := own_sliceC hv.row
      obtain ⟨v0, f0, _⟩ := hv.cell
      have HV := Lib.hid hv
      have HBB := Lib.hid hB
      have hz := hB.size
      have hBr := hv.lt
      have hrow := Lib.hid (hv.row.alloc (Obj.cells #[.string (str l)] 9))
      clear hall hB hv
      have v1 : ∀ o, (wr.alloc o).cell? ⟨B, 0, none⟩ = some (.slice vp va vc) := fun o => by rw [World.cell?_alloc_past _ _ _ hBr]; exact v0
      have hstr : Hid (txs [l] = [.string (str l)]) := rfl
      go_wp2_with (first | (at_builtin; go_loud (refine wpList_append_lies _ rfl _ _ 36 rfl (B + 1) 9 i0 (.string ByteArray.empty) 1 16 Tryz.underlying36 HI.out HZ0.out HZ1.out HZ2.out rfl (by decide) (.slice vp va vc) acc.length (txs acc) rfl hrow.out ⟨wr.heap.size, 0, none⟩ 1 1 [.string (str l)] rfl rfl (cell_one_newP wr _ _) (fun u hu => by simp at hu; subst hu; rfl) (by decide) (by unfold maxLen; omega) (by omega) (by simp; omega) (wr.alloc (Obj.cells #[.string (str l)] 9)).heap.size rfl ?_; intro g cap w3 hown' hgrow hat hlt'); have hbox3 : w3.heap[B]? = some (.cells #[.slice vp va vc] 36 (0, 0)) := (by rw [hgrow.block B (by simp; omega) (fun e => by have := (HV.out.row.lt B e.symm).1; omega), Below.heap_alloc _ _ _ hBr]; exact HV.out.box); have s0 : w3.cell? ⟨B, 0, none⟩ = some (.slice vp va vc) := (by simp [World.cell?, hbox3]); have s1 : w3.frozen? ⟨B, 0, none⟩ = false := (by simp [World.frozen?, hbox3])))
      go_end0
      have hset : (w3.setCell ⟨B, 0, none⟩ (.slice (some ⟨g, 0, none⟩) (acc.length + 1) cap)).heap[B]? = some (.cells #[.slice (some ⟨g, 0, none⟩) (acc.length + 1) cap] 36 (0, 0)) := by
        simp [World.setCell, Array.getElem?_modify, hbox3]
      have hgB : g ≠ B := by have := (hown'.lt g rfl).1; omega
      refine ⟨rfl, ⟨_, hset, ?_⟩, (KpX.below hBl HBB.out).trans (kp_step v0 hgrow ?_ ?_)⟩
      · have e1 : (txs acc ++ [Value.string (str l)]) = txs D := by rw [← HE.out, txs_app]; rfl
        have e2 : acc.length + 1 = D.length := by rw [← HE.out]; simp
        rw [e1, e2] at hown'
        rw [e2]
        exact own_setC hown' B 0 _ (fun e => hgB (Option.some.inj e))
      · rcases hat with h | h
        · exact .inl h.symm
        · exact .inr (by rw [h]; rfl)
      · intro j u hc
        match j with
        | 0 =>
          left
          have : (w3.setCell ⟨B, 0, none⟩ (.slice (some ⟨g, 0, none⟩) (acc.length + 1) cap)).cell? ⟨B, 0, none⟩ = some (.slice (some ⟨g, 0, none⟩) (acc.length + 1) cap) := World.cell?_setCell_same _ _ _ s0
          rw [this] at hc
          injection hc with hc
          exact hc.symm
        | j + 1 =>
          exfalso
          simp [World.cell?, hset] at hc

/-- What the first k signs add. -/
def addK (r : Nat) (cs : List Cl) (l : List UInt8) : Nat → List (List UInt8)
  | 0 => []
  | 1 => (grow r (l ++ [46])).filter (fitL cs)
  | 2 => (grow r (l ++ [46])).filter (fitL cs) ++ (grow r (l ++ [70])).filter (fitL cs)
  | _ => (grow r (l ++ [46])).filter (fitL cs) ++ (grow r (l ++ [70])).filter (fitL cs) ++ (grow r (l ++ [84])).filter (fitL cs)
theorem filter_le (r : Nat) (cs : List Cl) (l : List UInt8) : ((grow r l).filter (fitL cs)).length ≤ 3 ^ r := by
  have := List.length_filter_le (fitL cs) (grow r l)
  rw [grow_len] at this
  exact this
theorem KpX.block {B : Nat} {w w' : World} (h : KpX B w w') {k : Nat} (hk : k < w.heap.size) (hn : ¬ Ex B w k) {o : Nat} : w'.cell? ⟨k, o, none⟩ = w.cell? ⟨k, o, none⟩ :=
  World.cell?_of_block (a := ⟨k, o, none⟩) (h.keep k hk hn)

set_option maxRecDepth 100000 in
set_option maxHeartbeats 2000000 in
theorem look_step (n r : Nat) (l : List UInt8) (cs : List Cl) (A : Option Addr) (c B : Nat) (acc : List (List UInt8)) (W : World) (hn : l.length + (r + 1) = n) (h5 : n ≤ 5) (hin : ClIn W A cs) (hold : ∀ a, A = some a → a.block < B) (hL : LkW W B acc) (hacc : acc.length + 3 ^ (r + 1) ≤ 1000)
    (hIH : ∀ d acc' W', isSign d = true → ClIn W' A cs → LkW W' B acc' → acc'.length + 3 ^ r ≤ 1000 → Calls Tryz.prog 17 #[.int .i64 n, .slice A cs.length c, .string (str (l ++ [d])), .pointer (some ⟨B, 0, none⟩)] W' (LookP B (acc' ++ (grow r (l ++ [d])).filter (fitL cs)) W')) :
    Calls Tryz.prog 17 #[.int .i64 n, .slice A cs.length c, .string (str l), .pointer (some ⟨B, 0, none⟩)] W (LookP B (acc ++ (grow (r + 1) l).filter (fitL cs)) W) := by
  have hsz : (str l).size = l.length := str_size l
  have heq : (((str l).size : Int) == (n : Int)) = false := by rw [hsz, beq_eq_false_iff_ne]; omega
  have HIH := Lib.hid hIH
  have HN := Lib.hid hin
  have HO := Lib.hid hold
  have HL := Lib.hid hL
  have hBl := hL.lt
  have HG : Hid ((grow (r + 1) l).filter (fitL cs) = addK r cs l 3) := Lib.hid (by rw [grow_next]; simp [addK, List.filter_append])
  rw [HG.out]
  have l0 := filter_le r cs (l ++ [46])
  have l1 := filter_le r cs (l ++ [70])
  have l2 := filter_le r cs (l ++ [84])
  have h3 : 3 ^ (r + 1) = 3 * 3 ^ r := by rw [Nat.pow_succ]; omega
  have e46 : Hid (str l ++ ⟨#[46]⟩ = str (l ++ [46])) := Lib.hid (str_app l [46])
  have e70 : Hid (str l ++ ⟨#[70]⟩ = str (l ++ [70])) := Lib.hid (str_app l [70])
  have e84 : Hid (str l ++ ⟨#[84]⟩ = str (l ++ [84])) := Lib.hid (str_app l [84])
  have hsgn : Hid (str l = str l) := rfl
  rw [h3] at hacc
  generalize 3 ^ r = T at *
  clear hin hold hL hIH h3
  have hNX : ¬ Ex B (W.alloc (Obj.cells #[.string ⟨#[46]⟩, .string ⟨#[70]⟩, .string ⟨#[84]⟩] 9)) W.heap.size := fun he => by
    have hb : Below W.heap.size W (W.alloc (Obj.cells #[.string ⟨#[46]⟩, .string ⟨#[70]⟩, .string ⟨#[84]⟩] 9)) := (Below.refl _ _).alloc (Nat.le_refl _) _
    have h1 := ((KpX.below hBl hb).ex W.heap.size)
    obtain ⟨v, hv⟩ := HL.out
    have := ((hv.below hb).ex W.heap.size).1 he
    rcases this with h2 | h2
    · omega
    · have := (hv.row.lt _ h2).2; omega
  have HNX := Lib.hid hNX
  clear hNX
  generalize hsl : str l = s at *
  go_enter Tryz.func17, Tryz.ntmps17
  go_wp2_with fail
  obtain ⟨W1, hW1⟩ : ∃ W1, W1 = W.alloc (Obj.cells #[.string ⟨#[46]⟩, .string ⟨#[70]⟩, .string ⟨#[84]⟩] 9) := ⟨_, rfl⟩
  have hb1 : Below W.heap.size W W1 := by rw [hW1]; exact (Below.refl _ _).alloc (Nat.le_refl _) _
  have k0 : W1.cell? ⟨W.heap.size, 0, none⟩ = some (.string ⟨#[46]⟩) := by rw [hW1, cell_new' _ _ _ _ _ rfl]; rfl
  have k1 : W1.cell? ⟨W.heap.size, 1, none⟩ = some (.string ⟨#[70]⟩) := by rw [hW1, cell_new' _ _ _ _ _ rfl]; rfl
  have k2 : W1.cell? ⟨W.heap.size, 2, none⟩ = some (.string ⟨#[84]⟩) := by rw [hW1, cell_new' _ _ _ _ _ rfl]; rfl
  have hlt1 : W.heap.size < W1.heap.size := by rw [hW1]; simp
  rw [← hW1] at HNX ⊢
  clear hW1
  have HL1 := Lib.hid (HL.out.below hb1)
  have HN1 := Lib.hid (HN.out.below hb1)
  have HK1 := Lib.hid (KpX.below hBl hb1)
  clear HL HN hb1
  go_loopw [11, 37] (fun _ i wr => ∃ k : Nat, k ≤ 3 ∧ i = .int .i64 k ∧ LkW wr B (acc ++ addK r cs l k) ∧ KpX B W1 wr) (fun _ i _ => 3 - (intOf i).toNat)
  case atStart => exact ⟨0, by omega, rfl, by simpa [addK] using HL1.out, KpX.refl _ _⟩
  case round =>
    obtain ⟨k, hk, rfl, hLk, hKp⟩ := hrel
    have HLk := Lib.hid hLk
    have HKp := Lib.hid hKp
    have HNk := Lib.hid (HN1.out.kp hKp (fun a ha he => by have := HL1.out.ex_in _ he; have := HO.out a ha; omega))
    have q0 := (hKp.block hlt1 HNX.out).trans k0
    have q1 := (hKp.block hlt1 HNX.out).trans k1
    have q2 := (hKp.block hlt1 HNX.out).trans k2
    clear hLk hKp
    rcases (show k = 0 ∨ k = 1 ∨ k = 2 ∨ k = 3 by omega) with rfl | rfl | rfl | rfl
    · go_wp2_with fail
      rw [e46.out]
      refine (HIH.out 46 _ _ rfl HNk.out HLk.out (by simp [addK]; omega)).mono ?_
      rintro e w2 ⟨rfl, hL2, hK2⟩
      have HR := Lib.hid (And.intro hL2 (HKp.out.trans hK2))
      clear hL2 hK2
      go_wp2_with fail
      go_roundw
      case rel => exact ⟨1, by omega, by go_num, by simpa [addK] using HR.out.1, HR.out.2⟩
      case measure => simp [intOf]
    · go_wp2_with fail
      rw [e70.out]
      refine (HIH.out 70 _ _ rfl HNk.out HLk.out (by simp [addK] at l0 ⊢; omega)).mono ?_
      rintro e w2 ⟨rfl, hL2, hK2⟩
      have HR := Lib.hid (And.intro hL2 (HKp.out.trans hK2))
      clear hL2 hK2
      go_wp2_with fail
      go_roundw
      case rel => exact ⟨2, by omega, by go_num, by simpa [addK, List.append_assoc] using HR.out.1, HR.out.2⟩
      case measure => simp [intOf]
    · go_wp2_with fail
      rw [e84.out]
      refine (HIH.out 84 _ _ rfl HNk.out HLk.out (by simp [addK] at l0 l1 ⊢; omega)).mono ?_
      rintro e w2 ⟨rfl, hL2, hK2⟩
      have HR := Lib.hid (And.intro hL2 (HKp.out.trans hK2))
      clear hL2 hK2
      go_wp2_with fail
      go_roundw
      case rel => exact ⟨3, by omega, by go_num, by simpa [addK, List.append_assoc] using HR.out.1, HR.out.2⟩
      case measure => simp [intOf]
    · go_wp2
      go_end0
      exact ⟨rfl, HLk.out, HK1.out.trans HKp.out⟩

theorem look_any (n : Nat) (cs : List Cl) (A : Option Addr) (c B : Nat) (h15 : 1 ≤ n ∧ n ≤ 5) (hok : ∀ k ∈ cs, ckOk n k = true) (hcs : cs.length ≤ 100) (hold : ∀ a, A = some a → a.block < B) : ∀ (r : Nat) (l : List UInt8) (acc : List (List UInt8)) (W : World), l.length + r = n → (∀ d ∈ l, isSign d = true) → ClIn W A cs → LkW W B acc → acc.length + 3 ^ r ≤ 1000 →
    Calls Tryz.prog 17 #[.int .i64 n, .slice A cs.length c, .string (str l), .pointer (some ⟨B, 0, none⟩)] W (LookP B (acc ++ (grow r l).filter (fitL cs)) W)
  | 0, l, acc, W, hn, hs, hin, hL, hacc => by
    have hg : goodL (str l) = true := by
      rw [goodL_iff, str_size, byt_str]
      exact ⟨by omega, by omega, List.all_eq_true.2 hs⟩
    have h := look_end n l cs A c B acc W hn h15 hg hok hcs hin hL (by omega)
    have e : (grow 0 l).filter (fitL cs) = if fitL cs l then [l] else [] := by
      simp only [grow, List.filter_cons, List.filter_nil]
    rw [e]
    exact h
  | r + 1, l, acc, W, hn, hs, hin, hL, hacc =>
    look_step n r l cs A c B acc W hn h15.2 hin hold hL hacc fun d acc' W' hd hin' hL' hacc' => look_any n cs A c B h15 hok hcs hold r (l ++ [d]) acc' W' (by simp; omega) (fun x hx => (List.mem_append.1 hx).elim (hs x) fun h => by rw [List.mem_singleton.1 h]; exact hd) hin' hL' hacc'

/-- A list of texts of one's own. -/
def TxsP (w : World) (l : List (List UInt8)) (e : Ending) (w' : World) : Prop := ∃ v, e = .returned v ∧ w'.ownsRow w.heap.size 9 1 v l.length (txs l) ∧ Below w.heap.size w w'
set_option maxRecDepth 100000 in
set_option maxHeartbeats 1000000 in
theorem pzAll_any (n : Nat) (cs : List Cl) (A : Option Addr) (c : Nat) (w : World) (h15 : 1 ≤ n ∧ n ≤ 5) (hok : ∀ k ∈ cs, ckOk n k = true) (hcs : cs.length ≤ 100) (hin : ClIn w A cs) (hold : ∀ a, A = some a → a.block < w.heap.size) :
    Calls Tryz.prog 11 #[.int .i64 n, .slice A cs.length c] w (TxsP w (solL n cs)) := by
  have hB : Below w.heap.size w (w.alloc (Obj.cells #[.slice none 0 0] 36)) := (Below.refl _ _).alloc (Nat.le_refl _) _
  have hL0 : LkW (w.alloc (Obj.cells #[.slice none 0 0] 36)) w.heap.size [] := ⟨_, heap_alloc_new w _, World.ownsRow_nil _ _ _ _⟩
  have HX := Lib.hid (fun (v : Value) (hv : LkB (w.alloc (Obj.cells #[.slice none 0 0] 36)) w.heap.size [] v) k (he : Ex w.heap.size (w.alloc (Obj.cells #[.slice none 0 0] 36)) k) => (hv.ex_in k he).1)
  have hp : 3 ^ n ≤ 243 := by
    have : 3 ^ n ≤ 3 ^ 5 := Nat.pow_le_pow_right (by decide) h15.2
    simpa using this
  have H := Lib.hid (look_any n cs A c w.heap.size h15 hok hcs hold n [] [] _ (by simp) (by simp) (hin.below hB) hL0 (by simp; omega))
  have hz : str [] = ⟨#[]⟩ := rfl
  rw [hz, List.nil_append] at H
  have HS : Hid ((grow n []).filter (fitL cs) = solL n cs) := rfl
  rw [HS.out] at H
  generalize solL n cs = L at H ⊢
  have HB0 := Lib.hid hB
  have HL0 := Lib.hid hL0
  clear hin hold hok hL0 hB HS
  go_enter Tryz.func11, Tryz.ntmps11
  go_wp2_with fail
  refine H.out.mono ?_
  rintro e w1 ⟨rfl, ⟨v, hv⟩, hk⟩
  have c0 := hv.cell.1
  have HV := Lib.hid hv
  have hBe : Below w.heap.size w w1 := by
    obtain ⟨v0, h0⟩ := HL0.out
    exact HB0.out.trans (hk.to_below (by simp) (HX.out v0 h0))
  have HBe := Lib.hid hBe
  clear hv hk hBe
  go_wp2_with fail
  go_ret
  exact ⟨v, rfl, own_lowerC HV.out.row (by omega), HBe.out⟩
end Go.Proofs.YtjnidfleccbdbaaGreat
