/- Games: the program's map of what it told of turns; no walk. -/
import Derived.Test.YtflpncdnneapmaaGmC
import Derived.Test.YtflpncdnneapmaaGmP
import Derived.Test.YtflpncdnneapmaaGmQ
import Derived.Test.YtflpncdnneapmaaArrA
import Derived.DeepKeys4
namespace Go.Proofs.Ytflpncdnneapmaa
open Go.RowKit Go.Maps

theorem laidG : laidOutB Try.prog = true := by kernel_rfl
theorem turn_wide : (match Try.prog.underlying 66 with | some (.array _ _) | some (.struct _) => true | _ => false) = true := by rw [Try.underlying66]
theorem turn_row : (66 : TypeId) < Try.prog.types.size := of_decide_eq_true (by kernel_rfl)
set_option maxRecDepth 100000 in
theorem turn_law : WideMaps.KeyLaw Try.prog 66 := deep_law_laid laidG (m := 3) (by omega) turn_row (by kernel_rfl) turn_wide
theorem Try.keysT : Keyed Try.prog 66 := Keyed.of_law turn_law
/-- The key of a turn. -/
def kbT (tm : Bool) (s : List UInt8) : List UInt8 := keyBytes [.string s, .int .u8 (kd tm).toNat]
theorem kd_wf (tm : Bool) : (Lit.int .u8 ((kd tm).toNat : Int)).wf = true := by cases tm <;> rfl
theorem keyT (tm : Bool) {s : List UInt8} (h : s.length ≤ maxLen) : keyOf Try.prog 66 (tnV tm s) = some (.string (kbT tm s)) := by
  have hk : Try.prog.keyType 66 = true := by kernel_rfl
  have hc : Try.prog.cellsOf 66 = 2 := by kernel_rfl
  have h1 : Try.prog.cellsOf 9 = 1 := by kernel_rfl
  have h2 : Try.prog.cellsOf 5 = 1 := by kernel_rfl
  have hs : (str s).size ≤ maxLen := by rw [str_size]; exact h
  have hw := kd_wf tm
  unfold keyOf
  rw [Try.underlying66]
  have hf : (tnV tm s).formed Try.prog 66 = true := by simp [Value.formed, Try.underlying66, hc]
  simp only [hk, hf, Bool.and_self, if_true]
  obtain ⟨d, hd⟩ : ∃ d, Try.prog.types.size + 1 = d + 3 := ⟨Try.prog.types.size - 2, by have : (100 : Nat) ≤ Try.prog.types.size := of_decide_eq_true (by kernel_rfl); omega⟩
  rw [hd]
  simp only [Program.keyLits, Try.underlying66, Value.cells]
  simp [hc, h1, h2, hs, hw, kbT]
  rfl
set_option maxRecDepth 100000 in
theorem kbT_inj {tm tm' : Bool} {s s' : List UInt8} (h : s.length ≤ maxLen) (h' : s'.length ≤ maxLen) (e : kbT tm s = kbT tm' s') : tm = tm' ∧ s = s' := by
  have h1 := keyT tm h
  have h2 := keyT tm' h'
  rw [← e] at h2
  have := Try.keysT.inj h1 h2
  injection this with this
  injection this with this
  injection this with e1 e2
  injection e1 with e1
  injection e2 with e2 e3
  injection e2 with _ e2
  refine ⟨?_, str_inj.1 e1⟩
  cases tm <;> cases tm' <;> simp [kd] at e2 ⊢
noncomputable abbrev boR : Value → Option (DataW Unit × List MemPlace) := plainElem Try.prog 4
theorem boR_mk (b : Bool) : boR (.bool b) = some (.lit (.bool b), []) := plainElem_bool Try.underlying4 b
theorem plain_bool_inv {P : Program} {e : TypeId} {v : Value} {y : DataW Unit × List MemPlace} (he : P.underlying e = some .bool) (h : plainElem P e v = some y) : ∃ b, v = .bool b ∧ y = (.lit (.bool b), []) := by
  unfold plainElem at h
  rw [he] at h
  cases v <;> simp at h
  exact ⟨_, rfl, h.symm⟩
theorem boR_inv {v : Value} {y : DataW Unit × List MemPlace} (h : boR v = some y) : ∃ b, v = .bool b ∧ y = (.lit (.bool b), []) := plain_bool_inv Try.underlying4 h
theorem zeroBo (w : World) : (zeroValue 4).run Try.prog w = .ok (.bool false) w := by kernel_rfl
/-- A text over the signs of sums. -/
def sigT (L : Nat) (s : List UInt8) : Prop := s.length = L ∧ ∀ c ∈ s, c ∈ sgsG
/-- What the map tells is so. -/
def ToldD (L : Nat) (D : DataW Unit) : Prop :=
  (∀ tm s, sigT L s → Maps.has D (.string (kbT tm s)) = true → hasV D (kbT tm s) (.lit (.bool (Wn tm s)))) ∧ ∀ x, Maps.has D (.string x) = true → ∃ tm s, sigT L s ∧ x = kbT tm s
theorem toldD_put {L : Nat} {D : DataW Unit} (hL : L ≤ 12) (hD : IsMap D) (h : ToldD L D) (tm : Bool) {s : List UInt8} (hs : sigT L s) : ToldD L (D.put (.string (kbT tm s)) (.lit (.bool (Wn tm s)))) := by
  have hm : ∀ s', sigT L s' → s'.length ≤ maxLen := fun s' h => by have := h.1; unfold maxLen; omega
  refine ⟨fun tm' s' hs' hh => ?_, fun x hx => ?_⟩
  · by_cases e : kbT tm' s' = kbT tm s
    · obtain ⟨rfl, rfl⟩ := kbT_inj (hm _ hs') (hm _ hs) e
      exact hasV_same hD _ _
    · rcases has_put hh with h1 | h1
      · exact absurd h1 e
      · exact hasV_other _ (h.1 tm' s' hs' h1) e
  · rcases has_put hx with rfl | h1
    · exact ⟨tm, s, hs, rfl⟩
    · exact h.2 x h1
theorem sigT_key {L : Nat} {s : List UInt8} (h : sigT L s) (tm : Bool) : (keyG tm s).length = L + 2 ∧ ∀ c ∈ keyG tm s, c ∈ sgsG := by
  refine ⟨by simp [keyG, h.1], fun c hc => ?_⟩
  unfold keyG at hc
  rw [List.mem_cons, List.mem_cons] at hc
  rcases hc with hc | hc | hc
  · subst hc; cases tm <;> decide
  · subst hc; decide
  · exact h.2 c hc
theorem map_nodup {α β : Type} (P : α → β → Prop) (hP : ∀ a a' b, P a b → P a' b → a = a') : ∀ (l : List α), l.Pairwise (fun a b => a ≠ b) → (∀ a ∈ l, ∃ b, P a b) → ∃ m : List β, m.length = l.length ∧ m.Nodup ∧ ∀ b ∈ m, ∃ a ∈ l, P a b
  | [], _, _ => ⟨[], rfl, List.nodup_nil, fun b h => by simp at h⟩
  | a :: l, hn, h => by
    obtain ⟨hna, hnl⟩ := List.pairwise_cons.1 hn
    obtain ⟨m, h1, h2, h3⟩ := map_nodup P hP l hnl fun x hx => h x (by simp [hx])
    obtain ⟨b, hb⟩ := h a (by simp)
    refine ⟨b :: m, by simp [h1], List.nodup_cons.2 ⟨fun hbm => ?_, h2⟩, fun c hc => ?_⟩
    · obtain ⟨a', ha', hP'⟩ := h3 b hbm
      exact hna a' ha' (hP _ _ _ hb hP')
    · rw [List.mem_cons] at hc
      rcases hc with rfl | hc
      · exact ⟨a, by simp, hb⟩
      · obtain ⟨a', ha', hP'⟩ := h3 c hc
        exact ⟨a', by simp [ha'], hP'⟩
theorem told_few {L : Nat} (hL : L ≤ 12) {R : Value → Option (DataW Unit × List MemPlace)} {W : World} {b n : Nat} {D : DataW Unit} (h : W.ownsMap Try.prog 66 R b n D) (hD : ∀ x, Maps.has D (.string x) = true → ∃ tm s, sigT L s ∧ x = kbT tm s) :
    W.ownsMap Try.prog 66 R b 78364164096 D := by
  refine (own_size h).mono ?_
  obtain ⟨es, he, hpw, _⟩ := h.entries Try.keysT
  obtain ⟨es', he', hko⟩ := h.keysOf
  obtain rfl : es = es' := by rw [he] at he'; simpa using he'
  subst he
  have hs : ∀ p ∈ es, ∃ x, p.1 = .string x := fun p hp => by obtain ⟨v, hv⟩ := hko p hp; exact turn_law.str hv
  obtain ⟨m, h1, h2, h3⟩ := map_nodup (fun (k : Lit) (t : List UInt8) => ∃ tm s, sigT L s ∧ k = .string (kbT tm s) ∧ t = keyG tm s) (fun a a' t => by
    rintro ⟨tm, s, h1, h2, h3⟩ ⟨tm', s', h1', h2', h3'⟩
    obtain ⟨rfl, rfl⟩ := keyG_inj (h3.symm.trans h3')
    rw [h2, h2']) (es.map Prod.fst) (List.pairwise_map.2 hpw) (fun k hk => by
    obtain ⟨p, hp, rfl⟩ := List.mem_map.1 hk
    obtain ⟨x, hx⟩ := hs p hp
    obtain ⟨tm, s, h1, h2⟩ := hD x (by
      rw [has_eq, List.any_eq_true]
      exact ⟨p, hp, by rw [hx]; simp [Lit.sameKey]⟩)
    exact ⟨keyG tm s, tm, s, h1, by rw [hx, h2], rfl⟩)
  have h4 := few_texts sgsG (L + 2) m h2 fun t ht => by
    obtain ⟨a, _, tm, s, h5, _, rfl⟩ := h3 t ht
    exact sigT_key h5 tm
  have h5 : sgsG.length ^ (L + 2) ≤ 6 ^ 14 := Nat.pow_le_pow_right (by decide) (by omega)
  have h6 : (6 : Nat) ^ 14 = 78364164096 := by decide
  rw [List.length_map] at h1
  show es.length ≤ _
  omega
/-- The map lies in block B. -/
def ToldM (W : World) (B L : Nat) : Prop := ∃ D, W.ownsMap Try.prog 66 boR B 78364164096 D ∧ ToldD L D
theorem ToldM.below {W W' : World} {B L : Nat} (h : ToldM W B L) (hb : Below W.heap.size W W') : ToldM W' B L := by
  obtain ⟨D, h1, h2⟩ := h
  exact ⟨D, h1.kept (grown_of_below hb) (by simp), h2⟩
theorem ToldM.lt {W : World} {B L : Nat} (h : ToldM W B L) : B < W.heap.size := by
  obtain ⟨D, h1, _⟩ := h
  exact h1.lt
/-- The boxes of the closure that tells. -/
structure TellB (W : World) (B Bt Br Bs : Nat) : Prop where
  told : W.cell? ⟨Bt, 0, none⟩ = some (.map (some B))
  rule : W.cell? ⟨Br, 0, none⟩ = some (.func (.func 76) #[] #[])
  tell : W.cell? ⟨Bs, 0, none⟩ = some (.func (.func 99) #[] #[.pointer (some ⟨Bt, 0, none⟩), .pointer (some ⟨Br, 0, none⟩), .pointer (some ⟨Bs, 0, none⟩)])
  lt : Bt < W.heap.size ∧ Br < W.heap.size ∧ Bs < W.heap.size
  ne : Bt ≠ B ∧ Br ≠ B ∧ Bs ≠ B
theorem TellB.kp {W W' : World} {B Bt Br Bs : Nat} (h : TellB W B Bt Br Bs) (hk : KpM B W W') : TellB W' B Bt Br Bs := by
  obtain ⟨a, b, c⟩ := h.lt
  obtain ⟨x, y, z⟩ := h.ne
  have := hk.size
  exact ⟨(hk.cell a x).trans h.told, (hk.cell b y).trans h.rule, (hk.cell c z).trans h.tell, ⟨by omega, by omega, by omega⟩, h.ne⟩
/-- The program tells of turns by what lies there. -/
structure TellI (W : World) (L B Bt Br Bs : Nat) : Prop where
  map : ToldM W B L
  box : TellB W B Bt Br Bs
theorem TellI.below {W W' : World} {L B Bt Br Bs : Nat} (h : TellI W L B Bt Br Bs) (hb : Below W.heap.size W W') : TellI W' L B Bt Br Bs := ⟨h.map.below hb, h.box.kp (KpM.below hb)⟩
theorem sigT_next {L : Nat} {tm : Bool} {s x : List UInt8} (h : sigT L s) (hx : x ∈ nxG tm s) : sigT L x := by
  obtain ⟨f, t, hc, _, rfl⟩ := mem_nxG.1 hx
  obtain ⟨a, b, rfl, rfl, ha, hb, _⟩ := canM_in hc
  rw [str_size] at ha hb
  refine ⟨by rw [behind_len, str_size]; exact h.1, fun c hc => ?_⟩
  unfold behind putL at hc
  simp only [Int.toNat_natCast, byt_str] at hc
  rcases List.mem_or_eq_of_mem_set hc with hc | rfl
  · rcases List.mem_or_eq_of_mem_set hc with hc | rfl
    · exact h.2 c hc
    · rw [List.getD_eq_getElem?_getD, List.getElem?_eq_getElem ha]
      exact h.2 _ (List.getElem_mem ha)
  · decide
end Go.Proofs.Ytflpncdnneapmaa
