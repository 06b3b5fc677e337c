/- What a map holds at a key; no walk. -/
import Derived.Maps.RangeWalk
import Derived.Maps.OwnOps
import Derived.Maps.OwnSet
import Derived.Sort.KeysCollected
namespace Go.Proofs.YtfiifjcjmnhbnaaDoor
open Go.RowKit Go.Maps

/-- The map has this at a key. -/
def hasV (D : DataW Unit) (x : List UInt8) (d : DataW Unit) : Prop := Maps.has D (.string x) = true ∧ ∀ z, D.atKey (.string x) z = d
theorem key_ne {x y : List UInt8} (h : x ≠ y) : (Lit.string x) ≠ .string y := fun e => h (by injection e)
theorem hasV_same {D : DataW Unit} (hD : IsMap D) (x : List UInt8) (d : DataW Unit) : hasV (D.put (.string x) d) x d :=
  ⟨has_put_same (k := .string x) hD trivial d, fun z => atKey_put_same (k := .string x) hD trivial d z⟩
theorem hasV_other {D : DataW Unit} {x y : List UInt8} {e : DataW Unit} (d : DataW Unit) (h : hasV D y e) (hne : y ≠ x) : hasV (D.put (.string x) d) y e :=
  ⟨by rw [has_put_other (key_ne hne)]; exact h.1, fun z => by rw [atKey_put_other (key_ne hne)]; exact h.2 z⟩
theorem has_put {D : DataW Unit} {x y : List UInt8} {d : DataW Unit} (h : Maps.has (D.put (.string x) d) (.string y) = true) : y = x ∨ Maps.has D (.string y) = true := by
  by_cases e : y = x
  · exact .inl e
  · rw [has_put_other (key_ne e)] at h
    exact .inr h
theorem hasV_del {D : DataW Unit} {x y : List UInt8} {e : DataW Unit} (h : hasV D y e) (hne : y ≠ x) : hasV (D.del (.string x)) y e :=
  ⟨by rw [has_del_other (key_ne hne)]; exact h.1, fun z => by rw [atKey_del_other (key_ne hne)]; exact h.2 z⟩
theorem has_del {D : DataW Unit} {x y : List UInt8} (h : Maps.has (D.del (.string x)) (.string y) = true) : y ≠ x ∧ Maps.has D (.string y) = true := by
  by_cases e : y = x
  · subst e; rw [has_del_same] at h; cases h
  · rw [has_del_other (key_ne e)] at h
    exact ⟨e, h⟩
theorem hasV_one {D : DataW Unit} {x : List UInt8} {d e : DataW Unit} (h1 : hasV D x d) (h2 : hasV D x e) : d = e := by rw [← h1.2 .nil, h2.2 .nil]
end Go.Proofs.YtfiifjcjmnhbnaaDoor
