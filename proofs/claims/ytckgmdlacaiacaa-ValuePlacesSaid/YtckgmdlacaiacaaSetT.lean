/-
  A part in the place of another one: the tree.
-/
import Derived.Test.YtckgmdlacaiacaaROwnF
namespace Go.Proofs.Ytckgmdlacaiacaa
open Go.RowKit Go.Shelf

/-- t with u at a place. -/
def setT (u : VT) : VT → List Int → VT
  | _, [] => u
  | .mk k n s r l, i :: ps => if h : 0 ≤ i ∧ i < l.length then .mk k n s r (l.set i.toNat (setT u (l[i.toNat]'(by omega)) ps)) else .mk k n s r l
theorem setT_nil (u t : VT) : setT u t [] = u := by cases t; rfl
theorem setT_cons {u : VT} {k : Nat} {n : Int} {s : ByteArray} {r : Int} {l : List VT} {i : Nat} {ps : List Int} (h : i < l.length) : setT u (.mk k n s r l) ((i : Int) :: ps) = .mk k n s r (l.set i (setT u l[i] ps)) := by
  rw [setT, dif_pos ⟨by omega, by omega⟩]
  rfl
theorem atT_cons {t : VT} {i : Nat} {ps : List Int} (h : i < t.l.length) : atT t ((i : Int) :: ps) = atT t.l[i] ps := by
  rw [atT, dif_pos ⟨by omega, by omega⟩]
  rfl
theorem atT_some {t : VT} {i : Int} {ps : List Int} (h : atT t (i :: ps) ≠ none) : ∃ j : Nat, i = (j : Int) ∧ j < t.l.length := by
  by_cases hi : 0 ≤ i ∧ i < t.l.length
  · exact ⟨i.toNat, by omega, by omega⟩
  · rw [atT, dif_neg hi] at h
    exact absurd rfl h
/-- What With answers. -/
def withOut (t u : VT) (ps : List Int) : Option VT → Option VT × Int
  | none => (none, 22)
  | some _ => if (setT u t ps).may then (some (setT u t ps), 0) else (none, 4)
def withRes (t u : VT) (ps : List Int) : Option VT × Int := if t.may && u.may then withOut t u ps (atT t ps) else (none, 2)
theorem withRes_may (t u : VT) (ps : List Int) : (resT (withRes t u ps).1).may = true := by
  unfold withRes
  split
  · cases atT t ps with
    | none => exact zeroT_may
    | some x =>
      show (resT (if (setT u t ps).may then (some (setT u t ps), 0) else (none, 4) : Option VT × Int).1).may = true
      split
      · assumption
      · exact zeroT_may
  · exact zeroT_may
end Go.Proofs.Ytckgmdlacaiacaa
