/-
  A list of values that came in, opened.
-/
import Derived.ProofKit
import Derived.OpenShut
import Derived.Test.YtckgmdlacaiacaaOpen
namespace Go.Proofs.Ytckgmdlacaiacaa
open Go.ChangeShapes Go.WideShapes Go.ChangeAt Go.RowKit Go.Shelf

set_option maxRecDepth 100000 in
theorem open_values {H : Type} {enc : TypeId × Value → H} {W : World} {base base' : Nat} {spare : Nat → Bool} {held : Bool} {v : Value} {d : DataW H} {p : List MemPlace} (hok : Value.okWide Try.prog W .any base' 23 v) (h : DataW.Trod enc Try.prog W base spare held 23 v d p) :
    ∃ (l : List VT) (A : Option Addr) (cap : Nat), v = .slice A l.length cap ∧ LiesL W (fun b => b < W.heap.size) false A 0 l ∧ l.length ≤ cap ∧ cap ≤ maxLen := by
  obtain ⟨a0, len0, cap0, rfl⟩ := okWide_slice Try.underlying23 hok
  obtain ⟨fuel, hf⟩ := h
  rcases DataW.trod_slice Try.underlying23 hf with ⟨hc, -⟩ | ⟨a, len, cap, elems, rest, n', hn', hc, -, hba, hlc, hcm, hel, hget, -, -⟩
  · simp [Value.cells] at hc
    obtain ⟨rfl, rfl, rfl⟩ := hc
    exact ⟨[], none, 0, rfl, trivial, Nat.le_refl _, Nat.zero_le _⟩
  · simp [Value.cells] at hc
    obtain ⟨e1, e2, e3⟩ := hc
    subst e1 e2 e3
    rw [cellsVal] at hget
    have hex2 : ∀ i, ∃ t : VT, i < len0 → ∃ cs' : List Value, W.cells? base (a.add (i * 5)) 5 = some cs' ∧ Lies W (fun b => b < W.heap.size) false t (.agg cs'.toArray) := by
      intro i
      by_cases hi : i < len0
      · have h5 := hget i hi
        rw [List.getElem?_eq_getElem (by omega)] at h5
        obtain ⟨cs', e1, e2⟩ := Option.bind_eq_some_iff.1 h5
        obtain ⟨t, ht⟩ := open_fuel n' cs' _ e2
        exact ⟨t, fun _ => ⟨cs', e1, ht⟩⟩
      · exact ⟨.mk 0 0 ⟨#[]⟩ 0 [], fun h => absurd h hi⟩
    obtain ⟨T, hT⟩ := Classical.axiomOfChoice hex2
    have hspot : 0 < len0 → a.spot = none := fun hl => by
      obtain ⟨cs', e1, _⟩ := hT 0 hl
      exact (rowAt_cells e1).2.1 rfl
    have hll : ((List.range len0).map T).length = len0 := by simp
    refine ⟨(List.range len0).map T, some a, cap0, by rw [hll], LiesL.of_get fun j hj => ?_, by rw [hll]; exact hlc, hcm⟩
    rw [hll] at hj
    obtain ⟨cs', e1, e2⟩ := hT j hj
    have hR := rowAt_cells e1
    have hs0 := hspot (by omega)
    refine ⟨a.block, a.off, cs'.toArray, ?_, hR.1, by rw [Nat.zero_add]; exact hR.2.2 hs0, by simpa using e2⟩
    cases a
    simp only at hs0
    subst hs0
    rfl
end Go.Proofs.Ytckgmdlacaiacaa
