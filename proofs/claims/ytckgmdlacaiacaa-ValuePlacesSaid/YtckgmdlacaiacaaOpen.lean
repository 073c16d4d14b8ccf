/-
  A value that came in, opened: it lies as a tree.
-/
import Derived.Deep.Slices
import Derived.WideShapes
import Derived.Test.YtckgmdlacaiacaaTree
namespace Go.Proofs.Ytckgmdlacaiacaa
open Go.WideShapes Go.RowKit Go.Shelf

theorem cellsVal : Try.prog.cellsOf 26 = 5 := by kernel_rfl
theorem cellsKind : Try.prog.cellsOf 22 = 1 := by kernel_rfl
theorem cellsI64 : Try.prog.cellsOf 2 = 1 := by kernel_rfl
theorem cellsStr : Try.prog.cellsOf 9 = 1 := by kernel_rfl
theorem cellsVals : Try.prog.cellsOf 23 = 1 := by kernel_rfl
theorem cellsRef : Try.prog.cellsOf 24 = 1 := by kernel_rfl
theorem rowAt_cells {W : World} {base : Nat} {a : Addr} {i : Nat} {cs : List Value} (h : W.cells? base (a.add (i * 5)) 5 = some cs) : a.block < W.heap.size ∧ (i = 0 → a.spot = none) ∧ (a.spot = none → RowAt W a.block (a.off + i * 5) cs.toArray) := by
  have hlt := World.cells?_block h (by omega)
  obtain ⟨_, hl, hc⟩ := World.cells?_some h
  have hb : (a.add (i * 5)).block = a.block := by unfold Addr.add; split <;> rfl
  rw [hb] at hlt
  match cs, hl with
  | [c0, c1, c2, c3, c4], _ =>
    have g0 := hc 0 (by omega)
    have g1 := hc 1 (by omega)
    have g2 := hc 2 (by omega)
    have g3 := hc 3 (by omega)
    have g4 := hc 4 (by omega)
    refine ⟨hlt, fun h0 => ?_, fun hs => ?_⟩
    · subst h0
      have e : (a.add (0 * 5)).add 0 = a := rfl
      rw [e] at g0
      cases hsp : a.spot with
      | none => rfl
      | some q =>
        unfold World.cell? at g0
        rw [hsp] at g0
        split at g0 <;> simp at g0
    · have e : a.add (i * 5) = ⟨a.block, a.off + i * 5, none⟩ := by
        unfold Addr.add
        split
        · rename_i h0
          rw [h0]
          cases a
          simp only at hs
          subst hs
          rfl
        · rfl
      rw [e] at g0 g1 g2 g3 g4
      exact ⟨c0, c1, c2, c3, c4, rfl, g0, g1, g2, g3, g4⟩
set_option maxRecDepth 100000 in
theorem open_fuel {H : Type} {enc : TypeId × Value → H} {W : World} {base : Nat} {spare : Nat → Bool} {held : Bool} : ∀ (fuel : Nat) (cs : List Value) (x : DataW H × List MemPlace), DataW.trod enc Try.prog W base spare held fuel 26 cs = some x →
    ∃ t : VT, Lies W (fun b => b < W.heap.size) false t (.agg cs.toArray) := by
  intro fuel
  induction fuel using Nat.strongRecOn with
  | _ fuel ih =>
    intro cs x h
    obtain ⟨xs, n, rfl, rfl, hcl, hxl, hf⟩ := DataW.trod_struct Try.underlying26 h
    rw [cellsVal] at hcl
    match cs, hcl with
    | [c0, c1, c2, c3, c4], _ =>
      have h0 : DataW.trod enc Try.prog W base spare held n 22 [c0] = xs[0]? := by
        have h := hf 0 _ rfl
        change DataW.trod enc Try.prog W base spare held n 22 (([c0, c1, c2, c3, c4].drop 0).take (Try.prog.cellsOf 22)) = xs[0]? at h
        rw [cellsKind] at h
        exact h
      have h1 : DataW.trod enc Try.prog W base spare held n 2 [c1] = xs[1]? := by
        have h := hf 1 _ rfl
        change DataW.trod enc Try.prog W base spare held n 2 (([c0, c1, c2, c3, c4].drop 1).take (Try.prog.cellsOf 2)) = xs[1]? at h
        rw [cellsI64] at h
        exact h
      have h2 : DataW.trod enc Try.prog W base spare held n 9 [c2] = xs[2]? := by
        have h := hf 2 _ rfl
        change DataW.trod enc Try.prog W base spare held n 9 (([c0, c1, c2, c3, c4].drop 2).take (Try.prog.cellsOf 9)) = xs[2]? at h
        rw [cellsStr] at h
        exact h
      have h3 : DataW.trod enc Try.prog W base spare held n 23 [c3] = xs[3]? := by
        have h := hf 3 _ rfl
        change DataW.trod enc Try.prog W base spare held n 23 (([c0, c1, c2, c3, c4].drop 3).take (Try.prog.cellsOf 23)) = xs[3]? at h
        rw [cellsVals] at h
        exact h
      have h4 : DataW.trod enc Try.prog W base spare held n 24 [c4] = xs[4]? := by
        have h := hf 4 _ rfl
        change DataW.trod enc Try.prog W base spare held n 24 (([c0, c1, c2, c3, c4].drop 4).take (Try.prog.cellsOf 24)) = xs[4]? at h
        rw [cellsRef] at h
        exact h
      match xs, hxl with
      | [x0, x1, x2, x3, x4], _ =>
        obtain ⟨k, hk, -, wk⟩ := DataW.trod_int Try.underlying22 h0
        obtain ⟨n1, hn, -, wn⟩ := DataW.trod_int Try.underlying2 h1
        obtain ⟨s, hs, -, ws⟩ := DataW.trod_string Try.underlying9 h2
        obtain ⟨r, hr, -, wr⟩ := DataW.trod_int Try.underlying24 h4
        simp only [List.cons.injEq, and_true] at hk hn hs hr
        subst hk hn hs hr
        have bk : 0 ≤ k ∧ k ≤ 255 := by simpa [Lit.wf, IntKind.min, IntKind.max, IntKind.signed, IntKind.bits] using wk
        have bn : -9223372036854775808 ≤ n1 ∧ n1 ≤ 9223372036854775807 := by simpa [Lit.wf, IntKind.min, IntKind.max, IntKind.signed, IntKind.bits] using wn
        have br : -9223372036854775808 ≤ r ∧ r ≤ 9223372036854775807 := by simpa [Lit.wf, IntKind.min, IntKind.max, IntKind.signed, IntKind.bits] using wr
        obtain ⟨k, rfl⟩ : ∃ q : Nat, k = (q : Int) := ⟨k.toNat, by omega⟩
        rcases DataW.trod_slice Try.underlying23 h3 with ⟨hc, -⟩ | ⟨a, len, cap, elems, rest, n', hn', hc, -, hba, hlc, hcm, hel, hget, -, -⟩
        · simp only [List.cons.injEq, and_true] at hc
          subst hc
          exact ⟨.mk k n1 s r [], none, 0, rfl, ⟨by omega, bn, br, ws, Nat.zero_le _⟩, Nat.le_refl _, Nat.zero_le _, trivial, fun e => by cases e⟩
        · simp only [List.cons.injEq, and_true] at hc
          subst hc
          rw [cellsVal] at hget
          have hex : ∀ i, i < len → ∃ (cs' : List Value) (t : VT), W.cells? base (a.add (i * 5)) 5 = some cs' ∧ Lies W (fun b => b < W.heap.size) false t (.agg cs'.toArray) := by
            intro i hi
            have h5 := hget i hi
            rw [List.getElem?_eq_getElem (by omega)] at h5
            obtain ⟨cs', e1, e2⟩ := Option.bind_eq_some_iff.1 h5
            obtain ⟨t, ht⟩ := ih n' (by omega) cs' _ e2
            exact ⟨cs', t, e1, ht⟩
          have hex2 : ∀ i, ∃ t : VT, i < len → ∃ cs' : List Value, W.cells? base (a.add (i * 5)) 5 = some cs' ∧ Lies W (fun b => b < W.heap.size) false t (.agg cs'.toArray) := by
            intro i
            by_cases hi : i < len
            · obtain ⟨cs', t, e1, e2⟩ := hex i hi
              exact ⟨t, fun _ => ⟨cs', e1, e2⟩⟩
            · exact ⟨.mk 0 0 ⟨#[]⟩ 0 [], fun h => absurd h hi⟩
          obtain ⟨T, hT⟩ := Classical.axiomOfChoice hex2
          have hspot : 0 < len → a.spot = none := fun hl => by
            obtain ⟨cs', e1, _⟩ := hT 0 hl
            exact (rowAt_cells e1).2.1 rfl
          have hll : ((List.range len).map T).length = len := by simp
          refine ⟨.mk k n1 s r ((List.range len).map T), some a, cap, by rw [hll], ⟨by omega, bn, br, ws, by rw [hll]; omega⟩, by rw [hll]; exact hlc, hcm, LiesL.of_get fun j hj => ?_, fun e => by cases e⟩
          rw [hll] at hj
          obtain ⟨cs', e1, e2⟩ := hT j hj
          have hR := rowAt_cells e1
          have hs0 := hspot (by omega)
          refine ⟨a.block, a.off, cs'.toArray, ?_, hR.1, by rw [Nat.zero_add]; exact hR.2.2 hs0, by simpa using e2⟩
          cases a
          simp only at hs0
          subst hs0
          rfl
set_option maxRecDepth 100000 in
theorem open_value {H : Type} {enc : TypeId × Value → H} {W : World} {base base' : Nat} {spare : Nat → Bool} {held : Bool} {v : Value} {d : DataW H} {p : List MemPlace} (hok : Value.okWide Try.prog W .any base' 26 v) (h : DataW.Trod enc Try.prog W base spare held 26 v d p) :
    ∃ t : VT, Lies W (fun b => b < W.heap.size) false t v := by
  obtain ⟨cs, rfl, hcs⟩ := okWide_struct Try.underlying26 hok
  obtain ⟨fuel, hf⟩ := h
  obtain ⟨t, ht⟩ := open_fuel fuel _ _ hf
  exact ⟨t, by simpa [Value.cells] using ht⟩
end Go.Proofs.Ytckgmdlacaiacaa
