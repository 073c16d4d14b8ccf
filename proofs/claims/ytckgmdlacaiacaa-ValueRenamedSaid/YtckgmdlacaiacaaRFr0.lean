/-
  posternref02.front: what its list gathers.
-/
import Derived.Test.YtckgmdlacaiacaaRWrite
import Derived.Test.YtckgmdlacaiacaaROwn
namespace Go.Proofs.Ytckgmdlacaiacaa
open Go.RowKit Go.Shelf
attribute [local go_sem] Oper.semAt_some

/-- While a list is taken from the front. -/
structure FrRun (w : World) (ts : List VT) (lv : Value) (W : World) : Prop where
  below : Below w.heap.size w W
  res : Five W w.heap.size (.int .u8 0) (.int .i64 0) (.string ⟨#[]⟩) (.slice none 0 0) (.int .i64 0)
  out : Five W (w.heap.size + 1) (.int .u8 3) (.int .i64 0) (.string ⟨#[]⟩) lv (.int .i64 0)
  own : ∃ xs, W.ownsRow (w.heap.size + 1 + 1) 26 5 lv ts.length xs ∧ ∀ q (hl : q < ts.length), Lies W (fun b => w.heap.size + 1 + 1 ≤ b ∧ b < W.heap.size ∧ some b ≠ lv.ownBlock) false ts[q] (.agg (rowOf xs.toArray q))
theorem LiesN.alloc {w W : World} {t : VT} {v : Value} (h : LiesN w W t v) (o : Obj) : LiesN w (W.alloc o) t v :=
  Lies.same (W := W) (p := fun b => w.heap.size ≤ b ∧ b < W.heap.size) (fun b hb => ⟨hb.1, by rw [World.size_alloc]; omega⟩) (fun b hb => heap_alloc_old W o hb.2) t v h
theorem FrRun.step {w W W2 W3 : World} {ts : List VT} {t : VT} {lv v2 : Value} {o : Obj} {A' : Option Addr} {cap' : Nat} {xs : List Value} (h : FrRun w ts lv W)
    (h1 : W.ownsRow (w.heap.size + 1 + 1) 26 5 lv ts.length xs) (h2 : ∀ q (hl : q < ts.length), Lies W (fun b => w.heap.size + 1 + 1 ≤ b ∧ b < W.heap.size ∧ some b ≠ lv.ownBlock) false ts[q] (.agg (rowOf xs.toArray q)))
    (hb : Below W.heap.size W W2) (hf : LiesN W W2 t (.agg #[.int .u8 (t.k : Int), .int .i64 t.n, .string t.s, .slice A' t.l.length cap', .int .i64 t.r]))
    (hown : W3.ownsRow (w.heap.size + 1 + 1) 26 5 v2 (ts.length + 1) (xs ++ [.int .u8 (t.k : Int), .int .i64 t.n, .string t.s, .slice A' t.l.length cap', .int .i64 t.r]))
    (hg : (W2.alloc o).grownBy W3 lv.ownBlock) (hat : v2.ownBlock = lv.ownBlock ∨ v2.ownBlock = some (W2.alloc o).heap.size) : FrRun w (ts ++ [t]) v2 (W3.setCell ⟨w.heap.size + 1, 3, none⟩ v2) := by
  obtain ⟨old, hs3, hB3⟩ := ro_old h.below (by omega) h1 hb hg
  have hsW := h.below.size
  have hs2 := hb.size
  have hxl : xs.length = ts.length * 5 := h1.1
  have nv : ∀ g, g < W2.heap.size → some g ≠ lv.ownBlock → some g ≠ v2.ownBlock := by
    intro g g1 g2
    rcases hat with hat | hat
    · rwa [hat]
    · rw [hat]
      simp only [World.size_alloc, ne_eq, Option.some.injEq]
      omega
  have R := ro_box h.res (by omega) h1 hb hg
  have O := ro_box h.out (by omega) h1 hb hg
  have hol := h.out.lt
  have hsz : (W3.setCell ⟨w.heap.size + 1, 3, none⟩ v2).heap.size = W3.heap.size := World.size_setCell _ _ _
  refine ⟨hB3.setCell (p := ⟨w.heap.size + 1, 3, none⟩) (by simp) _, R.other (by simp) _, O.set3 _, xs ++ [.int .u8 (t.k : Int), .int .i64 t.n, .string t.s, .slice A' t.l.length cap', .int .i64 t.r], ?_, fun q hl => ?_⟩
  · rw [List.length_append, List.length_singleton]
    exact hown.kept (row := some (w.heap.size + 1)) ⟨rfl, rfl, rfl, by rw [hsz]; exact Nat.le_refl _, fun k _ hk => heap_setCell_other _ _ _ _ (fun e => hk (by rw [e]))⟩ (.inr fun e => by have := (hown.lt _ e).1; omega)
  rw [hsz]
  rw [List.length_append, List.length_singleton] at hl
  by_cases e : q = ts.length
  · subst e
    rw [rowOf_last hxl, List.getElem_concat_length rfl]
    refine Lies.same (W := W2) (p := fun b => W.heap.size ≤ b ∧ b < W2.heap.size) (fun g hg' => ?_) (fun g hg' => ?_) _ _ hf
    · have ne : some g ≠ lv.ownBlock := fun e => by have := (h1.lt _ e.symm).2; omega
      exact ⟨by omega, by omega, nv g hg'.2 ne⟩
    · exact (heap_setCell_other _ _ _ _ (by simp; omega)).trans (old g hg'.2 (fun e => by have := (h1.lt _ e.symm).2; omega))
  · have hq : q < ts.length := by omega
    rw [rowOf_app (by omega), List.getElem_append_left hq]
    refine Lies.same (W := W) (p := fun b => w.heap.size + 1 + 1 ≤ b ∧ b < W.heap.size ∧ some b ≠ lv.ownBlock) (fun g hg' => ⟨hg'.1, by omega, nv g (by omega) hg'.2.2⟩) (fun g hg' => (heap_setCell_other _ _ _ _ (by simp; omega)).trans ((old g (by omega) hg'.2.2).trans (hb.block g hg'.2.1))) _ _ (h2 q hq)
theorem FrRun.done {w W : World} {ts : List VT} {lv : Value} (h : FrRun w ts lv W) (hl : ts.length ≤ maxLen) (v0 v1 v2 v3 v4 : Value) :
    LiesN w (((((W.setCell ⟨w.heap.size, 0, none⟩ v0).setCell ⟨w.heap.size, 1, none⟩ v1).setCell ⟨w.heap.size, 2, none⟩ v2).setCell ⟨w.heap.size, 3, none⟩ v3).setCell ⟨w.heap.size, 4, none⟩ v4) (.mk 3 0 ⟨#[]⟩ 0 ts) (.agg #[.int .u8 3, .int .i64 0, .string ⟨#[]⟩, lv, .int .i64 0]) := by
  obtain ⟨xs, h1, h2⟩ := h.own
  have hsz : (((((W.setCell ⟨w.heap.size, 0, none⟩ v0).setCell ⟨w.heap.size, 1, none⟩ v1).setCell ⟨w.heap.size, 2, none⟩ v2).setCell ⟨w.heap.size, 3, none⟩ v3).setCell ⟨w.heap.size, 4, none⟩ v4).heap.size = W.heap.size := by simp
  unfold LiesN
  rw [hsz]
  have hbn : Bnd 3 0 ⟨#[]⟩ 0 ts.length := ⟨by decide, by decide, by decide, by decide, hl⟩
  rcases h1.2 with ⟨rfl, h5⟩ | ⟨g, cp, cur, rfl, hbg, hg3, hnc, hcm, hcs, htake⟩
  · obtain rfl := List.eq_nil_of_length_eq_zero h5
    exact ⟨none, 0, rfl, hbn, Nat.le_refl _, Nat.zero_le _, trivial, fun e => by cases e⟩
  · have hgl := (Array.getElem?_eq_some_iff.1 hg3).1
    have hg4 := (heap_set5_other (W := W) (B := w.heap.size) (g := g) v0 v1 v2 v3 v4 (by omega)).trans hg3
    refine ⟨_, cp, rfl, hbn, hnc, hcm, LiesL.of_get fun q hq => ⟨g, 0, rowOf cur q, rfl, ⟨by omega, hgl⟩, ?_, ?_⟩, fun e => by cases e⟩
    · rw [Nat.zero_add, Nat.zero_add]
      exact cells_of_row hg4 (by omega) rfl
    · rw [rowOf_take htake (by omega)]
      exact Lies.same (W := W) (p := fun b => w.heap.size + 1 + 1 ≤ b ∧ b < W.heap.size ∧ some b ≠ (Value.slice (some ⟨g, 0, none⟩) ts.length cp).ownBlock) (fun g hg' => ⟨by omega, hg'.2.1⟩) (fun g hg' => heap_set5_other _ _ _ _ _ (by omega)) _ _ (h2 q hq)
end Go.Proofs.Ytckgmdlacaiacaa
