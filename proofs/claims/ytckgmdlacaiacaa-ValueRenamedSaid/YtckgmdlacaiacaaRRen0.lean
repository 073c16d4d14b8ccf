/-
  posternref02.renamed: what is gathered.
-/
import Derived.Test.YtckgmdlacaiacaaROwn
import Derived.Test.YtckgmdlacaiacaaRenV
namespace Go.Proofs.Ytckgmdlacaiacaa
open Go.RowKit Go.Shelf
attribute [local go_sem] Oper.semAt_some

/-- While the document's renamed copies: us are the parts so far. -/
structure RrRun (k : Nat) (n : Int) (s : ByteArray) (r : Int) (len : Nat) (A : Option Addr) (cap : Nat) (w : World) (us : List VT) (lv : Value) (W : World) : Prop where
  below : Below w.heap.size w W
  box : Five W w.heap.size (.int .u8 (k : Int)) (.int .i64 n) (.string s) (.slice A len cap) (.int .i64 r)
  res : Five W (w.heap.size + 1) (.int .u8 0) (.int .i64 0) (.string ⟨#[]⟩) (.slice none 0 0) (.int .i64 0)
  out : Five W (w.heap.size + 1 + 1) (.int .u8 (k : Int)) (.int .i64 n) (.string s) lv (.int .i64 r)
  own : ∃ xs, W.ownsRow (w.heap.size + 1 + 1 + 1) 26 5 lv us.length xs ∧ ∀ q (hl : q < us.length), Lies W (fun b => w.heap.size + 1 + 1 + 1 ≤ b ∧ b < W.heap.size ∧ some b ≠ lv.ownBlock) false us[q] (.agg (rowOf xs.toArray q))
theorem rrRun_start (k : Nat) (n : Int) (s : ByteArray) (r : Int) (len : Nat) (A : Option Addr) (cap : Nat) (w : World) : RrRun k n s r len A cap w [] (.slice none 0 0)
    (((w.alloc (.cells #[.int .u8 (k : Int), .int .i64 n, .string s, .slice A len cap, .int .i64 r] 26)).alloc (.cells #[.int .u8 0, .int .i64 0, .string ⟨#[]⟩, .slice none 0 0, .int .i64 0] 26)).alloc (.cells #[.int .u8 (k : Int), .int .i64 n, .string s, .slice none 0 0, .int .i64 r] 26)) := by
  refine ⟨(((Below.refl _ w).alloc (Nat.le_refl _) _).alloc (by simp) _).alloc (by simp <;> omega) _, ((Five.new w _ _ _ _ _).alloc _).alloc _, ?_, ?_, [], World.ownsRow_nil _ _ _ _, fun q h => absurd h (Nat.not_lt_zero _)⟩
  · have := Five.new (w.alloc (.cells #[.int .u8 (k : Int), .int .i64 n, .string s, .slice A len cap, .int .i64 r] 26)) (.int .u8 0) (.int .i64 0) (.string ⟨#[]⟩) (.slice none 0 0) (.int .i64 0)
    rw [World.size_alloc] at this
    exact this.alloc _
  · have := Five.new ((w.alloc (.cells #[.int .u8 (k : Int), .int .i64 n, .string s, .slice A len cap, .int .i64 r] 26)).alloc (.cells #[.int .u8 0, .int .i64 0, .string ⟨#[]⟩, .slice none 0 0, .int .i64 0] 26)) (.int .u8 (k : Int)) (.int .i64 n) (.string s) (.slice none 0 0) (.int .i64 r)
    rw [World.size_alloc, World.size_alloc] at this
    exact this
theorem RrRun.step {k : Nat} {n : Int} {s : ByteArray} {r : Int} {len : Nat} {us : List VT} {u : VT} {A : Option Addr} {cap : Nat} {w W W2 W3 : World} {lv v2 : Value} {o : Obj} {A' : Option Addr} {cap' : Nat} {xs : List Value} (h : RrRun k n s r len A cap w us lv W)
    (h1 : W.ownsRow (w.heap.size + 1 + 1 + 1) 26 5 lv us.length xs) (h2 : ∀ q (hl : q < us.length), Lies W (fun b => w.heap.size + 1 + 1 + 1 ≤ b ∧ b < W.heap.size ∧ some b ≠ lv.ownBlock) false us[q] (.agg (rowOf xs.toArray q)))
    (hb : Below W.heap.size W W2) (hf : LiesN W W2 u (.agg #[.int .u8 (u.k : Int), .int .i64 u.n, .string u.s, .slice A' u.l.length cap', .int .i64 u.r]))
    (hown : W3.ownsRow (w.heap.size + 1 + 1 + 1) 26 5 v2 (us.length + 1) (xs ++ [.int .u8 (u.k : Int), .int .i64 u.n, .string u.s, .slice A' u.l.length cap', .int .i64 u.r]))
    (hg : (W2.alloc o).grownBy W3 lv.ownBlock) (hat : v2.ownBlock = lv.ownBlock ∨ v2.ownBlock = some (W2.alloc o).heap.size) : RrRun k n s r len A cap w (us ++ [u]) v2 (W3.setCell ⟨w.heap.size + 1 + 1, 3, none⟩ v2) := by
  obtain ⟨old, hs3, hB3⟩ := ro_old h.below (by omega) h1 hb hg
  have hsW := h.below.size
  have hs2 := hb.size
  have hxl : xs.length = us.length * 5 := h1.1
  have nv : ∀ g, g < W2.heap.size → some g ≠ lv.ownBlock → some g ≠ v2.ownBlock := by
    intro g g1 g2
    rcases hat with hat | hat
    · rwa [hat]
    · rw [hat]
      simp only [World.size_alloc, ne_eq, Option.some.injEq]
      omega
  have X := ro_box h.box (by omega) h1 hb hg
  have R := ro_box h.res (by omega) h1 hb hg
  have O := ro_box h.out (by omega) h1 hb hg
  have hol := h.out.lt
  have hsz : (W3.setCell ⟨w.heap.size + 1 + 1, 3, none⟩ v2).heap.size = W3.heap.size := World.size_setCell _ _ _
  refine ⟨hB3.setCell (p := ⟨w.heap.size + 1 + 1, 3, none⟩) (by simp; omega) _, X.other (by simp; omega) _, R.other (by simp) _, O.set3 _, _, by rw [List.length_append, List.length_singleton]; exact hown.kept (row := some (w.heap.size + 1 + 1)) ⟨rfl, rfl, rfl, by rw [hsz]; exact Nat.le_refl _, fun k _ hk => heap_setCell_other _ _ _ _ (fun e => hk (by rw [e]))⟩ (.inr fun e => by have := (hown.lt _ e).1; omega), fun q hl => ?_⟩
  rw [hsz]
  have hl' : q < us.length + 1 := by simpa using hl
  by_cases e : q = us.length
  · subst e
    rw [rowOf_last hxl, List.getElem_concat_length rfl]
    refine Lies.same (W := W2) (p := fun b => W.heap.size ≤ b ∧ b < W2.heap.size) (fun g hg' => ?_) (fun g hg' => ?_) _ _ hf
    · have ne : some g ≠ lv.ownBlock := fun e => by have := (h1.lt _ e.symm).2; omega
      exact ⟨by omega, by omega, nv g hg'.2 ne⟩
    · exact (heap_setCell_other _ _ _ _ (by simp; omega)).trans (old g hg'.2 (fun e => by have := (h1.lt _ e.symm).2; omega))
  · rw [rowOf_app (by omega), List.getElem_append_left (by omega)]
    refine Lies.same (W := W) (p := fun b => w.heap.size + 1 + 1 + 1 ≤ b ∧ b < W.heap.size ∧ some b ≠ lv.ownBlock) (fun g hg' => ⟨hg'.1, by omega, nv g (by omega) hg'.2.2⟩) (fun g hg' => (heap_setCell_other _ _ _ _ (by simp; omega)).trans ((old g (by omega) hg'.2.2).trans (hb.block g hg'.2.1))) _ _ (h2 q (by omega))
theorem RrRun.done {k : Nat} {n : Int} {s : ByteArray} {r : Int} {len : Nat} {us : List VT} {A : Option Addr} {cap : Nat} {w W : World} {lv : Value} (h : RrRun k n s r len A cap w us lv W) (hbn : Bnd k n s r us.length) (v0 v1 v2 v3 v4 : Value) :
    LiesN w (((((W.setCell ⟨w.heap.size + 1, 0, none⟩ v0).setCell ⟨w.heap.size + 1, 1, none⟩ v1).setCell ⟨w.heap.size + 1, 2, none⟩ v2).setCell ⟨w.heap.size + 1, 3, none⟩ v3).setCell ⟨w.heap.size + 1, 4, none⟩ v4) (.mk k n s r us) (.agg #[.int .u8 (k : Int), .int .i64 n, .string s, lv, .int .i64 r]) := by
  obtain ⟨xs, h1, h2⟩ := h.own
  have hsz : (((((W.setCell ⟨w.heap.size + 1, 0, none⟩ v0).setCell ⟨w.heap.size + 1, 1, none⟩ v1).setCell ⟨w.heap.size + 1, 2, none⟩ v2).setCell ⟨w.heap.size + 1, 3, none⟩ v3).setCell ⟨w.heap.size + 1, 4, none⟩ v4).heap.size = W.heap.size := by simp
  unfold LiesN
  rw [hsz]
  rcases h1.2 with ⟨rfl, h5⟩ | ⟨g, cp, cur, rfl, hbg, hg3, hnc, hcm, hcs, htake⟩
  · obtain rfl := List.eq_nil_of_length_eq_zero h5
    exact ⟨none, 0, rfl, hbn, Nat.le_refl _, Nat.zero_le _, trivial, fun e => by cases e⟩
  · have hgl := (Array.getElem?_eq_some_iff.1 hg3).1
    have hg4 := (heap_set5_other (W := W) (B := w.heap.size + 1) (g := g) v0 v1 v2 v3 v4 (by omega)).trans hg3
    refine ⟨_, cp, rfl, hbn, hnc, hcm, LiesL.of_get fun q hq => ⟨g, 0, rowOf cur q, rfl, ⟨by omega, hgl⟩, ?_, ?_⟩, fun e => by cases e⟩
    · rw [Nat.zero_add, Nat.zero_add]
      exact cells_of_row hg4 (by omega) rfl
    · rw [rowOf_take htake (by omega)]
      exact Lies.same (W := W) (p := fun b => w.heap.size + 1 + 1 + 1 ≤ b ∧ b < W.heap.size ∧ some b ≠ (Value.slice (some ⟨g, 0, none⟩) us.length cp).ownBlock) (fun g hg' => ⟨by omega, hg'.2.1⟩) (fun g hg' => heap_set5_other _ _ _ _ _ (by omega)) _ _ (h2 q hq)

end Go.Proofs.Ytckgmdlacaiacaa
