/-
  Values as trees: what lies in memory under a value.
-/
import Derived.Lib.Hide
import Derived.Deep.QuietTactic
import Derived.BigQuiet
import Derived.Shelf.Abstract
import Derived.Shelf.RegionOpen
import Derived.WalkKit
import Derived.OwnWalkIn
import Derived.TacticsInMore
import Derived.LoopNIn
import Derived.LoopIn
import Derived.Maps.AppendAt
import Derived.Deep.RegionWith
import Derived.Deep.RegionLaw
import Derived.Lib.QuietBelow
import Derived.Test.YtckgmdlacaiacaaProg
namespace Go.Proofs.Ytckgmdlacaiacaa
open Go.RowKit Go.Shelf

/-- A value as plain data: kind, number, text, reference, parts. -/
inductive VT where
  | mk (k : Nat) (n : Int) (s : ByteArray) (r : Int) (l : List VT)

namespace VT
def k : VT → Nat | mk k _ _ _ _ => k
def n : VT → Int | mk _ n _ _ _ => n
def s : VT → ByteArray | mk _ _ s _ _ => s
def r : VT → Int | mk _ _ _ r _ => r
def l : VT → List VT | mk _ _ _ _ l => l
/-- By the parts. -/
theorem ind {p : VT → Prop} (h : ∀ k n s r l, (∀ t ∈ l, p t) → p (mk k n s r l)) (t : VT) : p t := by
  refine VT.rec (motive_1 := p) (motive_2 := fun l => ∀ t ∈ l, p t) (fun k n s r l ih => h k n s r l ih) ?_ ?_ t
  · intro t ht; exact absurd ht List.not_mem_nil
  · intro t ts h1 h2 u hu
    rcases List.mem_cons.1 hu with rfl | hu
    · exact h1
    · exact h2 u hu
end VT

/-- The five cells of a value. -/
def five (k : Nat) (n : Int) (s : ByteArray) (sl : Value) (r : Int) : Array Value := #[.int .u8 (k : Int), .int .i64 n, .string s, sl, .int .i64 r]
/-- The i-th of some rows of five cells. -/
def RowAt (W : World) (b off : Nat) (c : Array Value) : Prop :=
  ∃ c0 c1 c2 c3 c4, c = #[c0, c1, c2, c3, c4] ∧ W.cell? ⟨b, off, none⟩ = some c0 ∧ W.cell? ⟨b, off + 1, none⟩ = some c1 ∧ W.cell? ⟨b, off + 2, none⟩ = some c2 ∧ W.cell? ⟨b, off + 3, none⟩ = some c3 ∧ W.cell? ⟨b, off + 4, none⟩ = some c4

/-- The row of a number that a statement lays behind a list as a mark. -/
def markRow : Array Value := #[.int .u8 1, .int .i64 77, .string ⟨#[]⟩, .slice none 0 0, .int .i64 0]
/-- The bounds of a value's fields. -/
structure Bnd (k : Nat) (n : Int) (s : ByteArray) (r : Int) (len : Nat) : Prop where
  k : k < 256
  n : -9223372036854775808 ≤ n ∧ n ≤ 9223372036854775807
  r : -9223372036854775808 ≤ r ∧ r ≤ 9223372036854775807
  s : s.size ≤ maxLen
  len : len ≤ maxLen

mutual
/-- A value lies in memory (to be read), its blocks are some of p; m: behind each list there is a mark. -/
def Lies (W : World) (p : Nat → Prop) (m : Bool) : VT → Value → Prop
  | .mk k n s r l, v => ∃ A cap, v = .agg #[.int .u8 (k : Int), .int .i64 n, .string s, .slice A l.length cap, .int .i64 r] ∧ Bnd k n s r l.length ∧ l.length ≤ cap ∧ cap ≤ maxLen ∧ LiesL W p m A 0 l ∧
      (m = true → l ≠ [] → l.length < cap ∧ ∃ b off, A = some ⟨b, off, none⟩ ∧ p b ∧ RowAt W b (off + l.length * 5) markRow)
def LiesL (W : World) (p : Nat → Prop) (m : Bool) (A : Option Addr) : Nat → List VT → Prop
  | _, [] => True
  | i, t :: ts => (∃ b off c, A = some ⟨b, off, none⟩ ∧ p b ∧ RowAt W b (off + i * 5) c ∧ Lies W p m t (.agg c)) ∧ LiesL W p m A (i + 1) ts
end
theorem LiesL.get {W : World} {p : Nat → Prop} {m : Bool} {A : Option Addr} : ∀ {i : Nat} {l : List VT}, LiesL W p m A i l → ∀ j (h : j < l.length), ∃ b off c, A = some ⟨b, off, none⟩ ∧ p b ∧ RowAt W b (off + (i + j) * 5) c ∧ Lies W p m l[j] (.agg c)
  | _, [], _, j, h => absurd h (Nat.not_lt_zero _)
  | i, t :: ts, hl, 0, _ => by simpa [LiesL] using hl.1
  | i, t :: ts, hl, j + 1, h => by
    obtain ⟨b, off, c, h1, h2, h3, h4⟩ := LiesL.get hl.2 j (by simpa using h)
    exact ⟨b, off, c, h1, h2, by rwa [show i + (j + 1) = i + 1 + j by omega], h4⟩
theorem LiesL.of_get {W : World} {p : Nat → Prop} {m : Bool} {A : Option Addr} : ∀ {i : Nat} {l : List VT}, (∀ j (h : j < l.length), ∃ b off c, A = some ⟨b, off, none⟩ ∧ p b ∧ RowAt W b (off + (i + j) * 5) c ∧ Lies W p m l[j] (.agg c)) → LiesL W p m A i l
  | _, [], _ => trivial
  | i, t :: ts, h => ⟨h 0 (by simp), LiesL.of_get fun j hj => by
      obtain ⟨b, off, c, h1, h2, h3, h4⟩ := h (j + 1) (by simpa using hj)
      exact ⟨b, off, c, h1, h2, by rwa [show i + 1 + j = i + (j + 1) by omega], h4⟩⟩
theorem RowAt.same {W W' : World} {b off : Nat} {c : Array Value} (h : RowAt W b off c) (hb : W'.heap[b]? = W.heap[b]?) : RowAt W' b off c := by
  obtain ⟨c0, c1, c2, c3, c4, e, h0, h1, h2, h3, h4⟩ := h
  have k : ∀ o, W'.cell? ⟨b, o, none⟩ = W.cell? ⟨b, o, none⟩ := fun o => World.cell?_of_block (w := W) hb
  exact ⟨c0, c1, c2, c3, c4, e, (k _).trans h0, (k _).trans h1, (k _).trans h2, (k _).trans h3, (k _).trans h4⟩
/-- Where the blocks are as they were, and more blocks will do, a value lies as it lay. -/
theorem Lies.same {W W' : World} {p q : Nat → Prop} {m : Bool} (hq : ∀ b, p b → q b) (hb : ∀ b, p b → W'.heap[b]? = W.heap[b]?) : ∀ (t : VT) (v : Value), Lies W p m t v → Lies W' q m t v := by
  refine VT.ind fun k n s r l ih v h => ?_
  obtain ⟨A, cap, h0, h1, h2, h3, h6, h7⟩ := h
  refine ⟨A, cap, h0, h1, h2, h3, LiesL.of_get fun j hj => ?_, fun e1 e2 => ?_⟩
  · obtain ⟨b, off, c, g1, g2, g3, g4⟩ := h6.get j hj
    exact ⟨b, off, c, g1, hq b g2, g3.same (hb b g2), ih _ (List.getElem_mem hj) _ g4⟩
  · obtain ⟨g0, b, off, g1, g2, g3⟩ := h7 e1 e2
    exact ⟨g0, b, off, g1, hq b g2, g3.same (hb b g2)⟩
theorem Lies.below {W W' : World} {p : Nat → Prop} {m : Bool} {B : Nat} (hb : Below B W W') (hB : ∀ b, p b → b < B) {t : VT} {v : Value} (h : Lies W p m t v) : Lies W' p m t v :=
  Lies.same (fun _ h => h) (fun b hp => hb.block b (hB b hp)) t v h
theorem Lies.plain {W : World} {p : Nat → Prop} {m : Bool} : ∀ (t : VT) (v : Value), Lies W p m t v → Lies W p false t v := by
  refine VT.ind fun k n s r l ih v h => ?_
  obtain ⟨A, cap, h0, h1, h2, h3, h6, h7⟩ := h
  refine ⟨A, cap, h0, h1, h2, h3, LiesL.of_get fun j hj => ?_, fun e1 => by cases e1⟩
  obtain ⟨b, off, c, g1, g2, g3, g4⟩ := h6.get j hj
  exact ⟨b, off, c, g1, g2, g3, ih _ (List.getElem_mem hj) _ g4⟩
theorem RowAt.get {W : World} {b off : Nat} {a0 a1 a2 a3 a4 : Value} (h : RowAt W b off #[a0, a1, a2, a3, a4]) :
    W.cell? ⟨b, off, none⟩ = some a0 ∧ W.cell? ⟨b, off + 1, none⟩ = some a1 ∧ W.cell? ⟨b, off + 2, none⟩ = some a2 ∧ W.cell? ⟨b, off + 3, none⟩ = some a3 ∧ W.cell? ⟨b, off + 4, none⟩ = some a4 := by
  obtain ⟨c0, c1, c2, c3, c4, e, h0, h1, h2, h3, h4⟩ := h
  simp only [Array.mk.injEq, List.cons.injEq, and_true] at e
  obtain ⟨rfl, rfl, rfl, rfl, rfl⟩ := e
  exact ⟨h0, h1, h2, h3, h4⟩
/-- The five cells of a value that lies somewhere. -/
theorem Lies.cells {W : World} {p : Nat → Prop} {m : Bool} {t : VT} {v : Value} (h : Lies W p m t v) : ∃ A cap, v = .agg #[.int .u8 (t.k : Int), .int .i64 t.n, .string t.s, .slice A t.l.length cap, .int .i64 t.r] := by
  cases t
  obtain ⟨A, cap, h0, _⟩ := h
  exact ⟨A, cap, h0⟩
theorem Lies.bnd {W : World} {p : Nat → Prop} {m : Bool} {t : VT} {v : Value} (h : Lies W p m t v) : Bnd t.k t.n t.s t.r t.l.length := by
  cases t
  obtain ⟨A, cap, _, h1, _⟩ := h
  exact h1
/-- The j-th part of a list that lies somewhere. -/
theorem LiesL.elem {W : World} {p : Nat → Prop} {m : Bool} {A : Option Addr} {l : List VT} (h : LiesL W p m A 0 l) (j : Nat) (hj : j < l.length) : ∃ b off A' cap', A = some ⟨b, off, none⟩ ∧ p b ∧
    RowAt W b (off + j * 5) #[.int .u8 (l[j].k : Int), .int .i64 l[j].n, .string l[j].s, .slice A' l[j].l.length cap', .int .i64 l[j].r] ∧ Lies W p m l[j] (.agg #[.int .u8 (l[j].k : Int), .int .i64 l[j].n, .string l[j].s, .slice A' l[j].l.length cap', .int .i64 l[j].r]) := by
  obtain ⟨b, off, c, h1, h2, h3, h4⟩ := h.get j hj
  rw [Nat.zero_add] at h3
  obtain ⟨A', cap', e⟩ := h4.cells
  cases e
  exact ⟨b, off, A', cap', h1, h2, h3, h4⟩
/-- What a box of five cells holds. -/
structure Five (W : World) (B : Nat) (c0 c1 c2 c3 c4 : Value) : Prop where
  row : W.heap[B]? = some (.cells #[c0, c1, c2, c3, c4] 26 (0, 0))
namespace Five
variable {W W' : World} {B : Nat} {c0 c1 c2 c3 c4 : Value}
theorem lt (h : Five W B c0 c1 c2 c3 c4) : B < W.heap.size := (Array.getElem?_eq_some_iff.1 h.row).1
theorem e0 (h : Five W B c0 c1 c2 c3 c4) : W.cell? ⟨B, 0, none⟩ = some c0 := by simp [World.cell?, h.row]
theorem e1 (h : Five W B c0 c1 c2 c3 c4) : W.cell? ⟨B, 1, none⟩ = some c1 := by simp [World.cell?, h.row]
theorem e2 (h : Five W B c0 c1 c2 c3 c4) : W.cell? ⟨B, 2, none⟩ = some c2 := by simp [World.cell?, h.row]
theorem e3 (h : Five W B c0 c1 c2 c3 c4) : W.cell? ⟨B, 3, none⟩ = some c3 := by simp [World.cell?, h.row]
theorem e4 (h : Five W B c0 c1 c2 c3 c4) : W.cell? ⟨B, 4, none⟩ = some c4 := by simp [World.cell?, h.row]
theorem froz (h : Five W B c0 c1 c2 c3 c4) (i : Nat) : W.frozen? ⟨B, i, none⟩ = false := by simp [World.frozen?, h.row]
theorem new (w : World) (c0 c1 c2 c3 c4 : Value) : Five (w.alloc (.cells #[c0, c1, c2, c3, c4] 26)) w.heap.size c0 c1 c2 c3 c4 := ⟨heap_alloc_new w _⟩
theorem below {n : Nat} (h : Five W B c0 c1 c2 c3 c4) (hb : Below n W W') (hB : B < n) : Five W' B c0 c1 c2 c3 c4 := ⟨(hb.block B hB).trans h.row⟩
theorem alloc (h : Five W B c0 c1 c2 c3 c4) (o : Obj) : Five (W.alloc o) B c0 c1 c2 c3 c4 := ⟨(heap_alloc_old W o h.lt).trans h.row⟩
theorem drew (h : Five W B c0 c1 c2 c3 c4) : Five W.drew B c0 c1 c2 c3 c4 := ⟨h.row⟩
theorem other (h : Five W B c0 c1 c2 c3 c4) {a : Addr} (ha : B ≠ a.block) (v : Value) : Five (W.setCell a v) B c0 c1 c2 c3 c4 := ⟨(heap_setCell_other W a B v (fun e => ha e)).trans h.row⟩
theorem set5 (h : Five W B c0 c1 c2 c3 c4) (v0 v1 v2 v3 v4 : Value) : Five (((((W.setCell ⟨B, 0, none⟩ v0).setCell ⟨B, 1, none⟩ v1).setCell ⟨B, 2, none⟩ v2).setCell ⟨B, 3, none⟩ v3).setCell ⟨B, 4, none⟩ v4) B v0 v1 v2 v3 v4 := by
  refine ⟨?_⟩
  simp [World.setCell, Array.getElem?_modify, h.row]
theorem set3 (h : Five W B c0 c1 c2 c3 c4) (v : Value) : Five (W.setCell ⟨B, 3, none⟩ v) B c0 c1 c2 v c4 := by
  refine ⟨?_⟩
  simp [World.setCell, Array.getElem?_modify, h.row]
end Five
theorem below_set5 {n : Nat} {w W : World} {B : Nat} (h : Below n w W) (hB : n ≤ B) (v0 v1 v2 v3 v4 : Value) : Below n w (((((W.setCell ⟨B, 0, none⟩ v0).setCell ⟨B, 1, none⟩ v1).setCell ⟨B, 2, none⟩ v2).setCell ⟨B, 3, none⟩ v3).setCell ⟨B, 4, none⟩ v4) :=
  ((((h.setCell (p := ⟨B, 0, none⟩) hB _).setCell (p := ⟨B, 1, none⟩) hB _).setCell (p := ⟨B, 2, none⟩) hB _).setCell (p := ⟨B, 3, none⟩) hB _).setCell (p := ⟨B, 4, none⟩) hB _
theorem heap_set5_other {W : World} {B g : Nat} (v0 v1 v2 v3 v4 : Value) (h : g ≠ B) : (((((W.setCell ⟨B, 0, none⟩ v0).setCell ⟨B, 1, none⟩ v1).setCell ⟨B, 2, none⟩ v2).setCell ⟨B, 3, none⟩ v3).setCell ⟨B, 4, none⟩ v4).heap[g]? = W.heap[g]? := by
  rw [heap_setCell_other _ _ _ _ h, heap_setCell_other _ _ _ _ h, heap_setCell_other _ _ _ _ h, heap_setCell_other _ _ _ _ h, heap_setCell_other _ _ _ _ h]
end Go.Proofs.Ytckgmdlacaiacaa
