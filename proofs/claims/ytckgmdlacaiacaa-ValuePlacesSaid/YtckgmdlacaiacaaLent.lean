/-
  The statements' own: num; lent.
-/
import Derived.Test.YtckgmdlacaiacaaSmall
namespace Go.Proofs.Ytckgmdlacaiacaa
open Go.RowKit Go.Shelf
attribute [local go_sem] Oper.semAt_some

set_option maxHeartbeats 1000000 in
theorem num_w (n : Int) (w : World) (_hn : -9223372036854775808 ≤ n ∧ n ≤ 9223372036854775807) :
    Calls Try.prog 43 #[.int .i64 n] w fun e w' => e = .returned (.agg #[.int .u8 1, .int .i64 n, .string ⟨#[]⟩, .slice none 0 0, .int .i64 0]) ∧ w.alloc (.cells #[.int .u8 1, .int .i64 n, .string ⟨#[]⟩, .slice none 0 0, .int .i64 0] 26) = w' := by
  go_enter Try.func43, Try.ntmps43
  go_wp2
  exact ret_five rfl (Five.new w _ _ _ _ _) rfl ⟨rfl, rfl⟩
theorem num_b (n : Int) (w : World) (hn : -9223372036854775808 ≤ n ∧ n ≤ 9223372036854775807) :
    Calls Try.prog 43 #[.int .i64 n] w fun e w' => e = .returned (.agg #[.int .u8 1, .int .i64 n, .string ⟨#[]⟩, .slice none 0 0, .int .i64 0]) ∧ Below w.heap.size w w' :=
  (num_w n w hn).mono fun _ _ h => ⟨h.1, h.2 ▸ (Below.refl _ w).alloc (Nat.le_refl _) _⟩
theorem heap_setCells5 {W : World} {b i : Nat} {c : Array Value} {t : TypeId} (v0 v1 v2 v3 v4 : Value) (h : W.heap[b]? = some (.cells c t (0, 0))) :
    (W.setCells b (i * 5) [v0, v1, v2, v3, v4]).heap[b]? = some (.cells (setRow c i v0 v1 v2 v3 v4) t (0, 0)) := by
  simp [World.setCells, World.setCell, Array.getElem?_modify, h, setRow]
theorem heap_setCells5_other {W : World} {b g o : Nat} (v0 v1 v2 v3 v4 : Value) (h : g ≠ b) : (W.setCells b o [v0, v1, v2, v3, v4]).heap[g]? = W.heap[g]? := by
  simp only [World.setCells]
  rw [heap_setCell_other _ _ _ _ h, heap_setCell_other _ _ _ _ h, heap_setCell_other _ _ _ _ h, heap_setCell_other _ _ _ _ h, heap_setCell_other _ _ _ _ h]
theorem size_setCells5 {W : World} {b o : Nat} (v0 v1 v2 v3 v4 : Value) : (W.setCells b o [v0, v1, v2, v3, v4]).heap.size = W.heap.size := by
  simp [World.setCells]
theorem below_setCells5 {n : Nat} {w W : World} {b o : Nat} (h : Below n w W) (hB : n ≤ b) (v0 v1 v2 v3 v4 : Value) : Below n w (W.setCells b o [v0, v1, v2, v3, v4]) := by
  simp only [World.setCells]
  exact ((((h.setCell (by simpa using hB) _).setCell (by simpa using hB) _).setCell (by simpa using hB) _).setCell (by simpa using hB) _).setCell (by simpa using hB) _

theorem cells_zero (b : Nat) : (⟨b, 0, none⟩ : Addr).add 0 = ⟨b, 0, none⟩ := rfl
/-- The cells of a block of five, as append reads them. -/
theorem news_five {W : World} {B : Nat} {c0 c1 c2 c3 c4 : Value} (h : Five W B c0 c1 c2 c3 c4) : ∀ j u, ([c0, c1, c2, c3, c4] : List Value)[j]? = some u → W.cell? ((⟨B, 0, none⟩ : Addr).add j) = some u := by
  intro j u hu
  have hadd : (⟨B, 0, none⟩ : Addr).add j = ⟨B, j, none⟩ := by unfold Addr.add; split <;> simp_all
  rw [hadd]
  simp only [World.cell?, h.row]
  simpa using hu
/-- While lent copies the parts. -/
structure LentRun (k : Nat) (n : Int) (s : ByteArray) (r : Int) (l : List VT) (A : Option Addr) (cap : Nat) (w : World) (j : Nat) (W : World) : Prop where
  box : Five W w.heap.size (.int .u8 (k : Int)) (.int .i64 n) (.string s) (.slice A l.length cap) (.int .i64 r)
  res : Five W (w.heap.size + 1) (.int .u8 0) (.int .i64 0) (.string ⟨#[]⟩) (.slice none 0 0) (.int .i64 0)
  out : Five W (w.heap.size + 1 + 1) (.int .u8 (k : Int)) (.int .i64 n) (.string s) (.slice (some ⟨w.heap.size + 1 + 1 + 1, 0, none⟩) j (l.length + 1)) (.int .i64 r)
  row : ∃ c, W.heap[w.heap.size + 1 + 1 + 1]? = some (.cells c 26 (0, 0)) ∧ c.size = (l.length + 1) * 5 ∧ ∀ q (_ : q < j) (hl : q < l.length), Lies W (fun b => w.heap.size + 1 + 1 + 1 < b ∧ b < W.heap.size) true l[q] (.agg (rowOf c q))
  below : Below w.heap.size w W
theorem lentRun_start (k : Nat) (n : Int) (s : ByteArray) (r : Int) (l : List VT) (A : Option Addr) (cap : Nat) (w : World) : LentRun k n s r l A cap w 0
    ((((w.alloc (.cells #[.int .u8 (k : Int), .int .i64 n, .string s, .slice A l.length cap, .int .i64 r] 26)).alloc (.cells #[.int .u8 0, .int .i64 0, .string ⟨#[]⟩, .slice none 0 0, .int .i64 0] 26)).alloc (.cells #[.int .u8 (k : Int), .int .i64 n, .string s, .slice (some ⟨w.heap.size + 1 + 1 + 1, 0, none⟩) 0 (l.length + 1), .int .i64 r] 26)).alloc (.cells (zeroCells (l.length + 1)) 26)) := by
  refine ⟨(((Five.new w _ _ _ _ _).alloc _).alloc _).alloc _, ?_, ?_, ⟨_, ?_, zeroCells_size _, fun q h => absurd h (Nat.not_lt_zero _)⟩, ((((Below.refl _ w).alloc (Nat.le_refl _) _).alloc (by simp) _).alloc (by simp <;> omega) _).alloc (by simp <;> omega) _⟩
  · have := Five.new (w.alloc (.cells #[.int .u8 (k : Int), .int .i64 n, .string s, .slice A l.length cap, .int .i64 r] 26)) (.int .u8 0) (.int .i64 0) (.string ⟨#[]⟩) (.slice none 0 0) (.int .i64 0)
    rw [World.size_alloc] at this
    exact (this.alloc _).alloc _
  · have := Five.new ((w.alloc (.cells #[.int .u8 (k : Int), .int .i64 n, .string s, .slice A l.length cap, .int .i64 r] 26)).alloc (.cells #[.int .u8 0, .int .i64 0, .string ⟨#[]⟩, .slice none 0 0, .int .i64 0] 26)) (.int .u8 (k : Int)) (.int .i64 n) (.string s) (.slice (some ⟨w.heap.size + 1 + 1 + 1, 0, none⟩) 0 (l.length + 1)) (.int .i64 r)
    rw [World.size_alloc, World.size_alloc] at this
    exact this.alloc _
  · have := heap_alloc_new (((w.alloc (.cells #[.int .u8 (k : Int), .int .i64 n, .string s, .slice A l.length cap, .int .i64 r] 26)).alloc (.cells #[.int .u8 0, .int .i64 0, .string ⟨#[]⟩, .slice none 0 0, .int .i64 0] 26)).alloc (.cells #[.int .u8 (k : Int), .int .i64 n, .string s, .slice (some ⟨w.heap.size + 1 + 1 + 1, 0, none⟩) 0 (l.length + 1), .int .i64 r] 26)) (.cells (zeroCells (l.length + 1)) 26)
    rw [World.size_alloc, World.size_alloc, World.size_alloc] at this
    exact this
/-- A value in a range of blocks. -/
def LiesIn (w W : World) (t : VT) (v : Value) : Prop := Lies W (fun b => w.heap.size ≤ b ∧ b < W.heap.size) true t v
theorem LiesIn.cells {w W : World} {t : VT} {v : Value} (h : LiesIn w W t v) : ∃ A cap, v = .agg #[.int .u8 (t.k : Int), .int .i64 t.n, .string t.s, .slice A t.l.length cap, .int .i64 t.r] := Lies.cells h

theorem LentRun.rowlt {k : Nat} {n : Int} {s : ByteArray} {r : Int} {l : List VT} {A : Option Addr} {cap : Nat} {w : World} {j : Nat} {W : World} (h : LentRun k n s r l A cap w j W) : w.heap.size + 1 + 1 + 1 < W.heap.size := by
  obtain ⟨c, h1, _⟩ := h.row
  exact (Array.getElem?_eq_some_iff.1 h1).1
theorem lent_rowAfter {k : Nat} {n : Int} {s : ByteArray} {r : Int} {l : List VT} {A : Option Addr} {cap : Nat} {w : World} {j : Nat} {W W' : World} (h : LentRun k n s r l A cap w j W) (hb : Below W.heap.size W.drew W') (o : Obj) :
    ∃ c, (W'.alloc o).heap[w.heap.size + 1 + 1 + 1]? = some (.cells c 26 (0, 0)) ∧ c.size = (l.length + 1) * 5 := by
  obtain ⟨c, h1, h2, _⟩ := h.row
  have hlt := (Array.getElem?_eq_some_iff.1 h1).1
  have := hb.size
  exact ⟨c, (heap_alloc_old W' o (Nat.lt_of_lt_of_le hlt this)).trans ((hb.block _ hlt).trans h1), h2⟩
theorem lent_spare {k : Nat} {n : Int} {s : ByteArray} {r : Int} {l : List VT} {A : Option Addr} {cap : Nat} {w : World} {j : Nat} {W W' : World} {o : Obj} (h : LentRun k n s r l A cap w j W) (hj : j ≤ l.length) (hb : Below W.heap.size W.drew W') :
    ∀ q, q < 5 → ((W'.alloc o).cell? ⟨w.heap.size + 1 + 1 + 1, 0 + j * 5 + q, none⟩).isSome = true ∧ (W'.alloc o).frozen? ⟨w.heap.size + 1 + 1 + 1, 0 + j * 5 + q, none⟩ = false := by
  intro q hq
  obtain ⟨c, h1, h2⟩ := lent_rowAfter h hb o
  refine ⟨?_, froz_there h1 _⟩
  simp only [World.cell?, h1]
  simp
  omega
theorem lent_after {k : Nat} {n : Int} {s : ByteArray} {r : Int} {l : List VT} {A : Option Addr} {cap : Nat} {w : World} {j : Nat} {W W' : World} (h : LentRun k n s r l A cap w j W) (hb : Below W.heap.size W.drew W') (o : Obj) (v0 v1 v2 v3 v4 : Value) :
    W'.cell? ⟨w.heap.size + 1 + 1, 3, none⟩ = some (.slice (some ⟨w.heap.size + 1 + 1 + 1, 0, none⟩) j (l.length + 1)) ∧
    ((W'.alloc o).setCells (w.heap.size + 1 + 1 + 1) (j * 5) [v0, v1, v2, v3, v4]).cell? ⟨w.heap.size + 1 + 1, 3, none⟩ = some (.slice (some ⟨w.heap.size + 1 + 1 + 1, 0, none⟩) j (l.length + 1)) ∧
    ((W'.alloc o).setCells (w.heap.size + 1 + 1 + 1) (j * 5) [v0, v1, v2, v3, v4]).frozen? ⟨w.heap.size + 1 + 1, 3, none⟩ = false ∧ w.heap.size + 1 + 1 < W'.heap.size := by
  have X := h.out.drew.below hb h.out.lt
  have Y : Five ((W'.alloc o).setCells (w.heap.size + 1 + 1 + 1) (j * 5) [v0, v1, v2, v3, v4]) (w.heap.size + 1 + 1) (.int .u8 (k : Int)) (.int .i64 n) (.string s) (.slice (some ⟨w.heap.size + 1 + 1 + 1, 0, none⟩) j (l.length + 1)) (.int .i64 r) :=
    ⟨(heap_setCells5_other _ _ _ _ _ (by omega)).trans (X.alloc o).row⟩
  exact ⟨X.e3, Y.e3, Y.froz 3, X.lt⟩
/-- What lies in memory behind the mark. -/
theorem lent_mark {k : Nat} {n : Int} {s : ByteArray} {r : Int} {l : List VT} {A : Option Addr} {cap : Nat} {w : World} {W W' : World} (h : LentRun k n s r l A cap w l.length W) (hb : Below W.heap.size W.drew W') :
    W'.cell? ⟨w.heap.size + 1 + 1, 3, none⟩ = some (.slice (some ⟨w.heap.size + 1 + 1 + 1, 0, none⟩) l.length (l.length + 1)) ∧
    (Five ((W'.alloc (.cells #[.int .u8 1, .int .i64 77, .string ⟨#[]⟩, .slice none 0 0, .int .i64 0] 26)).setCells (w.heap.size + 1 + 1 + 1) (l.length * 5) [.int .u8 1, .int .i64 77, .string ⟨#[]⟩, .slice none 0 0, .int .i64 0]) w.heap.size (.int .u8 (k : Int)) (.int .i64 n) (.string s) (.slice A l.length cap) (.int .i64 r) ∧
     Five ((W'.alloc (.cells #[.int .u8 1, .int .i64 77, .string ⟨#[]⟩, .slice none 0 0, .int .i64 0] 26)).setCells (w.heap.size + 1 + 1 + 1) (l.length * 5) [.int .u8 1, .int .i64 77, .string ⟨#[]⟩, .slice none 0 0, .int .i64 0]) (w.heap.size + 1) (.int .u8 0) (.int .i64 0) (.string ⟨#[]⟩) (.slice none 0 0) (.int .i64 0) ∧
     Five ((W'.alloc (.cells #[.int .u8 1, .int .i64 77, .string ⟨#[]⟩, .slice none 0 0, .int .i64 0] 26)).setCells (w.heap.size + 1 + 1 + 1) (l.length * 5) [.int .u8 1, .int .i64 77, .string ⟨#[]⟩, .slice none 0 0, .int .i64 0]) (w.heap.size + 1 + 1) (.int .u8 (k : Int)) (.int .i64 n) (.string s) (.slice (some ⟨w.heap.size + 1 + 1 + 1, 0, none⟩) l.length (l.length + 1)) (.int .i64 r)) ∧ w.heap.size + 1 + 1 < W'.heap.size := by
  have X := h.box.drew.below hb h.box.lt
  have Y := h.res.drew.below hb h.res.lt
  have Z := h.out.drew.below hb h.out.lt
  exact ⟨Z.e3, ⟨⟨(heap_setCells5_other _ _ _ _ _ (by omega)).trans (X.alloc _).row⟩, ⟨(heap_setCells5_other _ _ _ _ _ (by omega)).trans (Y.alloc _).row⟩, ⟨(heap_setCells5_other _ _ _ _ _ (by omega)).trans (Z.alloc _).row⟩⟩, Z.lt⟩
theorem lent_done {k : Nat} {n : Int} {s : ByteArray} {r : Int} {l : List VT} {A : Option Addr} {cap : Nat} {w : World} {W W' : World} (h : LentRun k n s r l A cap w l.length W) (hb : Below W.heap.size W.drew W') (hbd : Bnd k n s r l.length) (hmx : l.length + 1 ≤ maxLen) (v0 v1 v2 v3 v4 : Value) :
    LiesIn w (((((((((W'.alloc (.cells #[.int .u8 1, .int .i64 77, .string ⟨#[]⟩, .slice none 0 0, .int .i64 0] 26)).setCells (w.heap.size + 1 + 1 + 1) (l.length * 5) [.int .u8 1, .int .i64 77, .string ⟨#[]⟩, .slice none 0 0, .int .i64 0]).setCell ⟨w.heap.size + 1 + 1, 3, none⟩ (.slice (some ⟨w.heap.size + 1 + 1 + 1, 0, none⟩) l.length (l.length + 1))).setCell ⟨w.heap.size + 1, 0, none⟩ v0).setCell ⟨w.heap.size + 1, 1, none⟩ v1).setCell ⟨w.heap.size + 1, 2, none⟩ v2).setCell ⟨w.heap.size + 1, 3, none⟩ v3).setCell ⟨w.heap.size + 1, 4, none⟩ v4)) (.mk k n s r l) (.agg #[.int .u8 (k : Int), .int .i64 n, .string s, .slice (some ⟨w.heap.size + 1 + 1 + 1, 0, none⟩) l.length (l.length + 1), .int .i64 r]) ∧
    Below w.heap.size w (((((((((W'.alloc (.cells #[.int .u8 1, .int .i64 77, .string ⟨#[]⟩, .slice none 0 0, .int .i64 0] 26)).setCells (w.heap.size + 1 + 1 + 1) (l.length * 5) [.int .u8 1, .int .i64 77, .string ⟨#[]⟩, .slice none 0 0, .int .i64 0]).setCell ⟨w.heap.size + 1 + 1, 3, none⟩ (.slice (some ⟨w.heap.size + 1 + 1 + 1, 0, none⟩) l.length (l.length + 1))).setCell ⟨w.heap.size + 1, 0, none⟩ v0).setCell ⟨w.heap.size + 1, 1, none⟩ v1).setCell ⟨w.heap.size + 1, 2, none⟩ v2).setCell ⟨w.heap.size + 1, 3, none⟩ v3).setCell ⟨w.heap.size + 1, 4, none⟩ v4)) := by
  obtain ⟨c, h1, h2, h3⟩ := h.row
  have hlt := h.rowlt
  have hbw := h.below.size
  have hsz : W.heap.size ≤ W'.heap.size := hb.size
  have hbb : Below w.heap.size w W' := h.below.trans (((Below.refl W.heap.size W).drew.trans hb).mono (by omega))
  refine ⟨?_, below_set5 ((below_setCells5 (hbb.alloc (by omega) _) (by omega) _ _ _ _ _).setCell (p := ⟨w.heap.size + 1 + 1, 3, none⟩) (by simp; omega) _) (by omega) _ _ _ _ _⟩
  generalize ho : (Obj.cells #[.int .u8 1, .int .i64 77, .string ⟨#[]⟩, .slice none 0 0, .int .i64 0] 26) = o
  clear ho
  have hrow : (W'.alloc o).heap[w.heap.size + 1 + 1 + 1]? = some (.cells c 26 (0, 0)) := (heap_alloc_old W' o (by omega)).trans ((hb.block _ hlt).trans h1)
  have hoth : ∀ g, g < W'.heap.size → g ≠ w.heap.size + 1 + 1 + 1 → g ≠ w.heap.size + 1 + 1 → g ≠ w.heap.size + 1 → ((((((((((W'.alloc o).setCells (w.heap.size + 1 + 1 + 1) (l.length * 5) [.int .u8 1, .int .i64 77, .string ⟨#[]⟩, .slice none 0 0, .int .i64 0]).setCell ⟨w.heap.size + 1 + 1, 3, none⟩ (.slice (some ⟨w.heap.size + 1 + 1 + 1, 0, none⟩) l.length (l.length + 1))).setCell ⟨w.heap.size + 1, 0, none⟩ v0).setCell ⟨w.heap.size + 1, 1, none⟩ v1).setCell ⟨w.heap.size + 1, 2, none⟩ v2).setCell ⟨w.heap.size + 1, 3, none⟩ v3).setCell ⟨w.heap.size + 1, 4, none⟩ v4)).heap[g]?) = W'.heap[g]? :=
    fun g h0 h1 h2 h3 => (heap_set5_other _ _ _ _ _ h3).trans ((heap_setCell_other _ _ _ _ h2).trans ((heap_setCells5_other _ _ _ _ _ h1).trans (heap_alloc_old W' o h0)))
  have hb2 : (((((((((W'.alloc o).setCells (w.heap.size + 1 + 1 + 1) (l.length * 5) [.int .u8 1, .int .i64 77, .string ⟨#[]⟩, .slice none 0 0, .int .i64 0]).setCell ⟨w.heap.size + 1 + 1, 3, none⟩ (.slice (some ⟨w.heap.size + 1 + 1 + 1, 0, none⟩) l.length (l.length + 1))).setCell ⟨w.heap.size + 1, 0, none⟩ v0).setCell ⟨w.heap.size + 1, 1, none⟩ v1).setCell ⟨w.heap.size + 1, 2, none⟩ v2).setCell ⟨w.heap.size + 1, 3, none⟩ v3).setCell ⟨w.heap.size + 1, 4, none⟩ v4)).heap[w.heap.size + 1 + 1 + 1]? = some (.cells (setRow c l.length (.int .u8 1) (.int .i64 77) (.string ⟨#[]⟩) (.slice none 0 0) (.int .i64 0)) 26 (0, 0)) :=
    (heap_set5_other _ _ _ _ _ (by omega)).trans ((heap_setCell_other _ _ _ _ (by simp)).trans (heap_setCells5 _ _ _ _ _ hrow))
  have hsz2 : (((((((((W'.alloc o).setCells (w.heap.size + 1 + 1 + 1) (l.length * 5) [.int .u8 1, .int .i64 77, .string ⟨#[]⟩, .slice none 0 0, .int .i64 0]).setCell ⟨w.heap.size + 1 + 1, 3, none⟩ (.slice (some ⟨w.heap.size + 1 + 1 + 1, 0, none⟩) l.length (l.length + 1))).setCell ⟨w.heap.size + 1, 0, none⟩ v0).setCell ⟨w.heap.size + 1, 1, none⟩ v1).setCell ⟨w.heap.size + 1, 2, none⟩ v2).setCell ⟨w.heap.size + 1, 3, none⟩ v3).setCell ⟨w.heap.size + 1, 4, none⟩ v4)).heap.size = W'.heap.size + 1 := by
    rw [World.size_setCell, World.size_setCell, World.size_setCell, World.size_setCell, World.size_setCell, World.size_setCell, size_setCells5, World.size_alloc]
  unfold LiesIn
  rw [hsz2]
  refine ⟨_, _, rfl, hbd, by omega, hmx, LiesL.of_get fun q hq => ⟨_, 0, rowOf c q, rfl, by omega, ?_, ?_⟩, fun _ _ => ⟨by omega, _, 0, rfl, by omega, ?_⟩⟩
  · rw [Nat.zero_add, Nat.zero_add]
    exact cells_of_row hb2 (by rw [setRow_size]; omega) (rowOf_other _ _ _ _ _ _ (by omega))
  · exact Lies.same (W := W) (p := fun b => w.heap.size + 1 + 1 + 1 < b ∧ b < W.heap.size) (fun g hg => by omega) (fun g hg => (hoth g (by omega) (by omega) (by omega) (by omega)).trans (hb.block g hg.2)) _ _ (h3 q hq hq)
  · rw [Nat.zero_add]
    exact cells_of_row hb2 (by rw [setRow_size]; omega) (rowOf_set _ _ _ _ _ (by omega))
theorem lentRun_step {k : Nat} {n : Int} {s : ByteArray} {r : Int} {l : List VT} {A : Option Addr} {cap : Nat} {w W W' : World} {j : Nat} {A' : Option Addr} {cap' : Nat} (h : LentRun k n s r l A cap w j W) (hj : j < l.length) (hb : Below W.heap.size W.drew W')
    (hf : LiesIn W.drew W' l[j] (.agg #[.int .u8 (l[j].k : Int), .int .i64 l[j].n, .string l[j].s, .slice A' l[j].l.length cap', .int .i64 l[j].r])) :
    LentRun k n s r l A cap w (j + 1) (((W'.alloc (.cells #[.int .u8 (l[j].k : Int), .int .i64 l[j].n, .string l[j].s, .slice A' l[j].l.length cap', .int .i64 l[j].r] 26)).setCells (w.heap.size + 1 + 1 + 1) (j * 5) [.int .u8 (l[j].k : Int), .int .i64 l[j].n, .string l[j].s, .slice A' l[j].l.length cap', .int .i64 l[j].r]).setCell ⟨w.heap.size + 1 + 1, 3, none⟩ (.slice (some ⟨w.heap.size + 1 + 1 + 1, 0, none⟩) (j + 1) (l.length + 1))) := by
  obtain ⟨c, h1, h2, h3⟩ := h.row
  have hlt := h.rowlt
  have hbw := h.below.size
  have hsz : W.heap.size ≤ W'.heap.size := hb.size
  generalize ho : (Obj.cells #[.int .u8 (l[j].k : Int), .int .i64 l[j].n, .string l[j].s, .slice A' l[j].l.length cap', .int .i64 l[j].r] 26) = o
  clear ho
  have hrow : (W'.alloc o).heap[w.heap.size + 1 + 1 + 1]? = some (.cells c 26 (0, 0)) := (heap_alloc_old W' o (by omega)).trans ((hb.block _ hlt).trans h1)
  have hoth : ∀ g, g < W'.heap.size → g ≠ w.heap.size + 1 + 1 + 1 → g ≠ w.heap.size + 1 + 1 → ((((W'.alloc o).setCells (w.heap.size + 1 + 1 + 1) (j * 5) [.int .u8 (l[j].k : Int), .int .i64 l[j].n, .string l[j].s, .slice A' l[j].l.length cap', .int .i64 l[j].r]).setCell ⟨w.heap.size + 1 + 1, 3, none⟩ (.slice (some ⟨w.heap.size + 1 + 1 + 1, 0, none⟩) (j + 1) (l.length + 1))).heap[g]?) = W'.heap[g]? :=
    fun g h0 h1 h2 => (heap_setCell_other _ _ _ _ h2).trans ((heap_setCells5_other _ _ _ _ _ h1).trans (heap_alloc_old W' o h0))
  have hsz2 : ((((W'.alloc o).setCells (w.heap.size + 1 + 1 + 1) (j * 5) [.int .u8 (l[j].k : Int), .int .i64 l[j].n, .string l[j].s, .slice A' l[j].l.length cap', .int .i64 l[j].r]).setCell ⟨w.heap.size + 1 + 1, 3, none⟩ (.slice (some ⟨w.heap.size + 1 + 1 + 1, 0, none⟩) (j + 1) (l.length + 1))).heap.size) = W'.heap.size + 1 := by
    rw [World.size_setCell, size_setCells5, World.size_alloc]
  have hX := h.box.drew.below hb h.box.lt
  have hR := h.res.drew.below hb h.res.lt
  have hO := h.out.drew.below hb h.out.lt
  have b1 := h.box.lt
  have b2 := h.res.lt
  refine ⟨⟨(hoth _ (by omega) (by omega) (by omega)).trans hX.row⟩, ⟨(hoth _ (by omega) (by omega) (by omega)).trans hR.row⟩, ?_, ⟨setRow c j _ _ _ _ _, (heap_setCell_other _ _ _ _ (by simp)).trans (heap_setCells5 _ _ _ _ _ hrow), by rw [setRow_size, h2], ?_⟩, ?_⟩
  · have : Five ((W'.alloc o).setCells (w.heap.size + 1 + 1 + 1) (j * 5) [.int .u8 (l[j].k : Int), .int .i64 l[j].n, .string l[j].s, .slice A' l[j].l.length cap', .int .i64 l[j].r]) (w.heap.size + 1 + 1) (.int .u8 (k : Int)) (.int .i64 n) (.string s) (.slice (some ⟨w.heap.size + 1 + 1 + 1, 0, none⟩) j (l.length + 1)) (.int .i64 r) :=
      ⟨(heap_setCells5_other _ _ _ _ _ (by omega)).trans (hO.alloc o).row⟩
    exact this.set3 _
  · intro q hq hl
    rw [hsz2]
    by_cases e : q = j
    · subst e
      rw [rowOf_set _ _ _ _ _ (by omega)]
      exact Lies.same (p := fun b => W.heap.size ≤ b ∧ b < W'.heap.size) (fun g hg => by omega) (fun g hg => hoth g hg.2 (by omega) (by omega)) _ _ hf
    · rw [rowOf_other _ _ _ _ _ _ e]
      exact Lies.same (W := W) (p := fun b => w.heap.size + 1 + 1 + 1 < b ∧ b < W.heap.size) (fun g hg => by omega) (fun g hg => (hoth g (by omega) (by omega) (by omega)).trans (hb.block g hg.2)) _ _ (h3 q (by omega) hl)
  · have hbb : Below w.heap.size w W' := h.below.trans (((Below.refl W.heap.size W).drew.trans hb).mono (by omega))
    exact (below_setCells5 (hbb.alloc (by omega) o) (by omega) _ _ _ _ _).setCell (p := ⟨w.heap.size + 1 + 1, 3, none⟩) (by simp; omega) _

set_option maxRecDepth 100000 in
set_option maxHeartbeats 8000000 in
theorem lent_w (p : Nat → Prop) (m : Bool) : ∀ (t : VT) (v : Value) (w : World), Lies w p m t v → (∀ b, p b → b < w.heap.size) → t.parts ≤ 4294967295 →
    Calls Try.prog 20 #[v] w fun e w' => ∃ v', e = .returned v' ∧ LiesIn w w' t v' ∧ Below w.heap.size w w' := by
  refine VT.ind fun k n s r l ih v w h hpw hparts => ?_
  have hbnd := h.bnd
  obtain ⟨A, cap, rfl, ⟨hk, hn, hr, hs, hl⟩, hlc, hcm, hL, _⟩ := h
  have hpar : VT.parts (.mk k n s r l) = 1 + VT.partsL l := rfl
  have hlen := VT.partsL_len l
  have HPW := Lib.hid hpw
  have HL := Lib.hid hL
  have IH := Lib.hid ih
  have HBN := Lib.hid (And.intro hbnd (And.intro hlc hcm))
  clear hL ih hpw hbnd hlc hcm
  have hlen9 : l.length ≤ 4294967294 := by omega
  obtain ⟨i0, hi, hz0, hz1, hz2⟩ := info_parts infoV
  have HPar := Lib.hid (show VT.partsL l ≤ 4294967294 by omega)
  clear hparts hpar hlen
  go_enter Try.func20, Try.ntmps20
  by_cases h0 : l.length = 0
  · obtain rfl := List.length_eq_zero_iff.1 h0
    go_wp2
    refine ret_five (B := w.heap.size + 1) rfl (c0 := .int .u8 (k : Int)) (c1 := .int .i64 n) (c2 := .string s) (c3 := .slice A 0 cap) (c4 := .int .i64 r) ?_ rfl ?_
    · have := (Five.new (w.alloc (.cells #[.int .u8 (k : Int), .int .i64 n, .string s, .slice A 0 cap, .int .i64 r] 26)) (.int .u8 (k : Int)) (.int .i64 n) (.string s) (.slice A 0 cap) (.int .i64 r)).alloc (.cells #[.int .u8 (k : Int), .int .i64 n, .string s, .slice A 0 cap, .int .i64 r] 26)
      rw [World.size_alloc] at this
      exact this
    · exact ⟨_, rfl, ⟨A, cap, rfl, HBN.out.1, HBN.out.2.1, HBN.out.2.2, trivial, fun _ h => absurd rfl h⟩, (((Below.refl _ w).alloc (Nat.le_refl _) _).alloc (by simp) _).alloc (by simp <;> omega) _⟩
  · have q0 : ((l.length : Int) == 0) = false := by rw [beq_eq_false_iff_ne]; omega
    have hmk : ∀ W : World, (Instr.makeSlice 23 (.int .i64 0) (.int .i64 ((l.length : Int) + 1))).run Try.prog W = .ok (.slice (some ⟨W.heap.size, 0, none⟩) 0 (l.length + 1)) (W.alloc (.cells (zeroCells (l.length + 1)) 26)) := fun W => run_make_values 0 (l.length + 1) (Nat.zero_le _) (by omega) W
    have hst := Lib.hid (lentRun_start k n s r l A cap w)
    go_wp2
    clear hmk
    go_loopw [4] (fun iv wr => ∃ j : Nat, j ≤ l.length ∧ iv = .int .i64 (j : Int) ∧ LentRun k n s r l A cap w j wr) (fun iv _ => l.length - (intOf iv).toNat)
    case atStart => exact ⟨0, Nat.zero_le _, rfl, hst.out⟩
    case round =>
      obtain ⟨j, hj, rfl, hrun⟩ := hrel
      clear hst
      have X3 := hrun.box.e3
      have hsz := hrun.below.size
      by_cases hlt : j < l.length
      · obtain ⟨b, off, A', cap', rfl, hbt, hrow, hLj⟩ := HL.out.elem j hlt
        obtain ⟨g0, g1, g2, g3, g4⟩ := (hrow.same (hrun.below.block b (HPW.out b hbt))).get
        have hbw := HPW.out b hbt
        have hbr : b < wr.heap.size := by omega
        have HH := Lib.hid (fun W (hW : Below w.heap.size w W) => IH.out l[j] (List.getElem_mem hlt) _ W (hLj.below hW HPW.out) (fun b hb => Nat.lt_of_lt_of_le (HPW.out b hb) hW.size) (Nat.le_trans (VT.parts_le hlt) (by have := HPar.out; omega)))
        have HR := Lib.hid hrun
        have O3 := hrun.out.e3
        have HBj := Lib.hid (fun W' A2 cap2 => @lentRun_step k n s r l (some ⟨b, off, none⟩) cap w wr W' j A2 cap2 hrun hlt)
        have hbsz := hrun.below.size
        have hosz := hrun.out.lt
        have hrsz := hrun.rowlt
        clear hrun hrow hLj
        go_wp2
        go_region_law (first | (refine step_append_room rfl (.tmp 26) (.tmp 33) 23 rfl 26 i0 5 Try.underlying23 hi hz1 (w.heap.size + 1 + 1 + 1) 0 j (l.length + 1) (by simp [Act.eval]) ⟨_, 0, none⟩ 1 1 [.int .u8 (l[j].k : Int), .int .i64 l[j].n, .string l[j].s, .slice A2 l[j].l.length cap2, .int .i64 l[j].r] (by simp [Act.eval]) rfl (news_five (Five.new _ _ _ _ _ _)) (by simp [Value.oneCell']) (by omega) (lent_spare HR.out (Nat.le_of_lt hlt) HF.out.2) ?_) | (go_simp; go_at_call 20; refine (HH.out _ (HR.out.below.drew)).mono ?_; rintro e w' ⟨v', rfl, hF, hb⟩; obtain ⟨A2, cap2, rfl⟩ := hF.cells; obtain ⟨O3', S1, S2, hsw⟩ := lent_after HR.out hb (.cells #[.int .u8 (l[j].k : Int), .int .i64 l[j].n, .string l[j].s, .slice A2 l[j].l.length cap2, .int .i64 l[j].r] 26) (.int .u8 (l[j].k : Int)) (.int .i64 l[j].n) (.string l[j].s) (.slice A2 l[j].l.length cap2) (.int .i64 l[j].r); have HF := Lib.hid (And.intro hF hb); clear hF hb))
        all_goals
          have HN := Lib.hid (HBj.out w' A2 cap2 HF.out.2 HF.out.1)
          go_wp2
          go_roundw
          case rel => exact ⟨j + 1, by omega, by go_num, HN.out⟩
          case measure => simp [intOf]; omega
      · obtain rfl : j = l.length := by omega
        have O3 := hrun.out.e3
        have HR := Lib.hid hrun
        clear hrun
        have hosz := HR.out.out.lt
        go_wp2
        go_region_law (first | (refine step_append_room rfl (.tmp 37) (.tmp 39) 23 rfl 26 i0 5 Try.underlying23 hi hz1 (w.heap.size + 1 + 1 + 1) 0 l.length (l.length + 1) (by simp [Act.eval]) ⟨_, 0, none⟩ 1 1 [.int .u8 1, .int .i64 77, .string ⟨#[]⟩, .slice none 0 0, .int .i64 0] (by simp [Act.eval]) rfl (news_five (Five.new _ _ _ _ _ _)) (by simp [Value.oneCell']) (by omega) (lent_spare HR.out (Nat.le_refl _) HF.out) ?_) | (go_simp; go_at_call 43; refine (num_b 77 _ (by omega)).mono ?_; rintro e w' ⟨rfl, hb⟩; obtain ⟨O3', hY, hsw⟩ := lent_mark HR.out hb; have HF := Lib.hid hb; clear hb))
        all_goals
          obtain ⟨Y0, Y1, Y2⟩ := hY
          have HD := Lib.hid (fun v0 v1 v2 v3 v4 => lent_done HR.out HF.out HBN.out.1 (by unfold maxLen; show l.length + 1 ≤ _; omega) v0 v1 v2 v3 v4)
          have HY := Lib.hid Y1
          have d3 := Y0.e3
          have e0 := Y1.e0
          have e1 := Y1.e1
          have e2 := Y1.e2
          have e3 := Y1.e3
          have e4 := Y1.e4
          have f0 := Y1.froz 0
          have f1 := Y1.froz 1
          have f2 := Y1.froz 2
          have f3 := Y1.froz 3
          have f4 := Y1.froz 4
          have u0 := Y2.e0
          have u1 := Y2.e1
          have u2 := Y2.e2
          have u3 := Y2.e3
          have u4 := Y2.e4
          have w3 := Y2.froz 3
          clear Y0 Y1 Y2 O3 O3' X3
          generalize hW9 : World.setCells _ _ _ _ = W9 at *
          clear hW9
          go_wp2
          refine ret_five (B := w.heap.size + 1) rfl ((HY.out.other (by simp) _).set5 _ _ _ _ _) rfl ?_
          exact ⟨_, rfl, HD.out _ _ _ _ _⟩
end Go.Proofs.Ytckgmdlacaiacaa
