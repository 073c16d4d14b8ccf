/-
  Values in memory of their own: blocks that nobody else holds.
-/
import Derived.Test.YtckgmdlacaiacaaSize
namespace Go.Proofs.Ytckgmdlacaiacaa
open Go.RowKit Go.Shelf
attribute [local go_sem] Oper.semAt_some

/-- The i-th row of five cells of a block. -/
def rowOf (c : Array Value) (i : Nat) : Array Value := #[c.getD (i * 5) .nilFunc, c.getD (i * 5 + 1) .nilFunc, c.getD (i * 5 + 2) .nilFunc, c.getD (i * 5 + 3) .nilFunc, c.getD (i * 5 + 4) .nilFunc]
/-- A row is written. -/
def setRow (c : Array Value) (i : Nat) (v0 v1 v2 v3 v4 : Value) : Array Value := ((((c.setIfInBounds (i * 5) v0).setIfInBounds (i * 5 + 1) v1).setIfInBounds (i * 5 + 2) v2).setIfInBounds (i * 5 + 3) v3).setIfInBounds (i * 5 + 4) v4
theorem setRow_size (c : Array Value) (i : Nat) (v0 v1 v2 v3 v4 : Value) : (setRow c i v0 v1 v2 v3 v4).size = c.size := by simp [setRow]
theorem rowOf_set {c : Array Value} {i : Nat} (v0 v1 v2 v3 v4 : Value) (h : i * 5 + 4 < c.size) : rowOf (setRow c i v0 v1 v2 v3 v4) i = #[v0, v1, v2, v3, v4] := by
  unfold rowOf setRow
  simp only [Array.getD_eq_getD_getElem?, Array.getElem?_setIfInBounds, Array.size_setIfInBounds]
  simp [show i * 5 < c.size by omega, show i * 5 + 1 < c.size by omega, show i * 5 + 2 < c.size by omega, show i * 5 + 3 < c.size by omega, h]
theorem rowOf_other (c : Array Value) {i j : Nat} (v0 v1 v2 v3 v4 : Value) (h : j ≠ i) : rowOf (setRow c i v0 v1 v2 v3 v4) j = rowOf c j := by
  unfold rowOf setRow
  simp only [Array.getD_eq_getD_getElem?, Array.getElem?_setIfInBounds]
  have e : ∀ a b, a < 5 → b < 5 → i * 5 + a ≠ j * 5 + b := by omega
  have f : ∀ b, b < 5 → i * 5 ≠ j * 5 + b := by omega
  have g : ∀ a, a < 5 → i * 5 + a ≠ j * 5 := by omega
  have k : i * 5 ≠ j * 5 := by omega
  simp [e, f, g, k]
theorem heap_setRow {W : World} {b i : Nat} {c : Array Value} {t : TypeId} (v0 v1 v2 v3 v4 : Value) (h : W.heap[b]? = some (.cells c t (0, 0))) :
    (((((W.setCell ⟨b, i * 5, none⟩ v0).setCell ⟨b, i * 5 + 1, none⟩ v1).setCell ⟨b, i * 5 + 2, none⟩ v2).setCell ⟨b, i * 5 + 3, none⟩ v3).setCell ⟨b, i * 5 + 4, none⟩ v4).heap[b]? = some (.cells (setRow c i v0 v1 v2 v3 v4) t (0, 0)) := by
  simp [World.setCell, Array.getElem?_modify, h, setRow]
theorem heap_setRow_other {W : World} {b g i : Nat} (v0 v1 v2 v3 v4 : Value) (h : g ≠ b) :
    (((((W.setCell ⟨b, i * 5, none⟩ v0).setCell ⟨b, i * 5 + 1, none⟩ v1).setCell ⟨b, i * 5 + 2, none⟩ v2).setCell ⟨b, i * 5 + 3, none⟩ v3).setCell ⟨b, i * 5 + 4, none⟩ v4).heap[g]? = W.heap[g]? := by
  rw [heap_setCell_other _ _ _ _ h, heap_setCell_other _ _ _ _ h, heap_setCell_other _ _ _ _ h, heap_setCell_other _ _ _ _ h, heap_setCell_other _ _ _ _ h]
/-- The cells of a row of a block. -/
theorem cells_of_row {W : World} {b i : Nat} {c : Array Value} {t : TypeId} {v0 v1 v2 v3 v4 : Value} (h : W.heap[b]? = some (.cells c t (0, 0))) (hi : i * 5 + 4 < c.size) (hr : rowOf c i = #[v0, v1, v2, v3, v4]) :
    RowAt W b (i * 5) #[v0, v1, v2, v3, v4] := by
  unfold rowOf at hr
  simp only [Array.mk.injEq, List.cons.injEq, and_true] at hr
  obtain ⟨h0, h1, h2, h3, h4⟩ := hr
  have k : ∀ o v, o < c.size → c.getD o .nilFunc = v → W.cell? ⟨b, o, none⟩ = some v := by
    intro o v ho hv
    simp only [World.cell?, h]
    rw [← hv]
    simp [ho]
  exact ⟨v0, v1, v2, v3, v4, rfl, k _ _ (by omega) h0, k _ _ (by omega) h1, k _ _ (by omega) h2, k _ _ (by omega) h3, k _ _ (by omega) h4⟩

mutual
/-- A value in memory of its own: F are its blocks. -/
def Own (W : World) : VT → Value → List Nat → Prop
  | .mk k n s r l, v, F => Bnd k n s r l.length ∧
      ((l = [] ∧ v = .agg #[.int .u8 (k : Int), .int .i64 n, .string s, .slice none 0 0, .int .i64 r] ∧ F = []) ∨
       (∃ b cap c G, v = .agg #[.int .u8 (k : Int), .int .i64 n, .string s, .slice (some ⟨b, 0, none⟩) l.length cap, .int .i64 r] ∧ 0 < l.length ∧ l.length ≤ cap ∧ cap ≤ maxLen ∧
          W.heap[b]? = some (.cells c 26 (0, 0)) ∧ c.size = cap * 5 ∧ F = b :: G ∧ OwnL W c 0 l G))
def OwnL (W : World) (c : Array Value) : Nat → List VT → List Nat → Prop
  | _, [], G => G = []
  | i, t :: ts, G => ∃ G1 G2, G = G1 ++ G2 ∧ Own W t (.agg (rowOf c i)) G1 ∧ OwnL W c (i + 1) ts G2
end
theorem OwnL.append {W : World} {c : Array Value} : ∀ {i : Nat} {l m : List VT} {G H : List Nat}, OwnL W c i l G → OwnL W c (i + l.length) m H → OwnL W c i (l ++ m) (G ++ H)
  | i, [], m, G, H, h1, h2 => by
    obtain rfl : G = [] := h1
    exact h2
  | i, t :: ts, m, G, H, ⟨G1, G2, e, h1, h2⟩, h3 => by
    subst e
    exact ⟨G1, G2 ++ H, by rw [List.append_assoc], h1, h2.append (by rwa [show i + 1 + ts.length = i + (t :: ts).length by simp; omega])⟩
theorem Own.same_all {W W' : World} : ∀ (t : VT) (v : Value) (F : List Nat), (∀ g ∈ F, W'.heap[g]? = W.heap[g]?) → Own W t v F → Own W' t v F := by
  refine VT.ind fun k n s r l ih v F hF h => ?_
  obtain ⟨hb, h | ⟨b, cap, c, G, h0, h1, h2, h3, h4, h5, rfl, h7⟩⟩ := h
  · exact ⟨hb, .inl h⟩
  · refine ⟨hb, .inr ⟨b, cap, c, G, h0, h1, h2, h3, (hF b List.mem_cons_self).trans h4, h5, rfl, ?_⟩⟩
    have key : ∀ (l' : List VT), (∀ t ∈ l', t ∈ l) → ∀ i G', (∀ g ∈ G', g ∈ G) → OwnL W c i l' G' → OwnL W' c i l' G' := by
      intro l'
      induction l' with
      | nil => exact fun _ i G' _ h => h
      | cons t ts ihl =>
        rintro hm i G' hG ⟨G1, G2, rfl, g1, g2⟩
        exact ⟨G1, G2, rfl, ih t (hm t List.mem_cons_self) _ _ (fun g hg => hF g (List.mem_cons_of_mem _ (hG g (List.mem_append_left _ hg)))) g1,
          ihl (fun u hu => hm u (List.mem_cons_of_mem _ hu)) _ _ (fun g hg => hG g (List.mem_append_right _ hg)) g2⟩
    exact key l (fun _ h => h) 0 G (fun _ h => h) h7
theorem OwnL.same {W W' : World} {c c' : Array Value} : ∀ {i : Nat} {l : List VT} {G : List Nat}, (∀ g ∈ G, W'.heap[g]? = W.heap[g]?) → (∀ q, i ≤ q → q < i + l.length → rowOf c' q = rowOf c q) → OwnL W c i l G → OwnL W' c' i l G
  | _, [], _, _, _, h => h
  | i, t :: ts, G, hG, hc, ⟨G1, G2, e, h1, h2⟩ => by
    subst e
    refine ⟨G1, G2, rfl, ?_, OwnL.same (fun g hg => hG g (List.mem_append_right _ hg)) (fun q h3 h4 => hc q (by omega) (by simp at h4 ⊢; omega)) h2⟩
    rw [hc i (Nat.le_refl _) (by simp)]
    exact Own.same_all _ _ _ (fun g hg => hG g (List.mem_append_left _ hg)) h1
/-- What is its own may be read. -/
theorem Own.lies {W : World} : ∀ (t : VT) (v : Value) (F : List Nat), Own W t v F → Lies W (· ∈ F) false t v := by
  refine VT.ind fun k n s r l ih v F h => ?_
  obtain ⟨hb, ⟨rfl, rfl, rfl⟩ | ⟨b, cap, c, G, h0, h1, h2, h3, h4, h5, rfl, h7⟩⟩ := h
  · exact ⟨none, 0, rfl, hb, Nat.le_refl _, Nat.zero_le _, trivial, fun e => by cases e⟩
  · refine ⟨_, cap, h0, hb, h2, h3, ?_, fun e => by cases e⟩
    have key : ∀ (l' : List VT), (∀ t ∈ l', t ∈ l) → ∀ i G', (∀ g ∈ G', g ∈ b :: G) → i + l'.length ≤ cap → OwnL W c i l' G' → LiesL W (· ∈ b :: G) false (some ⟨b, 0, none⟩) i l' := by
      intro l'
      induction l' with
      | nil => exact fun _ i G' _ _ _ => trivial
      | cons t ts ihl =>
        rintro hm i G' hG hi ⟨G1, G2, rfl, g1, g2⟩
        simp only [List.length_cons] at hi
        refine ⟨⟨b, 0, rowOf c i, rfl, List.mem_cons_self, ?_, ?_⟩, ihl (fun u hu => hm u (List.mem_cons_of_mem _ hu)) _ _ (fun g hg => hG g (List.mem_append_right _ hg)) (by omega) g2⟩
        · rw [Nat.zero_add]; exact cells_of_row h4 (by omega) rfl
        · exact Lies.same (p := (· ∈ G1)) (fun g hg => hG g (List.mem_append_left _ hg)) (fun _ _ => rfl) _ _ (ih t (hm t List.mem_cons_self) _ _ g1)
    exact key l (fun _ h => h) 0 G (fun _ h => List.mem_cons_of_mem _ h) (by omega) h7
theorem Own.cells {W : World} {t : VT} {v : Value} {F : List Nat} (h : Own W t v F) : ∃ A cap, v = .agg #[.int .u8 (t.k : Int), .int .i64 t.n, .string t.s, .slice A t.l.length cap, .int .i64 t.r] := (Own.lies _ _ _ h).cells

/-- What is known of the type of values. -/
theorem infoV : (Try.prog.info? 26).map (fun i => (i.zero, i.size, i.bytes)) = some (some (.agg #[.int .u8 0, .int .i64 0, .string ⟨#[]⟩, .slice none 0 0, .int .i64 0]), 5, 64) := by kernel_rfl
def zeroCells (n : Nat) : Array Value := madeCells #[.int .u8 0, .int .i64 0, .string ⟨#[]⟩, .slice none 0 0, .int .i64 0] (n * 5)
theorem zeroCells_size (n : Nat) : (zeroCells n).size = n * 5 := size_madeCells _ _
theorem run_make_values (l n : Nat) (hl : l ≤ n) (h : n ≤ 4294967296) (w : World) :
    (Instr.makeSlice 23 (.int .i64 (l : Int)) (.int .i64 (n : Int))).run Try.prog w = .ok (.slice (some ⟨w.heap.size, 0, none⟩) l n) (w.alloc (.cells (zeroCells n) 26)) := by
  obtain ⟨i, hi, hzz⟩ := Option.map_eq_some_iff.1 infoV
  simp only [Prod.mk.injEq] at hzz
  obtain ⟨hz, hs, hb⟩ := hzz
  have hr := run_make (P := Try.prog) w 23 26 i _ Try.underlying23 hi hz .i64 .i64 l n (by omega) (by omega) (by rw [hb]; omega) (by omega)
  simp only [Int.toNat_natCast, hs] at hr
  exact hr

/-- While own copies the parts. -/
structure OwnRun (k : Nat) (n : Int) (s : ByteArray) (r : Int) (l : List VT) (w : World) (j : Nat) (W : World) : Prop where
  box : Five W w.heap.size (.int .u8 (k : Int)) (.int .i64 n) (.string s) (.slice (some ⟨w.heap.size + 1 + 1, 0, none⟩) l.length l.length) (.int .i64 r)
  res : Five W (w.heap.size + 1) (.int .u8 0) (.int .i64 0) (.string ⟨#[]⟩) (.slice none 0 0) (.int .i64 0)
  row : ∃ c G, W.heap[w.heap.size + 1 + 1]? = some (.cells c 26 (0, 0)) ∧ c.size = l.length * 5 ∧ OwnL W c 0 (l.take j) G ∧ G.Nodup ∧ ∀ g ∈ G, w.heap.size + 1 + 1 < g ∧ g < W.heap.size
  below : Below w.heap.size w W
/-- A copy in memory of its own, laid since w. -/
def Fresh (w W : World) (t : VT) (v : Value) : Prop := ∃ F, Own W t v F ∧ F.Nodup ∧ ∀ g ∈ F, w.heap.size ≤ g ∧ g < W.heap.size

theorem ownRun_start (k : Nat) (n : Int) (s : ByteArray) (r : Int) (l : List VT) (w : World) : OwnRun k n s r l w 0
    (((w.alloc (.cells #[.int .u8 (k : Int), .int .i64 n, .string s, .slice (some ⟨w.heap.size + 1 + 1, 0, none⟩) l.length l.length, .int .i64 r] 26)).alloc (.cells #[.int .u8 0, .int .i64 0, .string ⟨#[]⟩, .slice none 0 0, .int .i64 0] 26)).alloc (.cells (zeroCells l.length) 26)) := by
  refine ⟨((Five.new w _ _ _ _ _).alloc _).alloc _, ?_, ⟨_, [], ?_, zeroCells_size _, rfl, List.nodup_nil, fun _ h => absurd h List.not_mem_nil⟩, (((Below.refl _ w).alloc (Nat.le_refl _) _).alloc (by simp) _).alloc (by simp <;> omega) _⟩
  · have := Five.new (w.alloc (.cells #[.int .u8 (k : Int), .int .i64 n, .string s, .slice (some ⟨w.heap.size + 1 + 1, 0, none⟩) l.length l.length, .int .i64 r] 26)) (.int .u8 0) (.int .i64 0) (.string ⟨#[]⟩) (.slice none 0 0) (.int .i64 0)
    rw [World.size_alloc] at this
    exact this.alloc _
  · have := heap_alloc_new ((w.alloc (.cells #[.int .u8 (k : Int), .int .i64 n, .string s, .slice (some ⟨w.heap.size + 1 + 1, 0, none⟩) l.length l.length, .int .i64 r] 26)).alloc (.cells #[.int .u8 0, .int .i64 0, .string ⟨#[]⟩, .slice none 0 0, .int .i64 0] 26)) (.cells (zeroCells l.length) 26)
    rw [World.size_alloc, World.size_alloc] at this
    exact this
/-- The cells of a row that is there, whatever it holds. -/
theorem row_there {W : World} {b i : Nat} {c : Array Value} {t : TypeId} (h : W.heap[b]? = some (.cells c t (0, 0))) (hi : i * 5 + 4 < c.size) :
    (∃ u, W.cell? ⟨b, i * 5, none⟩ = some u) ∧ (∃ u, W.cell? ⟨b, i * 5 + 1, none⟩ = some u) ∧ (∃ u, W.cell? ⟨b, i * 5 + 2, none⟩ = some u) ∧ (∃ u, W.cell? ⟨b, i * 5 + 3, none⟩ = some u) ∧ (∃ u, W.cell? ⟨b, i * 5 + 4, none⟩ = some u) := by
  obtain ⟨h0, h1, h2, h3, h4⟩ := (cells_of_row h hi rfl).get
  exact ⟨⟨_, h0⟩, ⟨_, h1⟩, ⟨_, h2⟩, ⟨_, h3⟩, ⟨_, h4⟩⟩
theorem froz_there {W : World} {b : Nat} {c : Array Value} {t : TypeId} (h : W.heap[b]? = some (.cells c t (0, 0))) (i : Nat) : W.frozen? ⟨b, i, none⟩ = false := by simp [World.frozen?, h]
/-- Behind the call that copies the j-th part. -/
theorem ownRun_step {k : Nat} {n : Int} {s : ByteArray} {r : Int} {l : List VT} {w W W' : World} {j : Nat} {o : Obj} {A' : Option Addr} {cap' : Nat} (h : OwnRun k n s r l w j W) (hj : j < l.length) (hb : Below (W.alloc o).heap.size (W.alloc o) W')
    (hf : Fresh (W.alloc o) W' l[j] (.agg #[.int .u8 (l[j].k : Int), .int .i64 l[j].n, .string l[j].s, .slice A' l[j].l.length cap', .int .i64 l[j].r])) :
    OwnRun k n s r l w (j + 1) (((((W'.setCell ⟨w.heap.size + 1 + 1, j * 5, none⟩ (.int .u8 (l[j].k : Int))).setCell ⟨w.heap.size + 1 + 1, j * 5 + 1, none⟩ (.int .i64 l[j].n)).setCell ⟨w.heap.size + 1 + 1, j * 5 + 2, none⟩ (.string l[j].s)).setCell ⟨w.heap.size + 1 + 1, j * 5 + 3, none⟩ (.slice A' l[j].l.length cap')).setCell ⟨w.heap.size + 1 + 1, j * 5 + 4, none⟩ (.int .i64 l[j].r)) := by
  obtain ⟨c, G, h1, h2, h3, h4, h5⟩ := h.row
  obtain ⟨F, g1, g2, g3⟩ := hf
  have hs : W.heap.size < (W.alloc o).heap.size := by simp
  have hsz := hb.size
  have hrow : W'.heap[w.heap.size + 1 + 1]? = some (.cells c 26 (0, 0)) := by
    have hlt := (Array.getElem?_eq_some_iff.1 h1).1
    exact (hb.block _ (by omega)).trans ((heap_alloc_old W o hlt).trans h1)
  have hne : ∀ g, g ≠ w.heap.size + 1 + 1 → (((((W'.setCell ⟨w.heap.size + 1 + 1, j * 5, none⟩ (.int .u8 (l[j].k : Int))).setCell ⟨w.heap.size + 1 + 1, j * 5 + 1, none⟩ (.int .i64 l[j].n)).setCell ⟨w.heap.size + 1 + 1, j * 5 + 2, none⟩ (.string l[j].s)).setCell ⟨w.heap.size + 1 + 1, j * 5 + 3, none⟩ (.slice A' l[j].l.length cap')).setCell ⟨w.heap.size + 1 + 1, j * 5 + 4, none⟩ (.int .i64 l[j].r)).heap[g]? = W'.heap[g]? := fun g hg => heap_setRow_other _ _ _ _ _ hg
  have hsize : (((((W'.setCell ⟨w.heap.size + 1 + 1, j * 5, none⟩ (.int .u8 (l[j].k : Int))).setCell ⟨w.heap.size + 1 + 1, j * 5 + 1, none⟩ (.int .i64 l[j].n)).setCell ⟨w.heap.size + 1 + 1, j * 5 + 2, none⟩ (.string l[j].s)).setCell ⟨w.heap.size + 1 + 1, j * 5 + 3, none⟩ (.slice A' l[j].l.length cap')).setCell ⟨w.heap.size + 1 + 1, j * 5 + 4, none⟩ (.int .i64 l[j].r)).heap.size = W'.heap.size := by simp
  have hbw := h.below.size
  refine ⟨?_, ?_, ⟨setRow c j _ _ _ _ _, G ++ F, heap_setRow _ _ _ _ _ hrow, by rw [setRow_size, h2], ?_, ?_, ?_⟩, ?_⟩
  · have := (h.box.alloc o).below hb (by have := (h.box.alloc o).lt; omega)
    exact ⟨(hne _ (by omega)).trans this.row⟩
  · have := (h.res.alloc o).below hb (by have := (h.res.alloc o).lt; omega)
    exact ⟨(hne _ (by omega)).trans this.row⟩
  · rw [take_get hj]
    refine OwnL.append (OwnL.same (fun g hg => (hne g (by have := (h5 g hg).1; omega)).trans ((hb.block g (by have := (h5 g hg).2; omega)).trans (heap_alloc_old W o (h5 g hg).2))) (fun q _ hq => rowOf_other _ _ _ _ _ _ (by simp [List.length_take] at hq; omega)) h3) ?_
    have hl : 0 + (l.take j).length = j := by simp [List.length_take]; omega
    refine ⟨F, [], by simp, ?_, rfl⟩
    rw [hl, rowOf_set _ _ _ _ _ (by omega)]
    exact Own.same_all _ _ _ (fun g hg => hne g (by have := (g3 g hg).1; have := (Array.getElem?_eq_some_iff.1 h1).1; omega)) g1
  · refine List.nodup_append.2 ⟨h4, g2, fun a ha b hb' e => ?_⟩
    have := (h5 a ha).2; have := (g3 b hb').1; omega
  · intro g hg
    rw [hsize]
    rcases List.mem_append.1 hg with hg | hg
    · have := h5 g hg; omega
    · have := g3 g hg; have := (Array.getElem?_eq_some_iff.1 h1).1; omega
  · refine ((((((h.below.alloc hbw o).trans (hb.mono (by omega))).setCell (p := ⟨w.heap.size + 1 + 1, j * 5, none⟩) (by simp; omega) _).setCell (p := ⟨w.heap.size + 1 + 1, j * 5 + 1, none⟩) (by simp; omega) _).setCell (p := ⟨w.heap.size + 1 + 1, j * 5 + 2, none⟩) (by simp; omega) _).setCell (p := ⟨w.heap.size + 1 + 1, j * 5 + 3, none⟩) (by simp; omega) _).setCell (p := ⟨w.heap.size + 1 + 1, j * 5 + 4, none⟩) (by simp; omega) _

/-- A result that stands in a box of five cells. -/
theorem ret_five {fn : Func} {u : Tmp} (h : fn.results = #[.cell u 26]) {R : Ending → World → Prop} {tmps : Array Value} {W : World} {B : Nat} {c0 c1 c2 c3 c4 : Value} (hF : Five W B c0 c1 c2 c3 c4)
    (hs : tmps[u]? = some (.pointer (some ⟨B, 0, none⟩))) (hR : R (.returned (.agg #[c0, c1, c2, c3, c4])) W) : bodyPost Try.prog fn R Exit.ret { tmps := tmps, defers := [] } W := by
  refine bodyPost_ret (v := .agg #[c0, c1, c2, c3, c4]) ?_ rfl hR
  have e0 := hF.e0
  have e1 := hF.e1
  have e2 := hF.e2
  have e3 := hF.e3
  have e4 := hF.e4
  simp [results, h, go_sem, hs, e0, e1, e2, e3, e4]

theorem Fresh.cells {w W : World} {t : VT} {v : Value} (h : Fresh w W t v) : ∃ A cap, v = .agg #[.int .u8 (t.k : Int), .int .i64 t.n, .string t.s, .slice A t.l.length cap, .int .i64 t.r] := by
  obtain ⟨F, h, _⟩ := h
  exact h.cells
theorem ownRun_behind {k : Nat} {n : Int} {s : ByteArray} {r : Int} {l : List VT} {w W W' : World} {j : Nat} {o : Obj} (h : OwnRun k n s r l w j W) (hj : j < l.length) (hb : Below (W.alloc o).heap.size (W.alloc o).drew W') :
    W'.cell? ⟨w.heap.size, 3, none⟩ = some (.slice (some ⟨w.heap.size + 1 + 1, 0, none⟩) l.length l.length) ∧ (∃ u, W'.cell? ⟨w.heap.size + 1 + 1, j * 5, none⟩ = some u) ∧ (∃ u, W'.cell? ⟨w.heap.size + 1 + 1, j * 5 + 1, none⟩ = some u) ∧
    (∃ u, W'.cell? ⟨w.heap.size + 1 + 1, j * 5 + 2, none⟩ = some u) ∧ (∃ u, W'.cell? ⟨w.heap.size + 1 + 1, j * 5 + 3, none⟩ = some u) ∧ (∃ u, W'.cell? ⟨w.heap.size + 1 + 1, j * 5 + 4, none⟩ = some u) ∧ (∀ i, W'.frozen? ⟨w.heap.size + 1 + 1, i, none⟩ = false) := by
  obtain ⟨c, G, h1, h2, _⟩ := h.row
  have hlt := (Array.getElem?_eq_some_iff.1 h1).1
  have hrow : W'.heap[w.heap.size + 1 + 1]? = some (.cells c 26 (0, 0)) := (hb.block _ (by simp; omega)).trans ((heap_alloc_old W o hlt).trans h1)
  obtain ⟨a0, a1, a2, a3, a4⟩ := row_there (i := j) hrow (by omega)
  exact ⟨(((h.box.alloc o).drew.below hb (by have := (h.box.alloc o).lt; omega))).e3, a0, a1, a2, a3, a4, froz_there hrow⟩

theorem ownRun_done {k : Nat} {n : Int} {s : ByteArray} {r : Int} {l : List VT} {w W : World} {v0 v1 v2 v3 v4 : Value} (h : OwnRun k n s r l w l.length W) (h0 : 0 < l.length) (hb : Bnd k n s r l.length) :
    Fresh w (((((W.setCell ⟨w.heap.size + 1, 0, none⟩ v0).setCell ⟨w.heap.size + 1, 1, none⟩ v1).setCell ⟨w.heap.size + 1, 2, none⟩ v2).setCell ⟨w.heap.size + 1, 3, none⟩ v3).setCell ⟨w.heap.size + 1, 4, none⟩ v4) (.mk k n s r l)
      (.agg #[.int .u8 (k : Int), .int .i64 n, .string s, .slice (some ⟨w.heap.size + 1 + 1, 0, none⟩) l.length l.length, .int .i64 r]) := by
  obtain ⟨c, G, h1, h2, h3, h4, h5⟩ := h.row
  rw [List.take_length] at h3
  have hlt := (Array.getElem?_eq_some_iff.1 h1).1
  refine ⟨(w.heap.size + 1 + 1) :: G, ⟨hb, .inr ⟨_, l.length, c, G, rfl, h0, Nat.le_refl _, hb.len, (heap_set5_other _ _ _ _ _ (by omega)).trans h1, h2, rfl, ?_⟩⟩, ?_, ?_⟩
  · exact OwnL.same (fun g hg => heap_set5_other _ _ _ _ _ (by have := h5 g hg; omega)) (fun _ _ _ => rfl) h3
  · refine List.nodup_cons.2 ⟨fun hm => ?_, h4⟩
    have := h5 _ hm; omega
  · intro g hg
    have hsz : (((((W.setCell ⟨w.heap.size + 1, 0, none⟩ v0).setCell ⟨w.heap.size + 1, 1, none⟩ v1).setCell ⟨w.heap.size + 1, 2, none⟩ v2).setCell ⟨w.heap.size + 1, 3, none⟩ v3).setCell ⟨w.heap.size + 1, 4, none⟩ v4).heap.size = W.heap.size := by simp
    rw [hsz]
    rcases List.mem_cons.1 hg with rfl | hg
    · omega
    · have := h5 g hg; omega

set_option maxRecDepth 100000 in
set_option maxHeartbeats 4000000 in
theorem own_w (p : Nat → Prop) (m : Bool) : ∀ (t : VT) (v : Value) (w : World), Lies w p m t v → (∀ b, p b → b < w.heap.size) → t.parts ≤ 4294967296 →
    Calls Try.prog 62 #[v] w fun e w' => ∃ v', e = .returned v' ∧ Fresh w w' t v' ∧ Below w.heap.size w w' := by
  refine VT.ind fun k n s r l ih v w h hpw hparts => ?_
  have hbnd := h.bnd
  obtain ⟨A, cap, rfl, ⟨hk, hn, hr, hs, hl⟩, _, _, hL, _⟩ := h
  have hpar : VT.parts (.mk k n s r l) = 1 + VT.partsL l := rfl
  have hlen := VT.partsL_len l
  have HPW := Lib.hid hpw
  have HL := Lib.hid hL
  have IH := Lib.hid ih
  have HBN := Lib.hid hbnd
  clear hL ih hpw hbnd
  have hlen9 : l.length ≤ 4294967295 := by omega
  have HPar := Lib.hid (show VT.partsL l ≤ 4294967295 by omega)
  clear hparts hpar hlen
  go_enter Try.func62, Try.ntmps62
  by_cases h0 : l.length = 0
  · obtain rfl := List.length_eq_zero_iff.1 h0
    go_wp2
    go_loopw [18] (fun iv wr => iv = .int .i64 0 ∧ wr = ((w.alloc (.cells #[.int .u8 (k : Int), .int .i64 n, .string s, .slice none 0 0, .int .i64 r] 26)).alloc (.cells #[.int .u8 0, .int .i64 0, .string ⟨#[]⟩, .slice none 0 0, .int .i64 0] 26))) (fun _ _ => 0)
    case atStart => exact ⟨rfl, rfl⟩
    case round =>
      obtain ⟨rfl, rfl⟩ := hrel
      go_wp2
      refine ret_five (B := w.heap.size + 1) rfl (by have := Five.new (w.alloc (.cells #[.int .u8 (k : Int), .int .i64 n, .string s, .slice none 0 0, .int .i64 r] 26)) (.int .u8 (k : Int)) (.int .i64 n) (.string s) (.slice none 0 0) (.int .i64 r); rw [World.size_alloc] at this; exact this) rfl ?_
      exact ⟨_, rfl, ⟨[], ⟨HBN.out, .inl ⟨rfl, rfl, rfl⟩⟩, List.nodup_nil, fun _ h => absurd h List.not_mem_nil⟩, ((Below.refl _ w).alloc (Nat.le_refl _) _).alloc (by simp) _⟩
  · have q0 : 0 < l.length := by omega
    have hmk := run_make_values l.length l.length (Nat.le_refl _) (by omega)
    have hst := Lib.hid (ownRun_start k n s r l w)
    go_wp2
    clear hmk
    go_loopw [18] (fun iv wr => ∃ j : Nat, j ≤ l.length ∧ iv = .int .i64 (j : Int) ∧ OwnRun k n s r l w j wr) (fun iv _ => l.length - (intOf iv).toNat)
    case atStart => exact ⟨0, Nat.zero_le _, rfl, hst.out⟩
    case round =>
      obtain ⟨j, hj, rfl, hrun⟩ := hrel
      clear hst
      by_cases hlt : j < l.length
      · obtain ⟨b, off, A', cap', rfl, hbt, hrow, hLj⟩ := HL.out.elem j hlt
        obtain ⟨g0, g1, g2, g3, g4⟩ := (hrow.same (hrun.below.block b (HPW.out b hbt))).get
        have hsz := hrun.below.size
        have hbw := HPW.out b hbt
        have hbr : b < wr.heap.size := by omega
        have HH := Lib.hid (fun W (hW : Below w.heap.size w W) => IH.out l[j] (List.getElem_mem hlt) _ W (hLj.below hW HPW.out) (fun b hb => Nat.lt_of_lt_of_le (HPW.out b hb) hW.size) (Nat.le_trans (VT.parts_le hlt) (by have := HPar.out; omega)))
        have HR := Lib.hid hrun
        have HBj := Lib.hid hLj.bnd
        have HST := Lib.hid (fun W' A2 cap2 => @ownRun_step k n s r l w wr W' j (.cells #[.int .u8 (l[j].k : Int), .int .i64 l[j].n, .string l[j].s, .slice A' l[j].l.length cap', .int .i64 l[j].r] 26) A2 cap2 hrun hlt)
        have X0 := (hrun.box.alloc (.cells #[.int .u8 (l[j].k : Int), .int .i64 l[j].n, .string l[j].s, .slice A' l[j].l.length cap', .int .i64 l[j].r] 26)).e3
        clear hrun hrow hLj
        have hmx : Try.prog.follows .mixedOrders = true := by kernel_rfl
        go_wp2
        go_region_with (first | (go_at_call 62; refine (HH.out _ (((HR.out.below.alloc hsz _)).drew)).mono ?_; rintro e w' ⟨v', rfl, hF, hb⟩; obtain ⟨A2, cap2, rfl⟩ := hF.cells; obtain ⟨x3, ⟨u0, y0⟩, ⟨u1, y1⟩, ⟨u2, y2⟩, ⟨u3, y3⟩, ⟨u4, y4⟩, fz⟩ := ownRun_behind HR.out hlt hb; have z0 := fz (j * 5); have z1 := fz (j * 5 + 1); have z2 := fz (j * 5 + 2); have z3 := fz (j * 5 + 3); have z4 := fz (j * 5 + 4); have HF := Lib.hid (And.intro hF hb); clear hF hb fz))
        all_goals
          have HN := Lib.hid (HST.out w' A2 cap2 (((Below.refl _ _).drew).trans HF.out.2) HF.out.1)
          go_wp2
          go_roundw
          case rel => exact ⟨j + 1, by omega, by go_num, HN.out⟩
          case measure => simp [intOf]; omega
      · obtain rfl : j = l.length := by omega
        have X0 := hrun.box.e0
        have X1 := hrun.box.e1
        have X2 := hrun.box.e2
        have X3 := hrun.box.e3
        have X4 := hrun.box.e4
        have Y0 := hrun.res.e0
        have Y1 := hrun.res.e1
        have Y2 := hrun.res.e2
        have Y3 := hrun.res.e3
        have Y4 := hrun.res.e4
        have Z0 := hrun.res.froz 0
        have Z1 := hrun.res.froz 1
        have Z2 := hrun.res.froz 2
        have Z3 := hrun.res.froz 3
        have Z4 := hrun.res.froz 4
        have HR := Lib.hid hrun
        clear hrun
        go_wp2
        refine ret_five (B := w.heap.size + 1) rfl (HR.out.res.set5 _ _ _ _ _) rfl ?_
        exact ⟨_, rfl, ownRun_done HR.out (by omega) HBN.out, below_set5 HR.out.below (by omega) _ _ _ _ _⟩
end Go.Proofs.Ytckgmdlacaiacaa
