/-
  value.Each: what it hands out.
-/
import Derived.Test.YtckgmdlacaiacaaAt
namespace Go.Proofs.Ytckgmdlacaiacaa
open Go.RowKit Go.Shelf
attribute [local go_sem] Oper.semAt_some

/-- What Each leaves: two boxes of its own, the one of the error, the other one of the copy. -/
def EachPost (w : World) (t : VT) (e : Ending) (W : World) : Prop :=
  ∃ eb vb : Nat, e = .returned (.func (.func 64) #[] #[.pointer (some ⟨eb, 0, none⟩), .pointer (some ⟨vb, 0, none⟩)]) ∧ Below w.heap.size w W ∧ w.heap.size ≤ vb ∧ w.heap.size ≤ eb ∧
    ((t.may = true ∧ W.cell? ⟨eb, 0, none⟩ = some (.int .i64 0) ∧ ∃ A cap, Five W vb (.int .u8 (t.k : Int)) (.int .i64 t.n) (.string t.s) (.slice A t.l.length cap) (.int .i64 t.r) ∧ Fresh w W t (.agg #[.int .u8 (t.k : Int), .int .i64 t.n, .string t.s, .slice A t.l.length cap, .int .i64 t.r])) ∨
     (t.may = false ∧ W.cell? ⟨eb, 0, none⟩ = some (.int .i64 2)))

theorem cell_new1 (w : World) (x : Value) (ty : TypeId) : (w.alloc (.cells #[x] ty)).cell? ⟨w.heap.size, 0, none⟩ = some x := by
  have h := heap_alloc_new w (.cells #[x] ty)
  unfold World.cell?
  rw [h]
  rfl
set_option maxRecDepth 100000 in
set_option maxHeartbeats 8000000 in
theorem Each_w {pp : Nat → Prop} {m : Bool} (t : VT) (v : Value) (w : World) (h : Lies w pp m t v) (hpp : ∀ b, pp b → b < w.heap.size) :
    Calls Try.prog 27 #[v] w (EachPost w t) := by
  obtain ⟨A, cap, rfl⟩ := h.cells
  have HO := Lib.hid (fun W hW => Own_w t _ W (h.below (W' := W) hW hpp) (fun b hb => Nat.lt_of_lt_of_le (hpp b hb) (Below.size hW)))
  clear h hpp
  generalize hk0 : t.k = a0 at *
  generalize hk1 : t.n = a1 at *
  generalize hk2 : t.s = a2 at *
  generalize hk3 : t.l.length = a3 at *
  generalize hk4 : t.r = a4 at *
  have X0 := Five.new w (.int .u8 (a0 : Int)) (.int .i64 a1) (.string a2) (.slice A a3 cap) (.int .i64 a4)
  have hb0 := Lib.hid ((Below.refl w.heap.size w).alloc (Nat.le_refl _) (.cells #[.int .u8 (a0 : Int), .int .i64 a1, .string a2, .slice A a3 cap, .int .i64 a4] 26))
  have HX := Lib.hid X0
  have HK := Lib.hid (And.intro hk0 (And.intro hk1 (And.intro hk2 (And.intro hk3 hk4))))
  clear X0 hk0 hk1 hk2 hk3 hk4
  go_enter Try.func27, Try.ntmps27
  go_wp2_with fail
  refine (HO.out _ hb0.out).mono ?_
  rintro e w1 ⟨hb, hres⟩
  have hB := hb0.out.trans (hb.mono (by simp))
  have hsz := hB.size
  have HB := Lib.hid hB
  have hs1 := hb.size
  simp only [World.size_alloc] at hs1
  clear hb hB HO
  rcases hres with ⟨hm, v', rfl, hF⟩ | ⟨hm, rfl⟩
  · obtain ⟨A2, cap2, rfl⟩ := hF.cells
    rw [HK.out.1, HK.out.2.1, HK.out.2.2.1, HK.out.2.2.2.1, HK.out.2.2.2.2] at hF ⊢
    have HF := Lib.hid (And.intro hm hF)
    clear hm hF
    go_wp2
    go_ret
    refine ⟨w1.heap.size + 1, w1.heap.size, rfl, (HB.out.alloc hsz _).alloc (by simp; omega) _, by omega, by omega, .inl ⟨HF.out.1, ?_, A2, cap2, ?_, ?_⟩⟩
    · have hc := cell_new1 (w1.alloc (.cells #[.int .u8 (a0 : Int), .int .i64 a1, .string a2, .slice A2 a3 cap2, .int .i64 a4] 26)) (.int .i64 0) 34
      rw [World.size_alloc] at hc
      exact hc
    · rw [HK.out.1, HK.out.2.1, HK.out.2.2.1, HK.out.2.2.2.1, HK.out.2.2.2.2]; exact (Five.new w1 _ _ _ _ _).alloc _
    · rw [HK.out.1, HK.out.2.1, HK.out.2.2.1, HK.out.2.2.2.1, HK.out.2.2.2.2]; exact ((HF.out.2.mono (by simp) (fun _ _ _ => rfl) (Nat.le_refl _)).alloc _).alloc _
  · have HF := Lib.hid hm
    clear hm
    go_wp2
    go_ret
    refine ⟨w1.heap.size + 1, w1.heap.size, rfl, (HB.out.alloc hsz _).alloc (by simp; omega) _, by omega, by omega, .inr ⟨HF.out, ?_⟩⟩
    have hc := cell_new1 (w1.alloc (.cells #[.int .u8 0, .int .i64 0, .string ⟨#[]⟩, .slice none 0 0, .int .i64 0] 26)) (.int .i64 2) 34
    rw [World.size_alloc] at hc
    exact hc
end Go.Proofs.Ytckgmdlacaiacaa
