/-
  value.Front, value.Read.
-/
import Derived.Test.YtckgmdlacaiacaaReadL
namespace Go.Proofs.Ytckgmdlacaiacaa
open Go.RowKit Go.Shelf
attribute [local go_sem] Oper.semAt_some

theorem Fresh.drew {w W : World} {t : VT} {v : Value} (h : Fresh w W t v) : Fresh w W.drew t v := h.mono (Nat.le_refl _) (fun _ _ _ => rfl) (Nat.le_refl _)
theorem Fresh.box5 {w w0 W : World} {t : VT} {v : Value} {B : Nat} (h : Fresh w W t v) (h0 : w0.heap.size ≤ w.heap.size) (hB : B < w.heap.size) (v0 v1 v2 v3 v4 : Value) : Fresh w0 (((((W.setCell ⟨B, 0, none⟩ v0).setCell ⟨B, 1, none⟩ v1).setCell ⟨B, 2, none⟩ v2).setCell ⟨B, 3, none⟩ v3).setCell ⟨B, 4, none⟩ v4) t v :=
  h.mono h0 (fun g g1 _ => heap_set5_other _ _ _ _ _ (by omega)) (by simp)
/-- What Front leaves. -/
def FrontPost (w : World) (res : Option (VT × List UInt8)) (e : Ending) (W : World) : Prop :=
  Below w.heap.size w W ∧ match res with
    | none => e = .returned (.tuple #[zeroVal, .string ⟨#[]⟩, .int .i64 20])
    | some (t, r) => ∃ v, e = .returned (.tuple #[v, .string (strL r), .int .i64 0]) ∧ Fresh w W t v

set_option maxRecDepth 100000 in
set_option maxHeartbeats 8000000 in
theorem Front_w (l : List UInt8) (w : World) (hl : l.length ≤ maxLen) :
    Calls Try.prog 53 #[.string (strL l)] w (FrontPost w (readT 16 512 l)) := by
  have X0 := (Five.new w (.int .u8 0) (.int .i64 0) (.string ⟨#[]⟩) (.slice none 0 0) (.int .i64 0)).alloc (.cells #[.string (strL l)] 9)
  have B0 := ((Below.refl w.heap.size w).alloc (Nat.le_refl _) (.cells #[.int .u8 0, .int .i64 0, .string ⟨#[]⟩, .slice none 0 0, .int .i64 0] 26)).alloc (by simp) (.cells #[.string (strL l)] 9)
  have hL : Left ((w.alloc (.cells #[.int .u8 0, .int .i64 0, .string ⟨#[]⟩, .slice none 0 0, .int .i64 0] 26)).alloc (.cells #[.string (strL l)] 9)) (w.heap.size + 1) l := by
    refine ⟨?_⟩
    have := heap_alloc_new (w.alloc (.cells #[.int .u8 0, .int .i64 0, .string ⟨#[]⟩, .slice none 0 0, .int .i64 0] 26)) (.cells #[.string (strL l)] 9)
    rw [World.size_alloc] at this
    exact this
  have H := Lib.hid (read_w (w.heap.size + 1) 16 (Nat.le_refl _) 512 l _ hL hl (Nat.le_refl _))
  have HX := Lib.hid X0
  have HB := Lib.hid B0
  clear X0 B0 hL
  generalize readT 16 512 l = o at *
  go_enter Try.func53, Try.ntmps53
  go_wp2_with fail
  refine H.out.mono ?_
  rintro e w1 ⟨hC1, hres⟩
  have X1 := HX.out.chg1 hC1 (by omega)
  have f0 := X1.e0
  have f1 := X1.e1
  have f2 := X1.e2
  have f3 := X1.e3
  have f4 := X1.e4
  have z0 := X1.froz
  have hXB := X1.lt
  have HX1 := Lib.hid X1
  have hB1 := HB.out.trans (hC1.to_below (B := w.heap.size) (by simp only [World.size_alloc]; omega) (fun g hg => by simp at hg; omega))
  have HB1 := Lib.hid hB1
  have hsz := hC1.size
  simp only [World.size_alloc] at hsz
  clear X1 hC1 hB1 H
  cases o with
  | none =>
    obtain rfl := hres
    unfold zeroVal
    go_wp2
    refine ret_five3 (B := w.heap.size) rfl ((HX1.out.set5 _ _ _ _ _).set5 _ _ _ _ _) rfl rfl rfl ?_
    exact ⟨below_set5 (below_set5 HB1.out (Nat.le_refl _) _ _ _ _ _) (Nat.le_refl _) _ _ _ _ _, rfl⟩
  | some x =>
    obtain ⟨t, r⟩ := x
    obtain ⟨hL3, v, rfl, hF⟩ := hres
    obtain ⟨A2, cap2, rfl⟩ := hF.cells
    have d0 := hL3.cell
    have dlt := hL3.lt
    have HLF := Lib.hid (And.intro hL3 hF)
    clear hL3 hF
    go_wp2
    go_region_with (fail)
    all_goals go_wp2
    all_goals
      refine ret_five3 (B := w.heap.size) rfl ((HX1.out.set5 _ _ _ _ _).set5 _ _ _ _ _).drew rfl rfl rfl ?_
      refine ⟨(below_set5 (below_set5 HB1.out (Nat.le_refl _) _ _ _ _ _) (Nat.le_refl _) _ _ _ _ _).drew, _, rfl, ?_⟩
      have h2 := HLF.out.2.box5 (w0 := (w.alloc (.cells #[.int .u8 0, .int .i64 0, .string ⟨#[]⟩, .slice none 0 0, .int .i64 0] 26))) (B := w.heap.size) (by simp only [World.size_alloc]; omega) (by simp only [World.size_alloc]; omega) (.int .u8 (t.k : Int)) (.int .i64 t.n) (.string t.s) (.slice A2 t.l.length cap2) (.int .i64 t.r)
      exact (h2.box5 (w0 := w) (B := w.heap.size) (by simp only [World.size_alloc]; omega) (by simp only [World.size_alloc]; omega) _ _ _ _ _).drew
end Go.Proofs.Ytckgmdlacaiacaa
