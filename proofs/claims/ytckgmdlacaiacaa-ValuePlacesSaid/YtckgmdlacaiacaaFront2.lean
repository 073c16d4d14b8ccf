/-
  value.Read.
-/
import Derived.Test.YtckgmdlacaiacaaFront
namespace Go.Proofs.Ytckgmdlacaiacaa
open Go.RowKit Go.Shelf
attribute [local go_sem] Oper.semAt_some

theorem Fresh.alloc {w W : World} {t : VT} {v : Value} (h : Fresh w W t v) (o : Obj) : Fresh w (W.alloc o) t v := h.mono (Nat.le_refl _) (fun g _ hg => heap_alloc_old W o hg) (by simp)
/-- What Read answers. -/
def readRes (l : List UInt8) : Option VT × Int :=
  if 262144 < l.length then (none, 4) else match readT 16 512 l with
    | some (t, []) => (some t, 0)
    | _ => (none, 20)
def ReadRes (w : World) (res : Option VT × Int) (e : Ending) (W : World) : Prop :=
  Below w.heap.size w W ∧ match res.1 with
    | none => e = .returned (.tuple #[zeroVal, .int .i64 res.2])
    | some t => ∃ v, e = .returned (.tuple #[v, .int .i64 res.2]) ∧ Fresh w W t v

set_option maxRecDepth 100000 in
set_option maxHeartbeats 8000000 in
theorem Read_w (l : List UInt8) (w : World) (hl : l.length ≤ maxLen) :
    Calls Try.prog 51 #[.string (strL l)] w (ReadRes w (readRes l)) := by
  have X0 := Five.new w (.int .u8 0) (.int .i64 0) (.string ⟨#[]⟩) (.slice none 0 0) (.int .i64 0)
  have B0 := (Below.refl w.heap.size w).alloc (Nat.le_refl _) (.cells #[.int .u8 0, .int .i64 0, .string ⟨#[]⟩, .slice none 0 0, .int .i64 0] 26)
  have H := Lib.hid (Front_w l (w.alloc (.cells #[.int .u8 0, .int .i64 0, .string ⟨#[]⟩, .slice none 0 0, .int .i64 0] 26)) hl)
  have hsz := strL_size l
  unfold maxLen at hl
  have HX := Lib.hid X0
  have HB := Lib.hid B0
  have hr : readRes l = if 262144 < l.length then ((none, 4) : Option VT × Int) else match readT 16 512 l with
    | some (t, []) => (some t, 0)
    | _ => (none, 20) := rfl
  have HR := Lib.hid hr
  clear hr
  generalize readRes l = R at *
  by_cases h1 : 262144 < l.length
  · have hR := Lib.hid (HR.out.trans (if_pos h1))
    have f0 := X0.e0
    have f1 := X0.e1
    have f2 := X0.e2
    have f3 := X0.e3
    have f4 := X0.e4
    have q1 : decide ((262144 : Int) < ((strL l).size : Int)) = true := decide_eq_true (by omega)
    clear X0 B0 H
    go_enter Try.func51, Try.ntmps51
    go_wp2
    refine ret_five2 (B := w.heap.size) rfl HX.out rfl rfl ?_
    rw [hR.out]
    exact ⟨HB.out, rfl⟩
  have hR := Lib.hid (HR.out.trans (if_neg h1))
  have q1 : decide ((262144 : Int) < ((strL l).size : Int)) = false := decide_eq_false (by omega)
  clear X0 B0 HR
  generalize readT 16 512 l = o at *
  go_enter Try.func51, Try.ntmps51
  go_wp2_with fail
  refine H.out.mono ?_
  rintro e w1 ⟨hB1, hres⟩
  have X1 := HX.out.below hB1 HX.out.lt
  have f0 := X1.e0
  have f1 := X1.e1
  have f2 := X1.e2
  have f3 := X1.e3
  have f4 := X1.e4
  have z0 := X1.froz
  have hXB := X1.lt
  have HX1 := Lib.hid X1
  have HB1 := Lib.hid (HB.out.trans (hB1.mono (by simp)))
  have hs1 := hB1.size
  simp only [World.size_alloc] at hs1
  clear X1 hB1 H
  cases o with
  | none =>
    obtain rfl := hres
    have hR2 := Lib.hid (show R = (none, 20) from hR.out)
    unfold zeroVal
    go_wp2
    refine ret_five2 (B := w.heap.size) rfl ((HX1.out.set5 _ _ _ _ _).alloc _) rfl rfl ?_
    rw [hR2.out]
    exact ⟨(below_set5 HB1.out (Nat.le_refl _) _ _ _ _ _).alloc (by simp; omega) _, rfl⟩
  | some x =>
    obtain ⟨t, r⟩ := x
    obtain ⟨v, rfl, hF⟩ := hres
    obtain ⟨A2, cap2, rfl⟩ := hF.cells
    have HF := Lib.hid hF
    clear hF
    cases r with
    | nil =>
      have hR2 := Lib.hid (show R = (some t, 0) from hR.out)
      have hse : (strL []).toList = [] := by kernel_rfl
      go_wp2
      refine ret_five2 (B := w.heap.size) rfl ((HX1.out.set5 _ _ _ _ _).alloc _) rfl rfl ?_
      rw [hR2.out]
      refine ⟨(below_set5 HB1.out (Nat.le_refl _) _ _ _ _ _).alloc (by simp; omega) _, _, rfl, ?_⟩
      exact (HF.out.box5 (w0 := w) (B := w.heap.size) (by simp only [World.size_alloc]; omega) (by simp only [World.size_alloc]; omega) _ _ _ _ _).alloc _
    | cons b r =>
      have hR2 := Lib.hid (show R = (none, 20) from hR.out)
      have hse : (strL (b :: r)).toList.isEmpty = false := by
        rw [ByteArray.toList_eq]
        rfl
      go_wp2
      refine ret_five2 (B := w.heap.size) rfl ((HX1.out.set5 _ _ _ _ _).alloc _) rfl rfl ?_
      rw [hR2.out]
      exact ⟨(below_set5 HB1.out (Nat.le_refl _) _ _ _ _ _).alloc (by simp; omega) _, rfl⟩
end Go.Proofs.Ytckgmdlacaiacaa
