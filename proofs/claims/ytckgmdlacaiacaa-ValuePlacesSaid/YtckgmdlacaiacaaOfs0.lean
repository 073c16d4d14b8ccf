/-
  posternref02.Of; answers that hold a value or nothing.
-/
import Derived.Test.YtckgmdlacaiacaaROwn
namespace Go.Proofs.Ytckgmdlacaiacaa
open Go.RowKit Go.Shelf
attribute [local go_sem] Oper.semAt_some

/-- The value that an answer holds. -/
def resT : Option VT → VT
  | none => .mk 0 0 ⟨#[]⟩ 0 []
  | some t => t
theorem zeroT_may : (VT.mk 0 0 ⟨#[]⟩ 0 []).may = true := by decide +kernel
/-- An answer in memory of its own. -/
def AnsT (w : World) (t : VT) (n : Int) (e : Ending) (W : World) : Prop :=
  Below w.heap.size w W ∧ ∃ A cap, e = .returned (.tuple #[.agg #[.int .u8 (t.k : Int), .int .i64 t.n, .string t.s, .slice A t.l.length cap, .int .i64 t.r], .int .i64 n]) ∧
    Fresh w W t (.agg #[.int .u8 (t.k : Int), .int .i64 t.n, .string t.s, .slice A t.l.length cap, .int .i64 t.r])
def AnsF (w : World) (res : Option VT × Int) (e : Ending) (W : World) : Prop := AnsT w (resT res.1) res.2 e W
theorem ReadRes.ans {w W : World} {res : Option VT × Int} {e : Ending} (h : ReadRes w res e W) : AnsF w res e W := by
  obtain ⟨hb, h⟩ := h
  obtain ⟨o, n⟩ := res
  cases o with
  | none => exact ⟨hb, none, 0, h, fresh_flat ⟨by decide, by decide, by decide, by decide, by decide⟩⟩
  | some t =>
    obtain ⟨v, he, hF⟩ := h
    obtain ⟨A, cap, rfl⟩ := hF.cells
    exact ⟨hb, A, cap, he, hF⟩
/-- An answer in new memory, to be read. -/
def AnsM (w : World) (t : VT) (n : Int) (e : Ending) (W : World) : Prop :=
  Below w.heap.size w W ∧ ∃ A cap, e = .returned (.tuple #[.agg #[.int .u8 (t.k : Int), .int .i64 t.n, .string t.s, .slice A t.l.length cap, .int .i64 t.r], .int .i64 n]) ∧
    LiesN w W t (.agg #[.int .u8 (t.k : Int), .int .i64 t.n, .string t.s, .slice A t.l.length cap, .int .i64 t.r])
def AnsN (w : World) (res : Option VT × Int) (e : Ending) (W : World) : Prop := AnsM w (resT res.1) res.2 e W
theorem ansN_none {w W : World} {n : Int} (hb : Below w.heap.size w W) : AnsN w (none, n) (.returned (.tuple #[zeroVal, .int .i64 n])) W :=
  ⟨hb, none, 0, rfl, none, 0, rfl, ⟨by decide, by decide, by decide, by decide, by decide⟩, Nat.le_refl _, Nat.zero_le _, trivial, fun e => by cases e⟩
theorem ofRes_may (l : List VT) : (resT (ofRes l).1).may = true := by
  unfold ofRes
  by_cases h1 : l.all VT.may = true
  · rw [if_pos h1]
    by_cases h2 : (listT l).may = true
    · rw [if_pos h2]; exact h2
    · rw [if_neg h2]; exact zeroT_may
  · rw [if_neg h1]; exact zeroT_may
theorem LiesN.box5 {w w0 W : World} {t : VT} {v : Value} {B : Nat} (h : LiesN w W t v) (h0 : w0.heap.size ≤ w.heap.size) (hB : B < w.heap.size) (v0 v1 v2 v3 v4 : Value) : LiesN w0 (((((W.setCell ⟨B, 0, none⟩ v0).setCell ⟨B, 1, none⟩ v1).setCell ⟨B, 2, none⟩ v2).setCell ⟨B, 3, none⟩ v3).setCell ⟨B, 4, none⟩ v4) t v := by
  refine Lies.same (W := W) (p := fun b => w.heap.size ≤ b ∧ b < W.heap.size) (fun b hb => ⟨by omega, by simp; omega⟩) (fun b hb => heap_set5_other _ _ _ _ _ (by omega)) t v h

set_option maxRecDepth 100000 in
set_option maxHeartbeats 8000000 in
theorem rOf_w (p : Nat → Prop) (m : Bool) (l : List VT) (A : Option Addr) (cap : Nat) (w : World) (hL0 : LiesL w p m A 0 l) (hpw : ∀ b, p b → b < w.heap.size) (hlc : l.length ≤ cap) (hcm : cap ≤ maxLen) :
    Calls Try.prog 46 #[.slice A l.length cap] w (AnsN w (ofRes l)) := by
  have HPW := Lib.hid hpw
  have HLL := Lib.hid (fun W (hW : Below w.heap.size w W) => (hL0.below hW hpw).list hlc hcm)
  have HO := Lib.hid (fun (hm : (listT l).may = true) W (hW : Below w.heap.size w W) => rOwn_w p false (listT l) _ W ((hL0.below hW hpw).list hlc hcm) (fun b hb => Nat.lt_of_lt_of_le (hpw b hb) hW.size) (by have := may_good hm; omega))
  have HMA := Lib.hid (fun W (hW : Below w.heap.size w W) => rmayAll_w p m l A cap W (hL0.below hW hpw) (fun b hb => Nat.lt_of_lt_of_le (hpw b hb) hW.size) (by unfold maxLen at hcm; omega))
  have HR := Lib.hid (show ofRes l = if l.all VT.may = true then (if (listT l).may = true then (some (listT l), 0) else (none, 4)) else (none, 2) from rfl)
  generalize ofRes l = res at *
  generalize l.all VT.may = av at *
  have hX := Five.new w (.int .u8 0) (.int .i64 0) (.string ⟨#[]⟩) (.slice none 0 0) (.int .i64 0)
  have HX := Lib.hid hX
  have HB := Lib.hid ((Below.refl w.heap.size w).alloc (Nat.le_refl _) (.cells #[.int .u8 0, .int .i64 0, .string ⟨#[]⟩, .slice none 0 0, .int .i64 0] 26))
  clear hL0 hpw hX
  go_enter Try.func46, Try.ntmps46
  go_wp2_with fail
  refine (HMA.out _ HB.out).mono ?_
  rintro e w1 ⟨rfl, hb⟩
  have X1 := HX.out.below hb HX.out.lt
  have HX1 := Lib.hid X1
  have HB1 := Lib.hid (HB.out.trans (hb.mono HB.out.size))
  have hs1 := HB1.out.size
  have hxl1 := X1.lt
  have f0 := X1.e0
  have f1 := X1.e1
  have f2 := X1.e2
  have f3 := X1.e3
  have f4 := X1.e4
  have z0 := X1.froz 0
  have z1 := X1.froz 1
  have z2 := X1.froz 2
  have z3 := X1.froz 3
  have z4 := X1.froz 4
  clear hb X1 HX HB HMA
  cases av
  · have hR := Lib.hid (HR.out.trans (if_neg (by simp)))
    go_wp2
    refine ret_five2 (B := w.heap.size) rfl (HX1.out.set5 _ _ _ _ _) rfl rfl ?_
    rw [hR.out]
    exact ansN_none (below_set5 HB1.out (Nat.le_refl _) _ _ _ _ _)
  have hR := Lib.hid (HR.out.trans (if_pos (by trivial)))
  have hB2 := HB1.out.alloc hs1 (.cells #[.int .u8 3, .int .i64 0, .string ⟨#[]⟩, .slice A l.length cap, .int .i64 0] 26)
  have HB2 := Lib.hid hB2
  have HX2 := Lib.hid (HX1.out.alloc (.cells #[.int .u8 3, .int .i64 0, .string ⟨#[]⟩, .slice A l.length cap, .int .i64 0] 26))
  have hY := Five.new w1 (.int .u8 3) (.int .i64 0) (.string ⟨#[]⟩) (.slice A l.length cap) (.int .i64 0)
  have HY := Lib.hid hY
  have HM := Lib.hid (rmay_w (listT l) _ _ (HLL.out _ hB2) (fun b hb => Nat.lt_of_lt_of_le (HPW.out b hb) hB2.size))
  obtain ⟨q, hq⟩ : ∃ q, (listT l).may = q := ⟨_, rfl⟩
  rw [hq] at HM
  have Hq := Lib.hid hq
  clear hq hB2 hY f0 f1 f2 f3 f4 z0 z1 z2 z3 z4
  go_wp2_with fail
  refine HM.out.mono ?_
  rintro e w2 ⟨rfl, hb⟩
  have X2 := HX2.out.below hb HX2.out.lt
  have Y2 := HY.out.below hb HY.out.lt
  have HX3 := Lib.hid X2
  have HB3 := Lib.hid (HB2.out.trans (hb.mono HB2.out.size))
  have hs2 := HB3.out.size
  have hxl2 := X2.lt
  have f0 := X2.e0
  have f1 := X2.e1
  have f2 := X2.e2
  have f3 := X2.e3
  have f4 := X2.e4
  have z0 := X2.froz 0
  have z1 := X2.froz 1
  have z2 := X2.froz 2
  have z3 := X2.froz 3
  have z4 := X2.froz 4
  have y0 := Y2.e0
  have y1 := Y2.e1
  have y2 := Y2.e2
  have y3 := Y2.e3
  have y4 := Y2.e4
  clear hb HM X2 Y2 HX1 HB1 HY HX2 HB2
  cases q
  · have hR2 := Lib.hid (hR.out.trans (if_neg (by rw [Hq.out]; simp)))
    go_wp2
    refine ret_five2 (B := w.heap.size) rfl (HX3.out.set5 _ _ _ _ _) rfl rfl ?_
    rw [hR2.out]
    exact ansN_none (below_set5 HB3.out (Nat.le_refl _) _ _ _ _ _)
  · have hR2 := Lib.hid (hR.out.trans (if_pos Hq.out))
    go_wp2_with fail
    refine (HO.out Hq.out _ HB3.out).mono ?_
    rintro e w3 ⟨v', rfl, hF, hb⟩
    obtain ⟨A2, cap2, rfl⟩ := hF.cells
    have V1 := HX3.out.below hb hxl2
    have HF := Lib.hid (And.intro hF (And.intro hb V1))
    clear f0 f1 f2 f3 f4 z0 z1 z2 z3 z4 y0 y1 y2 y3 y4
    have f0 := V1.e0
    have f1 := V1.e1
    have f2 := V1.e2
    have f3 := V1.e3
    have f4 := V1.e4
    have z0 := V1.froz 0
    have z1 := V1.froz 1
    have z2 := V1.froz 2
    have z3 := V1.froz 3
    have z4 := V1.froz 4
    clear hF hb V1
    go_wp2
    refine ret_five2 (B := w.heap.size) rfl (HF.out.2.2.set5 _ _ _ _ _) rfl rfl ?_
    rw [hR2.out]
    exact ⟨below_set5 (HB3.out.trans (HF.out.2.1.mono hs2)) (Nat.le_refl _) _ _ _ _ _, A2, cap2, rfl, HF.out.1.box5 hs2 hxl2 _ _ _ _ _⟩
end Go.Proofs.Ytckgmdlacaiacaa
