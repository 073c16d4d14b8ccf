/-
  value.Of.
-/
import Derived.Test.YtckgmdlacaiacaaAll2
namespace Go.Proofs.Ytckgmdlacaiacaa
open Go.RowKit Go.Shelf
attribute [local go_sem] Oper.semAt_some

/-- What Of answers. -/
def ofRes (l : List VT) : Option VT × Int := if l.all VT.may = true then (if (listT l).may = true then (some (listT l), 0) else (none, 4)) else (none, 2)
abbrev zrow : Array Value := #[.int .u8 0, .int .i64 0, .string ⟨#[]⟩, .slice none 0 0, .int .i64 0]

set_option maxRecDepth 100000 in
set_option maxHeartbeats 8000000 in
theorem Of_w (p : Nat → Prop) (m : Bool) (l : List VT) (A : Option Addr) (cap : Nat) (w : World) (hL0 : LiesL w p m A 0 l) (hpw : ∀ b, p b → b < w.heap.size) (hlc : l.length ≤ cap) (hcm : cap ≤ maxLen) :
    Calls Try.prog 45 #[.slice A l.length cap] w (ReadRes w (ofRes l)) := by
  have HPW := Lib.hid hpw
  have HL := Lib.hid hL0
  have HLL := Lib.hid (fun W (hW : Below w.heap.size w W) => (hL0.below hW hpw).list hlc hcm)
  have HO := Lib.hid (fun (hm : (listT l).may = true) W (hW : Below w.heap.size w W) => own_w p false (listT l) _ W ((hL0.below hW hpw).list hlc hcm) (fun b hb => Nat.lt_of_lt_of_le (hpw b hb) hW.size) (by have := may_good hm; omega))
  have HV := Lib.hid (show l.all VT.may = (l.drop 0).all VT.may by rw [List.drop_zero])
  have HR := Lib.hid (show ofRes l = if l.all VT.may = true then (if (listT l).may = true then (some (listT l), 0) else (none, 4)) else (none, 2) from rfl)
  generalize ofRes l = res at *
  generalize l.all VT.may = av at *
  have HX := Lib.hid (Five.new w (.int .u8 0) (.int .i64 0) (.string ⟨#[]⟩) (.slice none 0 0) (.int .i64 0))
  have HB := Lib.hid ((Below.refl w.heap.size w).alloc (Nat.le_refl _) (.cells #[.int .u8 0, .int .i64 0, .string ⟨#[]⟩, .slice none 0 0, .int .i64 0] 26))
  unfold maxLen at hcm
  clear hL0 hpw
  go_enter Try.func45, Try.ntmps45
  go_wp2
  go_loopw [9] (fun iv wr => ∃ j : Nat, j ≤ l.length ∧ iv = .int .i64 (j : Int) ∧ av = (l.drop j).all VT.may ∧ Five wr w.heap.size (.int .u8 0) (.int .i64 0) (.string ⟨#[]⟩) (.slice none 0 0) (.int .i64 0) ∧ Below w.heap.size w wr) (fun iv _ => l.length - (intOf iv).toNat)
  case atStart => exact ⟨0, Nat.zero_le _, rfl, HV.out, HX.out, HB.out⟩
  case round =>
    obtain ⟨j, hj, rfl, hall, hX, hB⟩ := hrel
    clear HX HB
    have hsz := hB.size
    have hxl := hX.lt
    have HA := Lib.hid (And.intro hall (And.intro hX hB))
    by_cases hlt : j < l.length
    · obtain ⟨b, off, A', cap', rfl, hbt, hrow, hLj⟩ := HL.out.elem j hlt
      obtain ⟨g0, g1, g2, g3, g4⟩ := (hrow.same (hB.block b (HPW.out b hbt))).get
      have hB1 := hB.alloc hsz (.cells #[.int .u8 (l[j].k : Int), .int .i64 l[j].n, .string l[j].s, .slice A' l[j].l.length cap', .int .i64 l[j].r] 26)
      have HH := Lib.hid (may_w l[j] _ _ (hLj.below hB1 HPW.out) (fun b hb => Nat.lt_of_lt_of_le (HPW.out b hb) hB1.size))
      have HD := Lib.hid (show (l.drop j).all VT.may = (l[j].may && (l.drop (j + 1)).all VT.may) by rw [List.drop_eq_getElem_cons hlt]; rfl)
      have HB1 := Lib.hid hB1
      have HX1 := Lib.hid (hX.alloc (.cells #[.int .u8 (l[j].k : Int), .int .i64 l[j].n, .string l[j].s, .slice A' l[j].l.length cap', .int .i64 l[j].r] 26))
      generalize l[j].may = q at *
      clear hrow hLj hB hall hB1 hX
      go_wp2_with fail
      refine HH.out.mono ?_
      rintro e w1 ⟨rfl, hb⟩
      have X2 := HX1.out.below hb HX1.out.lt
      have HX2 := Lib.hid X2
      have HB2 := Lib.hid (HB1.out.trans (hb.mono HB1.out.size))
      have f0 := X2.e0
      have f1 := X2.e1
      have f2 := X2.e2
      have f3 := X2.e3
      have f4 := X2.e4
      have z0 := X2.froz 0
      have z1 := X2.froz 1
      have z2 := X2.froz 2
      have z3 := X2.froz 3
      have z4 := X2.froz 4
      clear hb g0 g1 g2 g3 g4 HH X2 HX1 HB1
      cases q
      · have hR := Lib.hid (HR.out.trans (if_neg (by rw [HA.out.1, HD.out]; simp)))
        go_wp2
        refine ret_five2 (B := w.heap.size) rfl (HX2.out.set5 _ _ _ _ _) rfl rfl ?_
        rw [hR.out]
        exact ⟨below_set5 HB2.out (Nat.le_refl _) _ _ _ _ _, rfl⟩
      · go_wp2
        go_roundw
        case rel => exact ⟨j + 1, by omega, by go_num, by rw [HA.out.1, HD.out]; rfl, HX2.out, HB2.out⟩
        case measure => simp [intOf]; omega
    · obtain rfl : j = l.length := by omega
      have hav : av = true := by rw [hall, List.drop_length]; rfl
      have hR := Lib.hid (HR.out.trans (if_pos hav))
      have hB1 := hB.alloc hsz (.cells #[.int .u8 3, .int .i64 0, .string ⟨#[]⟩, .slice A l.length cap, .int .i64 0] 26)
      have HB1 := Lib.hid hB1
      have HX1 := Lib.hid (hX.alloc (.cells #[.int .u8 3, .int .i64 0, .string ⟨#[]⟩, .slice A l.length cap, .int .i64 0] 26))
      have hY := Five.new wr (.int .u8 3) (.int .i64 0) (.string ⟨#[]⟩) (.slice A l.length cap) (.int .i64 0)
      have HY := Lib.hid hY
      have HM := Lib.hid (may_w (listT l) _ _ (HLL.out _ hB1) (fun b hb => Nat.lt_of_lt_of_le (HPW.out b hb) hB1.size))
      obtain ⟨q, hq⟩ : ∃ q, (listT l).may = q := ⟨_, rfl⟩
      rw [hq] at HM
      have Hq := Lib.hid hq
      clear hB hall hX hq hav hB1 hY
      go_wp2_with fail
      refine HM.out.mono ?_
      rintro e w1 ⟨rfl, hb⟩
      have X2 := HX1.out.below hb HX1.out.lt
      have Y2 := HY.out.below hb HY.out.lt
      have HX2 := Lib.hid X2
      have HB2 := Lib.hid (HB1.out.trans (hb.mono HB1.out.size))
      have hs2 := HB2.out.size
      have hxl2 := X2.lt
      have f0 := X2.e0
      have f1 := X2.e1
      have f2 := X2.e2
      have f3 := X2.e3
      have f4 := X2.e4
      have z0 := X2.froz 0
      have z1 := X2.froz 1
      have z2 := X2.froz 2
      have z3 := X2.froz 3
      have z4 := X2.froz 4
      have y0 := Y2.e0
      have y1 := Y2.e1
      have y2 := Y2.e2
      have y3 := Y2.e3
      have y4 := Y2.e4
      clear hb HM X2 Y2 HX1 HB1 HY
      cases q
      · have hR2 := Lib.hid (hR.out.trans (if_neg (by rw [Hq.out]; simp)))
        go_wp2
        refine ret_five2 (B := w.heap.size) rfl (HX2.out.set5 _ _ _ _ _) rfl rfl ?_
        rw [hR2.out]
        exact ⟨below_set5 HB2.out (Nat.le_refl _) _ _ _ _ _, rfl⟩
      · have hR2 := Lib.hid (hR.out.trans (if_pos Hq.out))
        go_wp2_with fail
        refine (HO.out Hq.out _ HB2.out).mono ?_
        rintro e w2 ⟨v', rfl, hF, hb⟩
        obtain ⟨A2, cap2, rfl⟩ := hF.cells
        have V1 := HX2.out.below hb hxl2
        have HF := Lib.hid (And.intro hF (And.intro hb V1))
        clear f0 f1 f2 f3 f4 z0 z1 z2 z3 z4 y0 y1 y2 y3 y4
        have f0 := V1.e0
        have f1 := V1.e1
        have f2 := V1.e2
        have f3 := V1.e3
        have f4 := V1.e4
        have z0 := V1.froz 0
        have z1 := V1.froz 1
        have z2 := V1.froz 2
        have z3 := V1.froz 3
        have z4 := V1.froz 4
        clear hF hb V1
        go_wp2
        refine ret_five2 (B := w.heap.size) rfl (HF.out.2.2.set5 _ _ _ _ _) rfl rfl ?_
        rw [hR2.out]
        exact ⟨below_set5 (HB2.out.trans (HF.out.2.1.mono hs2)) (Nat.le_refl _) _ _ _ _ _, _, rfl, HF.out.1.box5 hs2 hxl2 _ _ _ _ _⟩
end Go.Proofs.Ytckgmdlacaiacaa
