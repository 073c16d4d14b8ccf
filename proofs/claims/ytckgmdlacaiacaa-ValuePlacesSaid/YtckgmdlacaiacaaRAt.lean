/-
  posternref02.At.
-/
import Derived.Test.YtckgmdlacaiacaaOfs0
namespace Go.Proofs.Ytckgmdlacaiacaa
open Go.RowKit Go.Shelf
attribute [local go_sem] Oper.semAt_some

/-- What the document's At leaves: the part itself. -/
def AtN (p : Nat → Prop) (m : Bool) (w : World) (res : Option VT × Int) (e : Ending) (W : World) : Prop :=
  Below w.heap.size w W ∧ match res.1 with
    | none => e = .returned (.tuple #[zeroVal, .int .i64 res.2])
    | some t => ∃ v, e = .returned (.tuple #[v, .int .i64 res.2]) ∧ Lies W p m t v

theorem Lies.drew {W : World} {p : Nat → Prop} {m : Bool} {t : VT} {v : Value} (h : Lies W p m t v) : Lies W.drew p m t v := Lies.same (W := W) (W' := W.drew) (fun _ h => h) (fun _ _ => rfl) t v h
set_option maxRecDepth 100000 in
set_option maxHeartbeats 8000000 in
theorem rAt_w {pp : Nat → Prop} {m : Bool} (t : VT) (v : Value) (ps : List Int) (PA : Option Addr) (pc : Nat) (w : World) (h : Lies w pp m t v) (hpp : ∀ b, pp b → b < w.heap.size) (hps : IntsAt w w.heap.size PA ps) (hpl : ps.length ≤ 4294967295) :
    Calls Try.prog 32 #[v, .slice PA ps.length pc] w (AtN pp m w (atRes t ps)) := by
  have HP0 := Lib.hid h
  obtain ⟨A, cap, rfl⟩ := h.cells
  have HM := Lib.hid (fun W hW => rmay_w t _ W (h.below (W' := W) hW hpp) (fun b hb => Nat.lt_of_lt_of_le (hpp b hb) (Below.size hW)))
  have HPP := Lib.hid hpp
  have HPS := Lib.hid hps
  have HR := Lib.hid (show atRes t ps = if t.may then atOut (atT t ps) else (none, 2) from rfl)
  obtain ⟨q, hq⟩ : ∃ q, t.may = q := ⟨_, rfl⟩
  rw [hq] at HM HR
  have Hq := Lib.hid hq
  generalize atRes t ps = res at *
  clear hq hps hpp
  generalize hk0 : t.k = a0 at *
  generalize hk1 : t.n = a1 at *
  generalize hk2 : t.s = a2 at *
  generalize hk3 : t.l.length = a3 at *
  generalize hk4 : t.r = a4 at *
  have X1 := Five.new (w.alloc (.cells #[.int .u8 (a0 : Int), .int .i64 a1, .string a2, .slice A a3 cap, .int .i64 a4] 26)) (.int .u8 0) (.int .i64 0) (.string ⟨#[]⟩) (.slice none 0 0) (.int .i64 0)
  have X0 := (Five.new w (.int .u8 (a0 : Int)) (.int .i64 a1) (.string a2) (.slice A a3 cap) (.int .i64 a4)).alloc (.cells #[.int .u8 0, .int .i64 0, .string ⟨#[]⟩, .slice none 0 0, .int .i64 0] 26)
  rw [World.size_alloc] at X1
  have hb0 := Lib.hid (((Below.refl w.heap.size w).alloc (Nat.le_refl _) (.cells #[.int .u8 (a0 : Int), .int .i64 a1, .string a2, .slice A a3 cap, .int .i64 a4] 26)).alloc (by simp) (.cells #[.int .u8 0, .int .i64 0, .string ⟨#[]⟩, .slice none 0 0, .int .i64 0] 26))
  have HX := Lib.hid (And.intro X0 X1)
  have HK := Lib.hid (And.intro hk0 (And.intro hk1 (And.intro hk2 (And.intro hk3 hk4))))
  clear h X0 X1 hk0 hk1 hk2 hk3 hk4
  go_enter Try.func32, Try.ntmps32
  go_wp2_with fail
  refine (HM.out _ hb0.out).mono ?_
  rintro e w1 ⟨rfl, hb⟩
  have hB := hb0.out.trans (hb.mono (by simp; omega))
  have Y0 := HX.out.1.below hb (by simp; omega)
  have Y1 := HX.out.2.below hb (by simp)
  have hsz := hB.size
  have hs2 := Y1.lt
  clear hb
  have HB := Lib.hid hB
  have HY := Lib.hid (And.intro Y0 Y1)
  cases q
  · have e0 := Y0.e0
    have f0 := Y1.e0
    have f1 := Y1.e1
    have f2 := Y1.e2
    have f3 := Y1.e3
    have f4 := Y1.e4
    have z0 := Y1.froz 0
    have z1 := Y1.froz 1
    have z2 := Y1.froz 2
    have z3 := Y1.froz 3
    have z4 := Y1.froz 4
    clear hB Y0 Y1
    have hR := Lib.hid (HR.out.trans (if_neg (by simp)))
    go_wp2
    refine ret_five2 (B := w.heap.size + 1) rfl (HY.out.2.set5 _ _ _ _ _) rfl rfl ?_
    rw [hR.out]
    exact ⟨below_set5 HB.out (by omega) _ _ _ _ _, rfl⟩
  clear hB Y0 Y1
  have hR := Lib.hid (HR.out.trans (if_pos (by trivial)))
  clear HR HM
  have HL := Lib.hid (Lies.below HB.out HPP.out HP0.out)
  go_wp2
  go_loopw [6] (fun iv wr => ∃ (j : Nat) (u : VT) (uA : Option Addr) (uc : Nat), j ≤ ps.length ∧ iv = .int .i64 (j : Int) ∧ atT t ps = atT u (ps.drop j) ∧ u.parts ≤ t.parts ∧
      Lies wr pp m u (.agg #[.int .u8 (u.k : Int), .int .i64 u.n, .string u.s, .slice uA u.l.length uc, .int .i64 u.r]) ∧ Five wr w.heap.size (.int .u8 (u.k : Int)) (.int .i64 u.n) (.string u.s) (.slice uA u.l.length uc) (.int .i64 u.r) ∧
      Five wr (w.heap.size + 1) (.int .u8 0) (.int .i64 0) (.string ⟨#[]⟩) (.slice none 0 0) (.int .i64 0) ∧ Below w.heap.size w wr) (fun iv _ => ps.length - (intOf iv).toNat)
  case atStart =>
    refine ⟨0, t, A, cap, Nat.zero_le _, rfl, by rw [List.drop_zero], Nat.le_refl _, ?_, ?_, HY.out.2, HB.out⟩
    · rw [HK.out.1, HK.out.2.1, HK.out.2.2.1, HK.out.2.2.2.1, HK.out.2.2.2.2]; exact HL.out
    · rw [HK.out.1, HK.out.2.1, HK.out.2.2.1, HK.out.2.2.2.1, HK.out.2.2.2.2]; exact HY.out.1
  case round =>
    obtain ⟨j, u, uA, uc, hj, rfl, hat, hup, hul, hX, hY, hB⟩ := hrel
    clear HL HY HB hb0 HX
    have hsz := hB.size
    have e3 := hX.e3
    have hs2 := hY.lt
    by_cases hlt : j < ps.length
    · obtain ⟨b, off, rfl, hbB, hcell⟩ := HPS.out j hlt
      have c0 := (World.cell?_of_block (w := w) (a := ⟨b, off + j, none⟩) (hB.block b hbB)).trans hcell
      clear hcell
      by_cases hin : 0 ≤ ps[j] ∧ ps[j] < u.l.length
      · obtain ⟨i, hi⟩ : ∃ i : Nat, ps[j] = (i : Int) := ⟨ps[j].toNat, by omega⟩
        have hi2 : i < u.l.length := by omega
        obtain ⟨b1, off1, A', cap', rfl, hbt, hrow, hLj⟩ := hul.elem i hi2
        obtain ⟨g0, g1, g2, g3, g4⟩ := hrow.get
        have hAt := hat.trans (atT_in hlt hi hi2)
        have hUp := Nat.le_trans (VT.part_le hi2) hup
        have hiB : (i : Int) ≤ 9223372036854775807 := by have := hul.bnd.len; unfold maxLen at this; omega
        rw [hi] at c0
        generalize u.l[i] = u1 at *
        have HW := Lib.hid (And.intro hLj (And.intro hX (And.intro hY (And.intro hB hAt))))
        have e0 := hX.e0
        have e1 := hX.e1
        have e2 := hX.e2
        have e4 := hX.e4
        have z0 := hX.froz 0
        have z1 := hX.froz 1
        have z2 := hX.froz 2
        have z3 := hX.froz 3
        have z4 := hX.froz 4
        have hI1 : (j : Int) < (ps.length : Int) := by omega
        have hI0 : (0 : Int) ≤ (j : Int) := by omega
        have hJ1 : (i : Int) < (u.l.length : Int) := by omega
        have hJ0 : (0 : Int) ≤ (i : Int) := by omega
        have q6 : decide ((i : Int) < 0) = false := decide_eq_false (by omega)
        have q7 : decide ((u.l.length : Int) ≤ (i : Int)) = false := decide_eq_false (by omega)
        have q7' : decide (u.l.length ≤ i) = false := decide_eq_false (by omega)
        have hrw := hrow
        clear hrow hLj hX hY hB hat hAt hul hin hi
        go_wp2_with fail
        go_quiet (fail)
        generalize hW2 : World.drewN wr _ = W2
        have hbd : Below wr.heap.size wr W2 := hW2 ▸ below_drewN (Below.refl _ _) _
        have HBD := Lib.hid hbd
        have k3 := (HW.out.2.1.below hbd HW.out.2.1.lt).e3
        have kc := (World.cell?_of_block (w := wr) (a := ⟨b, off + j, none⟩) (hbd.block b (by omega))).trans c0
        have kr := (hrw.same (hbd.block b1 (by have := HPP.out b1 hbt; omega))).get
        obtain ⟨k0, k1, k2, k33, k4⟩ := kr
        have X2 := HW.out.2.1.below hbd HW.out.2.1.lt
        have d0 := X2.e0
        have d1 := X2.e1
        have d2 := X2.e2
        have d4 := X2.e4
        have y0 := X2.froz 0
        have y1 := X2.froz 1
        have y2 := X2.froz 2
        have y3 := X2.froz 3
        have y4 := X2.froz 4
        clear hW2 hbd X2 g0 g1 g2 g3 g4 c0 e0 e1 e2 e3 e4 z0 z1 z2 z3 z4 hrw
        go_wp2
        go_region_with (fail)
        all_goals
          go_wp2
          go_roundw
          case rel =>
            refine ⟨j + 1, u1, A', cap', by omega, by go_num, HW.out.2.2.2.2, hUp, ?_, ?_, ?_, ?_⟩
            · exact Lies.drew (((HW.out.1.below HBD.out (fun b hb => Nat.lt_of_lt_of_le (HPP.out b hb) hsz)).box5 HPP.out _ _ _ _ _))
            · exact ((HW.out.2.1.below HBD.out HW.out.2.1.lt).set5 _ _ _ _ _).drew
            · exact ((HW.out.2.2.1.below HBD.out HW.out.2.2.1.lt).other5 (by omega) _ _ _ _ _).drew
            · exact (below_set5 (HW.out.2.2.2.1.trans (HBD.out.mono hsz)) (Nat.le_refl _) _ _ _ _ _).drew
          case measure => simp [intOf]; omega
      · have hAt := Lib.hid (hat.trans (atT_out hlt hin))
        have hR2 := Lib.hid (hR.out.trans (congrArg atOut hAt.out))
        have hbn := hul.bnd.len
        unfold maxLen at hbn
        have HW := Lib.hid (And.intro hY hB)
        have f0 := hY.e0
        have f1 := hY.e1
        have f2 := hY.e2
        have f3 := hY.e3
        have f4 := hY.e4
        have z0 := hY.froz 0
        have z1 := hY.froz 1
        have z2 := hY.froz 2
        have z3 := hY.froz 3
        have z4 := hY.froz 4
        generalize ps[j] = pj at *
        clear hX hY hB hat hul hAt hR
        have hI1 : (j : Int) < (ps.length : Int) := by omega
        have hI0 : (0 : Int) ≤ (j : Int) := by omega
        by_cases hneg : pj < 0
        · have q6 : decide (pj < 0) = true := decide_eq_true hneg
          go_wp2_with fail
          go_quiet (fail)
          generalize hW2 : World.drewN wr _ = W2
          have hbd : Below wr.heap.size wr W2 := hW2 ▸ below_drewN (Below.refl _ _) _
          have Y2 := HW.out.1.below hbd HW.out.1.lt
          have HY2 := Lib.hid Y2
          have HBw := Lib.hid (HW.out.2.trans (hbd.mono hsz))
          have f0 := Y2.e0
          have f1 := Y2.e1
          have f2 := Y2.e2
          have f3 := Y2.e3
          have f4 := Y2.e4
          have y0 := Y2.froz 0
          have y1 := Y2.froz 1
          have y2 := Y2.froz 2
          have y3 := Y2.froz 3
          have y4 := Y2.froz 4
          clear hW2 hbd Y2 c0 z0 z1 z2 z3 z4
          go_wp2
          refine ret_five2 (B := w.heap.size + 1) rfl (HY2.out.set5 _ _ _ _ _) rfl rfl ?_
          rw [hR2.out]
          exact ⟨below_set5 HBw.out (by omega) _ _ _ _ _, rfl⟩
        · have hge : ¬ pj < (u.l.length : Int) := fun h => hin ⟨by omega, h⟩
          have q6 : decide (pj < 0) = false := decide_eq_false hneg
          have q7 : decide ((u.l.length : Int) ≤ pj) = true := decide_eq_true (by omega)
          go_wp2_with fail
          go_quiet (fail)
          generalize hW2 : World.drewN wr _ = W2
          have hbd : Below wr.heap.size wr W2 := hW2 ▸ below_drewN (Below.refl _ _) _
          have Y2 := HW.out.1.below hbd HW.out.1.lt
          have HY2 := Lib.hid Y2
          have HBw := Lib.hid (HW.out.2.trans (hbd.mono hsz))
          have f0 := Y2.e0
          have f1 := Y2.e1
          have f2 := Y2.e2
          have f3 := Y2.e3
          have f4 := Y2.e4
          have y0 := Y2.froz 0
          have y1 := Y2.froz 1
          have y2 := Y2.froz 2
          have y3 := Y2.froz 3
          have y4 := Y2.froz 4
          clear hW2 hbd Y2 c0 z0 z1 z2 z3 z4
          go_wp2
          refine ret_five2 (B := w.heap.size + 1) rfl (HY2.out.set5 _ _ _ _ _) rfl rfl ?_
          rw [hR2.out]
          exact ⟨below_set5 HBw.out (by omega) _ _ _ _ _, rfl⟩
    · obtain rfl : j = ps.length := by omega
      rw [List.drop_length] at hat
      have hR2 := Lib.hid (hR.out.trans (congrArg atOut (hat.trans rfl)))
      have HW := Lib.hid (And.intro hY (And.intro hB hul))
      have e0 := hX.e0
      have e1 := hX.e1
      have e2 := hX.e2
      have e4 := hX.e4
      have f0 := hY.e0
      have f1 := hY.e1
      have f2 := hY.e2
      have f3 := hY.e3
      have f4 := hY.e4
      have z0 := hY.froz 0
      have z1 := hY.froz 1
      have z2 := hY.froz 2
      have z3 := hY.froz 3
      have z4 := hY.froz 4
      clear hX hY hB hat hul hR
      go_wp2
      refine ret_five2 (B := w.heap.size + 1) rfl (HW.out.1.set5 _ _ _ _ _) rfl rfl ?_
      rw [hR2.out]
      refine ⟨below_set5 HW.out.2.1 (by omega) _ _ _ _ _, _, rfl, HW.out.2.2.box5 (fun b hb => Nat.lt_succ_of_lt (HPP.out b hb)) _ _ _ _ _⟩
end Go.Proofs.Ytckgmdlacaiacaa
