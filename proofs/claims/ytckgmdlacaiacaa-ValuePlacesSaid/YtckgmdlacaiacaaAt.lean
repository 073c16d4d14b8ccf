/-
  value.At.
-/
import Derived.Test.YtckgmdlacaiacaaVOrd
namespace Go.Proofs.Ytckgmdlacaiacaa
open Go.RowKit Go.Shelf
attribute [local go_sem] Oper.semAt_some

/-- The part at a place. -/
def atT : VT → List Int → Option VT
  | t, [] => some t
  | t, i :: ps => if h : 0 ≤ i ∧ i < t.l.length then atT (t.l[i.toNat]'(by omega)) ps else none
def atOut : Option VT → Option VT × Int
  | none => (none, 22)
  | some u => (some u, 0)
/-- What At answers. -/
def atRes (t : VT) (ps : List Int) : Option VT × Int := if t.may then atOut (atT t ps) else (none, 2)
theorem atT_in {t : VT} {ps : List Int} {j i : Nat} (hj : j < ps.length) (hi : ps[j] = (i : Int)) (h : i < t.l.length) : atT t (ps.drop j) = atT t.l[i] (ps.drop (j + 1)) := by
  rw [List.drop_eq_getElem_cons hj, hi, atT, dif_pos ⟨by omega, by omega⟩]
  rfl
theorem atT_out {t : VT} {ps : List Int} {j : Nat} (hj : j < ps.length) (h : ¬ (0 ≤ ps[j] ∧ ps[j] < t.l.length)) : atT t (ps.drop j) = none := by
  rw [List.drop_eq_getElem_cons hj, atT, dif_neg h]
/-- Numbers that lie in memory, to be read. -/
def IntsAt (W : World) (B : Nat) (A : Option Addr) (ps : List Int) : Prop := ∀ i (h : i < ps.length), ∃ b off, A = some ⟨b, off, none⟩ ∧ b < B ∧ W.cell? ⟨b, off + i, none⟩ = some (.int .i64 ps[i])
theorem IntsAt.below {W W' : World} {B n : Nat} {A : Option Addr} {ps : List Int} (h : IntsAt W B A ps) (hb : Below n W W') (hn : B ≤ n) : IntsAt W' B A ps := fun i hi => by
  obtain ⟨b, off, h1, h2, h3⟩ := h i hi
  exact ⟨b, off, h1, h2, (World.cell?_of_block (w := W) (hb.block b (by omega))).trans h3⟩
theorem VT.part_le {t : VT} {j : Nat} (h : j < t.l.length) : t.l[j].parts ≤ t.parts := by
  cases t with | mk k n s r l =>
  have h2 : VT.parts (.mk k n s r l) = 1 + VT.partsL l := rfl
  have := VT.parts_le (l := l) h
  show l[j].parts ≤ _
  omega
theorem Lies.elem {W : World} {p : Nat → Prop} {m : Bool} {t : VT} {a0 a1 a2 a4 : Value} {A : Option Addr} {n cap : Nat} (h : Lies W p m t (.agg #[a0, a1, a2, .slice A n cap, a4])) (j : Nat) (hj : j < t.l.length) : ∃ b off A' cap', A = some ⟨b, off, none⟩ ∧ p b ∧
    RowAt W b (off + j * 5) #[.int .u8 (t.l[j].k : Int), .int .i64 t.l[j].n, .string t.l[j].s, .slice A' t.l[j].l.length cap', .int .i64 t.l[j].r] ∧ Lies W p m t.l[j] (.agg #[.int .u8 (t.l[j].k : Int), .int .i64 t.l[j].n, .string t.l[j].s, .slice A' t.l[j].l.length cap', .int .i64 t.l[j].r]) := by
  cases t with | mk k n s r l =>
  obtain ⟨A1, cap1, h0, h1, h2, h3, h6, h7⟩ := h
  simp only [Value.agg.injEq, Array.mk.injEq, List.cons.injEq, Value.slice.injEq, and_true] at h0
  obtain ⟨_, _, _, ⟨rfl, _, _⟩, _⟩ := h0
  exact h6.elem j hj

theorem Five.other5 {W : World} {B B' : Nat} {c0 c1 c2 c3 c4 : Value} (h : Five W B c0 c1 c2 c3 c4) (hB : B ≠ B') (v0 v1 v2 v3 v4 : Value) : Five (((((W.setCell ⟨B', 0, none⟩ v0).setCell ⟨B', 1, none⟩ v1).setCell ⟨B', 2, none⟩ v2).setCell ⟨B', 3, none⟩ v3).setCell ⟨B', 4, none⟩ v4) B c0 c1 c2 c3 c4 :=
  ⟨(heap_set5_other _ _ _ _ _ hB).trans h.row⟩
theorem Lies.box5 {W : World} {p : Nat → Prop} {m : Bool} {t : VT} {v : Value} {B : Nat} (h : Lies W p m t v) (hp : ∀ b, p b → b < B) (v0 v1 v2 v3 v4 : Value) : Lies (((((W.setCell ⟨B, 0, none⟩ v0).setCell ⟨B, 1, none⟩ v1).setCell ⟨B, 2, none⟩ v2).setCell ⟨B, 3, none⟩ v3).setCell ⟨B, 4, none⟩ v4) p m t v :=
  Lies.same (fun _ h => h) (fun b hb => heap_set5_other _ _ _ _ _ (by have := hp b hb; omega)) t v h

set_option maxRecDepth 100000 in
set_option maxHeartbeats 8000000 in
theorem At_w {pp : Nat → Prop} {m : Bool} (t : VT) (v : Value) (ps : List Int) (PA : Option Addr) (pc : Nat) (w : World) (h : Lies w pp m t v) (hpp : ∀ b, pp b → b < w.heap.size) (hps : IntsAt w w.heap.size PA ps) (hpl : ps.length ≤ 4294967295) :
    Calls Try.prog 31 #[v, .slice PA ps.length pc] w (ReadRes w (atRes t ps)) := by
  have HP0 := Lib.hid h
  obtain ⟨A, cap, rfl⟩ := h.cells
  have HM := Lib.hid (fun W hW => may_w t _ W (h.below (W' := W) hW hpp) (fun b hb => Nat.lt_of_lt_of_le (hpp b hb) (Below.size hW)))
  have HO := Lib.hid (fun (u : VT) uv W (hl : Lies W pp m u uv) (hW : Below w.heap.size w W) (hp : u.parts ≤ t.parts) (hmay : t.may = true) => own_w pp m u uv W hl (fun b hb => Nat.lt_of_lt_of_le (hpp b hb) (Below.size hW)) (by have := may_good hmay; omega))
  have HPP := Lib.hid hpp
  have HPS := Lib.hid hps
  have HR := Lib.hid (show atRes t ps = if t.may then atOut (atT t ps) else (none, 2) from rfl)
  obtain ⟨q, hq⟩ : ∃ q, t.may = q := ⟨_, rfl⟩
  rw [hq] at HM HR
  have Hq := Lib.hid hq
  generalize atRes t ps = res at *
  clear hq hps hpp
  generalize hk0 : t.k = a0 at *
  generalize hk1 : t.n = a1 at *
  generalize hk2 : t.s = a2 at *
  generalize hk3 : t.l.length = a3 at *
  generalize hk4 : t.r = a4 at *
  have X1 := Five.new (w.alloc (.cells #[.int .u8 (a0 : Int), .int .i64 a1, .string a2, .slice A a3 cap, .int .i64 a4] 26)) (.int .u8 0) (.int .i64 0) (.string ⟨#[]⟩) (.slice none 0 0) (.int .i64 0)
  have X0 := (Five.new w (.int .u8 (a0 : Int)) (.int .i64 a1) (.string a2) (.slice A a3 cap) (.int .i64 a4)).alloc (.cells #[.int .u8 0, .int .i64 0, .string ⟨#[]⟩, .slice none 0 0, .int .i64 0] 26)
  rw [World.size_alloc] at X1
  have hb0 := Lib.hid (((Below.refl w.heap.size w).alloc (Nat.le_refl _) (.cells #[.int .u8 (a0 : Int), .int .i64 a1, .string a2, .slice A a3 cap, .int .i64 a4] 26)).alloc (by simp) (.cells #[.int .u8 0, .int .i64 0, .string ⟨#[]⟩, .slice none 0 0, .int .i64 0] 26))
  have HX := Lib.hid (And.intro X0 X1)
  have HK := Lib.hid (And.intro hk0 (And.intro hk1 (And.intro hk2 (And.intro hk3 hk4))))
  clear h X0 X1 hk0 hk1 hk2 hk3 hk4
  go_enter Try.func31, Try.ntmps31
  go_wp2_with fail
  refine (HM.out _ hb0.out).mono ?_
  rintro e w1 ⟨rfl, hb⟩
  have hB := hb0.out.trans (hb.mono (by simp; omega))
  have Y0 := HX.out.1.below hb (by simp; omega)
  have Y1 := HX.out.2.below hb (by simp)
  have hsz := hB.size
  have hs2 := Y1.lt
  clear hb
  have HB := Lib.hid hB
  have HY := Lib.hid (And.intro Y0 Y1)
  cases q
  · have e0 := Y0.e0
    have f0 := Y1.e0
    have f1 := Y1.e1
    have f2 := Y1.e2
    have f3 := Y1.e3
    have f4 := Y1.e4
    have z0 := Y1.froz 0
    have z1 := Y1.froz 1
    have z2 := Y1.froz 2
    have z3 := Y1.froz 3
    have z4 := Y1.froz 4
    clear hB Y0 Y1
    have hR := Lib.hid (HR.out.trans (if_neg (by simp)))
    go_wp2
    refine ret_five2 (B := w.heap.size + 1) rfl (HY.out.2.set5 _ _ _ _ _) rfl rfl ?_
    rw [hR.out]
    exact ⟨below_set5 HB.out (by omega) _ _ _ _ _, rfl⟩
  clear hB Y0 Y1
  have hR := Lib.hid (HR.out.trans (if_pos (by trivial)))
  clear HR HM
  have HL := Lib.hid (Lies.below HB.out HPP.out HP0.out)
  go_wp2
  go_loopw [14] (fun iv wr => ∃ (j : Nat) (u : VT) (uA : Option Addr) (uc : Nat), j ≤ ps.length ∧ iv = .int .i64 (j : Int) ∧ atT t ps = atT u (ps.drop j) ∧ u.parts ≤ t.parts ∧
      Lies wr pp m u (.agg #[.int .u8 (u.k : Int), .int .i64 u.n, .string u.s, .slice uA u.l.length uc, .int .i64 u.r]) ∧ Five wr w.heap.size (.int .u8 (u.k : Int)) (.int .i64 u.n) (.string u.s) (.slice uA u.l.length uc) (.int .i64 u.r) ∧
      Five wr (w.heap.size + 1) (.int .u8 0) (.int .i64 0) (.string ⟨#[]⟩) (.slice none 0 0) (.int .i64 0) ∧ Below w.heap.size w wr) (fun iv _ => ps.length - (intOf iv).toNat)
  case atStart =>
    refine ⟨0, t, A, cap, Nat.zero_le _, rfl, by rw [List.drop_zero], Nat.le_refl _, ?_, ?_, HY.out.2, HB.out⟩
    · rw [HK.out.1, HK.out.2.1, HK.out.2.2.1, HK.out.2.2.2.1, HK.out.2.2.2.2]; exact HL.out
    · rw [HK.out.1, HK.out.2.1, HK.out.2.2.1, HK.out.2.2.2.1, HK.out.2.2.2.2]; exact HY.out.1
  case round =>
    obtain ⟨j, u, uA, uc, hj, rfl, hat, hup, hul, hX, hY, hB⟩ := hrel
    clear HL HY HB hb0 HX
    have hsz := hB.size
    have e3 := hX.e3
    have hs2 := hY.lt
    by_cases hlt : j < ps.length
    · obtain ⟨b, off, rfl, hbB, hcell⟩ := HPS.out j hlt
      have c0 := (World.cell?_of_block (w := w) (a := ⟨b, off + j, none⟩) (hB.block b hbB)).trans hcell
      clear hcell
      by_cases hin : 0 ≤ ps[j] ∧ ps[j] < u.l.length
      · obtain ⟨i, hi⟩ : ∃ i : Nat, ps[j] = (i : Int) := ⟨ps[j].toNat, by omega⟩
        have hi2 : i < u.l.length := by omega
        obtain ⟨b1, off1, A', cap', rfl, hbt, hrow, hLj⟩ := hul.elem i hi2
        obtain ⟨g0, g1, g2, g3, g4⟩ := hrow.get
        have hAt := hat.trans (atT_in hlt hi hi2)
        have hUp := Nat.le_trans (VT.part_le hi2) hup
        have hiB : (i : Int) ≤ 9223372036854775807 := by have := hul.bnd.len; unfold maxLen at this; omega
        rw [hi] at c0
        generalize u.l[i] = u1 at *
        have HW := Lib.hid (And.intro hLj (And.intro hX (And.intro hY (And.intro hB hAt))))
        have e0 := hX.e0
        have e1 := hX.e1
        have e2 := hX.e2
        have e4 := hX.e4
        have z0 := hX.froz 0
        have z1 := hX.froz 1
        have z2 := hX.froz 2
        have z3 := hX.froz 3
        have z4 := hX.froz 4
        clear hrow hLj hX hY hB hat hAt hul hin hi
        go_wp2
        go_roundw
        case rel => exact ⟨j + 1, u1, A', cap', by omega, by go_num, HW.out.2.2.2.2, hUp, HW.out.1.box5 HPP.out _ _ _ _ _, HW.out.2.1.set5 _ _ _ _ _, HW.out.2.2.1.other5 (by omega) _ _ _ _ _, below_set5 HW.out.2.2.2.1 (Nat.le_refl _) _ _ _ _ _⟩
        case measure => simp [intOf]; omega
      · have hAt := Lib.hid (hat.trans (atT_out hlt hin))
        have hR2 := Lib.hid (hR.out.trans (congrArg atOut hAt.out))
        have hbn := hul.bnd.len
        unfold maxLen at hbn
        have HW := Lib.hid (And.intro hY hB)
        have f0 := hY.e0
        have f1 := hY.e1
        have f2 := hY.e2
        have f3 := hY.e3
        have f4 := hY.e4
        have z0 := hY.froz 0
        have z1 := hY.froz 1
        have z2 := hY.froz 2
        have z3 := hY.froz 3
        have z4 := hY.froz 4
        generalize ps[j] = pj at *
        clear hX hY hB hat hul hAt hR
        by_cases hneg : pj < 0
        · go_wp2
          refine ret_five2 (B := w.heap.size + 1) rfl (HW.out.1.set5 _ _ _ _ _) rfl rfl ?_
          rw [hR2.out]
          exact ⟨below_set5 HW.out.2 (by omega) _ _ _ _ _, rfl⟩
        · have hge : ¬ pj < (u.l.length : Int) := fun h => hin ⟨by omega, h⟩
          go_wp2
          refine ret_five2 (B := w.heap.size + 1) rfl (HW.out.1.set5 _ _ _ _ _) rfl rfl ?_
          rw [hR2.out]
          exact ⟨below_set5 HW.out.2 (by omega) _ _ _ _ _, rfl⟩
    · obtain rfl : j = ps.length := by omega
      rw [List.drop_length] at hat
      have hR2 := Lib.hid (hR.out.trans (congrArg atOut (hat.trans rfl)))
      have HO1 := Lib.hid (HO.out u _ wr hul hB hup Hq.out)
      have HW := Lib.hid (And.intro hY hB)
      have e0 := hX.e0
      have e1 := hX.e1
      have e2 := hX.e2
      have e4 := hX.e4
      clear hX hY hB hat hul hR HO
      go_wp2_with fail
      refine HO1.out.mono ?_
      rintro e w2 ⟨v', rfl, hF, hb⟩
      obtain ⟨A2, cap2, rfl⟩ := hF.cells
      have V1 := HW.out.1.below hb hs2
      have g0 := V1.e0
      have g1 := V1.e1
      have g2 := V1.e2
      have g3 := V1.e3
      have g4 := V1.e4
      have y0 := V1.froz 0
      have y1 := V1.froz 1
      have y2 := V1.froz 2
      have y3 := V1.froz 3
      have y4 := V1.froz 4
      have HF := Lib.hid (And.intro hF (And.intro hb V1))
      clear hF hb V1 e0 e1 e2 e3 e4 HO1
      go_wp2
      refine ret_five2 (B := w.heap.size + 1) rfl (HF.out.2.2.set5 _ _ _ _ _) rfl rfl ?_
      rw [hR2.out]
      refine ⟨below_set5 (HW.out.2.trans (HF.out.2.1.mono hsz)) (by omega) _ _ _ _ _, _, rfl, HF.out.1.box5 hsz hs2 _ _ _ _ _⟩
end Go.Proofs.Ytckgmdlacaiacaa
