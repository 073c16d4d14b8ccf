/-
  ValueLooks: the walk.
-/
import Derived.Test.YtckgmdlacaiacaaLooks0
namespace Go.Proofs.Ytckgmdlacaiacaa
open Go.RowKit Go.Shelf
attribute [local go_sem] Oper.semAt_some

set_option maxRecDepth 100000 in
set_option maxHeartbeats 8000000 in
theorem Looks_w {pp : Nat → Prop} {m : Bool} (t : VT) (v : Value) (w : World) (h : Lies w pp m t v) (hpp : ∀ b, pp b → b < w.heap.size) :
    Calls Try.prog 3 #[v] w fun e w' => e = .returned (.bool true) ∧ Below w.heap.size w w' := by
  obtain ⟨A, cap, rfl⟩ := h.cells
  have HX0 := Lib.hid (BoxT.new w h hpp)
  have HB0 := Lib.hid ((Below.refl w.heap.size w).alloc (Nat.le_refl _) (.cells #[.int .u8 (t.k : Int), .int .i64 t.n, .string t.s, .slice A t.l.length cap, .int .i64 t.r] 26))
  clear h hpp
  go_enter Try.func3, Try.ntmps3
  go_wp2_with fail
  refine (small_w pp m t _ 1200 41 40 _ HX0.out.lies HX0.out.small (by omega) (by omega) (by omega)).mono ?_
  rintro e w1 ⟨rfl, hb⟩
  have HX1 := Lib.hid (HX0.out.step hb)
  have HB1 := Lib.hid (HB0.out.trans (hb.mono (by simp)))
  have hs1 := HB1.out.size
  clear hb HX0 HB0
  have e0 := HX1.out.box.e0
  have e1 := HX1.out.box.e1
  have e2 := HX1.out.box.e2
  have e3 := HX1.out.box.e3
  have e4 := HX1.out.box.e4
  obtain ⟨q, hq⟩ : ∃ q, t.sm 1200 41 = q := ⟨_, rfl⟩
  unfold smallV
  rw [hq]
  have Hq := Lib.hid hq
  clear hq
  cases q
  · have hm : t.may = false := by
      cases hm : t.may
      · rfl
      · have := VT.may_sm hm
        rw [Hq.out] at this
        cases this
    have Hm := Lib.hid hm
    clear hm
    rw [if_neg (by simp)]
    go_wp2_with fail
    refine (parts_w t _ _ HX1.out.lies HX1.out.small).mono ?_
    rintro e w2 ⟨rfl, hb⟩
    rw [Hm.out, if_neg (by simp)]
    have HX2 := Lib.hid (HX1.out.step hb)
    have HB2 := Lib.hid (HB1.out.trans (hb.mono hs1))
    have hs2 := HB2.out.size
    clear e0 e1 e2 e3 e4
    clear hb HX1 HB1
    have e0 := HX2.out.box.e0
    have e1 := HX2.out.box.e1
    have e2 := HX2.out.box.e2
    have e3 := HX2.out.box.e3
    have e4 := HX2.out.box.e4
    go_wp2_with fail
    refine (deep_w t _ _ HX2.out.lies HX2.out.small).mono ?_
    rintro e w3 ⟨rfl, hb⟩
    rw [Hm.out, if_neg (by simp)]
    have HX3 := Lib.hid (HX2.out.step hb)
    have HB3 := Lib.hid (HB2.out.trans (hb.mono hs2))
    have hs3 := HB3.out.size
    clear e0 e1 e2 e3 e4
    clear hb HX2 HB2
    have e0 := HX3.out.box.e0
    have e1 := HX3.out.box.e1
    have e2 := HX3.out.box.e2
    have e3 := HX3.out.box.e3
    have e4 := HX3.out.box.e4
    go_wp2_with fail
    refine (may_w t _ _ HX3.out.lies HX3.out.small).mono ?_
    rintro e w4 ⟨rfl, hb⟩
    rw [Hm.out]
    have HX4 := Lib.hid (HX3.out.step hb)
    have HB4 := Lib.hid (HB3.out.trans (hb.mono hs3))
    have hs4 := HB4.out.size
    clear e0 e1 e2 e3 e4
    clear hb HX3 HB3
    have e0 := HX4.out.box.e0
    have e1 := HX4.out.box.e1
    have e2 := HX4.out.box.e2
    have e3 := HX4.out.box.e3
    have e4 := HX4.out.box.e4
    go_wp2_with fail
    refine (Refs_w t _ _ HX4.out.lies HX4.out.small).mono ?_
    rintro e w5 ⟨rv, rfl, hown, hb⟩
    obtain ⟨rA, rc, rfl⟩ := owns_slice hown
    have hr0 : (refsM t).length = 0 := by unfold refsM; rw [Hm.out]; rfl
    rw [hr0]
    have HX5 := Lib.hid (HX4.out.step hb)
    have HB5 := Lib.hid (HB4.out.trans (hb.mono hs4))
    have hs5 := HB5.out.size
    clear e0 e1 e2 e3 e4
    clear hb HX4 HB4 hown
    go_wp2_with fail
    refine (awake_w _).mono ?_
    rintro e w6 ⟨rfl, hb⟩
    have HB6 := Lib.hid (HB5.out.trans (hb.mono hs5))
    clear hb HX5 HB5
    go_wp2
    go_ret
    exact ⟨rfl, HB6.out⟩
  · have hpar := VT.sm_parts Hq.out
    rw [if_pos rfl]
    go_wp2_with fail
    refine (lent_w pp m t _ _ HX1.out.lies HX1.out.small (by omega)).mono ?_
    rintro e w2 ⟨v3, rfl, hlin, hb⟩
    obtain ⟨A3, cap3, rfl⟩ := hlin.cells
    have hsb := hb.size
    have hw1 := HX1.out.box.lt
    have HS := Lib.hid (Lk2.mk ((HX1.out.step hb).alloc (.cells #[.int .u8 (t.k : Int), .int .i64 t.n, .string t.s, .slice A3 t.l.length cap3, .int .i64 t.r] 26)) (BoxT.new w2 hlin (fun _ h => h.2)) ((HB1.out.trans (hb.mono hs1)).alloc (by omega) _) (by omega))
    clear e0 e1 e2 e3 e4
    clear hb HX1 HB1 hlin hs1
    have e0 := HS.out.one.box.e0
    have e1 := HS.out.one.box.e1
    have e2 := HS.out.one.box.e2
    have e3 := HS.out.one.box.e3
    have e4 := HS.out.one.box.e4
    go_wp2_with fail
    refine (rparts_w t _ _ HS.out.one.lies HS.out.one.small).mono ?_
    rintro e w3 ⟨rfl, hb⟩
    have HS1 := Lib.hid (HS.out.step hb)
    clear e0 e1 e2 e3 e4
    clear hb HS
    generalize w2.heap.size = B3 at *
    generalize hp3 : (fun b => w1.heap.size ≤ b ∧ b < B3) = p3 at *
    clear hp3 hw1 hsb w1 w2
    obtain ⟨mb, hmb⟩ : ∃ b, t.may = b := ⟨_, rfl⟩
    have Hm := Lib.hid hmb
    rw [hmb]
    clear hmb
    cases mb
    · rw [if_neg (by simp)]
      have e0 := HS1.out.two.box.e0
      have e1 := HS1.out.two.box.e1
      have e2 := HS1.out.two.box.e2
      have e3 := HS1.out.two.box.e3
      have e4 := HS1.out.two.box.e4
      go_wp2_with fail
      refine (Own_w t _ _ HS1.out.two.lies HS1.out.two.small).mono ?_
      rintro e w4 ⟨hb, hres⟩
      rcases hres with ⟨hm, _⟩ | ⟨_, rfl⟩
      · rw [Hm.out] at hm; cases hm
      have HS2 := Lib.hid (HS1.out.step hb)
      have HS3 := Lib.hid (HS2.out.alloc (.cells #[.int .u8 0, .int .i64 0, .string ⟨#[]⟩, .slice none 0 0, .int .i64 0] 26))
      have HX5 := Lib.hid (Five.new w4 (.int .u8 0) (.int .i64 0) (.string ⟨#[]⟩) (.slice none 0 0) (.int .i64 0))
      clear e0 e1 e2 e3 e4
      clear hb HS1
      have e0 := HS3.out.two.box.e0
      have e1 := HS3.out.two.box.e1
      have e2 := HS3.out.two.box.e2
      have e3 := HS3.out.two.box.e3
      have e4 := HS3.out.two.box.e4
      go_wp2_with fail
      have HX3 := Lib.hid HX5.out
      clear HX5 HS2
      refine (Own_w t _ _ HS3.out.two.lies HS3.out.two.small).mono ?_
      rintro e w5 ⟨hb, hres⟩
      rcases hres with ⟨hm, _⟩ | ⟨_, rfl⟩
      · rw [Hm.out] at hm; cases hm
      have HS4 := Lib.hid (HS3.out.step hb)
      have HX4 := Lib.hid (HX3.out.below hb HX3.out.lt)
      clear e0 e1 e2 e3 e4
      clear hb HS3 HX3
      have HS5 := Lib.hid (HS4.out.alloc (.cells #[.int .u8 0, .int .i64 0, .string ⟨#[]⟩, .slice none 0 0, .int .i64 0] 26))
      have HX5 := Lib.hid (HX4.out.alloc (.cells #[.int .u8 0, .int .i64 0, .string ⟨#[]⟩, .slice none 0 0, .int .i64 0] 26))
      clear HS4 HX4
      generalize w4.heap.size = B5 at *
      clear w4
      have e0 := HS5.out.two.box.e0
      have e1 := HS5.out.two.box.e1
      have e2 := HS5.out.two.box.e2
      have e3 := HS5.out.two.box.e3
      have e4 := HS5.out.two.box.e4
      go_wp2_with fail
      refine (parts_w t _ _ HS5.out.two.lies HS5.out.two.small).mono ?_
      rintro e w6 ⟨rfl, hb⟩
      rw [Hm.out, if_neg (by simp)]
      have HS6 := Lib.hid (HS5.out.step hb)
      have HX6 := Lib.hid (HX5.out.below hb HX5.out.lt)
      clear e0 e1 e2 e3 e4
      clear hb HS5 HX5
      have e0 := HS6.out.two.box.e0
      have e1 := HS6.out.two.box.e1
      have e2 := HS6.out.two.box.e2
      have e3 := HS6.out.two.box.e3
      have e4 := HS6.out.two.box.e4
      go_wp2_with fail
      refine (may_w t _ _ HS6.out.two.lies HS6.out.two.small).mono ?_
      rintro e w7 ⟨rfl, hb⟩
      rw [Hm.out]
      have HS7 := Lib.hid (HS6.out.step hb)
      have HX7 := Lib.hid (HX6.out.below hb HX6.out.lt)
      clear e0 e1 e2 e3 e4
      clear hb HS6 HX6
      have e0 := HS7.out.two.box.e0
      have e1 := HS7.out.two.box.e1
      have e2 := HS7.out.two.box.e2
      have e3 := HS7.out.two.box.e3
      have e4 := HS7.out.two.box.e4
      go_wp2_with fail
      refine (deep_w t _ _ HS7.out.two.lies HS7.out.two.small).mono ?_
      rintro e w8 ⟨rfl, hb⟩
      rw [Hm.out, if_neg (by simp)]
      have HS8 := Lib.hid (HS7.out.step hb)
      have HX8 := Lib.hid (HX7.out.below hb HX7.out.lt)
      clear e0 e1 e2 e3 e4
      clear hb HS7 HX7
      have e0 := HS8.out.two.box.e0
      have e1 := HS8.out.two.box.e1
      have e2 := HS8.out.two.box.e2
      have e3 := HS8.out.two.box.e3
      have e4 := HS8.out.two.box.e4
      go_wp2_with fail
      refine (Refs_w t _ _ HS8.out.two.lies HS8.out.two.small).mono ?_
      rintro e w9 ⟨rv, rfl, hown, hb⟩
      obtain ⟨rA, rc, rfl⟩ := owns_slice hown
      have hr0 : (refsM t).length = 0 := by unfold refsM; rw [Hm.out]; rfl
      rw [hr0]
      clear hown hr0
      have HS9 := Lib.hid (HS8.out.step hb)
      have HX9 := Lib.hid (HX8.out.below hb HX8.out.lt)
      clear e0 e1 e2 e3 e4
      clear hb HS8 HX8
      have e0 := HS9.out.two.box.e0
      have e1 := HS9.out.two.box.e1
      have e2 := HS9.out.two.box.e2
      have e3 := HS9.out.two.box.e3
      have e4 := HS9.out.two.box.e4
      have f0 := HS9.out.one.box.e0
      have f1 := HS9.out.one.box.e1
      have f2 := HS9.out.one.box.e2
      have f3 := HS9.out.one.box.e3
      have f4 := HS9.out.one.box.e4
      have g0 := HX9.out.e0
      have g3 := HX9.out.e3
      go_wp2_with fail
      refine (kept_w p3 pp m t _ _ _ HS9.out.two.lies HS9.out.one.lies HS9.out.two.small HS9.out.one.small).mono ?_
      rintro e w10 ⟨rfl, hb⟩
      have HS10 := Lib.hid (HS9.out.step hb)
      clear e0 e1 e2 e3 e4 f0 f1 f2 f3 f4
      clear hb HS9 HX9 g0 g3
      go_wp2_with fail
      refine (awake_w _).mono ?_
      rintro e w11 ⟨rfl, hb⟩
      have HS11 := Lib.hid (HS10.out.step hb)
      clear hb HS10
      go_wp2
      go_ret
      exact ⟨rfl, HS11.out.below⟩
    · rw [if_pos rfl]
      have hpos := VT.parts_pos t
      have q1 : decide ((0 : Int) < (t.parts : Int)) = true := decide_eq_true (by omega)
      have q1' : decide (0 < t.parts) = true := decide_eq_true (by omega)
      have q2' : (t.parts == 0) = false := by rw [beq_eq_false_iff_ne]; omega
      have q2 : ((t.parts : Int) == 0) = false := by rw [beq_eq_false_iff_ne]; omega
      have e0 := HS1.out.two.box.e0
      have e1 := HS1.out.two.box.e1
      have e2 := HS1.out.two.box.e2
      have e3 := HS1.out.two.box.e3
      have e4 := HS1.out.two.box.e4
      go_wp2_with fail
      refine (Own_w t _ _ HS1.out.two.lies HS1.out.two.small).mono ?_
      rintro e w4 ⟨hb, hres⟩
      rcases hres with ⟨-, va, rfl, hF⟩ | ⟨hm, -⟩
      case inr => rw [Hm.out] at hm; cases hm
      obtain ⟨A5, cap5, rfl⟩ := hF.cells
      obtain ⟨F, hA⟩ := LkA.new hF HS1.out.bLt
      have HA := Lib.hid hA
      have h35 : B3 < w4.heap.size := Nat.lt_of_lt_of_le HS1.out.bLt hb.size
      have HS3 := Lib.hid ((HS1.out.step hb).alloc (.cells #[.int .u8 (t.k : Int), .int .i64 t.n, .string t.s, .slice A5 t.l.length cap5, .int .i64 t.r] 26))
      clear e0 e1 e2 e3 e4
      clear hb HS1 hF hA
      have e0 := HS3.out.two.box.e0
      have e1 := HS3.out.two.box.e1
      have e2 := HS3.out.two.box.e2
      have e3 := HS3.out.two.box.e3
      have e4 := HS3.out.two.box.e4
      go_wp2_with fail
      refine (Own_w t _ _ HS3.out.two.lies HS3.out.two.small).mono ?_
      rintro e w5 ⟨hb, hres⟩
      rcases hres with ⟨-, va, rfl, hF⟩ | ⟨hm, -⟩
      case inr => rw [Hm.out] at hm; cases hm
      obtain ⟨A7, cap7, rfl⟩ := hF.cells
      have HS5 := Lib.hid ((HS3.out.step hb).alloc (.cells #[.int .u8 (t.k : Int), .int .i64 t.n, .string t.s, .slice A7 t.l.length cap7, .int .i64 t.r] 26))
      have HA5 := Lib.hid ((HA.out.step hb).alloc (.cells #[.int .u8 (t.k : Int), .int .i64 t.n, .string t.s, .slice A7 t.l.length cap7, .int .i64 t.r] 26))
      have HT5 := Lib.hid (BoxT.new w5 hF.from (fun _ h => h.2))
      have hs45 : w4.heap.size < (w4.alloc (.cells #[.int .u8 (t.k : Int), .int .i64 t.n, .string t.s, .slice A5 t.l.length cap5, .int .i64 t.r] 26)).heap.size := by simp
      have h5b := hb.size
      clear e0 e1 e2 e3 e4
      clear hb HS3 HA hF
      generalize w4.heap.size = B5 at *
      generalize (w4.alloc (.cells #[.int .u8 (t.k : Int), .int .i64 t.n, .string t.s, .slice A5 t.l.length cap5, .int .i64 t.r] 26)).heap.size = N5 at *
      clear w4
      have e0 := HS5.out.two.box.e0
      have e1 := HS5.out.two.box.e1
      have e2 := HS5.out.two.box.e2
      have e3 := HS5.out.two.box.e3
      have e4 := HS5.out.two.box.e4
      go_wp2_with fail
      refine (parts_w t _ _ HS5.out.two.lies HS5.out.two.small).mono ?_
      rintro e w6 ⟨rfl, hb⟩
      rw [Hm.out, if_pos rfl]
      have HS6 := Lib.hid (HS5.out.step hb)
      have HA6 := Lib.hid (HA5.out.step hb)
      have HT6 := Lib.hid (HT5.out.step hb)
      clear e0 e1 e2 e3 e4
      clear hb HS5 HA5 HT5
      generalize w5.heap.size = B7 at *
      clear w5
      have e0 := HS6.out.two.box.e0
      have e1 := HS6.out.two.box.e1
      have e2 := HS6.out.two.box.e2
      have e3 := HS6.out.two.box.e3
      have e4 := HS6.out.two.box.e4
      go_wp2_with fail
      refine (may_w t _ _ HS6.out.two.lies HS6.out.two.small).mono ?_
      rintro e w7 ⟨rfl, hb⟩
      rw [Hm.out]
      have HS7 := Lib.hid (HS6.out.step hb)
      have HA7 := Lib.hid (HA6.out.step hb)
      have HT7 := Lib.hid (HT6.out.step hb)
      clear e0 e1 e2 e3 e4
      clear hb HS6 HA6 HT6
      have e0 := HS7.out.two.box.e0
      have e1 := HS7.out.two.box.e1
      have e2 := HS7.out.two.box.e2
      have e3 := HS7.out.two.box.e3
      have e4 := HS7.out.two.box.e4
      go_wp2_with fail
      refine (Refs_w t _ _ HS7.out.two.lies HS7.out.two.small).mono ?_
      rintro e w8 ⟨lv, rfl, hown, hb⟩
      have hrm : refsM t = refsT t := if_pos Hm.out
      rw [hrm] at hown
      obtain ⟨lA, lc, rfl, hl⟩ := rowF_of hown
      have HL := Lib.hid hl
      have hlt7 := HT7.out.box.lt
      have hs78 := hb.size
      clear hown hrm hl
      have HS8 := Lib.hid (HS7.out.step hb)
      have HA8 := Lib.hid (HA7.out.step hb)
      have HT8 := Lib.hid (HT7.out.step hb)
      clear e0 e1 e2 e3 e4
      clear hb HS7 HA7 HT7
      have e0 := HS8.out.two.box.e0
      have e1 := HS8.out.two.box.e1
      have e2 := HS8.out.two.box.e2
      have e3 := HS8.out.two.box.e3
      have e4 := HS8.out.two.box.e4
      go_wp2_with fail
      refine (Refs_w t _ _ HS8.out.two.lies HS8.out.two.small).mono ?_
      rintro e w9 ⟨mv, rfl, hown, hb⟩
      have hrm : refsM t = refsT t := if_pos Hm.out
      rw [hrm] at hown
      obtain ⟨mA, mc, rfl, hl⟩ := rowF_of hown
      have HM := Lib.hid hl
      have HL9 := Lib.hid (HL.out.step hb (Nat.le_refl _))
      have hs89 := hb.size
      clear hown hrm hl HL
      have HS9 := Lib.hid (HS8.out.step hb)
      have HA9 := Lib.hid (HA8.out.step hb)
      have HT9 := Lib.hid (HT8.out.step hb)
      clear e0 e1 e2 e3 e4
      clear hb HS8 HA8 HT8
      have e0 := HS9.out.one.box.e0
      have e1 := HS9.out.one.box.e1
      have e2 := HS9.out.one.box.e2
      have e3 := HS9.out.one.box.e3
      have e4 := HS9.out.one.box.e4
      go_wp2_with fail
      refine (rrefs_w pp m t _ _ HS9.out.one.lies HS9.out.one.small (by omega)).mono ?_
      rintro e w10 ⟨wv, rfl, hown, hb⟩
      obtain ⟨wA, wc, rfl, hl⟩ := rowF_of hown
      have HW := Lib.hid hl
      have HL10 := Lib.hid (HL9.out.step hb hs89)
      have HM10 := Lib.hid (HM.out.step hb (Nat.le_refl _))
      have hs910 := hb.size
      clear hown hl HL9 HM
      have HS10 := Lib.hid (HS9.out.step hb)
      have HA10 := Lib.hid (HA9.out.step hb)
      have HT10 := Lib.hid (HT9.out.step hb)
      clear e0 e1 e2 e3 e4
      clear hb HS9 HA9 HT9
      go_wp2_with fail
      have hbd : Below w10.heap.size w10 w10.drew := (Below.refl w10.heap.size w10).drew
      have HSd := Lib.hid (HS10.out.step hbd)
      have HAd := Lib.hid (HA10.out.step hbd)
      have HTd := Lib.hid (HT10.out.step hbd)
      have HLd := Lib.hid (HL10.out.step hbd (Nat.le_trans hs89 hs910))
      have HMd := Lib.hid (HM10.out.step hbd hs910)
      have HWd := Lib.hid (HW.out.step hbd (Nat.le_refl _))
      have hsd : w10.heap.size ≤ w10.drew.heap.size := hbd.size
      have HCd := Lib.hid (lk_cells HSd.out.one.box HSd.out.two.box HAd.out.box HTd.out.box)
      have h57 : B5 < B7 := Nat.lt_of_lt_of_le hs45 h5b
      go_region_held3 (fun w' => w'.cell? ⟨w.heap.size, 0, none⟩ = some (.int .u8 (t.k : Int)) ∧ w'.cell? ⟨w.heap.size, 1, none⟩ = some (.int .i64 t.n) ∧ w'.cell? ⟨w.heap.size, 2, none⟩ = some (.string t.s) ∧ w'.cell? ⟨w.heap.size, 3, none⟩ = some (.slice A t.l.length cap) ∧ w'.cell? ⟨w.heap.size, 4, none⟩ = some (.int .i64 t.r) ∧ w'.cell? ⟨B3, 0, none⟩ = some (.int .u8 (t.k : Int)) ∧ w'.cell? ⟨B3, 1, none⟩ = some (.int .i64 t.n) ∧ w'.cell? ⟨B3, 2, none⟩ = some (.string t.s) ∧ w'.cell? ⟨B3, 3, none⟩ = some (.slice A3 t.l.length cap3) ∧ w'.cell? ⟨B3, 4, none⟩ = some (.int .i64 t.r) ∧ w'.cell? ⟨B5, 0, none⟩ = some (.int .u8 (t.k : Int)) ∧ w'.cell? ⟨B5, 1, none⟩ = some (.int .i64 t.n) ∧ w'.cell? ⟨B5, 2, none⟩ = some (.string t.s) ∧ w'.cell? ⟨B5, 3, none⟩ = some (.slice A5 t.l.length cap5) ∧ w'.cell? ⟨B5, 4, none⟩ = some (.int .i64 t.r) ∧ w'.cell? ⟨B7, 0, none⟩ = some (.int .u8 (t.k : Int)) ∧ w'.cell? ⟨B7, 1, none⟩ = some (.int .i64 t.n) ∧ w'.cell? ⟨B7, 2, none⟩ = some (.string t.s) ∧ w'.cell? ⟨B7, 3, none⟩ = some (.slice A7 t.l.length cap7) ∧ w'.cell? ⟨B7, 4, none⟩ = some (.int .i64 t.r)) (first | exact HCd.out | exact HC11.out | exact HC12.out | exact HC13.out) (first | (go_at_call 16; refine (deep_w t _ _ HSd.out.two.lies HSd.out.two.small).mono ?_; rintro e w11 ⟨rfl, hb⟩; rw [Hm.out, if_pos rfl]; have HS11 := Lib.hid (HSd.out.step hb); have HA11 := Lib.hid (HAd.out.step hb); have HT11 := Lib.hid (HTd.out.step hb); have HL11 := Lib.hid (HLd.out.step hb (Nat.le_trans hs89 (Nat.le_trans hs910 hsd))); have HM11 := Lib.hid (HMd.out.step hb (Nat.le_trans hs910 hsd)); have HW11 := Lib.hid (HWd.out.step hb hsd); have hs11 := Nat.le_trans hsd hb.size; have HC11 := Lib.hid (lk_cells HS11.out.one.box HS11.out.two.box HA11.out.box HT11.out.box); clear hb) | (go_at_call 25; refine (rdeep_w pp m t _ _ HS11.out.one.lies HS11.out.one.small (by omega)).mono ?_; rintro e w12 ⟨rfl, hb⟩; have HS12 := Lib.hid (HS11.out.step hb); have HA12 := Lib.hid (HA11.out.step hb); have HT12 := Lib.hid (HT11.out.step hb); have HL12 := Lib.hid (HL11.out.step hb (Nat.le_trans hs89 (Nat.le_trans hs910 hs11))); have HM12 := Lib.hid (HM11.out.step hb (Nat.le_trans hs910 hs11)); have HW12 := Lib.hid (HW11.out.step hb hs11); have hs12 := Nat.le_trans hs11 hb.size; have HC12 := Lib.hid (lk_cells HS12.out.one.box HS12.out.two.box HA12.out.box HT12.out.box); clear hb) | (go_at_call 26; refine (held_w t _ _ _ F _ HA12.out.own HA12.out.nodup HA12.out.small HT12.out.lies HS12.out.one.lies (fun b hb => ⟨HT12.out.small b hb, fun hm => Nat.lt_irrefl _ (Nat.lt_of_lt_of_le (HA12.out.mem b hm).2 (Nat.le_trans (Nat.le_of_lt hs45) hb.1))⟩) (fun b hb => ⟨HS12.out.one.small b hb, fun hm => Nat.lt_irrefl _ (Nat.lt_trans (HA12.out.mem b hm).1 (Nat.lt_trans (HS12.out.one.low b hb) HS12.out.lt))⟩) Hm.out).mono ?_; rintro e w13 ⟨rfl, hc⟩; have HS13 := Lib.hid (HS12.out.chg hc (fun g hg => (HA12.out.mem g hg).1)); have HC13 := Lib.hid (lk_cells HS13.out.one.box HS13.out.two.box (HA12.out.box.chg hc (fun hm => Nat.lt_irrefl _ (HA12.out.mem _ hm).2)) (HT12.out.box.chg hc (fun hm => Nat.lt_irrefl _ (Nat.lt_trans (HA12.out.mem _ hm).2 h57)))); have HL13 := Lib.hid (HL12.out.chg hc (fun g hg => Nat.lt_trans (HA12.out.mem g hg).2 (Nat.lt_trans h57 hlt7)) (Nat.le_trans hs89 (Nat.le_trans hs910 hs12))); have HM13 := Lib.hid (HM12.out.chg hc (fun g hg => Nat.lt_of_lt_of_le (Nat.lt_trans (HA12.out.mem g hg).2 (Nat.lt_trans h57 hlt7)) hs78) (Nat.le_trans hs910 hs12)); have HW13 := Lib.hid (HW12.out.chg hc (fun g hg => Nat.lt_of_lt_of_le (Nat.lt_trans (HA12.out.mem g hg).2 (Nat.lt_trans h57 hlt7)) (Nat.le_trans hs78 hs89)) hs12); clear hc))
      have hlen := refsT_len t
      clear HCd HSd HAd HTd HLd HMd HWd HC11 HS11 HA11 HT11 HL11 HM11 HW11 HC12 HS12 HA12 HT12 HL12 HM12 HW12 HC13 HS10 HA10 HT10 HL10 HM10 HW
      generalize (refsT t).length = n at *
      generalize (fun j => (refsT t).getD j 0) = r at *
      go_wp2
      go_loopw [12] (fun iv wr => ∃ j : Nat, j ≤ n ∧ iv = .int .i64 (j : Int) ∧ Lk2 w t pp m A cap p3 B3 A3 cap3 wr ∧ RowF w7.heap.size w8.heap.size lA n (fun i => if i < j then wrap64 (wrap64 (-(r i)) - 1) else r i) wr ∧ RowF w8.heap.size w9.heap.size mA n r wr ∧ RowF w9.heap.size w10.heap.size wA n r wr) (fun iv _ => n - (intOf iv).toNat)
      case atStart => exact ⟨0, Nat.zero_le _, rfl, HS13.out, HL13.out.congr (fun i _ => by rw [if_neg (by omega)]), HM13.out, HW13.out⟩
      case round =>
        obtain ⟨j, hj, rfl, hS, hL, hM, hW⟩ := hrel
        clear HS13 HL13 HM13 HW13
        by_cases hlt : j < n
        · obtain ⟨g, rfl, hg1, hg2, hc, hf⟩ := hL.cell hlt
          rw [if_neg (Nat.lt_irrefl _)] at hc
          have HR := Lib.hid (And.intro hS (And.intro hL (And.intro hM hW)))
          clear hS hL hM hW
          have hgB : B3 < g := by omega
          go_wp2
          go_roundw
          case rel =>
            refine ⟨j + 1, hlt, by go_num, HR.out.1.chg (F := [g]) ((Chg.refl [g] wr).set (.inl (by simp)) _) (fun g' hg' => by rw [List.mem_singleton.1 hg']; exact hgB), (HR.out.2.1.set rfl _).congr (fun i _ => ?_), HR.out.2.2.1.other (.inl hg2) _, HR.out.2.2.2.other (.inl (Nat.lt_of_lt_of_le hg2 hs89)) _⟩
            by_cases e : i = j
            · subst e; rw [if_pos (Nat.lt_succ_self _), if_pos rfl]
            · rw [if_neg e]
              by_cases e2 : i < j
              · rw [if_pos e2, if_pos (by omega)]
              · rw [if_neg e2, if_neg (by omega)]
          case measure => simp [intOf]; omega
        · obtain rfl : j = n := by omega
          have HS := Lib.hid hS
          have HL := Lib.hid (hL.congr (f' := fun i => wrap64 (wrap64 (-(r i)) - 1)) (fun i hi => by rw [if_pos hi]))
          have HM := Lib.hid hM
          have HW := Lib.hid hW
          clear hS hL hM hW
          go_wp2
          go_loopw [13] (fun iv wq => ∃ i : Nat, i ≤ j ∧ iv = .int .i64 (i : Int) ∧ Lk2 w t pp m A cap p3 B3 A3 cap3 wq ∧ RowF w7.heap.size w8.heap.size lA j (fun i => wrap64 (wrap64 (-(r i)) - 1)) wq ∧ RowF w8.heap.size w9.heap.size mA j r wq ∧ RowF w9.heap.size w10.heap.size wA j r wq) (fun iv _ => j - (intOf iv).toNat)
          case atStart => exact ⟨0, Nat.zero_le _, rfl, HS.out, HL.out, HM.out, HW.out⟩
          case round =>
            obtain ⟨i, hi, rfl, hS, hL, hM, hW⟩ := hrel
            clear HS HL HM HW
            by_cases hlt2 : i < j
            · obtain ⟨g1, rfl, -, -, c1, -⟩ := hL.cell hlt2
              obtain ⟨g2, rfl, -, -, c2, -⟩ := hM.cell hlt2
              obtain ⟨g3, rfl, -, -, c3, -⟩ := hW.cell hlt2
              have hI1 : (i : Int) < (j : Int) := by omega
              have hI0 : (0 : Int) ≤ (i : Int) := by omega
              have HR := Lib.hid (And.intro hS (And.intro hL (And.intro hM hW)))
              clear hS hL hM hW
              go_wp2_with fail
              go_quiet (fail)
              have hbq := fun nq => below_drewN (Below.refl wr.heap.size wr) nq
              have HBQ := Lib.hid hbq
              clear hbq
              go_wp2
              go_roundw
              case rel => exact ⟨i + 1, by omega, by go_num, HR.out.1.step (HBQ.out _), HR.out.2.1.same (fun _ _ _ => heap_drewN _ _ _), HR.out.2.2.1.same (fun _ _ _ => heap_drewN _ _ _), HR.out.2.2.2.same (fun _ _ _ => heap_drewN _ _ _)⟩
              case measure => simp [intOf]; omega
            · have HS := Lib.hid hS
              clear hS hL hM hW
              have e0 := HS.out.two.box.e0
              have e1 := HS.out.two.box.e1
              have e2 := HS.out.two.box.e2
              have e3 := HS.out.two.box.e3
              have e4 := HS.out.two.box.e4
              have f0 := HS.out.one.box.e0
              have f1 := HS.out.one.box.e1
              have f2 := HS.out.one.box.e2
              have f3 := HS.out.one.box.e3
              have f4 := HS.out.one.box.e4
              go_wp2_with fail
              refine (kept_w p3 pp m t _ _ _ HS.out.two.lies HS.out.one.lies HS.out.two.small HS.out.one.small).mono ?_
              rintro e w20 ⟨rfl, hb⟩
              have HS20 := Lib.hid (HS.out.step hb)
              clear e0 e1 e2 e3 e4 f0 f1 f2 f3 f4
              clear hb HS
              go_wp2_with fail
              refine (awake_w _).mono ?_
              rintro e w21 ⟨rfl, hb⟩
              have HS21 := Lib.hid (HS20.out.step hb)
              clear hb HS20
              go_wp2
              go_ret
              exact ⟨rfl, HS21.out.below⟩
end Go.Proofs.Ytckgmdlacaiacaa
