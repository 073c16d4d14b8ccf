/-
  posternref02.With.
-/
import Derived.Deep.Cut
import Derived.Test.YtckgmdlacaiacaaWith
import Derived.Test.YtckgmdlacaiacaaRAt
namespace Go.Proofs.Ytckgmdlacaiacaa
open Go.RowKit Go.Shelf
attribute [local go_sem] Oper.semAt_some

/-- What the document's With leaves: a value over blocks of its own and over those of the part put in. -/
def WithN (p' : Nat → Prop) (w : World) (res : Option VT × Int) (e : Ending) (W : World) : Prop :=
  Below w.heap.size w W ∧ match res.1 with
    | none => e = .returned (.tuple #[zeroVal, .int .i64 res.2])
    | some t => ∃ v, e = .returned (.tuple #[v, .int .i64 res.2]) ∧ Lies W (fun b => p' b ∨ (w.heap.size ≤ b ∧ b < W.heap.size)) false t v

set_option maxRecDepth 100000 in
set_option maxHeartbeats 16000000 in
theorem rWith_w {pp pp' : Nat → Prop} {m m' : Bool} (t u : VT) (v v' : Value) (ps : List Int) (PA : Option Addr) (pc : Nat) (w : World) (h : Lies w pp m t v) (h' : Lies w pp' m' u v') (hpp : ∀ b, pp b → b < w.heap.size) (hpp' : ∀ b, pp' b → b < w.heap.size) (hps : IntsAt w w.heap.size PA ps) (hpl : ps.length ≤ 4294967295) (hpc : ps.length ≤ pc) (hpm : pc ≤ maxLen) :
    Calls Try.prog 34 #[v, v', .slice PA ps.length pc] w (WithN pp' w (withRes t u ps)) := by
  have HMt := Lib.hid (fun W hW => rmay_w t _ W (h.below (W' := W) hW hpp) (fun b hb => Nat.lt_of_lt_of_le (hpp b hb) (Below.size hW)))
  have HMu := Lib.hid (fun W hW => rmay_w u _ W (h'.below (W' := W) hW hpp') (fun b hb => Nat.lt_of_lt_of_le (hpp' b hb) (Below.size hW)))
  have HAt := Lib.hid (fun W (hW : Below w.heap.size w W) => rAt_w t _ ps PA pc W (h.below (W' := W) hW hpp) (fun b hb => Nat.lt_of_lt_of_le (hpp b hb) (Below.size hW)) ((hps.below hW (Nat.le_refl _)).mono hW.size) hpl)
  have HLd := Lib.hid (fun W (hW : Below w.heap.size w W) (hm : t.may = true) (ha : atT t ps ≠ none) => laid_w pp pp' m m' u _ ps t _ PA pc W (h.below (W' := W) hW hpp) (h'.below (W' := W) hW hpp') (fun b hb => Nat.lt_of_lt_of_le (hpp b hb) (Below.size hW)) (fun b hb => Nat.lt_of_lt_of_le (hpp' b hb) (Below.size hW)) ((hps.below hW (Nat.le_refl _)).mono hW.size) ha (by have := may_good hm; omega) hpl hpc hpm)
  have HPP := Lib.hid hpp'
  obtain ⟨A, cap, rfl⟩ := h.cells
  obtain ⟨A1, cap1, rfl⟩ := h'.cells
  have HR := Lib.hid (show withRes t u ps = if (t.may && u.may) = true then withOut t u ps (atT t ps) else (none, 2) from rfl)
  have HAR := Lib.hid (show t.may = true → atRes t ps = atOut (atT t ps) from fun hm => if_pos hm)
  have X1 := (Five.new (w.alloc (.cells #[.int .u8 (t.k : Int), .int .i64 t.n, .string t.s, .slice A t.l.length cap, .int .i64 t.r] 26)) (.int .u8 (u.k : Int)) (.int .i64 u.n) (.string u.s) (.slice A1 u.l.length cap1) (.int .i64 u.r)).alloc (.cells #[.int .u8 0, .int .i64 0, .string ⟨#[]⟩, .slice none 0 0, .int .i64 0] 26)
  have X2 := Five.new ((w.alloc (.cells #[.int .u8 (t.k : Int), .int .i64 t.n, .string t.s, .slice A t.l.length cap, .int .i64 t.r] 26)).alloc (.cells #[.int .u8 (u.k : Int), .int .i64 u.n, .string u.s, .slice A1 u.l.length cap1, .int .i64 u.r] 26)) (.int .u8 0) (.int .i64 0) (.string ⟨#[]⟩) (.slice none 0 0) (.int .i64 0)
  have X0 := ((Five.new w (.int .u8 (t.k : Int)) (.int .i64 t.n) (.string t.s) (.slice A t.l.length cap) (.int .i64 t.r)).alloc (.cells #[.int .u8 (u.k : Int), .int .i64 u.n, .string u.s, .slice A1 u.l.length cap1, .int .i64 u.r] 26)).alloc (.cells #[.int .u8 0, .int .i64 0, .string ⟨#[]⟩, .slice none 0 0, .int .i64 0] 26)
  rw [World.size_alloc] at X1
  rw [World.size_alloc, World.size_alloc] at X2
  have hb0 := Lib.hid ((((Below.refl w.heap.size w).alloc (Nat.le_refl _) (.cells #[.int .u8 (t.k : Int), .int .i64 t.n, .string t.s, .slice A t.l.length cap, .int .i64 t.r] 26)).alloc (by simp) (.cells #[.int .u8 (u.k : Int), .int .i64 u.n, .string u.s, .slice A1 u.l.length cap1, .int .i64 u.r] 26)).alloc (by simp; omega) (.cells #[.int .u8 0, .int .i64 0, .string ⟨#[]⟩, .slice none 0 0, .int .i64 0] 26))
  have HX := Lib.hid (And.intro X0 (And.intro X1 X2))
  obtain ⟨q, hq⟩ : ∃ q, t.may = q := ⟨_, rfl⟩
  obtain ⟨q', hq'⟩ : ∃ q, u.may = q := ⟨_, rfl⟩
  rw [hq] at HMt HR
  rw [hq'] at HMu HR
  have Hq := Lib.hid (And.intro hq hq')
  generalize withRes t u ps = res at *
  generalize hk0 : t.k = a0 at *
  generalize hk1 : t.n = a1 at *
  generalize hk2 : t.s = a2 at *
  generalize hk3 : t.l.length = a3 at *
  generalize hk4 : t.r = a4 at *
  generalize hl0 : u.k = d0 at *
  generalize hl1 : u.n = d1 at *
  generalize hl2 : u.s = d2 at *
  generalize hl3 : u.l.length = d3 at *
  generalize hl4 : u.r = d4 at *
  clear h h' hpp hpp' hps X0 X1 X2 hq hq' hk0 hk1 hk2 hk3 hk4 hl0 hl1 hl2 hl3 hl4
  go_enter Try.func34, Try.ntmps34
  go_wp2_with fail
  refine (HMt.out _ hb0.out).mono ?_
  rintro e w1 ⟨rfl, hb⟩
  have HB := Lib.hid (hb0.out.trans (hb.mono (by simp; omega)))
  have HY := Lib.hid (And.intro (HX.out.1.below hb HX.out.1.lt) (And.intro (HX.out.2.1.below hb HX.out.2.1.lt) (HX.out.2.2.below hb HX.out.2.2.lt)))
  clear hb HX hb0
  have hs1 := HB.out.size
  have e0 := HY.out.1.e0
  have e1 := HY.out.1.e1
  have e2 := HY.out.1.e2
  have e3 := HY.out.1.e3
  have e4 := HY.out.1.e4
  have f0 := HY.out.2.1.e0
  have f1 := HY.out.2.1.e1
  have f2 := HY.out.2.1.e2
  have f3 := HY.out.2.1.e3
  have f4 := HY.out.2.1.e4
  have g0 := HY.out.2.2.e0
  have g1 := HY.out.2.2.e1
  have g2 := HY.out.2.2.e2
  have g3 := HY.out.2.2.e3
  have g4 := HY.out.2.2.e4
  have z0 := HY.out.2.2.froz 0
  have z1 := HY.out.2.2.froz 1
  have z2 := HY.out.2.2.froz 2
  have z3 := HY.out.2.2.froz 3
  have z4 := HY.out.2.2.froz 4
  have hl2 := HY.out.2.2.lt
  cases q
  · have HV := Lib.hid (HR.out.trans (if_neg (by simp)))
    go_wp2
    refine ret_five2 (B := w.heap.size + 1 + 1) rfl (HY.out.2.2.set5 _ _ _ _ _) rfl rfl ?_
    rw [HV.out]
    exact ⟨below_set5 HB.out (by omega) _ _ _ _ _, rfl⟩
  go_wp2_with fail
  refine (HMu.out _ HB.out).mono ?_
  rintro e w2 ⟨rfl, hb⟩
  replace HB := Lib.hid (HB.out.trans (hb.mono hs1))
  replace HY := Lib.hid (And.intro (HY.out.1.below hb HY.out.1.lt) (And.intro (HY.out.2.1.below hb HY.out.2.1.lt) (HY.out.2.2.below hb HY.out.2.2.lt)))
  clear hb e0 e1 e2 e3 e4 f0 f1 f2 f3 f4 g0 g1 g2 g3 g4 z0 z1 z2 z3 z4 hs1 hl2
  have hs2 := HB.out.size
  have e0 := HY.out.1.e0
  have e1 := HY.out.1.e1
  have e2 := HY.out.1.e2
  have e3 := HY.out.1.e3
  have e4 := HY.out.1.e4
  have f0 := HY.out.2.1.e0
  have f1 := HY.out.2.1.e1
  have f2 := HY.out.2.1.e2
  have f3 := HY.out.2.1.e3
  have f4 := HY.out.2.1.e4
  have g0 := HY.out.2.2.e0
  have g1 := HY.out.2.2.e1
  have g2 := HY.out.2.2.e2
  have g3 := HY.out.2.2.e3
  have g4 := HY.out.2.2.e4
  have z0 := HY.out.2.2.froz 0
  have z1 := HY.out.2.2.froz 1
  have z2 := HY.out.2.2.froz 2
  have z3 := HY.out.2.2.froz 3
  have z4 := HY.out.2.2.froz 4
  have hl2 := HY.out.2.2.lt
  cases q'
  · have HV := Lib.hid (HR.out.trans (if_neg (by simp)))
    go_wp2
    refine ret_five2 (B := w.heap.size + 1 + 1) rfl (HY.out.2.2.set5 _ _ _ _ _) rfl rfl ?_
    rw [HV.out]
    exact ⟨below_set5 HB.out (by omega) _ _ _ _ _, rfl⟩
  replace HR := Lib.hid (HR.out.trans (if_pos (by rfl)))
  go_wp2_with fail
  refine (HAt.out _ HB.out).mono ?_
  rintro e w3 ⟨hb, hv⟩
  rw [HAR.out Hq.out.1] at hv
  have HB3 := Lib.hid (HB.out.trans (hb.mono hs2))
  have HY3 := Lib.hid (And.intro (HY.out.1.below hb HY.out.1.lt) (And.intro (HY.out.2.1.below hb HY.out.2.1.lt) (HY.out.2.2.below hb HY.out.2.2.lt)))
  clear hb HB HY e0 e1 e2 e3 e4 f0 f1 f2 f3 f4 g0 g1 g2 g3 g4 z0 z1 z2 z3 z4 hl2 hs2
  have hs2 := HB3.out.size
  have e0 := HY3.out.1.e0
  have e1 := HY3.out.1.e1
  have e2 := HY3.out.1.e2
  have e3 := HY3.out.1.e3
  have e4 := HY3.out.1.e4
  have f0 := HY3.out.2.1.e0
  have f1 := HY3.out.2.1.e1
  have f2 := HY3.out.2.1.e2
  have f3 := HY3.out.2.1.e3
  have f4 := HY3.out.2.1.e4
  have g0 := HY3.out.2.2.e0
  have g1 := HY3.out.2.2.e1
  have g2 := HY3.out.2.2.e2
  have g3 := HY3.out.2.2.e3
  have g4 := HY3.out.2.2.e4
  have z0 := HY3.out.2.2.froz 0
  have z1 := HY3.out.2.2.froz 1
  have z2 := HY3.out.2.2.froz 2
  have z3 := HY3.out.2.2.froz 3
  have z4 := HY3.out.2.2.froz 4
  have hl2 := HY3.out.2.2.lt
  cases hat : atT t ps with
  | none =>
    rw [hat] at hv HR
    obtain rfl := hv
    have HV := Lib.hid (show res = (none, 22) from HR.out)
    dsimp only [atOut, zeroVal]
    go_wp2
    refine ret_five2 (B := w.heap.size + 1 + 1) rfl ((HY3.out.2.2.set5 _ _ _ _ _).alloc _) rfl rfl ?_
    rw [HV.out]
    exact ⟨(below_set5 HB3.out (by omega) _ _ _ _ _).alloc (by simp; omega) _, rfl⟩
  | some x =>
    rw [hat] at hv HR
    obtain ⟨vx, rfl, hx⟩ := hv
    obtain ⟨A5, cap5, rfl⟩ := hx.cells
    clear hx
    dsimp only [atOut]
    go_upto_region 6 with fail
    have hb := (Below.refl w3.heap.size w3).alloc (Nat.le_refl _) (.cells #[.int .u8 (x.k : Int), .int .i64 x.n, .string x.s, .slice A5 x.l.length cap5, .int .i64 x.r] 26)
    have HB4 := Lib.hid (HB3.out.trans (hb.mono hs2))
    have HY4 := Lib.hid (And.intro (HY3.out.1.below hb HY3.out.1.lt) (And.intro (HY3.out.2.1.below hb HY3.out.2.1.lt) (HY3.out.2.2.below hb HY3.out.2.2.lt)))
    clear hb HB3 HY3 e0 e1 e2 e3 e4 f0 f1 f2 f3 f4 g0 g1 g2 g3 g4 z0 z1 z2 z3 z4 hl2 hs2
    generalize w3.heap.size = BX
    generalize w3.alloc (.cells #[.int .u8 (x.k : Int), .int .i64 x.n, .string x.s, .slice A5 x.l.length cap5, .int .i64 x.r] 26) = w4 at *
    have hs4 := HB4.out.size
    have e0 := HY4.out.1.e0
    have e1 := HY4.out.1.e1
    have e2 := HY4.out.1.e2
    have e3 := HY4.out.1.e3
    have e4 := HY4.out.1.e4
    have f0 := HY4.out.2.1.e0
    have f1 := HY4.out.2.1.e1
    have f2 := HY4.out.2.1.e2
    have f3 := HY4.out.2.1.e3
    have f4 := HY4.out.2.1.e4
    have Hat := Lib.hid hat
    clear hat
    go_wp2_with fail
    refine (HLd.out _ HB4.out Hq.out.1 (by rw [Hat.out]; simp)).mono ?_
    rintro e w5 ⟨vv, rfl, hL, hb⟩
    obtain ⟨A6, cap6, rfl⟩ := hL.cells
    have HB5 := Lib.hid (HB4.out.trans (hb.mono hs4))
    have HX5 := Lib.hid (HY4.out.2.2.below hb HY4.out.2.2.lt)
    have hs5 := HB5.out.size
    have hs45 := hb.size
    have HL := Lib.hid hL
    have hl4 := HY4.out.2.2.lt
    generalize w4.heap.size = n4 at *
    have HR5 := Lib.hid (show res = if (setT u t ps).may then (some (setT u t ps), 0) else (none, 4) from HR.out)
    clear hL hb HR HLd HMt HMu HAt HAR HY4 HB4 e0 e1 e2 e3 e4 f0 f1 f2 f3 f4
    generalize setT u t ps = y at *
    go_upto_region 7 with fail
    have hb := (Below.refl w5.heap.size w5).alloc (Nat.le_refl _) (.cells #[.int .u8 (y.k : Int), .int .i64 y.n, .string y.s, .slice A6 y.l.length cap6, .int .i64 y.r] 26)
    have HB6 := Lib.hid (HB5.out.trans (hb.mono hs5))
    have HX6 := Lib.hid (HX5.out.below hb HX5.out.lt)
    have HBx := Lib.hid (Five.new w5 (.int .u8 (y.k : Int)) (.int .i64 y.n) (.string y.s) (.slice A6 y.l.length cap6) (.int .i64 y.r))
    have HL6 := Lib.hid (Lies.below hb (fun b hb => by
      rcases hb with h | h
      · have := HPP.out b h; omega
      · exact h.2) HL.out)
    have hs56 : w5.heap.size < (w5.alloc (.cells #[.int .u8 (y.k : Int), .int .i64 y.n, .string y.s, .slice A6 y.l.length cap6, .int .i64 y.r] 26)).heap.size := by simp
    clear hb HB5 HX5 HL
    generalize w5.alloc (.cells #[.int .u8 (y.k : Int), .int .i64 y.n, .string y.s, .slice A6 y.l.length cap6, .int .i64 y.r] 26) = w6 at *
    generalize w5.heap.size = B5 at *
    have hs6 := HB6.out.size
    have HM6 := Lib.hid (rmay_w y _ w6 HL6.out (fun b hb => by
      rcases hb with h | h
      · have := HPP.out b h; omega
      · have := h.2; omega))
    obtain ⟨qx, hqx⟩ : ∃ q, y.may = q := ⟨_, rfl⟩
    rw [hqx] at HM6 HR5
    clear hqx
    have e0 := HBx.out.e0
    have e1 := HBx.out.e1
    have e2 := HBx.out.e2
    have e3 := HBx.out.e3
    have e4 := HBx.out.e4
    go_wp2_with fail
    refine HM6.out.mono ?_
    rintro e w7 ⟨rfl, hb⟩
    have HX7 := Lib.hid (HX6.out.below hb HX6.out.lt)
    have HB7 := Lib.hid (HB6.out.trans (hb.mono hs6))
    have HBx7 := Lib.hid (HBx.out.below hb HBx.out.lt)
    have HL7 := Lib.hid (Lies.below hb (fun b hb => by
      rcases hb with h | h
      · have := HPP.out b h; omega
      · have := h.2; omega) HL6.out)
    have hs7 := hb.size
    clear hb e0 e1 e2 e3 e4
    have e0 := HBx7.out.e0
    have e1 := HBx7.out.e1
    have e2 := HBx7.out.e2
    have e3 := HBx7.out.e3
    have e4 := HBx7.out.e4
    have g0 := HX7.out.e0
    have g1 := HX7.out.e1
    have g2 := HX7.out.e2
    have g3 := HX7.out.e3
    have g4 := HX7.out.e4
    have z0 := HX7.out.froz 0
    have z1 := HX7.out.froz 1
    have z2 := HX7.out.froz 2
    have z3 := HX7.out.froz 3
    have z4 := HX7.out.froz 4
    have hx7 := HX7.out.lt
    cases qx
    · have HV := Lib.hid (HR5.out.trans (if_neg (by simp)))
      go_wp2
      refine ret_five2 (B := w.heap.size + 1 + 1) rfl (HX7.out.set5 _ _ _ _ _) rfl rfl ?_
      rw [HV.out]
      exact ⟨below_set5 HB7.out (by omega) _ _ _ _ _, rfl⟩
    · have HV := Lib.hid (HR5.out.trans (if_pos rfl))
      go_wp2
      refine ret_five2 (B := w.heap.size + 1 + 1) rfl (HX7.out.set5 _ _ _ _ _) rfl rfl ?_
      rw [HV.out]
      refine ⟨below_set5 HB7.out (by omega) _ _ _ _ _, _, rfl, Lies.same (fun b hb => ?_) (fun b hb => heap_set5_other _ _ _ _ _ ?_) _ _ HL7.out⟩
      · rcases hb with h | h
        · exact .inl h
        · exact .inr ⟨by omega, by have := h.2; simp; omega⟩
      · rcases hb with h | h
        · have := HPP.out b h; omega
        · have := h.1; omega
end Go.Proofs.Ytckgmdlacaiacaa
