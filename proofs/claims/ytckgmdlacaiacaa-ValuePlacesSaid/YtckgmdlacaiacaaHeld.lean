/-
  The document's Order and Same; the statements' own: held.
-/
import Derived.Test.YtckgmdlacaiacaaOrd
namespace Go.Proofs.Ytckgmdlacaiacaa
open Go.RowKit Go.Shelf
attribute [local go_sem] Oper.semAt_some

theorem bless_irrefl : ∀ (x : List UInt8), Op.bytesLess x x = false
  | [] => rfl
  | a :: x => by
    have h1 : ¬ a < a := Nat.lt_irrefl _
    simp only [Op.bytesLess, h1, decide_false, Bool.false_or, beq_self_eq_true, Bool.true_and]
    exact bless_irrefl x
theorem ordT_refl : ∀ t : VT, ordT t t = 0 := by
  refine VT.ind fun k n s r l ih => ?_
  have hs : ¬ sL s s = true := by unfold sL; rw [bless_irrefl]; simp
  rw [ordT_eq, if_neg (by simp), if_neg (by simp [hs]), if_neg (by simp [hs])]
  have key : ∀ (l' : List VT), (∀ t ∈ l', t ∈ l) → ordL l' l' = 0 := by
    intro l'
    induction l' with
    | nil => intro _; rfl
    | cons t ts iht =>
      intro hm
      rw [ordL_cons, ih t (hm t List.mem_cons_self), if_neg (by simp)]
      exact iht (fun u hu => hm u (List.mem_cons_of_mem _ hu))
  exact key l (fun _ h => h)
def rOrderV (t u : VT) : Value := if t.may && u.may then .tuple #[.int .i64 (ordT t u), .int .i64 0] else .tuple #[.int .i64 0, .int .i64 2]
set_option maxHeartbeats 2000000 in
theorem rOrder_w {pp pp' : Nat → Prop} {m m' : Bool} (t u : VT) (va v : Value) (w : World) (ha : Lies w pp m t va) (h : Lies w pp' m' u v) (hpa : ∀ b, pp b → b < w.heap.size) (hpp : ∀ b, pp' b → b < w.heap.size) :
    Calls Try.prog 38 #[va, v] w fun e w' => e = .returned (rOrderV t u) ∧ Below w.heap.size w w' := by
  obtain ⟨A, cap, rfl⟩ := ha.cells
  obtain ⟨A1, cap1, rfl⟩ := h.cells
  have HM1 := Lib.hid (fun W hW => rmay_w t _ W (ha.below (W' := W) hW hpa) (fun b hb => Nat.lt_of_lt_of_le (hpa b hb) (Below.size hW)))
  have HM2 := Lib.hid (fun W hW => rmay_w u _ W (h.below (W' := W) hW hpp) (fun b hb => Nat.lt_of_lt_of_le (hpp b hb) (Below.size hW)))
  have HO := Lib.hid (fun W hW => rord_w pp pp' m m' t u _ _ W (ha.below (W' := W) hW hpa) (h.below (W' := W) hW hpp) (fun b hb => Nat.lt_of_lt_of_le (hpa b hb) (Below.size hW)) (fun b hb => Nat.lt_of_lt_of_le (hpp b hb) (Below.size hW)))
  have HV : rOrderV t u = if t.may && u.may then .tuple #[.int .i64 (ordT t u), .int .i64 0] else .tuple #[.int .i64 0, .int .i64 2] := rfl
  have HV := Lib.hid HV
  generalize rOrderV t u = ov at *
  generalize ordT t u = oc at *
  generalize t.may = q1 at *
  generalize u.may = q2 at *
  clear ha h
  generalize t.k = a0 at *
  generalize t.n = a1 at *
  generalize t.s = a2 at *
  generalize t.l.length = a3 at *
  generalize t.r = a4 at *
  generalize u.k = b0 at *
  generalize u.n = b1 at *
  generalize u.s = b2 at *
  generalize u.l.length = b3 at *
  generalize u.r = b4 at *
  have X0 := Five.new w (.int .u8 (a0 : Int)) (.int .i64 a1) (.string a2) (.slice A a3 cap) (.int .i64 a4)
  have X1 := Five.new (w.alloc (.cells #[.int .u8 (a0 : Int), .int .i64 a1, .string a2, .slice A a3 cap, .int .i64 a4] 26)) (.int .u8 (b0 : Int)) (.int .i64 b1) (.string b2) (.slice A1 b3 cap1) (.int .i64 b4)
  rw [World.size_alloc] at X1
  have HX := Lib.hid (And.intro (X0.alloc (.cells #[.int .u8 (b0 : Int), .int .i64 b1, .string b2, .slice A1 b3 cap1, .int .i64 b4] 26)) X1)
  have hB0 := Lib.hid (((Below.refl w.heap.size w).alloc (Nat.le_refl _) (.cells #[.int .u8 (a0 : Int), .int .i64 a1, .string a2, .slice A a3 cap, .int .i64 a4] 26)).alloc (by simp) (.cells #[.int .u8 (b0 : Int), .int .i64 b1, .string b2, .slice A1 b3 cap1, .int .i64 b4] 26))
  clear X0 X1
  go_enter Try.func38, Try.ntmps38
  go_wp2_with fail
  refine (HM1.out _ hB0.out).mono ?_
  rintro e w1 ⟨rfl, hb⟩
  have Y := HX.out.2.below hb HX.out.2.lt
  have Y0 := HX.out.1.below hb HX.out.1.lt
  have hB1 := Lib.hid (hB0.out.trans (hb.mono (by simp; omega)))
  have HY := Lib.hid (And.intro Y0 Y)
  have e0 := Y.e0
  have e1 := Y.e1
  have e2 := Y.e2
  have e3 := Y.e3
  have e4 := Y.e4
  clear hb Y Y0
  cases q1
  · go_wp2
    go_ret2
    exact ⟨by rw [HV.out]; rfl, hB1.out⟩
  have hs1 := hB1.out.size
  go_wp2_with fail
  refine (HM2.out _ hB1.out).mono ?_
  rintro e w2 ⟨rfl, hb⟩
  have Y := HY.out.2.below hb HY.out.2.lt
  have Y0 := HY.out.1.below hb HY.out.1.lt
  have hB2 := Lib.hid (hB1.out.trans (hb.mono hs1))
  have f0 := Y.e0
  have f1 := Y.e1
  have f2 := Y.e2
  have f3 := Y.e3
  have f4 := Y.e4
  have g0 := Y0.e0
  have g1 := Y0.e1
  have g2 := Y0.e2
  have g3 := Y0.e3
  have g4 := Y0.e4
  clear hb Y Y0 e0 e1 e2 e3 e4
  cases q2
  · go_wp2
    go_ret2
    exact ⟨by rw [HV.out]; rfl, hB2.out⟩
  have hs2 := hB2.out.size
  go_wp2_with fail
  refine (HO.out _ hB2.out).mono ?_
  rintro e w3 ⟨rfl, hb⟩
  have hB3 := Lib.hid (hB2.out.trans (hb.mono hs2))
  clear hb
  go_wp2
  go_ret2
  exact ⟨by rw [HV.out]; rfl, hB3.out⟩
def sameT (t u : VT) : Bool := t.may && u.may && (ordT t u == 0)
set_option maxHeartbeats 2000000 in
theorem rSame_w {pp pp' : Nat → Prop} {m m' : Bool} (t u : VT) (va v : Value) (w : World) (ha : Lies w pp m t va) (h : Lies w pp' m' u v) (hpa : ∀ b, pp b → b < w.heap.size) (hpp : ∀ b, pp' b → b < w.heap.size) :
    Calls Try.prog 29 #[va, v] w fun e w' => e = .returned (.bool (sameT t u)) ∧ Below w.heap.size w w' := by
  obtain ⟨A, cap, rfl⟩ := ha.cells
  obtain ⟨A1, cap1, rfl⟩ := h.cells
  have HO := Lib.hid (fun W hW => rOrder_w t u _ _ W (ha.below (W' := W) hW hpa) (h.below (W' := W) hW hpp) (fun b hb => Nat.lt_of_lt_of_le (hpa b hb) (Below.size hW)) (fun b hb => Nat.lt_of_lt_of_le (hpp b hb) (Below.size hW)))
  have HV : rOrderV t u = if t.may && u.may then .tuple #[.int .i64 (ordT t u), .int .i64 0] else .tuple #[.int .i64 0, .int .i64 2] := rfl
  have HV := Lib.hid HV
  have HS : sameT t u = (t.may && u.may && (ordT t u == 0)) := rfl
  have HS := Lib.hid HS
  generalize sameT t u = sv at *
  generalize rOrderV t u = ov at *
  generalize ordT t u = oc at *
  generalize (t.may && u.may) = q at *
  clear ha h
  generalize t.k = a0 at *
  generalize t.n = a1 at *
  generalize t.s = a2 at *
  generalize t.l.length = a3 at *
  generalize t.r = a4 at *
  generalize u.k = b0 at *
  generalize u.n = b1 at *
  generalize u.s = b2 at *
  generalize u.l.length = b3 at *
  generalize u.r = b4 at *
  have hB0 := Lib.hid (((Below.refl w.heap.size w).alloc (Nat.le_refl _) (.cells #[.int .u8 (a0 : Int), .int .i64 a1, .string a2, .slice A a3 cap, .int .i64 a4] 26)).alloc (by simp) (.cells #[.int .u8 (b0 : Int), .int .i64 b1, .string b2, .slice A1 b3 cap1, .int .i64 b4] 26))
  go_enter Try.func29, Try.ntmps29
  go_wp2_with fail
  refine (HO.out _ hB0.out).mono ?_
  rintro e w1 ⟨rfl, hb⟩
  have hB1 := Lib.hid (hB0.out.trans (hb.mono (by simp; omega)))
  clear hb
  cases q
  · obtain rfl := HV.out
    simp only [Bool.false_eq_true, if_false]
    go_wp2
    go_ret
    exact ⟨by first | rfl | (rw [HS.out]; rfl), hB1.out⟩
  · obtain rfl := HV.out
    simp only [if_true]
    go_wp2
    go_ret
    exact ⟨by first | rfl | (rw [HS.out]; rfl), hB1.out⟩

theorem sameT_refl {t : VT} (h : t.may = true) : sameT t t = true := by unfold sameT; rw [h, ordT_refl]; rfl
theorem Five.chg {F : List Nat} {W W' : World} {B : Nat} {c0 c1 c2 c3 c4 : Value} (h : Five W B c0 c1 c2 c3 c4) (hc : Chg F W W') (hB : B ∉ F) : Five W' B c0 c1 c2 c3 c4 := ⟨(hc.block B h.lt hB).trans h.row⟩
theorem Lies.chg {F : List Nat} {W W' : World} {p : Nat → Prop} {m : Bool} {t : VT} {v : Value} (h : Lies W p m t v) (hc : Chg F W W') (hp : ∀ b, p b → b < W.heap.size ∧ b ∉ F) : Lies W' p m t v :=
  Lies.same (fun _ h => h) (fun b hb => hc.block b (hp b hb).1 (hp b hb).2) t v h
theorem Own.below {W W' : World} {t : VT} {v : Value} {F : List Nat} (h : Own W t v F) (hb : Below W.heap.size W W') (hF : ∀ g ∈ F, g < W.heap.size) : Own W' t v F := Own.same_all t v F (fun g hg => hb.block g (hF g hg)) h

set_option maxRecDepth 100000 in
set_option maxHeartbeats 4000000 in
theorem held_w {pb pw : Nat → Prop} {m m' : Bool} (t : VT) (va vb vw : Value) (F : List Nat) (w : World) (ha : Own w t va F) (hF : F.Nodup) (hFl : ∀ g ∈ F, g < w.heap.size) (hb : Lies w pb m t vb) (hw : Lies w pw m' t vw)
    (hpb : ∀ b, pb b → b < w.heap.size ∧ b ∉ F) (hpw : ∀ b, pw b → b < w.heap.size ∧ b ∉ F) (hmay : t.may = true) :
    Calls Try.prog 26 #[va, vb, vw] w fun e w' => e = .returned (.bool true) ∧ Chg F w w' := by
  have hla := Own.lies _ _ _ ha
  have hparts : t.parts ≤ 512 := (look_may t).1 hmay |>.2.2
  have hsp : 5 ≤ t.sp ∧ t.sp ≤ 3072 := by
    have := VT.sp_bound t
    obtain ⟨k, n, s, r, l⟩ := t
    have h2 : VT.sp (.mk k n s r l) = VT.spL l + (l.length + 5) := rfl
    omega
  have hs0 : ∀ W, Chg F w W → ∀ b, b < w.heap.size → b < W.heap.size := fun W hc b hb => Nat.lt_of_lt_of_le hb hc.size
  obtain ⟨A, cap, rfl⟩ := ha.cells
  obtain ⟨A1, cap1, rfl⟩ := hb.cells
  obtain ⟨A2, cap2, rfl⟩ := hw.cells
  have HM := Lib.hid (fun W (hB : Below w.heap.size w W) => (rmay_w t _ W (hla.below hB (fun b hb => hFl b hb)) (fun b hb => Nat.lt_of_lt_of_le (hFl b hb) hB.size)).mono fun e w' h => (show e = .returned (.bool true) ∧ Below W.heap.size W w' from by rw [← hmay]; exact h))
  have HS1 := Lib.hid (fun W (hB : Below w.heap.size w W) => (rSame_w t t _ _ W (hla.below hB (fun b hb => hFl b hb)) (hw.below hB (fun b hb => (hpw b hb).1)) (fun b hb => Nat.lt_of_lt_of_le (hFl b hb) hB.size) (fun b hb => Nat.lt_of_lt_of_le (hpw b hb).1 hB.size)).mono fun e w' h => (show e = .returned (.bool true) ∧ Below W.heap.size W w' from by rw [← sameT_refl hmay]; exact h))
  have HP := Lib.hid (fun W (hB : Below w.heap.size w W) => spoil_w t _ F W (Own.same_all t _ F (fun g hg => hB.block g (hFl g hg)) ha) hF (fun g hg => Nat.lt_of_lt_of_le (hFl g hg) hB.size) (by omega))
  have HS2 := Lib.hid (fun W (hc : Chg F w W) => (rSame_w t t _ _ W (hb.chg hc hpb) (hw.chg hc hpw) (fun b hb => hs0 W hc b (hpb b hb).1) (fun b hb => hs0 W hc b (hpw b hb).1)).mono fun e w' h => (show e = .returned (.bool true) ∧ Below W.heap.size W w' from by rw [← sameT_refl hmay]; exact h))
  have HF := Lib.hid hFl
  have hk : t.k < 256 := hla.bnd.k
  clear ha hb hw hla hmay hFl hpb hpw hs0
  generalize t.sp = N at *
  generalize t.k = a0 at *
  generalize t.n = a1 at *
  generalize t.s = a2 at *
  generalize t.l.length = a3 at *
  generalize t.r = a4 at *
  have X0 := Five.new w (.int .u8 (a0 : Int)) (.int .i64 a1) (.string a2) (.slice A a3 cap) (.int .i64 a4)
  have X1 := Five.new (w.alloc (.cells #[.int .u8 (a0 : Int), .int .i64 a1, .string a2, .slice A a3 cap, .int .i64 a4] 26)) (.int .u8 (a0 : Int)) (.int .i64 a1) (.string a2) (.slice A1 a3 cap1) (.int .i64 a4)
  rw [World.size_alloc] at X1
  have X2 := Five.new ((w.alloc (.cells #[.int .u8 (a0 : Int), .int .i64 a1, .string a2, .slice A a3 cap, .int .i64 a4] 26)).alloc (.cells #[.int .u8 (a0 : Int), .int .i64 a1, .string a2, .slice A1 a3 cap1, .int .i64 a4] 26)) (.int .u8 (a0 : Int)) (.int .i64 a1) (.string a2) (.slice A2 a3 cap2) (.int .i64 a4)
  rw [World.size_alloc, World.size_alloc] at X2
  have HX := Lib.hid (And.intro ((X0.alloc (.cells #[.int .u8 (a0 : Int), .int .i64 a1, .string a2, .slice A1 a3 cap1, .int .i64 a4] 26)).alloc (.cells #[.int .u8 (a0 : Int), .int .i64 a1, .string a2, .slice A2 a3 cap2, .int .i64 a4] 26)) (And.intro (X1.alloc (.cells #[.int .u8 (a0 : Int), .int .i64 a1, .string a2, .slice A2 a3 cap2, .int .i64 a4] 26)) X2))
  have hB0 := Lib.hid ((((Below.refl w.heap.size w).alloc (Nat.le_refl _) (.cells #[.int .u8 (a0 : Int), .int .i64 a1, .string a2, .slice A a3 cap, .int .i64 a4] 26)).alloc (by simp) (.cells #[.int .u8 (a0 : Int), .int .i64 a1, .string a2, .slice A1 a3 cap1, .int .i64 a4] 26)).alloc (by simp <;> omega) (.cells #[.int .u8 (a0 : Int), .int .i64 a1, .string a2, .slice A2 a3 cap2, .int .i64 a4] 26))
  clear X0 X1 X2
  go_enter Try.func26, Try.ntmps26
  by_cases hk0 : a0 = 0
  · subst hk0
    go_wp2_with fail
    refine (HM.out _ hB0.out).mono ?_
    rintro e w0 ⟨rfl, hb⟩
    have Y0 := HX.out.1.below hb HX.out.1.lt
    have Y1 := HX.out.2.1.below hb HX.out.2.1.lt
    have Y2 := HX.out.2.2.below hb HX.out.2.2.lt
    have HB00 := Lib.hid (hB0.out.trans (hb.mono hB0.out.size))
    have HX0 := Lib.hid (And.intro Y0 (And.intro Y1 Y2))
    have p0 := Y0.e0
    have p1 := Y0.e1
    have p2 := Y0.e2
    have p3 := Y0.e3
    have p4 := Y0.e4
    have q0 := Y2.e0
    have q1 := Y2.e1
    have q2 := Y2.e2
    have q3 := Y2.e3
    have q4 := Y2.e4
    clear hb Y0 Y1 Y2
    go_wp2_with fail
    refine (HS1.out _ HB00.out).mono ?_
    rintro e w1 ⟨rfl, hb⟩
    have Y0 := HX0.out.1.below hb HX0.out.1.lt
    have Y1 := HX0.out.2.1.below hb HX0.out.2.1.lt
    have Y2 := HX0.out.2.2.below hb HX0.out.2.2.lt
    have HB1 := Lib.hid (HB00.out.trans (hb.mono HB00.out.size))
    have HY := Lib.hid (And.intro Y1 Y2)
    have d0 := Y0.e0
    have d1 := Y0.e1
    have d2 := Y0.e2
    have d3 := Y0.e3
    have d4 := Y0.e4
    clear hb Y0 Y1 Y2
    clear p0 p1 p2 p3 p4 q0 q1 q2 q3 q4
    go_wp2_with fail
    refine (HP.out _ HB1.out).mono ?_
    rintro e w2 ⟨rfl, hc⟩
    have Z1 := HY.out.1.chg hc (fun hm => by have := HF.out _ hm; omega)
    have Z2 := HY.out.2.chg hc (fun hm => by have := HF.out _ hm; omega)
    have HC2 := Lib.hid ((Chg.of_below (F := F) HB1.out).trans hc)
    have f0 := Z1.e0
    have f1 := Z1.e1
    have f2 := Z1.e2
    have f3 := Z1.e3
    have f4 := Z1.e4
    have g0 := Z2.e0
    have g1 := Z2.e1
    have g2 := Z2.e2
    have g3 := Z2.e3
    have g4 := Z2.e4
    have hN : decide ((0 : Int) < (N : Int)) = true := decide_eq_true (by omega)
    clear hc Z1 Z2
    clear d0 d1 d2 d3 d4
    go_wp2_with fail
    refine (HS2.out _ HC2.out).mono ?_
    rintro e w3 ⟨rfl, hb⟩
    have HC3 := Lib.hid (HC2.out.behind hb)
    clear hb
    go_wp2
    go_ret
    exact ⟨rfl, HC3.out⟩
  · have q0 : ((a0 : Int) == 0) = false := by rw [beq_eq_false_iff_ne]; omega
    go_wp2_with fail
    refine (HS1.out _ hB0.out).mono ?_
    rintro e w1 ⟨rfl, hb⟩
    have Y0 := HX.out.1.below hb HX.out.1.lt
    have Y1 := HX.out.2.1.below hb HX.out.2.1.lt
    have Y2 := HX.out.2.2.below hb HX.out.2.2.lt
    have HB1 := Lib.hid (hB0.out.trans (hb.mono hB0.out.size))
    have HY := Lib.hid (And.intro Y1 Y2)
    have d0 := Y0.e0
    have d1 := Y0.e1
    have d2 := Y0.e2
    have d3 := Y0.e3
    have d4 := Y0.e4
    clear hb Y0 Y1 Y2
    go_wp2_with fail
    refine (HP.out _ HB1.out).mono ?_
    rintro e w2 ⟨rfl, hc⟩
    have Z1 := HY.out.1.chg hc (fun hm => by have := HF.out _ hm; omega)
    have Z2 := HY.out.2.chg hc (fun hm => by have := HF.out _ hm; omega)
    have HC2 := Lib.hid ((Chg.of_below (F := F) HB1.out).trans hc)
    have f0 := Z1.e0
    have f1 := Z1.e1
    have f2 := Z1.e2
    have f3 := Z1.e3
    have f4 := Z1.e4
    have g0 := Z2.e0
    have g1 := Z2.e1
    have g2 := Z2.e2
    have g3 := Z2.e3
    have g4 := Z2.e4
    have hN : decide ((0 : Int) < (N : Int)) = true := decide_eq_true (by omega)
    clear hc Z1 Z2
    clear d0 d1 d2 d3 d4
    go_wp2_with fail
    refine (HS2.out _ HC2.out).mono ?_
    rintro e w3 ⟨rfl, hb⟩
    have HC3 := Lib.hid (HC2.out.behind hb)
    clear hb
    go_wp2
    go_ret
    exact ⟨rfl, HC3.out⟩
end Go.Proofs.Ytckgmdlacaiacaa
