/-
  value.Own; the document's Parts, May, Deep.
-/
import Derived.Test.YtckgmdlacaiacaaLook
namespace Go.Proofs.Ytckgmdlacaiacaa
open Go.RowKit Go.Shelf
attribute [local go_sem] Oper.semAt_some

theorem look_may (t : VT) : (t.may = true → lookV t 512 16 = .int .i64 (t.parts : Int) ∧ 1 ≤ t.parts ∧ t.parts ≤ 512) ∧ (t.may = false → lookV t 512 16 = noLook) := by
  unfold VT.may lookV
  refine ⟨fun h => ⟨by rw [if_pos h], VT.parts_pos t, ?_⟩, fun h => by rw [if_neg (by simp [h])]; rfl⟩
  unfold VT.ok at h
  simp only [Bool.and_eq_true, decide_eq_true_eq] at h
  exact h.1.2
set_option maxHeartbeats 1000000 in
theorem rparts_w {pp : Nat → Prop} {m : Bool} (t : VT) (v : Value) (w : World) (h : Lies w pp m t v) (hpp : ∀ b, pp b → b < w.heap.size) :
    Calls Try.prog 21 #[v] w fun e w' => e = .returned (.int .i64 ((if t.may then t.parts else 0 : Nat) : Int)) ∧ Below w.heap.size w w' := by
  obtain ⟨A, cap, rfl⟩ := h.cells
  have H := fun W hW => look_w pp m t _ 512 16 W (h.below (W' := W) hW hpp) (fun b hb => Nat.lt_of_lt_of_le (hpp b hb) (Below.size hW)) (by omega) (by omega)
  have hb0 := Lib.hid ((Below.refl w.heap.size w).alloc (Nat.le_refl _) (.cells #[.int .u8 (t.k : Int), .int .i64 t.n, .string t.s, .slice A t.l.length cap, .int .i64 t.r] 26))
  have HQ := Lib.hid (look_may t)
  generalize t.may = q at *
  generalize lookV t 512 16 = sv at *
  generalize t.parts = p at *
  generalize t.k = a0 at *
  generalize t.n = a1 at *
  generalize t.s = a2 at *
  generalize t.l.length = a3 at *
  generalize t.r = a4 at *
  have H := Lib.hid H
  clear h
  go_enter Try.func21, Try.ntmps21
  go_wp2_with fail
  refine (H.out _ hb0.out).mono ?_
  rintro e w' ⟨rfl, hb⟩
  have hB := Lib.hid (hb0.out.trans (hb.mono (by simp)))
  clear hb
  cases q
  · obtain rfl := HQ.out.2 rfl
    unfold noLook
    go_wp2
    go_ret
    exact ⟨rfl, hB.out⟩
  · obtain ⟨rfl, hp, hd⟩ := HQ.out.1 rfl
    go_wp2
    go_ret
    exact ⟨rfl, hB.out⟩
set_option maxHeartbeats 1000000 in
theorem rmay_w {pp : Nat → Prop} {m : Bool} (t : VT) (v : Value) (w : World) (h : Lies w pp m t v) (hpp : ∀ b, pp b → b < w.heap.size) :
    Calls Try.prog 63 #[v] w fun e w' => e = .returned (.bool t.may) ∧ Below w.heap.size w w' := by
  obtain ⟨A, cap, rfl⟩ := h.cells
  have H := fun W hW => rparts_w t _ W (h.below (W' := W) hW hpp) (fun b hb => Nat.lt_of_lt_of_le (hpp b hb) (Below.size hW))
  have hb0 := Lib.hid ((Below.refl w.heap.size w).alloc (Nat.le_refl _) (.cells #[.int .u8 (t.k : Int), .int .i64 t.n, .string t.s, .slice A t.l.length cap, .int .i64 t.r] 26))
  have HQ := Lib.hid (look_may t)
  generalize t.may = q at *
  generalize t.parts = p at *
  generalize t.k = a0 at *
  generalize t.n = a1 at *
  generalize t.s = a2 at *
  generalize t.l.length = a3 at *
  generalize t.r = a4 at *
  have H := Lib.hid H
  clear h
  go_enter Try.func63, Try.ntmps63
  go_wp2_with fail
  refine (H.out _ hb0.out).mono ?_
  rintro e w' ⟨rfl, hb⟩
  have hB := Lib.hid (hb0.out.trans (hb.mono (by simp)))
  clear hb
  cases q
  · go_wp2
    go_ret
    exact ⟨rfl, hB.out⟩
  · obtain ⟨_, hp, hd⟩ := HQ.out.1 rfl
    have z : 0 < p := by omega
    go_wp2
    go_ret
    exact ⟨rfl, hB.out⟩

/-- What Own answers. -/
def OwnPost (w : World) (t : VT) (e : Ending) (W : World) : Prop :=
  Below w.heap.size w W ∧ ((t.may = true ∧ ∃ v, e = .returned (.tuple #[v, .int .i64 0]) ∧ Fresh w W t v) ∨ (t.may = false ∧ e = .returned (.tuple #[.agg #[.int .u8 0, .int .i64 0, .string ⟨#[]⟩, .slice none 0 0, .int .i64 0], .int .i64 2])))
/-- Two results, of which the first one stands in a box of five cells. -/
theorem ret_five2 {fn : Func} {u x : Tmp} (h : fn.results = #[.cell u 26, .tmp x]) {R : Ending → World → Prop} {tmps : Array Value} {W : World} {B : Nat} {c0 c1 c2 c3 c4 : Value} {y : Value} (hF : Five W B c0 c1 c2 c3 c4)
    (hs : tmps[u]? = some (.pointer (some ⟨B, 0, none⟩))) (hx : tmps[x]? = some y) (hR : R (.returned (.tuple #[.agg #[c0, c1, c2, c3, c4], y])) W) : bodyPost Try.prog fn R Exit.ret { tmps := tmps, defers := [] } W := by
  refine bodyPost_ret (v := .tuple #[.agg #[c0, c1, c2, c3, c4], y]) ?_ rfl hR
  have e0 := hF.e0
  have e1 := hF.e1
  have e2 := hF.e2
  have e3 := hF.e3
  have e4 := hF.e4
  simp [results, h, go_sem, hs, hx, e0, e1, e2, e3, e4]
theorem Fresh.mono {w w0 W W' : World} {t : VT} {v : Value} (h : Fresh w W t v) (h0 : w0.heap.size ≤ w.heap.size) (hk : ∀ g, w.heap.size ≤ g → g < W.heap.size → W'.heap[g]? = W.heap[g]?) (hs : W.heap.size ≤ W'.heap.size) : Fresh w0 W' t v := by
  obtain ⟨F, h1, h2, h3⟩ := h
  exact ⟨F, Own.same_all _ _ _ (fun g hg => hk g (h3 g hg).1 (h3 g hg).2) h1, h2, fun g hg => by have := h3 g hg; omega⟩

set_option maxHeartbeats 2000000 in
theorem Own_w {pp : Nat → Prop} {m : Bool} (t : VT) (v : Value) (w : World) (h : Lies w pp m t v) (hpp : ∀ b, pp b → b < w.heap.size) :
    Calls Try.prog 22 #[v] w fun e w' => OwnPost w t e w' := by
  obtain ⟨A, cap, rfl⟩ := h.cells
  have HM := Lib.hid (fun W hW => may_w t _ W (h.below (W' := W) hW hpp) (fun b hb => Nat.lt_of_lt_of_le (hpp b hb) (Below.size hW)))
  have HO := Lib.hid (fun (hp : t.parts ≤ 4294967296) W hW => own_w pp m t _ W (h.below (W' := W) hW hpp) (fun b hb => Nat.lt_of_lt_of_le (hpp b hb) (Below.size hW)) hp)
  have HQ := Lib.hid (look_may t)
  obtain ⟨q, hq⟩ : ∃ q, t.may = q := ⟨_, rfl⟩
  rw [hq] at HM HQ
  have Hq := Lib.hid hq
  clear hq
  generalize hk0 : t.k = a0 at *
  generalize hk1 : t.n = a1 at *
  generalize hk2 : t.s = a2 at *
  generalize hk3 : t.l.length = a3 at *
  generalize hk4 : t.r = a4 at *
  have X1 := Five.new (w.alloc (.cells #[.int .u8 (a0 : Int), .int .i64 a1, .string a2, .slice A a3 cap, .int .i64 a4] 26)) (.int .u8 0) (.int .i64 0) (.string ⟨#[]⟩) (.slice none 0 0) (.int .i64 0)
  have X0 := (Five.new w (.int .u8 (a0 : Int)) (.int .i64 a1) (.string a2) (.slice A a3 cap) (.int .i64 a4)).alloc (.cells #[.int .u8 0, .int .i64 0, .string ⟨#[]⟩, .slice none 0 0, .int .i64 0] 26)
  rw [World.size_alloc] at X1
  have hb0 := Lib.hid (((Below.refl w.heap.size w).alloc (Nat.le_refl _) (.cells #[.int .u8 (a0 : Int), .int .i64 a1, .string a2, .slice A a3 cap, .int .i64 a4] 26)).alloc (by simp) (.cells #[.int .u8 0, .int .i64 0, .string ⟨#[]⟩, .slice none 0 0, .int .i64 0] 26))
  have HX := Lib.hid (And.intro X0 X1)
  have HK := Lib.hid (And.intro hk0 (And.intro hk1 (And.intro hk2 (And.intro hk3 hk4))))
  clear h X0 X1 hk0 hk1 hk2 hk3 hk4
  go_enter Try.func22, Try.ntmps22
  go_wp2_with fail
  refine (HM.out _ hb0.out).mono ?_
  rintro e w1 ⟨rfl, hb⟩
  have hB := hb0.out.trans (hb.mono (by simp; omega))
  have Y0 := HX.out.1.below hb (by simp; omega)
  have Y1 := HX.out.2.below hb (by simp)
  have hsz := hB.size
  have hs2 := Y1.lt
  clear hb
  have HB := Lib.hid hB
  have HY := Lib.hid (And.intro Y0 Y1)
  have e0 := Y0.e0
  have e1 := Y0.e1
  have e2 := Y0.e2
  have e3 := Y0.e3
  have e4 := Y0.e4
  have f0 := Y1.e0
  have f1 := Y1.e1
  have f2 := Y1.e2
  have f3 := Y1.e3
  have f4 := Y1.e4
  have z0 := Y1.froz 0
  have z1 := Y1.froz 1
  have z2 := Y1.froz 2
  have z3 := Y1.froz 3
  have z4 := Y1.froz 4
  clear hB Y0 Y1
  cases q
  · go_wp2
    refine ret_five2 (B := w.heap.size + 1) rfl (HY.out.2.set5 _ _ _ _ _) rfl rfl ?_
    exact ⟨below_set5 HB.out (by omega) _ _ _ _ _, .inr ⟨Hq.out, rfl⟩⟩
  · obtain ⟨_, hp1, hp2⟩ := HQ.out.1 rfl
    go_wp2_with fail
    refine (HO.out (by omega) _ HB.out).mono ?_
    rintro e w2 ⟨v', rfl, hF, hb⟩
    obtain ⟨A2, cap2, rfl⟩ := hF.cells
    rw [HK.out.1, HK.out.2.1, HK.out.2.2.1, HK.out.2.2.2.1, HK.out.2.2.2.2] at hF ⊢
    have V1 := HY.out.2.below hb hs2
    have g0 := V1.e0
    have g1 := V1.e1
    have g2 := V1.e2
    have g3 := V1.e3
    have g4 := V1.e4
    have y0 := V1.froz 0
    have y1 := V1.froz 1
    have y2 := V1.froz 2
    have y3 := V1.froz 3
    have y4 := V1.froz 4
    have HF := Lib.hid (And.intro hF (And.intro hb V1))
    clear hF hb V1 e0 e1 e2 e3 e4 f0 f1 f2 f3 f4 z0 z1 z2 z3 z4
    go_wp2
    refine ret_five2 (B := w.heap.size + 1) rfl (HF.out.2.2.set5 _ _ _ _ _) rfl rfl ?_
    refine ⟨below_set5 (HB.out.trans (HF.out.2.1.mono hsz)) (by omega) _ _ _ _ _, .inl ⟨Hq.out, _, rfl, HF.out.1.mono hsz (fun g h1 h2 => heap_set5_other _ _ _ _ _ (by omega)) (by simp)⟩⟩
end Go.Proofs.Ytckgmdlacaiacaa
