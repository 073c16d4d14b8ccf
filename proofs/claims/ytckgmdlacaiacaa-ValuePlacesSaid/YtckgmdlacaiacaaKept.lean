/-
  The statements' own: kept.
-/
import Derived.Test.YtckgmdlacaiacaaLent
namespace Go.Proofs.Ytckgmdlacaiacaa
open Go.RowKit Go.Shelf
attribute [local go_sem] Oper.semAt_some

set_option maxRecDepth 100000 in
set_option maxHeartbeats 8000000 in
theorem kept_w (p p' : Nat → Prop) (m : Bool) : ∀ (t : VT) (va v : Value) (w : World), Lies w p true t va → Lies w p' m t v → (∀ b, p b → b < w.heap.size) → (∀ b, p' b → b < w.heap.size) →
    Calls Try.prog 23 #[va, v] w fun e w' => e = .returned (.bool true) ∧ Below w.heap.size w w' := by
  refine VT.ind fun k n s r l ih va v w ha h hpa hpw => ?_
  obtain ⟨A, cap, rfl, ⟨hk, hn, hr, hs, hl⟩, hlc, hcm, hL, _⟩ := h
  obtain ⟨A1, cap1, rfl, _, hlc1, hcm1, hL1, hM⟩ := ha
  have HPA := Lib.hid hpa
  have HPW := Lib.hid hpw
  have HL := Lib.hid hL
  have HL1 := Lib.hid hL1
  have HM := Lib.hid hM
  have IH := Lib.hid ih
  clear hL hL1 ih hpw hpa hM
  unfold maxLen at hl hcm hcm1
  have hse : (s.toList == s.toList) = true := beq_self_eq_true _
  have X0 := Five.new w (.int .u8 (k : Int)) (.int .i64 n) (.string s) (.slice A1 l.length cap1) (.int .i64 r)
  have X1 := Five.new (w.alloc (.cells #[.int .u8 (k : Int), .int .i64 n, .string s, .slice A1 l.length cap1, .int .i64 r] 26)) (.int .u8 (k : Int)) (.int .i64 n) (.string s) (.slice A l.length cap) (.int .i64 r)
  rw [World.size_alloc] at X1
  have HX := Lib.hid (And.intro (X0.alloc (.cells #[.int .u8 (k : Int), .int .i64 n, .string s, .slice A l.length cap, .int .i64 r] 26)) X1)
  have hB0 := Lib.hid (((Below.refl w.heap.size w).alloc (Nat.le_refl _) (.cells #[.int .u8 (k : Int), .int .i64 n, .string s, .slice A1 l.length cap1, .int .i64 r] 26)).alloc (by simp) (.cells #[.int .u8 (k : Int), .int .i64 n, .string s, .slice A l.length cap, .int .i64 r] 26))
  clear X0 X1
  go_enter Try.func23, Try.ntmps23
  by_cases h0 : l.length = 0
  · obtain rfl := List.length_eq_zero_iff.1 h0
    go_wp2
    go_ret
    exact ⟨rfl, hB0.out⟩
  · have q0 : ((l.length : Int) == 0) = false := by rw [beq_eq_false_iff_ne]; omega
    go_wp2
    go_loopw [5] (fun iv wr => ∃ j : Nat, j ≤ l.length ∧ iv = .int .i64 (j : Int) ∧ Below w.heap.size w wr ∧ Five wr w.heap.size (.int .u8 (k : Int)) (.int .i64 n) (.string s) (.slice A1 l.length cap1) (.int .i64 r) ∧ Five wr (w.heap.size + 1) (.int .u8 (k : Int)) (.int .i64 n) (.string s) (.slice A l.length cap) (.int .i64 r)) (fun iv _ => l.length - (intOf iv).toNat)
    case atStart => exact ⟨0, Nat.zero_le _, rfl, hB0.out, HX.out.1, HX.out.2⟩
    case round =>
      obtain ⟨j, hj, rfl, hB, hX, hY⟩ := hrel
      have hsz := hB.size
      have x3 := hX.e3
      have y3 := hY.e3
      by_cases hlt : j < l.length
      · obtain ⟨b, off, A', cap', rfl, hbt, hrow, hLj⟩ := HL.out.elem j hlt
        obtain ⟨b1, off1, A1', cap1', rfl, hbt1, hrow1, hLj1⟩ := HL1.out.elem j hlt
        obtain ⟨g0, g1, g2, g3, g4⟩ := (hrow.same (hB.block b (HPW.out b hbt))).get
        obtain ⟨i0, i1, i2, i3, i4⟩ := (hrow1.same (hB.block b1 (HPA.out b1 hbt1))).get
        have HH := fun W (hW : Below w.heap.size w W) => IH.out l[j] (List.getElem_mem hlt) _ _ W (hLj1.below hW HPA.out) (hLj.below hW HPW.out) (fun b hb => Nat.lt_of_lt_of_le (HPA.out b hb) hW.size) (fun b hb => Nat.lt_of_lt_of_le (HPW.out b hb) hW.size)
        have cK := fun d os => Calls.regrown_of (HH _ (hB.trans ((below_regrown wr d os).mono hsz)))
        have a0 := cell_regrown g0
        have a1 := cell_regrown g1
        have a2 := cell_regrown g2
        have a3 := cell_regrown g3
        have a4 := cell_regrown g4
        have c0 := cell_regrown i0
        have c1 := cell_regrown i1
        have c2 := cell_regrown i2
        have c3 := cell_regrown i3
        have c4 := cell_regrown i4
        have z3 := cell_regrown x3
        have w3 := cell_regrown y3
        have HBr := Lib.hid (And.intro hB (And.intro hX hY))
        clear HH hrow hrow1 hLj hLj1 hB hX hY
        go_wp2
        refine wp_region_quiet_below (by kernel_rfl) (by kernel_rfl) ?_
        repeat (quiet_step (exact cK _ _))
        refine wpQuiet_nil ?_
        intro _ hw'
        obtain ⟨⟨dq, osq⟩, hw''⟩ := hw'
        subst hw''
        have HN := Lib.hid (below_regrown wr dq osq)
        clear cK a0 a1 a2 a3 a4 c0 c1 c2 c3 c4 z3 w3 g0 g1 g2 g3 g4 i0 i1 i2 i3 i4 x3 y3
        generalize «Sort».grow (redrawn wr dq) osq = W at *
        go_wp2
        go_roundw
        case rel => exact ⟨j + 1, by omega, by go_num, HBr.out.1.trans (HN.out.mono hsz), HBr.out.2.1.below HN.out HBr.out.2.1.lt, HBr.out.2.2.below HN.out HBr.out.2.2.lt⟩
        case measure => simp [intOf]; omega
      · obtain rfl : j = l.length := by omega
        have hne : l ≠ [] := fun e => h0 (by rw [e]; rfl)
        obtain ⟨hc1, b1, off1, rfl, hbt1, hrow⟩ := HM.out (by first | rfl | trivial) hne
        obtain ⟨g0, g1, g2, g3, g4⟩ := (hrow.same (hB.block b1 (HPA.out b1 hbt1))).get
        have HBr := Lib.hid hB
        clear hrow hX hY hB
        go_wp2
        go_quiet (fail)
        go_wp2
        go_ret
        exact ⟨rfl, below_drewN HBr.out _⟩
end Go.Proofs.Ytckgmdlacaiacaa
