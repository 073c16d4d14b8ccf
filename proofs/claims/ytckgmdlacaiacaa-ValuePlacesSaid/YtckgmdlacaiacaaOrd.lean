/-
  The document's order of values; its Same.
-/
import Derived.Test.YtckgmdlacaiacaaSpoil
namespace Go.Proofs.Ytckgmdlacaiacaa
open Go.RowKit Go.Shelf
attribute [local go_sem] Oper.semAt_some

/-- Is a text below another one? -/
def sL (s s' : ByteArray) : Bool := Op.bytesLess s.toList s'.toList
theorem bless_tri : ∀ (x y : List UInt8), (!(Op.bytesLess x y || x == y)) = Op.bytesLess y x
  | [], [] => rfl
  | [], _ :: _ => rfl
  | _ :: _, [] => rfl
  | a :: x, b :: y => by
    have ih := bless_tri x y
    rcases Nat.lt_trichotomy a.toNat b.toNat with h | h | h
    · have h1 : a < b := h
      have h2 : ¬ b < a := fun h' => Nat.lt_asymm h h'
      have h3 : (b == a) = false := by rw [beq_eq_false_iff_ne]; intro e; subst e; exact Nat.lt_irrefl _ h
      simp [Op.bytesLess, h1, h2, h3]
    · obtain rfl : a = b := UInt8.toNat_inj.1 h
      have h1 : ¬ a < a := Nat.lt_irrefl _
      simp only [Op.bytesLess, h1, decide_false, Bool.false_or, beq_self_eq_true, Bool.true_and, List.cons_beq_cons]
      exact ih
    · have h1 : b < a := h
      have h2 : ¬ a < b := fun h' => Nat.lt_asymm h h'
      have h3 : (a == b) = false := by rw [beq_eq_false_iff_ne]; intro e; subst e; exact Nat.lt_irrefl _ h
      simp [Op.bytesLess, h1, h2, h3]
theorem gtr_str (s s' : ByteArray) (W : World) : (binOp .gtr 9 (.string s) (.string s')).run Try.prog W = .ok (.bool (Op.bytesLess s'.toList s.toList)) W := by
  rw [← bless_tri]
  simp [binOp, Op.stringOp]
mutual
/-- The order: -1, 0, 1. -/
def ordT : VT → VT → Int
  | .mk k n s r l, .mk k' n' s' r' l' => if k ≠ k' then (if k < k' then -1 else 1) else if n < n' ∨ sL s s' = true ∨ r < r' then -1 else if n' < n ∨ sL s' s = true ∨ r' < r then 1 else ordL l l'
def ordL : List VT → List VT → Int
  | [], [] => 0
  | [], _ :: _ => -1
  | _ :: _, [] => 1
  | a :: ra, b :: rb => if ordT a b ≠ 0 then ordT a b else ordL ra rb
end
theorem ordT_eq (k : Nat) (n : Int) (s : ByteArray) (r : Int) (l : List VT) (k' : Nat) (n' : Int) (s' : ByteArray) (r' : Int) (l' : List VT) :
    ordT (.mk k n s r l) (.mk k' n' s' r' l') = if k ≠ k' then (if k < k' then -1 else 1) else if n < n' ∨ sL s s' = true ∨ r < r' then -1 else if n' < n ∨ sL s' s = true ∨ r' < r then 1 else ordL l l' := rfl
theorem ordL_cons (a : VT) (ra : List VT) (b : VT) (rb : List VT) : ordL (a :: ra) (b :: rb) = if ordT a b ≠ 0 then ordT a b else ordL ra rb := rfl
theorem ordL_drop {l l' : List VT} {j : Nat} (h : j < l.length) (h' : j < l'.length) : ordL (l.drop j) (l'.drop j) = if ordT l[j] l'[j] ≠ 0 then ordT l[j] l'[j] else ordL (l.drop (j + 1)) (l'.drop (j + 1)) := by
  rw [List.drop_eq_getElem_cons h, List.drop_eq_getElem_cons h', ordL_cons]
theorem ordL_end {l l' : List VT} {j : Nat} (hl : j ≤ l.length) (hl' : j ≤ l'.length) (h : ¬ (j < l.length ∧ j < l'.length)) : ordL (l.drop j) (l'.drop j) = if l.length < l'.length then -1 else if l'.length < l.length then 1 else 0 := by
  by_cases e : j = l.length
  · rw [List.drop_of_length_le (by omega : l.length ≤ j)]
    by_cases e' : j = l'.length
    · rw [List.drop_of_length_le (by omega : l'.length ≤ j), if_neg (by omega), if_neg (by omega)]; rfl
    · rw [List.drop_eq_getElem_cons (by omega : j < l'.length), if_pos (by omega)]; rfl
  · have e' : j = l'.length := by omega
    rw [List.drop_of_length_le (by omega : l'.length ≤ j), List.drop_eq_getElem_cons (by omega : j < l.length), if_neg (by omega), if_pos (by omega)]; rfl

set_option maxRecDepth 100000 in
set_option maxHeartbeats 8000000 in
theorem rord_w (p p' : Nat → Prop) (m m' : Bool) : ∀ (t u : VT) (va v : Value) (w : World), Lies w p m t va → Lies w p' m' u v → (∀ b, p b → b < w.heap.size) → (∀ b, p' b → b < w.heap.size) →
    Calls Try.prog 70 #[va, v] w fun e w' => e = .returned (.int .i64 (ordT t u)) ∧ Below w.heap.size w w' := by
  refine VT.ind fun k n s r l ih u va v w ha h hpa hpw => ?_
  obtain ⟨k', n', s', r', l'⟩ := u
  obtain ⟨A, cap, rfl, ⟨hk, hn, hr, hs, hl⟩, hlc, hcm, hL, _⟩ := ha
  obtain ⟨A1, cap1, rfl, ⟨hk', hn', hr', hs', hl'⟩, hlc1, hcm1, hL1, _⟩ := h
  have HPA := Lib.hid hpa
  have HPW := Lib.hid hpw
  have HL := Lib.hid hL
  have HL1 := Lib.hid hL1
  have IH := Lib.hid ih
  have HE := Lib.hid (ordT_eq k n s r l k' n' s' r' l')
  generalize ordT (.mk k n s r l) (.mk k' n' s' r' l') = ov at *
  clear hL hL1 ih hpw hpa
  unfold maxLen at hl hcm hcm1 hl'
  have X0 := Five.new w (.int .u8 (k : Int)) (.int .i64 n) (.string s) (.slice A l.length cap) (.int .i64 r)
  have X1 := Five.new (w.alloc (.cells #[.int .u8 (k : Int), .int .i64 n, .string s, .slice A l.length cap, .int .i64 r] 26)) (.int .u8 (k' : Int)) (.int .i64 n') (.string s') (.slice A1 l'.length cap1) (.int .i64 r')
  rw [World.size_alloc] at X1
  have HX := Lib.hid (And.intro (X0.alloc (.cells #[.int .u8 (k' : Int), .int .i64 n', .string s', .slice A1 l'.length cap1, .int .i64 r'] 26)) X1)
  have hB0 := Lib.hid (((Below.refl w.heap.size w).alloc (Nat.le_refl _) (.cells #[.int .u8 (k : Int), .int .i64 n, .string s, .slice A l.length cap, .int .i64 r] 26)).alloc (by simp) (.cells #[.int .u8 (k' : Int), .int .i64 n', .string s', .slice A1 l'.length cap1, .int .i64 r'] 26))
  clear X0 X1
  have hgt := gtr_str s s'
  go_enter Try.func70, Try.ntmps70
  by_cases hkk : k = k'
  case neg =>
    have q0 : ((k : Int) != (k' : Int)) = true := by rw [bne_iff_ne]; omega
    by_cases hlt : k < k'
    · have q1 : decide ((k : Int) < (k' : Int)) = true := decide_eq_true (by omega)
      go_wp2
      go_ret
      exact ⟨by rw [HE.out, if_pos hkk, if_pos hlt]; rfl, hB0.out⟩
    · have q1 : decide ((k : Int) < (k' : Int)) = false := decide_eq_false (by omega)
      go_wp2
      go_ret
      exact ⟨by rw [HE.out, if_pos hkk, if_neg hlt]; rfl, hB0.out⟩
  subst hkk
  have HE1 := Lib.hid (HE.out.trans (if_neg (by simp)))
  clear HE
  by_cases c1 : n < n'
  case pos =>
    have q1 : decide (n < n') = true := decide_eq_true c1
    go_wp2
    go_ret
    exact ⟨by rw [HE1.out, if_pos (.inl c1)]; rfl, hB0.out⟩
  have q1 : decide (n < n') = false := decide_eq_false c1
  by_cases c2 : sL s s' = true
  case pos =>
    have q2 : Op.bytesLess s.toList s'.toList = true := c2
    go_wp2
    go_ret
    exact ⟨by rw [HE1.out, if_pos (.inr (.inl c2))]; rfl, hB0.out⟩
  have q2 : Op.bytesLess s.toList s'.toList = false := by simpa [sL] using c2
  by_cases c3 : r < r'
  case pos =>
    have q3 : decide (r < r') = true := decide_eq_true c3
    go_wp2
    go_ret
    exact ⟨by rw [HE1.out, if_pos (.inr (.inr c3))]; rfl, hB0.out⟩
  have q3 : decide (r < r') = false := decide_eq_false c3
  have HE2 := Lib.hid (HE1.out.trans (if_neg (by rintro (h | h | h); exact c1 h; exact c2 h; exact c3 h)))
  clear HE1
  by_cases e1 : n' < n
  case pos =>
    have q4 : decide (n' < n) = true := decide_eq_true e1
    go_wp2
    go_ret
    exact ⟨by rw [HE2.out, if_pos (.inl e1)]; rfl, hB0.out⟩
  have q4 : decide (n' < n) = false := decide_eq_false e1
  by_cases e2 : sL s' s = true
  case pos =>
    have q5 : Op.bytesLess s'.toList s.toList = true := e2
    go_wp2
    go_ret
    exact ⟨by rw [HE2.out, if_pos (.inr (.inl e2))]; rfl, hB0.out⟩
  have q5 : Op.bytesLess s'.toList s.toList = false := by simpa [sL] using e2
  by_cases e3 : r' < r
  case pos =>
    have q6 : decide (r' < r) = true := decide_eq_true e3
    go_wp2
    go_ret
    exact ⟨by rw [HE2.out, if_pos (.inr (.inr e3))]; rfl, hB0.out⟩
  have q6 : decide (r' < r) = false := decide_eq_false e3
  have HE3 := Lib.hid (HE2.out.trans (if_neg (by rintro (h | h | h); exact e1 h; exact e2 h; exact e3 h)))
  clear HE2 c1 c2 c3 e1 e2 e3
  go_wp2
  go_loopw [5] (fun iv wr => ∃ j : Nat, (j ≤ l.length ∧ j ≤ l'.length) ∧ iv = .int .i64 (j : Int) ∧ ordL l l' = ordL (l.drop j) (l'.drop j) ∧ Below w.heap.size w wr ∧ Five wr w.heap.size (.int .u8 (k : Int)) (.int .i64 n) (.string s) (.slice A l.length cap) (.int .i64 r) ∧ Five wr (w.heap.size + 1) (.int .u8 (k : Int)) (.int .i64 n') (.string s') (.slice A1 l'.length cap1) (.int .i64 r')) (fun iv _ => l.length - (intOf iv).toNat)
  case atStart => exact ⟨0, ⟨Nat.zero_le _, Nat.zero_le _⟩, rfl, rfl, hB0.out, HX.out.1, HX.out.2⟩
  case round =>
    obtain ⟨j, ⟨hj, hj'⟩, rfl, hord, hB, hX, hY⟩ := hrel
    have hsz := hB.size
    have x3 := hX.e3
    have y3 := hY.e3
    have HO := Lib.hid hord
    clear hord
    by_cases hlt : j < l.length ∧ j < l'.length
    · obtain ⟨hlt1, hlt2⟩ := hlt
      obtain ⟨b, off, A', cap', rfl, hbt, hrow, hLj⟩ := HL.out.elem j hlt1
      obtain ⟨b1, off1, A1', cap1', rfl, hbt1, hrow1, hLj1⟩ := HL1.out.elem j hlt2
      obtain ⟨g0, g1, g2, g3, g4⟩ := (hrow.same (hB.block b (HPA.out b hbt))).get
      obtain ⟨i0, i1, i2, i3, i4⟩ := (hrow1.same (hB.block b1 (HPW.out b1 hbt1))).get
      have HH := fun W (hW : Below w.heap.size w W) => IH.out l[j] (List.getElem_mem hlt1) l'[j] _ _ W (hLj.below hW HPA.out) (hLj1.below hW HPW.out) (fun b hb => Nat.lt_of_lt_of_le (HPA.out b hb) hW.size) (fun b hb => Nat.lt_of_lt_of_le (HPW.out b hb) hW.size)
      have cK := fun d os => Calls.regrown_of (HH _ (hB.trans ((below_regrown wr d os).mono hsz)))
      have HD := Lib.hid (ordL_drop hlt1 hlt2)
      generalize ordT l[j] l'[j] = oc at *
      have a0 := cell_regrown g0
      have a1 := cell_regrown g1
      have a2 := cell_regrown g2
      have a3 := cell_regrown g3
      have a4 := cell_regrown g4
      have c0 := cell_regrown i0
      have c1 := cell_regrown i1
      have c2 := cell_regrown i2
      have c3 := cell_regrown i3
      have c4 := cell_regrown i4
      have z3 := cell_regrown x3
      have w3 := cell_regrown y3
      have HBr := Lib.hid (And.intro hB (And.intro hX hY))
      clear HH hrow hrow1 hLj hLj1 hB hX hY
      go_wp2
      refine wp_region_quiet_below (by kernel_rfl) (by kernel_rfl) ?_
      repeat (quiet_step (exact cK _ _))
      refine wpQuiet_nil ?_
      intro _ hw'
      obtain ⟨⟨dq, osq⟩, hw''⟩ := hw'
      subst hw''
      have HN := Lib.hid (below_regrown wr dq osq)
      clear cK a0 a1 a2 a3 a4 c0 c1 c2 c3 c4 z3 w3 g0 g1 g2 g3 g4 i0 i1 i2 i3 i4 x3 y3
      generalize «Sort».grow (redrawn wr dq) osq = W at *
      by_cases hoc : oc = 0
      · subst hoc
        have HD2 := Lib.hid (HO.out.trans (HD.out.trans (if_neg (by simp))))
        go_wp2
        go_roundw
        case rel => exact ⟨j + 1, ⟨by omega, by omega⟩, by go_num, HD2.out, HBr.out.1.trans (HN.out.mono hsz), HBr.out.2.1.below HN.out HBr.out.2.1.lt, HBr.out.2.2.below HN.out HBr.out.2.2.lt⟩
        case measure => simp [intOf]; omega
      · have HD2 := Lib.hid (HO.out.trans (HD.out.trans (if_pos hoc)))
        have q7 : (oc != 0) = true := by rw [bne_iff_ne]; exact hoc
        clear hoc
        go_wp2
        go_ret
        exact ⟨by rw [HE3.out, HD2.out]; rfl, HBr.out.1.trans (HN.out.mono hsz)⟩
    · have HD := Lib.hid (HE3.out.trans (HO.out.trans (ordL_end hj hj' hlt)))
      have HB := Lib.hid hB
      have HXY := Lib.hid (And.intro hX hY)
      clear hB hX hY
      clear x3 y3
      have x3 := HXY.out.1.e3
      have y3 := HXY.out.2.e3
      by_cases l1 : l.length < l'.length
      · have HD2 := Lib.hid (HD.out.trans (if_pos l1))
        by_cases jl : j < l.length
        · omega
        · go_wp2
          go_ret
          exact ⟨by rw [HD2.out]; rfl, HB.out⟩
      · have HD2 := HD.out.trans (if_neg l1)
        by_cases l2 : l'.length < l.length
        · have HD3 := Lib.hid (HD2.trans (if_pos l2))
          have jl : j < l.length := by omega
          have jl2 : ¬ j < l'.length := by omega
          clear HD2
          go_wp2
          go_ret
          exact ⟨by rw [HD3.out]; rfl, HB.out⟩
        · have HD3 := Lib.hid (HD2.trans (if_neg l2))
          have jl : ¬ j < l.length := by omega
          clear HD2
          go_wp2
          go_ret
          exact ⟨by rw [HD3.out]; rfl, HB.out⟩
end Go.Proofs.Ytckgmdlacaiacaa
