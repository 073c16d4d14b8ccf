/-
  value.order, slices.CompareFunc of values; value.Order, value.Same.
-/
import Derived.Test.YtckgmdlacaiacaaCmp
import Derived.Test.YtckgmdlacaiacaaFront2
import Derived.Test.YtckgmdlacaiacaaHeld
import Derived.Test.YtckgmdlacaiacaaBytes
namespace Go.Proofs.Ytckgmdlacaiacaa
open Go.RowKit Go.Shelf
attribute [local go_sem] Oper.semAt_some

theorem sL_nil {s s' : ByteArray} (h' : s'.toList = []) : sL s s' = false := by
  unfold sL
  rw [h']
  cases s.toList <;> rfl
theorem isEmpty_nil {s : ByteArray} (h : s.toList.isEmpty = true) : s.toList = [] := List.isEmpty_iff.1 h
/-- The order of two that may be, by kinds. -/
theorem ordT_good {k k' : Nat} {n n' r r' : Int} {s s' : ByteArray} {l l' : List VT} (h : propN k n s r l.length = true) (h' : propN k' n' s' r' l'.length = true) :
    (k ≠ k' → ordT (.mk k n s r l) (.mk k' n' s' r' l') = sgn k k') ∧ (k = k' → (k = 0 → ordT (.mk k n s r l) (.mk k' n' s' r' l') = 0) ∧ (k = 1 → ordT (.mk k n s r l) (.mk k' n' s' r' l') = sgn n n') ∧
      (k = 2 → ordT (.mk k n s r l) (.mk k' n' s' r' l') = Lib.compareBytes s.data.toList s'.data.toList) ∧ (k = 3 → ordT (.mk k n s r l) (.mk k' n' s' r' l') = ordL l l') ∧ (k = 4 → ordT (.mk k n s r l) (.mk k' n' s' r' l') = sgn r r')) := by
  rw [ordT_eq]
  have hnil : ∀ {a : List VT}, (a.length : Int) = 0 → a = [] := fun {a} ha => List.eq_nil_of_length_eq_zero (by omega)
  refine ⟨fun hk => ?_, fun hk => ?_⟩
  · rw [if_pos hk]
    unfold sgn
    by_cases h1 : k < k'
    · rw [if_pos h1, if_pos (by omega)]
    · rw [if_neg h1, if_neg (by omega), if_pos (by omega)]
  · subst hk
    rw [if_neg (by simp)]
    refine ⟨fun e => ?_, fun e => ?_, fun e => ?_, fun e => ?_, fun e => ?_⟩ <;> subst e <;> simp only [propN, Bool.and_eq_true, beq_iff_eq, decide_eq_true_eq] at h h'
    · obtain ⟨⟨⟨rfl, h2⟩, h3⟩, rfl⟩ := h
      obtain ⟨⟨⟨rfl, h2'⟩, h3'⟩, rfl⟩ := h'
      obtain rfl := hnil h3
      obtain rfl := hnil h3'
      rw [sL_nil (isEmpty_nil h2'), sL_nil (isEmpty_nil h2), if_neg (by simp), if_neg (by simp)]
      rfl
    · obtain ⟨⟨h2, h3⟩, rfl⟩ := h
      obtain ⟨⟨h2', h3'⟩, rfl⟩ := h'
      obtain rfl := hnil h3
      obtain rfl := hnil h3'
      rw [sL_nil (isEmpty_nil h2'), sL_nil (isEmpty_nil h2)]
      unfold sgn
      simp only [Bool.false_eq_true, Int.lt_irrefl, or_false]
      rfl
    · obtain ⟨⟨⟨rfl, h3⟩, rfl⟩, _⟩ := h
      obtain ⟨⟨⟨rfl, h3'⟩, rfl⟩, _⟩ := h'
      obtain rfl := hnil h3
      obtain rfl := hnil h3'
      rw [compare_less]
      unfold sL
      rw [ByteArray.toList_eq, ByteArray.toList_eq]
      simp only [Int.lt_irrefl, or_false, false_or]
      rfl
    · obtain ⟨⟨rfl, h2⟩, rfl⟩ := h
      obtain ⟨⟨rfl, h2'⟩, rfl⟩ := h'
      rw [sL_nil (isEmpty_nil h2'), sL_nil (isEmpty_nil h2), if_neg (by simp), if_neg (by simp)]
    · obtain ⟨⟨⟨rfl, h2⟩, h3⟩, _⟩ := h
      obtain ⟨⟨⟨rfl, h2'⟩, h3'⟩, _⟩ := h'
      obtain rfl := hnil h3
      obtain rfl := hnil h3'
      rw [sL_nil (isEmpty_nil h2'), sL_nil (isEmpty_nil h2)]
      unfold sgn
      simp only [Bool.false_eq_true, false_or, Int.lt_irrefl]
      rfl
theorem RowAt.alloc {W : World} {b off : Nat} {c : Array Value} (h : RowAt W b off c) (hb : b < W.heap.size) (o : Obj) : RowAt (W.alloc o) b off c := h.same (heap_alloc_old W o hb)
/-- value.order answers the document's order. -/
def OrdOk (p p' : Nat → Prop) (m m' : Bool) (t u : VT) : Prop :=
  ∀ (va v : Value) (w : World), Lies w p m t va → Lies w p' m' u v → (∀ b, p b → b < w.heap.size) → (∀ b, p' b → b < w.heap.size) →
    Calls Try.prog 69 #[va, v] w fun e w' => e = .returned (.int .i64 (ordT t u)) ∧ Below w.heap.size w w'

set_option maxRecDepth 100000 in
set_option maxHeartbeats 8000000 in
theorem cmpF_w (p p' : Nat → Prop) (m m' : Bool) (l l' : List VT) (A A1 : Option Addr) (cap cap1 : Nat) (w : World) (hL : LiesL w p m A 0 l) (hL1 : LiesL w p' m' A1 0 l') (hpa : ∀ b, p b → b < w.heap.size) (hpw : ∀ b, p' b → b < w.heap.size)
    (hl : l.length ≤ 9223372036854775807) (_hl' : l'.length ≤ 9223372036854775807) (ih : ∀ t ∈ l, ∀ u ∈ l', OrdOk p p' m m' t u) :
    Calls Try.prog 87 #[.slice A l.length cap, .slice A1 l'.length cap1, .func (.func 69) #[] #[]] w fun e w' => e = .returned (.int .i64 (ordL l l')) ∧ Below w.heap.size w w' := by
  have HPA := Lib.hid hpa
  have HPW := Lib.hid hpw
  have HL := Lib.hid hL
  have HL1 := Lib.hid hL1
  have IH := Lib.hid ih
  have hB0 := Lib.hid (Below.refl w.heap.size w)
  clear hL hL1 ih hpw hpa
  go_enter Try.func87, Try.ntmps87
  go_wp2
  go_loopw [13] (fun iv wr => ∃ j : Nat, (j ≤ l.length ∧ j ≤ l'.length) ∧ iv = .int .i64 (j : Int) ∧ ordL l l' = ordL (l.drop j) (l'.drop j) ∧ Below w.heap.size w wr) (fun iv _ => l.length - (intOf iv).toNat)
  case atStart => exact ⟨0, ⟨Nat.zero_le _, Nat.zero_le _⟩, rfl, rfl, hB0.out⟩
  case round =>
    obtain ⟨j, ⟨hj, hj'⟩, rfl, hord, hB⟩ := hrel
    have hsz := hB.size
    have HO := Lib.hid hord
    clear hord
    by_cases hlt : j < l.length ∧ j < l'.length
    · obtain ⟨hlt1, hlt2⟩ := hlt
      obtain ⟨b, off, A', cap', rfl, hbt, hrow, hLj⟩ := HL.out.elem j hlt1
      obtain ⟨b1, off1, A1', cap1', rfl, hbt1, hrow1, hLj1⟩ := HL1.out.elem j hlt2
      obtain ⟨g0, g1, g2, g3, g4⟩ := (hrow.same (hB.block b (HPA.out b hbt))).get
      have hI := fun o => ((hrow1.same (hB.block b1 (HPW.out b1 hbt1))).alloc (Nat.lt_of_lt_of_le (HPW.out b1 hbt1) hsz) o).get
      have i0 := fun o => (hI o).1
      have i1 := fun o => (hI o).2.1
      have i2 := fun o => (hI o).2.2.1
      have i3 := fun o => (hI o).2.2.2.1
      have i4 := fun o => (hI o).2.2.2.2
      clear hI
      have HH := Lib.hid (fun W (hW : Below w.heap.size w W) => IH.out l[j] (List.getElem_mem hlt1) l'[j] (List.getElem_mem hlt2) _ _ W (hLj.below hW HPA.out) (hLj1.below hW HPW.out) (fun b hb => Nat.lt_of_lt_of_le (HPA.out b hb) hW.size) (fun b hb => Nat.lt_of_lt_of_le (HPW.out b hb) hW.size))
      have HD := Lib.hid (ordL_drop hlt1 hlt2)
      generalize ordT l[j] l'[j] = oc at *
      have HBr := Lib.hid hB
      clear hrow hrow1 hLj hLj1 hB
      go_wp2_with fail
      refine (HH.out _ ((HBr.out.alloc hsz _).alloc (by simp; omega) _)).mono ?_
      rintro e w1 ⟨rfl, hb⟩
      have HB1 := Lib.hid (((HBr.out.alloc hsz _).alloc (by simp; omega) _).trans (hb.mono (by simp; omega)))
      clear hb g0 g1 g2 g3 g4 i0 i1 i2 i3 i4 HH
      by_cases hoc : oc = 0
      · subst hoc
        have HD2 := Lib.hid (HO.out.trans (HD.out.trans (if_neg (by simp))))
        go_wp2
        go_roundw
        case rel => exact ⟨j + 1, ⟨by omega, by omega⟩, by go_num, HD2.out, HB1.out⟩
        case measure => simp [intOf]; omega
      · have HD2 := Lib.hid (HO.out.trans (HD.out.trans (if_pos hoc)))
        have q7 : (oc != 0) = true := by rw [bne_iff_ne]; exact hoc
        clear hoc
        go_wp2
        go_ret
        exact ⟨by rw [HD2.out]; rfl, HB1.out⟩
    · have HD := Lib.hid (HO.out.trans (ordL_end hj hj' hlt))
      have HB := Lib.hid hB
      clear hB
      by_cases l1 : l.length < l'.length
      · have HD2 := Lib.hid (HD.out.trans (if_pos l1))
        have jl : ¬ j < l.length := by omega
        go_wp2
        go_ret
        exact ⟨by rw [HD2.out]; rfl, HB.out⟩
      · have HD2 := HD.out.trans (if_neg l1)
        by_cases l2 : l'.length < l.length
        · have HD3 := Lib.hid (HD2.trans (if_pos l2))
          have jl : j < l.length := by omega
          have jl2 : ¬ j < l'.length := by omega
          obtain ⟨b, off, A', cap', rfl, hbt, hrow, hLj⟩ := HL.out.elem j jl
          obtain ⟨g0, g1, g2, g3, g4⟩ := (hrow.same (HB.out.block b (HPA.out b hbt))).get
          clear HD2 hrow hLj
          go_wp2
          go_ret
          exact ⟨by rw [HD3.out]; rfl, HB.out.alloc hsz _⟩
        · have HD3 := Lib.hid (HD2.trans (if_neg l2))
          have jl : ¬ j < l.length := by omega
          clear HD2
          go_wp2
          go_ret
          exact ⟨by rw [HD3.out]; rfl, HB.out⟩
set_option maxRecDepth 100000 in
set_option maxHeartbeats 8000000 in
theorem vorder_w (p p' : Nat → Prop) (m m' : Bool) : ∀ (t u : VT), t.good = true → u.good = true → OrdOk p p' m m' t u := by
  refine VT.ind fun k n s r l ih u hg hgu va v w ha h hpa hpw => ?_
  obtain ⟨k', n', s', r', l'⟩ := u
  obtain ⟨A, cap, rfl, ⟨hk, hn, hr, hs, hl⟩, hlc, hcm, hL, _⟩ := ha
  obtain ⟨A1, cap1, rfl, ⟨hk', hn', hr', hs', hl'⟩, hlc1, hcm1, hL1, _⟩ := h
  obtain ⟨hp, hgl⟩ := good_text hg
  obtain ⟨hp', hgl'⟩ := good_text hgu
  obtain ⟨hO1, hO2⟩ := ordT_good hp hp'
  have hbig := propN_big (k := k) n s r l.length
  unfold maxLen at hl hl' hcm hcm1
  have HH := Lib.hid (fun W (hW : Below w.heap.size w W) => cmpF_w p p' m m' l l' A A1 cap cap1 W (LiesL.of_get fun j hj => by
      obtain ⟨b, off, c, a1, a2, a3, a4⟩ := hL.get j hj
      exact ⟨b, off, c, a1, a2, a3.same (hW.block b (hpa b a2)), a4.below hW hpa⟩) (LiesL.of_get fun j hj => by
      obtain ⟨b, off, c, a1, a2, a3, a4⟩ := hL1.get j hj
      exact ⟨b, off, c, a1, a2, a3.same (hW.block b (hpw b a2)), a4.below hW hpw⟩) (fun b hb => Nat.lt_of_lt_of_le (hpa b hb) hW.size) (fun b hb => Nat.lt_of_lt_of_le (hpw b hb) hW.size) (by omega) (by omega)
      (fun t ht u hu => ih t ht u (goodL_mem hgl t ht) (goodL_mem hgl' u hu)))
  have HO1 := Lib.hid hO1
  have HO2 := Lib.hid hO2
  generalize ordT (.mk k n s r l) (.mk k' n' s' r' l') = ov at *
  have hB0 := Lib.hid (((Below.refl w.heap.size w).alloc (Nat.le_refl _) (.cells #[.int .u8 (k : Int), .int .i64 n, .string s, .slice A l.length cap, .int .i64 r] 26)).alloc (by simp) (.cells #[.int .u8 (k' : Int), .int .i64 n', .string s', .slice A1 l'.length cap1, .int .i64 r'] 26))
  have Hbig := Lib.hid (show 5 ≤ k → False from fun hk => absurd (hbig hk) (by rw [hp]; simp))
  clear ih hpa hpw hL hL1 hp hp' hgl hgl' hg hgu hO1 hO2 hbig
  have hk4 : k = 0 ∨ k = 1 ∨ k = 2 ∨ k = 3 ∨ k = 4 ∨ 5 ≤ k := by omega
  go_enter Try.func69, Try.ntmps69
  by_cases hkk : k = k'
  case neg =>
    have q0 : ((k : Int) != (k' : Int)) = true := by rw [bne_iff_ne]; omega
    have HR := Lib.hid (HO1.out hkk)
    go_wp2_with fail
    refine (signI_w _ _ _).mono ?_
    rintro e w1 ⟨rfl, rfl⟩
    go_wp2
    go_ret
    exact ⟨by rw [HR.out]; rfl, hB0.out⟩
  subst hkk
  have HR := Lib.hid (HO2.out rfl)
  clear HO1 HO2
  rcases hk4 with rfl | rfl | rfl | rfl | rfl | hk5
  · go_wp2
    go_ret
    exact ⟨by rw [HR.out.1 (by trivial)]; try rfl, hB0.out⟩
  · go_wp2_with fail
    refine (sign64_w _ _ _).mono ?_
    rintro e w1 ⟨rfl, rfl⟩
    go_wp2
    go_ret
    exact ⟨by rw [HR.out.2.1 (by trivial)]; try rfl, hB0.out⟩
  · go_wp2_with fail
    refine (compare_w _ _ _).mono ?_
    rintro e w1 ⟨rfl, rfl⟩
    go_wp2
    go_ret
    exact ⟨by rw [HR.out.2.2.1 (by trivial)]; try rfl, hB0.out⟩
  · have hs0 := hB0.out.size
    go_wp2_with fail
    refine (HH.out _ hB0.out).mono ?_
    rintro e w1 ⟨rfl, hb⟩
    have HB1 := Lib.hid (hB0.out.trans (hb.mono hs0))
    clear hb
    go_wp2
    go_ret
    exact ⟨by rw [HR.out.2.2.2.1 (by trivial)]; try rfl, HB1.out⟩
  · go_wp2_with fail
    refine (signR_w _ _ _).mono ?_
    rintro e w1 ⟨rfl, rfl⟩
    go_wp2
    go_ret
    exact ⟨by rw [HR.out.2.2.2.2 (by trivial)]; try rfl, hB0.out⟩
  · exact absurd hk5 (fun h => Hbig.out h)
set_option maxRecDepth 100000 in
set_option maxHeartbeats 2000000 in
theorem vOrder_w {pp pp' : Nat → Prop} {m m' : Bool} (t u : VT) (va v : Value) (w : World) (ha : Lies w pp m t va) (h : Lies w pp' m' u v) (hpa : ∀ b, pp b → b < w.heap.size) (hpp : ∀ b, pp' b → b < w.heap.size) :
    Calls Try.prog 37 #[va, v] w fun e w' => e = .returned (rOrderV t u) ∧ Below w.heap.size w w' := by
  obtain ⟨A, cap, rfl⟩ := ha.cells
  obtain ⟨A1, cap1, rfl⟩ := h.cells
  have HM1 := Lib.hid (fun W hW => may_w t _ W (ha.below (W' := W) hW hpa) (fun b hb => Nat.lt_of_lt_of_le (hpa b hb) (Below.size hW)))
  have HM2 := Lib.hid (fun W hW => may_w u _ W (h.below (W' := W) hW hpp) (fun b hb => Nat.lt_of_lt_of_le (hpp b hb) (Below.size hW)))
  have HO := Lib.hid (fun (hm : t.may = true) (hm' : u.may = true) W hW => vorder_w pp pp' m m' t u (may_good hm).1 (may_good hm').1 _ _ W (ha.below (W' := W) hW hpa) (h.below (W' := W) hW hpp) (fun b hb => Nat.lt_of_lt_of_le (hpa b hb) (Below.size hW)) (fun b hb => Nat.lt_of_lt_of_le (hpp b hb) (Below.size hW)))
  have HV : rOrderV t u = if t.may && u.may then .tuple #[.int .i64 (ordT t u), .int .i64 0] else .tuple #[.int .i64 0, .int .i64 2] := rfl
  have HV := Lib.hid HV
  generalize rOrderV t u = ov at *
  generalize ordT t u = oc at *
  generalize t.may = q1 at *
  generalize u.may = q2 at *
  clear ha h
  generalize t.k = a0 at *
  generalize t.n = a1 at *
  generalize t.s = a2 at *
  generalize t.l.length = a3 at *
  generalize t.r = a4 at *
  generalize u.k = b0 at *
  generalize u.n = b1 at *
  generalize u.s = b2 at *
  generalize u.l.length = b3 at *
  generalize u.r = b4 at *
  have X0 := Five.new w (.int .u8 (a0 : Int)) (.int .i64 a1) (.string a2) (.slice A a3 cap) (.int .i64 a4)
  have X1 := Five.new (w.alloc (.cells #[.int .u8 (a0 : Int), .int .i64 a1, .string a2, .slice A a3 cap, .int .i64 a4] 26)) (.int .u8 (b0 : Int)) (.int .i64 b1) (.string b2) (.slice A1 b3 cap1) (.int .i64 b4)
  rw [World.size_alloc] at X1
  have HX := Lib.hid (And.intro (X0.alloc (.cells #[.int .u8 (b0 : Int), .int .i64 b1, .string b2, .slice A1 b3 cap1, .int .i64 b4] 26)) X1)
  have hB0 := Lib.hid (((Below.refl w.heap.size w).alloc (Nat.le_refl _) (.cells #[.int .u8 (a0 : Int), .int .i64 a1, .string a2, .slice A a3 cap, .int .i64 a4] 26)).alloc (by simp) (.cells #[.int .u8 (b0 : Int), .int .i64 b1, .string b2, .slice A1 b3 cap1, .int .i64 b4] 26))
  clear X0 X1
  go_enter Try.func37, Try.ntmps37
  go_wp2_with fail
  refine (HM1.out _ hB0.out).mono ?_
  rintro e w1 ⟨rfl, hb⟩
  have Y := HX.out.2.below hb HX.out.2.lt
  have Y0 := HX.out.1.below hb HX.out.1.lt
  have hB1 := Lib.hid (hB0.out.trans (hb.mono (by simp; omega)))
  have HY := Lib.hid (And.intro Y0 Y)
  have e0 := Y.e0
  have e1 := Y.e1
  have e2 := Y.e2
  have e3 := Y.e3
  have e4 := Y.e4
  clear hb Y Y0
  cases q1
  · go_wp2
    go_ret2
    exact ⟨by rw [HV.out]; rfl, hB1.out⟩
  have hs1 := hB1.out.size
  go_wp2_with fail
  refine (HM2.out _ hB1.out).mono ?_
  rintro e w2 ⟨rfl, hb⟩
  have Y := HY.out.2.below hb HY.out.2.lt
  have Y0 := HY.out.1.below hb HY.out.1.lt
  have hB2 := Lib.hid (hB1.out.trans (hb.mono hs1))
  have f0 := Y.e0
  have f1 := Y.e1
  have f2 := Y.e2
  have f3 := Y.e3
  have f4 := Y.e4
  have g0 := Y0.e0
  have g1 := Y0.e1
  have g2 := Y0.e2
  have g3 := Y0.e3
  have g4 := Y0.e4
  clear hb Y Y0 e0 e1 e2 e3 e4
  cases q2
  · go_wp2
    go_ret2
    exact ⟨by rw [HV.out]; rfl, hB2.out⟩
  have hs2 := hB2.out.size
  go_wp2_with fail
  refine (HO.out (by trivial) (by trivial) _ hB2.out).mono ?_
  rintro e w3 ⟨rfl, hb⟩
  have hB3 := Lib.hid (hB2.out.trans (hb.mono hs2))
  clear hb
  go_wp2
  go_ret2
  exact ⟨by rw [HV.out]; rfl, hB3.out⟩
set_option maxRecDepth 100000 in
set_option maxHeartbeats 2000000 in
theorem vSame_w {pp pp' : Nat → Prop} {m m' : Bool} (t u : VT) (va v : Value) (w : World) (ha : Lies w pp m t va) (h : Lies w pp' m' u v) (hpa : ∀ b, pp b → b < w.heap.size) (hpp : ∀ b, pp' b → b < w.heap.size) :
    Calls Try.prog 39 #[va, v] w fun e w' => e = .returned (.bool (sameT t u)) ∧ Below w.heap.size w w' := by
  obtain ⟨A, cap, rfl⟩ := ha.cells
  obtain ⟨A1, cap1, rfl⟩ := h.cells
  have HO := Lib.hid (fun W hW => vOrder_w t u _ _ W (ha.below (W' := W) hW hpa) (h.below (W' := W) hW hpp) (fun b hb => Nat.lt_of_lt_of_le (hpa b hb) (Below.size hW)) (fun b hb => Nat.lt_of_lt_of_le (hpp b hb) (Below.size hW)))
  have HV : rOrderV t u = if t.may && u.may then .tuple #[.int .i64 (ordT t u), .int .i64 0] else .tuple #[.int .i64 0, .int .i64 2] := rfl
  have HV := Lib.hid HV
  have HS : sameT t u = (t.may && u.may && (ordT t u == 0)) := rfl
  have HS := Lib.hid HS
  generalize sameT t u = sv at *
  generalize rOrderV t u = ov at *
  generalize ordT t u = oc at *
  generalize (t.may && u.may) = q at *
  clear ha h
  generalize t.k = a0 at *
  generalize t.n = a1 at *
  generalize t.s = a2 at *
  generalize t.l.length = a3 at *
  generalize t.r = a4 at *
  generalize u.k = b0 at *
  generalize u.n = b1 at *
  generalize u.s = b2 at *
  generalize u.l.length = b3 at *
  generalize u.r = b4 at *
  have hB0 := Lib.hid (((Below.refl w.heap.size w).alloc (Nat.le_refl _) (.cells #[.int .u8 (a0 : Int), .int .i64 a1, .string a2, .slice A a3 cap, .int .i64 a4] 26)).alloc (by simp) (.cells #[.int .u8 (b0 : Int), .int .i64 b1, .string b2, .slice A1 b3 cap1, .int .i64 b4] 26))
  go_enter Try.func39, Try.ntmps39
  go_wp2_with fail
  refine (HO.out _ hB0.out).mono ?_
  rintro e w1 ⟨rfl, hb⟩
  have hB1 := Lib.hid (hB0.out.trans (hb.mono (by simp; omega)))
  clear hb
  cases q
  · obtain rfl := HV.out
    simp only [Bool.false_eq_true, if_false]
    go_wp2
    go_ret
    exact ⟨by first | rfl | (rw [HS.out]; rfl), hB1.out⟩
  · obtain rfl := HV.out
    simp only [if_true]
    go_wp2
    go_ret
    exact ⟨by first | rfl | (rw [HS.out]; rfl), hB1.out⟩
end Go.Proofs.Ytckgmdlacaiacaa
