/-
  posternref02.Front, posternref02.Read.
-/
import Derived.Test.YtckgmdlacaiacaaRFront
import Derived.Test.YtckgmdlacaiacaaOfs0
namespace Go.Proofs.Ytckgmdlacaiacaa
open Go.RowKit Go.Shelf
attribute [local go_sem] Oper.semAt_some

theorem rfront_w : ∀ (nest : Nat), nest ≤ 16 → ∀ (left : Nat) (s : List UInt8) (w : World), s.length ≤ maxLen → left ≤ 512 →
    Calls Try.prog 82 #[.string (strL s), .int .i64 (left : Int), .int .i64 (nest : Int)] w (FrPost w (readT nest left s)) := by
  intro nest
  induction nest with
  | zero => exact fun hn left s w hs hl => rfront_of 0 hn (fun n' h => by omega) left s w hs hl
  | succ nest ih => exact fun hn left s w hs hl => rfront_of (nest + 1) hn (fun n' h left s w hs hl => by
      obtain rfl : n' = nest := by omega
      exact ih (by omega) left s w hs hl) left s w hs hl
/-- What is read may be. -/
theorem readMany_good {f : Nat → List UInt8 → Option (VT × List UInt8)} {d : Nat} (hf : ∀ L s t r, f L s = some (t, r) → t.good = true ∧ t.deep ≤ d) : ∀ (n L : Nat) (s : List UInt8) (l : List VT) (r : List UInt8), readMany f n L s = some (l, r) → VT.goodL l = true ∧ VT.deepL l ≤ d := by
  intro n
  induction n with
  | zero =>
    intro L s l r h
    simp only [readMany, Option.some.injEq, Prod.mk.injEq] at h
    rw [← h.1]
    exact ⟨rfl, Nat.zero_le _⟩
  | succ n ih =>
    intro L s l r h
    rw [readMany] at h
    cases h1 : f L s with
    | none => rw [h1] at h; simp at h
    | some x =>
      obtain ⟨t, r1⟩ := x
      rw [h1] at h
      simp only at h
      cases h2 : readMany f n (L - t.parts) r1 with
      | none => rw [h2] at h; simp at h
      | some y =>
        obtain ⟨ts, r2⟩ := y
        rw [h2] at h
        simp only [Option.some.injEq, Prod.mk.injEq] at h
        have h3 := hf _ _ _ _ h1
        have h4 := ih _ _ _ _ h2
        rw [← h.1]
        refine ⟨?_, ?_⟩
        · show (t.good && VT.goodL ts) = true
          rw [h3.1, h4.1]; rfl
        · show max t.deep (VT.deepL ts) ≤ d
          omega
theorem good_one {k : Nat} {n : Int} {s : ByteArray} {r : Int} (h : propN k n s r 0 = true) (hk : k ≠ 3) : VT.good (.mk k n s r []) = true ∧ VT.deep (.mk k n s r []) = 0 := by
  refine ⟨?_, if_neg hk⟩
  show (propN k n s r 0 && true) = true
  rw [h]; rfl
theorem readK_good {rl : List UInt8 → Option (VT × List UInt8)} {left d : Nat} (hrl : ∀ s t r, rl s = some (t, r) → t.good = true ∧ t.deep ≤ d) {s : List UInt8} {t : VT} {r : List UInt8} (h : readK rl left s = some (t, r)) : t.good = true ∧ t.deep ≤ d := by
  unfold readK at h
  split at h
  · split at h
    · simp only [Option.some.injEq, Prod.mk.injEq] at h
      rw [← h.1]
      have := good_one propN_0 (by decide)
      exact ⟨this.1, by rw [this.2]; exact Nat.zero_le _⟩
    · split at h
      · simp only [Option.some.injEq, Prod.mk.injEq] at h
        rw [← h.1]
        have := good_one (propN_1 ((numL (List.take 8 (List.drop 1 s)) : Int) - 9223372036854775808)) (by decide)
        exact ⟨this.1, by rw [this.2]; exact Nat.zero_le _⟩
      · simp at h
    · split at h
      · rename_i hc
        simp only [Option.some.injEq, Prod.mk.injEq] at h
        rw [← h.1]
        have := good_one (show propN 2 0 (strL (List.take (numL (List.take 2 (List.drop 1 s))) (List.drop 2 (List.drop 1 s)))) 0 0 = true by rw [propN_2]; refine decide_eq_true ?_; rw [strL_size, List.length_take]; omega) (by decide)
        exact ⟨this.1, by rw [this.2]; exact Nat.zero_le _⟩
      · simp at h
    · exact hrl _ _ _ h
    · split at h
      · rename_i hc
        simp only [Option.some.injEq, Prod.mk.injEq] at h
        rw [← h.1]
        have := good_one (show propN 4 0 ⟨#[]⟩ (numL (List.take 4 (List.drop 1 s)) : Int) 0 = true by rw [propN_4]; exact decide_eq_true hc.2) (by decide)
        exact ⟨this.1, by rw [this.2]; exact Nat.zero_le _⟩
      · simp at h
    · simp at h
  · simp at h
theorem readBody_good {f : Nat → List UInt8 → Option (VT × List UInt8)} {d : Nat} (hf : ∀ L s t r, f L s = some (t, r) → t.good = true ∧ t.deep ≤ d) {left : Nat} {s : List UInt8} {t : VT} {r : List UInt8} (h : readBody f left s = some (t, r)) : t.good = true ∧ t.deep ≤ d + 1 := by
  unfold readBody at h
  split at h
  · split at h
    · simp at h
    · rename_i l r2 h2
      simp only [Option.some.injEq, Prod.mk.injEq] at h
      have h3 := readMany_good hf _ _ _ _ _ h2
      rw [← h.1]
      refine ⟨?_, ?_⟩
      · show (propN 3 0 ⟨#[]⟩ 0 l.length && VT.goodL l) = true
        rw [h3.1, show propN 3 0 ⟨#[]⟩ 0 l.length = true from by kernel_rfl]; rfl
      · show (if 3 = 3 then 1 + VT.deepL l else 0) ≤ d + 1
        rw [if_pos rfl]
        omega
  · simp at h
theorem readT_good : ∀ (nest L : Nat) (s : List UInt8) (t : VT) (r : List UInt8), readT nest L s = some (t, r) → t.good = true ∧ t.deep ≤ nest := by
  intro nest
  induction nest with
  | zero => exact fun L s t r h => readK_good (rl := fun _ => none) (fun _ _ _ h => by cases h) (show readK (fun _ => none) L s = some (t, r) from h)
  | succ nest ih => exact fun L s t r h => readK_good (rl := readBody (readT nest) L) (fun _ _ _ h => readBody_good ih h) (show readK (readBody (readT nest) L) L s = some (t, r) from h)
theorem readT_may {s : List UInt8} {t : VT} {r : List UInt8} (h : readT 16 512 s = some (t, r)) : t.may = true := by
  have h1 := readT_good _ _ _ _ _ h
  have h2 := readT_parts _ _ _ _ _ h
  unfold VT.may VT.ok
  simp only [Bool.and_eq_true, decide_eq_true_eq]
  exact ⟨⟨h1.1, h2⟩, h1.2⟩
/-- What the document's Front leaves. -/
def FrontN (w : World) (res : Option (VT × List UInt8)) (e : Ending) (W : World) : Prop :=
  Below w.heap.size w W ∧ match res with
    | none => e = .returned (.tuple #[zeroVal, .string ⟨#[]⟩, .int .i64 20])
    | some (t, r) => ∃ v, e = .returned (.tuple #[v, .string (strL r), .int .i64 0]) ∧ LiesN w W t v
def ReadN (w : World) (res : Option VT × Int) (e : Ending) (W : World) : Prop :=
  Below w.heap.size w W ∧ match res.1 with
    | none => e = .returned (.tuple #[zeroVal, .int .i64 res.2])
    | some t => ∃ v, e = .returned (.tuple #[v, .int .i64 res.2]) ∧ LiesN w W t v
theorem LiesN.low {w w0 W : World} {t : VT} {v : Value} (h : LiesN w W t v) (h0 : w0.heap.size ≤ w.heap.size) : LiesN w0 W t v :=
  Lies.same (W := W) (p := fun b => w.heap.size ≤ b ∧ b < W.heap.size) (fun _ hb => ⟨Nat.le_trans h0 hb.1, hb.2⟩) (fun _ _ => rfl) t v h

set_option maxRecDepth 100000 in
set_option maxHeartbeats 8000000 in
theorem rFront_w (l : List UInt8) (w : World) (hl : l.length ≤ maxLen) :
    Calls Try.prog 54 #[.string (strL l)] w (FrontN w (readT 16 512 l)) := by
  have X0 := Five.new w (.int .u8 0) (.int .i64 0) (.string ⟨#[]⟩) (.slice none 0 0) (.int .i64 0)
  have HX := Lib.hid X0
  have HB := Lib.hid ((Below.refl w.heap.size w).alloc (Nat.le_refl _) (.cells #[.int .u8 0, .int .i64 0, .string ⟨#[]⟩, .slice none 0 0, .int .i64 0] 26))
  have H := Lib.hid (rfront_w 16 (Nat.le_refl _) 512 l (w.alloc (.cells #[.int .u8 0, .int .i64 0, .string ⟨#[]⟩, .slice none 0 0, .int .i64 0] 26)) hl (Nat.le_refl _))
  clear X0
  generalize readT 16 512 l = o at *
  go_enter Try.func54, Try.ntmps54
  go_wp2_with fail
  refine H.out.mono ?_
  rintro e w1 ⟨hb, hres⟩
  have X1 := HX.out.below hb HX.out.lt
  have HX1 := Lib.hid X1
  have HB1 := Lib.hid (HB.out.trans (hb.mono HB.out.size))
  have hs1 := HB1.out.size
  have hxl := X1.lt
  have f0 := X1.e0
  have f1 := X1.e1
  have f2 := X1.e2
  have f3 := X1.e3
  have f4 := X1.e4
  have z0 := X1.froz 0
  have z1 := X1.froz 1
  have z2 := X1.froz 2
  have z3 := X1.froz 3
  have z4 := X1.froz 4
  clear X1 hb H
  cases o with
  | none =>
    obtain rfl := hres
    unfold zeroVal
    go_wp2
    refine ret_five3 (B := w.heap.size) rfl ((HX1.out.set5 _ _ _ _ _).alloc _) rfl rfl rfl ?_
    exact ⟨(below_set5 HB1.out (Nat.le_refl _) _ _ _ _ _).alloc (by simp; omega) _, rfl⟩
  | some y =>
    obtain ⟨t, r⟩ := y
    obtain ⟨v, rfl, hF⟩ := hres
    obtain ⟨A2, cap2, rfl⟩ := hF.cells
    have HF := Lib.hid hF
    have hpp := VT.parts_pos t
    have q8 : decide ((t.parts : Int) < 0) = false := decide_eq_false (by omega)
    clear hF
    go_wp2
    refine ret_five3 (B := w.heap.size) rfl ((HX1.out.set5 _ _ _ _ _).alloc _) rfl rfl rfl ?_
    refine ⟨(below_set5 HB1.out (Nat.le_refl _) _ _ _ _ _).alloc (by simp; omega) _, _, rfl, ?_⟩
    exact (LiesN.box5 (w0 := w) (B := w.heap.size) HF.out (by simp) (by simp) _ _ _ _ _).alloc _

set_option maxRecDepth 100000 in
set_option maxHeartbeats 8000000 in
theorem rRead_w (l : List UInt8) (w : World) (hl : l.length ≤ maxLen) :
    Calls Try.prog 52 #[.string (strL l)] w (ReadN w (readRes l)) := by
  have X0 := Five.new w (.int .u8 0) (.int .i64 0) (.string ⟨#[]⟩) (.slice none 0 0) (.int .i64 0)
  have B0 := (Below.refl w.heap.size w).alloc (Nat.le_refl _) (.cells #[.int .u8 0, .int .i64 0, .string ⟨#[]⟩, .slice none 0 0, .int .i64 0] 26)
  have H := Lib.hid (rFront_w l (w.alloc (.cells #[.int .u8 0, .int .i64 0, .string ⟨#[]⟩, .slice none 0 0, .int .i64 0] 26)) hl)
  have hsz := strL_size l
  unfold maxLen at hl
  have HX := Lib.hid X0
  have HB := Lib.hid B0
  have hr : readRes l = if 262144 < l.length then ((none, 4) : Option VT × Int) else match readT 16 512 l with
    | some (t, []) => (some t, 0)
    | _ => (none, 20) := rfl
  have HR := Lib.hid hr
  clear hr
  generalize readRes l = R at *
  by_cases h1 : 262144 < l.length
  · have hR := Lib.hid (HR.out.trans (if_pos h1))
    have f0 := X0.e0
    have f1 := X0.e1
    have f2 := X0.e2
    have f3 := X0.e3
    have f4 := X0.e4
    have q1 : decide ((262144 : Int) < ((strL l).size : Int)) = true := decide_eq_true (by omega)
    clear X0 B0 H
    go_enter Try.func52, Try.ntmps52
    go_wp2
    refine ret_five2 (B := w.heap.size) rfl HX.out rfl rfl ?_
    rw [hR.out]
    exact ⟨HB.out, rfl⟩
  have hR := Lib.hid (HR.out.trans (if_neg h1))
  have q1 : decide ((262144 : Int) < ((strL l).size : Int)) = false := decide_eq_false (by omega)
  clear X0 B0 HR
  generalize readT 16 512 l = o at *
  go_enter Try.func52, Try.ntmps52
  go_wp2_with fail
  refine H.out.mono ?_
  rintro e w1 ⟨hB1, hres⟩
  have X1 := HX.out.below hB1 HX.out.lt
  have f0 := X1.e0
  have f1 := X1.e1
  have f2 := X1.e2
  have f3 := X1.e3
  have f4 := X1.e4
  have z0 := X1.froz
  have hXB := X1.lt
  have HX1 := Lib.hid X1
  have HB1 := Lib.hid (HB.out.trans (hB1.mono (by simp)))
  have hs1 := hB1.size
  simp only [World.size_alloc] at hs1
  clear X1 hB1 H
  cases o with
  | none =>
    obtain rfl := hres
    have hR2 := Lib.hid (show R = (none, 20) from hR.out)
    unfold zeroVal
    go_wp2
    refine ret_five2 (B := w.heap.size) rfl ((HX1.out.set5 _ _ _ _ _).alloc _) rfl rfl ?_
    rw [hR2.out]
    exact ⟨(below_set5 HB1.out (Nat.le_refl _) _ _ _ _ _).alloc (by simp; omega) _, rfl⟩
  | some x =>
    obtain ⟨t, r⟩ := x
    obtain ⟨v, rfl, hF⟩ := hres
    obtain ⟨A2, cap2, rfl⟩ := hF.cells
    have HF := Lib.hid hF
    clear hF
    cases r with
    | nil =>
      have hR2 := Lib.hid (show R = (some t, 0) from hR.out)
      have hse : (strL []).toList = [] := by kernel_rfl
      go_wp2
      refine ret_five2 (B := w.heap.size) rfl ((HX1.out.set5 _ _ _ _ _).alloc _) rfl rfl ?_
      rw [hR2.out]
      refine ⟨(below_set5 HB1.out (Nat.le_refl _) _ _ _ _ _).alloc (by simp; omega) _, _, rfl, ?_⟩
      exact (HF.out.box5 (w0 := w) (B := w.heap.size) (by simp only [World.size_alloc]; omega) (by simp only [World.size_alloc]; omega) _ _ _ _ _).alloc _
    | cons b r =>
      have hR2 := Lib.hid (show R = (none, 20) from hR.out)
      have hse : (strL (b :: r)).toList.isEmpty = false := by
        rw [ByteArray.toList_eq]
        rfl
      go_wp2
      refine ret_five2 (B := w.heap.size) rfl ((HX1.out.set5 _ _ _ _ _).alloc _) rfl rfl ?_
      rw [hR2.out]
      exact ⟨(below_set5 HB1.out (Nat.le_refl _) _ _ _ _ _).alloc (by simp; omega) _, rfl⟩
end Go.Proofs.Ytckgmdlacaiacaa
