/-
  posternref02.front.
-/
import Derived.Deep.Cut
import Derived.Test.YtckgmdlacaiacaaRFr0
namespace Go.Proofs.Ytckgmdlacaiacaa
open Go.RowKit Go.Shelf
attribute [local go_sem] Oper.semAt_some

/-- What front leaves. -/
def FrPost (w : World) (res : Option (VT × List UInt8)) (e : Ending) (W : World) : Prop :=
  Below w.heap.size w W ∧ match res with
    | none => e = .returned (.tuple #[zeroVal, .string ⟨#[]⟩, .int .i64 (-1)])
    | some (t, r) => ∃ v, e = .returned (.tuple #[v, .string (strL r), .int .i64 (t.parts : Int)]) ∧ LiesN w W t v
/-- What stands behind the kind of a list, by how deep it may be. -/
def rlOf : Nat → Nat → List UInt8 → Option (VT × List UInt8)
  | 0, _ => fun _ => none
  | n + 1, left => readBody (readT n) left
theorem readT_rl (nest left : Nat) (s : List UInt8) : readT nest left s = readK (rlOf nest left) left s := by
  cases nest <;> rfl

theorem rlOf_eq (n left : Nat) (r : List UInt8) : rlOf 0 left r = none ∧ (¬ 2 ≤ r.length → rlOf n left r = none) ∧
    (2 ≤ r.length → rlOf (n + 1) left r = if numL (r.take 2) ≤ left - 1 then (match readMany (readT n) (numL (r.take 2)) (left - 1) (r.drop 2) with
      | none => none
      | some (l, r2) => some (.mk 3 0 ⟨#[]⟩ 0 l, r2)) else none) := by
  refine ⟨rfl, fun h => ?_, fun h => ?_⟩
  · cases n with
    | zero => rfl
    | succ n => exact if_neg (fun e => h e.1)
  · by_cases h9 : numL (r.take 2) ≤ left - 1
    · rw [if_pos h9]
      exact if_pos ⟨h, h9⟩
    · rw [if_neg h9]
      exact if_neg (fun e => h9 e.2)
theorem readK_cons (rl : List UInt8 → Option (VT × List UInt8)) (left : Nat) (b : UInt8) (r : List UInt8) (h : 1 ≤ left) :
    (b.toNat = 0 → readK rl left (b :: r) = some (.mk 0 0 ⟨#[]⟩ 0 [], r)) ∧
    (b.toNat = 1 → readK rl left (b :: r) = if 8 ≤ r.length then some (.mk 1 ((numL (r.take 8) : Int) - 9223372036854775808) ⟨#[]⟩ 0 [], r.drop 8) else none) ∧
    (b.toNat = 2 → readK rl left (b :: r) = if 2 ≤ r.length ∧ numL (r.take 2) ≤ (r.drop 2).length ∧ numL (r.take 2) ≤ 256 then some (.mk 2 0 (strL ((r.drop 2).take (numL (r.take 2)))) 0 [], (r.drop 2).drop (numL (r.take 2))) else none) ∧
    (b.toNat = 3 → readK rl left (b :: r) = rl r) ∧
    (b.toNat = 4 → readK rl left (b :: r) = if 4 ≤ r.length ∧ 1 ≤ numL (r.take 4) then some (.mk 4 0 ⟨#[]⟩ (numL (r.take 4) : Int) [], r.drop 4) else none) ∧
    (5 ≤ b.toNat → readK rl left (b :: r) = none) := by
  have e1 : (b :: r).take 1 = [b] := rfl
  have e2 : (b :: r).drop 1 = r := rfl
  have e3 : numL [b] = b.toNat := by simp [numL]
  have e4 : 1 ≤ (b :: r).length ∧ 1 ≤ left := ⟨by simp, h⟩
  unfold readK
  rw [if_pos e4, e1, e2, e3]
  refine ⟨fun e => by rw [e]; rfl, fun e => by rw [e]; rfl, fun e => by rw [e]; rfl, fun e => by rw [e]; rfl, fun e => by rw [e]; rfl, fun e => ?_⟩
  generalize b.toNat = k at *
  match k, e with
  | k + 5, _ => rfl
theorem liesN_flat {w W : World} {k : Nat} {n : Int} {s : ByteArray} {r : Int} (h : Bnd k n s r 0) : LiesN w W (.mk k n s r []) (.agg #[.int .u8 (k : Int), .int .i64 n, .string s, .slice none 0 0, .int .i64 r]) :=
  ⟨none, 0, rfl, h, Nat.le_refl _, Nat.zero_le _, trivial, fun e => by cases e⟩
set_option maxRecDepth 100000 in
set_option maxHeartbeats 8000000 in
theorem rfront_of (nest : Nat) (hn : nest ≤ 16) (HR : ∀ n', nest = n' + 1 → ∀ (left : Nat) (s : List UInt8) (w : World), s.length ≤ maxLen → left ≤ 512 → Calls Try.prog 82 #[.string (strL s), .int .i64 (left : Int), .int .i64 (n' : Int)] w (FrPost w (readT n' left s)))
    (left : Nat) (s : List UInt8) (w : World) (hs : s.length ≤ maxLen) (hleft : left ≤ 512) :
    Calls Try.prog 82 #[.string (strL s), .int .i64 (left : Int), .int .i64 (nest : Int)] w (FrPost w (readT nest left s)) := by
  have HRd := Lib.hid HR
  have hX := Five.new w (.int .u8 0) (.int .i64 0) (.string ⟨#[]⟩) (.slice none 0 0) (.int .i64 0)
  have HX := Lib.hid hX
  have HB := Lib.hid ((Below.refl w.heap.size w).alloc (Nat.le_refl _) (.cells #[.int .u8 0, .int .i64 0, .string ⟨#[]⟩, .slice none 0 0, .int .i64 0] 26))
  obtain ⟨R, hR⟩ : ∃ R, readT nest left s = R := ⟨_, rfl⟩
  rw [hR]
  rw [readT_rl] at hR
  have HQ := Lib.hid hR
  clear HR hX hR
  cases s with
  | nil =>
    have hse : (strL []).toList = [] := by kernel_rfl
    have hRn := Lib.hid (show R = none from HQ.out.symm.trans (if_neg (fun h => by have := h.1; simp at this)))
    go_enter Try.func82, Try.ntmps82
    go_wp2
    refine ret_five3 (B := w.heap.size) rfl HX.out rfl rfl rfl ?_
    rw [hRn.out]
    exact ⟨HB.out, rfl⟩
  | cons b r =>
    have hse : (strL (b :: r)).toList.isEmpty = false := by rw [ByteArray.toList_eq]; rfl
    have hsz := strL_size (b :: r)
    rw [List.length_cons] at hsz hs
    by_cases h1 : left < 1
    · have q1 : decide ((left : Int) < 1) = true := decide_eq_true (by omega)
      have hRn := Lib.hid (show R = none from HQ.out.symm.trans (if_neg (fun h => by have := h.2; omega)))
      go_enter Try.func82, Try.ntmps82
      go_wp2
      refine ret_five3 (B := w.heap.size) rfl HX.out rfl rfl rfl ?_
      rw [hRn.out]
      exact ⟨HB.out, rfl⟩
    have q1 : decide ((left : Int) < 1) = false := decide_eq_false (by omega)
    have hb0 : ∀ h : 0 < (strL (b :: r)).size, (strL (b :: r))[0]'h = b := fun _ => rfl
    have hd1 : (strL (b :: r)).extract 1 (r.length + 1) = strL r := (strL_drop (b :: r) 1).symm
    have HK := Lib.hid (readK_cons (rlOf nest left) left b r (by omega))
    have hX9 := Five.new (w.alloc (.cells #[.int .u8 0, .int .i64 0, .string ⟨#[]⟩, .slice none 0 0, .int .i64 0] 26)) (.int .u8 (b.toNat : Int)) (.int .i64 0) (.string ⟨#[]⟩) (.slice none 0 0) (.int .i64 0)
    rw [World.size_alloc] at hX9
    have HX9 := Lib.hid hX9
    have HX6 := Lib.hid (HX.out.alloc (.cells #[.int .u8 (b.toNat : Int), .int .i64 0, .string ⟨#[]⟩, .slice none 0 0, .int .i64 0] 26))
    have HB1 := Lib.hid (HB.out.alloc (by simp) (.cells #[.int .u8 (b.toNat : Int), .int .i64 0, .string ⟨#[]⟩, .slice none 0 0, .int .i64 0] 26))
    have hrl : r.length ≤ maxLen := by omega
    have hkb : b.toNat < 256 := b.toNat_lt
    have hk4 : b.toNat = 0 ∨ b.toNat = 1 ∨ b.toNat = 2 ∨ b.toNat = 3 ∨ b.toNat = 4 ∨ 5 ≤ b.toNat := by omega
    clear hX9
    go_enter Try.func82, Try.ntmps82
    go_upto_region 7 with fail
    generalize b.toNat = k at *
    rw [HQ.out] at HK
    clear HQ HB HX q1 hse hsz hb0 hd1
    generalize hW1 : ((w.alloc (.cells #[.int .u8 0, .int .i64 0, .string ⟨#[]⟩, .slice none 0 0, .int .i64 0] 26)).alloc (.cells #[.int .u8 (k : Int), .int .i64 0, .string ⟨#[]⟩, .slice none 0 0, .int .i64 0] 26)) = W1 at *
    clear hW1
    have e0 := HX9.out.e0
    have e1 := HX9.out.e1
    have e2 := HX9.out.e2
    have e3 := HX9.out.e3
    have e4 := HX9.out.e4
    have z0 := HX9.out.froz 0
    have z1 := HX9.out.froz 1
    have z2 := HX9.out.froz 2
    have z3 := HX9.out.froz 3
    have z4 := HX9.out.froz 4
    have f0 := HX6.out.e0
    have f1 := HX6.out.e1
    have f2 := HX6.out.e2
    have f3 := HX6.out.e3
    have f4 := HX6.out.e4
    have y0 := HX6.out.froz 0
    have y1 := HX6.out.froz 1
    have y2 := HX6.out.froz 2
    have y3 := HX6.out.froz 3
    have y4 := HX6.out.froz 4
    have hxl := HX9.out.lt
    have hs1 := HB1.out.size
    rcases hk4 with rfl | rfl | rfl | rfl | rfl | hk5
    · have hRs := Lib.hid (HK.out.1 rfl)
      clear HK
      go_wp2
      refine ret_five3 (B := w.heap.size) rfl (HX6.out.set5 _ _ _ _ _) rfl rfl rfl ?_
      rw [hRs.out]
      exact ⟨below_set5 HB1.out (Nat.le_refl _) _ _ _ _ _, _, rfl, liesN_flat ⟨by decide, by decide, by decide, by decide, by decide⟩⟩
    · have hRs := Lib.hid (HK.out.2.1 rfl)
      clear HK
      by_cases h8 : 8 ≤ r.length
      · have hR1 := Lib.hid (hRs.out.trans (if_pos h8))
        have hx : numL (r.take 8) < 18446744073709551616 := by
          have := numL_lt 8 (r.take 8) (by rw [List.length_take]; omega)
          omega
        have hxb := xor_back _ hx
        have hbd : -9223372036854775808 ≤ ((numL (r.take 8) : Nat) : Int) - 9223372036854775808 ∧ ((numL (r.take 8) : Nat) : Int) - 9223372036854775808 ≤ 9223372036854775807 := by omega
        go_wp2_with fail
        refine (number_yes_w 8 r W1 (by decide) hrl h8).mono ?_
        rintro e W2 ⟨rfl, hb⟩
        have X9 := HX9.out.below hb HX9.out.lt
        have X6 := HX6.out.below hb HX6.out.lt
        have HY9 := Lib.hid X9
        have HY6 := Lib.hid X6
        have HB2 := Lib.hid (HB1.out.trans (hb.mono hs1))
        have hxl2 := X9.lt
        clear e0 e1 e2 e3 e4 z0 z1 z2 z3 z4 f0 f1 f2 f3 f4 y0 y1 y2 y3 y4
        have e0 := X9.e0
        have e1 := X9.e1
        have e2 := X9.e2
        have e3 := X9.e3
        have e4 := X9.e4
        have z0 := X9.froz 0
        have z1 := X9.froz 1
        have z2 := X9.froz 2
        have z3 := X9.froz 3
        have z4 := X9.froz 4
        have f0 := X6.e0
        have f1 := X6.e1
        have f2 := X6.e2
        have f3 := X6.e3
        have f4 := X6.e4
        have y0 := X6.froz 0
        have y1 := X6.froz 1
        have y2 := X6.froz 2
        have y3 := X6.froz 3
        have y4 := X6.froz 4
        clear X9 X6 hb
        generalize numL (r.take 8) = x at *
        go_wp2
        refine ret_five3 (B := w.heap.size) rfl ((HY6.out.other (by simp) _).set5 _ _ _ _ _) rfl rfl rfl ?_
        rw [hR1.out]
        exact ⟨below_set5 (HB2.out.setCell (p := ⟨w.heap.size + 1, 1, none⟩) (by simp) _) (Nat.le_refl _) _ _ _ _ _, _, rfl, liesN_flat ⟨by decide, hbd, by decide, by decide, by decide⟩⟩
      · have hRn := Lib.hid (hRs.out.trans (if_neg (by omega)))
        go_wp2_with fail
        refine (number_no_w 8 r W1 h8).mono ?_
        rintro e W2 ⟨rfl, hb⟩
        have X9 := HX9.out.below hb HX9.out.lt
        have X6 := HX6.out.below hb HX6.out.lt
        have HY9 := Lib.hid X9
        have HY6 := Lib.hid X6
        have HB2 := Lib.hid (HB1.out.trans (hb.mono hs1))
        have hxl2 := X9.lt
        clear e0 e1 e2 e3 e4 z0 z1 z2 z3 z4 f0 f1 f2 f3 f4 y0 y1 y2 y3 y4
        have e0 := X9.e0
        have e1 := X9.e1
        have e2 := X9.e2
        have e3 := X9.e3
        have e4 := X9.e4
        have z0 := X9.froz 0
        have z1 := X9.froz 1
        have z2 := X9.froz 2
        have z3 := X9.froz 3
        have z4 := X9.froz 4
        have f0 := X6.e0
        have f1 := X6.e1
        have f2 := X6.e2
        have f3 := X6.e3
        have f4 := X6.e4
        have y0 := X6.froz 0
        have y1 := X6.froz 1
        have y2 := X6.froz 2
        have y3 := X6.froz 3
        have y4 := X6.froz 4
        clear X9 X6 hb
        go_wp2
        refine ret_five3 (B := w.heap.size) rfl ((HY6.out.other (by simp) _).set5 _ _ _ _ _) rfl rfl rfl ?_
        rw [hRn.out]
        exact ⟨below_set5 (HB2.out.setCell (p := ⟨w.heap.size + 1, 1, none⟩) (by simp) _) (Nat.le_refl _) _ _ _ _ _, rfl⟩
    · have hRs := Lib.hid (HK.out.2.2.1 rfl)
      clear HK
      by_cases h8 : 2 ≤ r.length
      · have hx : numL (r.take 2) < 65536 := by
          have := numL_lt 2 (r.take 2) (by rw [List.length_take]; omega)
          omega
        have hsz1 := strL_size (r.drop 2)
        have hlen1 : (r.drop 2).length ≤ 9223372036854775807 := by rw [List.length_drop]; unfold maxLen at hrl; omega
        have HT := Lib.hid (strL_take (r.drop 2) (numL (r.take 2)))
        have HD := Lib.hid (strL_drop (r.drop 2) (numL (r.take 2)))
        have HTS := Lib.hid (strL_size ((r.drop 2).take (numL (r.take 2))))
        have hR9 : R = if numL (r.take 2) ≤ (r.drop 2).length ∧ numL (r.take 2) ≤ 256 then some (.mk 2 0 (strL ((r.drop 2).take (numL (r.take 2)))) 0 [], (r.drop 2).drop (numL (r.take 2))) else none := by
          rw [hRs.out]
          by_cases h : numL (r.take 2) ≤ (r.drop 2).length ∧ numL (r.take 2) ≤ 256
          · rw [if_pos h, if_pos ⟨h8, h.1, h.2⟩]
          · rw [if_neg h, if_neg (fun e => h e.2)]
        have HR9 := Lib.hid hR9
        clear hR9 hRs
        go_wp2_with fail
        refine (number_yes_w 2 r W1 (by decide) hrl h8).mono ?_
        rintro e W2 ⟨rfl, hb⟩
        have X9 := HX9.out.below hb HX9.out.lt
        have X6 := HX6.out.below hb HX6.out.lt
        have HY9 := Lib.hid X9
        have HY6 := Lib.hid X6
        have HB2 := Lib.hid (HB1.out.trans (hb.mono hs1))
        have hxl2 := X9.lt
        clear e0 e1 e2 e3 e4 z0 z1 z2 z3 z4 f0 f1 f2 f3 f4 y0 y1 y2 y3 y4
        have e0 := X9.e0
        have e1 := X9.e1
        have e2 := X9.e2
        have e3 := X9.e3
        have e4 := X9.e4
        have z0 := X9.froz 0
        have z1 := X9.froz 1
        have z2 := X9.froz 2
        have z3 := X9.froz 3
        have z4 := X9.froz 4
        have f0 := X6.e0
        have f1 := X6.e1
        have f2 := X6.e2
        have f3 := X6.e3
        have f4 := X6.e4
        have y0 := X6.froz 0
        have y1 := X6.froz 1
        have y2 := X6.froz 2
        have y3 := X6.froz 3
        have y4 := X6.froz 4
        clear X9 X6 hb
        generalize numL (r.take 2) = x at *
        generalize r.drop 2 = r1 at *
        by_cases h256 : x ≤ 256
        · have q5 : decide ((256 : Int) < (x : Int)) = false := decide_eq_false (by omega)
          by_cases hxl3 : x ≤ r1.length
          · have hR1 := Lib.hid (HR9.out.trans (if_pos ⟨hxl3, h256⟩))
            have q6 : decide ((r1.length : Int) < (x : Int)) = false := decide_eq_false (by omega)
            have q6' : decide (r1.length < x) = false := decide_eq_false (by omega)
            have hte : (strL r1).extract 0 x = strL (r1.take x) := HT.out.symm
            have hde : (strL r1).extract x r1.length = strL (r1.drop x) := HD.out.symm
            go_wp2
            refine ret_five3 (B := w.heap.size) rfl ((HY6.out.other (by simp) _).set5 _ _ _ _ _) rfl rfl rfl ?_
            rw [hR1.out]
            exact ⟨below_set5 (HB2.out.setCell (p := ⟨w.heap.size + 1, 2, none⟩) (by simp) _) (Nat.le_refl _) _ _ _ _ _, _, rfl, liesN_flat ⟨by decide, by decide, by decide, by rw [HTS.out, List.length_take]; unfold maxLen; omega, by decide⟩⟩
          · have hRn := Lib.hid (HR9.out.trans (if_neg (fun h => hxl3 h.1)))
            have q6 : decide ((r1.length : Int) < (x : Int)) = true := decide_eq_true (by omega)
            have q6' : decide (r1.length < x) = true := decide_eq_true (by omega)
            go_wp2
            refine ret_five3 (B := w.heap.size) rfl (HY6.out.set5 _ _ _ _ _) rfl rfl rfl ?_
            rw [hRn.out]
            exact ⟨below_set5 HB2.out (Nat.le_refl _) _ _ _ _ _, rfl⟩
        · have hRn := Lib.hid (HR9.out.trans (if_neg (fun h => h256 h.2)))
          have q5 : decide ((256 : Int) < (x : Int)) = true := decide_eq_true (by omega)
          go_wp2
          refine ret_five3 (B := w.heap.size) rfl (HY6.out.set5 _ _ _ _ _) rfl rfl rfl ?_
          rw [hRn.out]
          exact ⟨below_set5 HB2.out (Nat.le_refl _) _ _ _ _ _, rfl⟩
      · have hRn := Lib.hid (hRs.out.trans (if_neg (fun h => h8 h.1)))
        go_wp2_with fail
        refine (number_no_w 2 r W1 h8).mono ?_
        rintro e W2 ⟨rfl, hb⟩
        have X9 := HX9.out.below hb HX9.out.lt
        have X6 := HX6.out.below hb HX6.out.lt
        have HY9 := Lib.hid X9
        have HY6 := Lib.hid X6
        have HB2 := Lib.hid (HB1.out.trans (hb.mono hs1))
        have hxl2 := X9.lt
        clear e0 e1 e2 e3 e4 z0 z1 z2 z3 z4 f0 f1 f2 f3 f4 y0 y1 y2 y3 y4
        have e0 := X9.e0
        have e1 := X9.e1
        have e2 := X9.e2
        have e3 := X9.e3
        have e4 := X9.e4
        have z0 := X9.froz 0
        have z1 := X9.froz 1
        have z2 := X9.froz 2
        have z3 := X9.froz 3
        have z4 := X9.froz 4
        have f0 := X6.e0
        have f1 := X6.e1
        have f2 := X6.e2
        have f3 := X6.e3
        have f4 := X6.e4
        have y0 := X6.froz 0
        have y1 := X6.froz 1
        have y2 := X6.froz 2
        have y3 := X6.froz 3
        have y4 := X6.froz 4
        clear X9 X6 hb
        go_wp2
        refine ret_five3 (B := w.heap.size) rfl (HY6.out.set5 _ _ _ _ _) rfl rfl rfl ?_
        rw [hRn.out]
        exact ⟨below_set5 HB2.out (Nat.le_refl _) _ _ _ _ _, rfl⟩
    · have hRs := Lib.hid (HK.out.2.2.2.1 rfl)
      clear HK
      by_cases h8 : 2 ≤ r.length
      · have hx : numL (r.take 2) < 65536 := by
          have := numL_lt 2 (r.take 2) (by rw [List.length_take]; omega)
          omega
        have hlen1 : (r.drop 2).length ≤ maxLen := by rw [List.length_drop]; omega
        have HS1 := Lib.hid hlen1
        have HE0 := Lib.hid (fun (h : nest = 0) => show R = none from by rw [hRs.out, h]; exact (rlOf_eq 0 left r).1)
        have HE1 := Lib.hid (fun n' (h : nest = n' + 1) => show R = if numL (r.take 2) ≤ left - 1 then (match readMany (readT n') (numL (r.take 2)) (left - 1) (r.drop 2) with
          | none => none
          | some (l, r2) => some (.mk 3 0 ⟨#[]⟩ 0 l, r2)) else none from by rw [hRs.out, h]; exact (rlOf_eq n' left r).2.2 h8)
        clear hlen1 hRs
        go_wp2_with fail
        refine (number_yes_w 2 r W1 (by decide) hrl h8).mono ?_
        rintro e W2 ⟨rfl, hb⟩
        have X9 := HX9.out.below hb HX9.out.lt
        have X6 := HX6.out.below hb HX6.out.lt
        have HY9 := Lib.hid X9
        have HY6 := Lib.hid X6
        have HB2 := Lib.hid (HB1.out.trans (hb.mono hs1))
        have hxl2 := X9.lt
        clear e0 e1 e2 e3 e4 z0 z1 z2 z3 z4 f0 f1 f2 f3 f4 y0 y1 y2 y3 y4
        have e0 := X9.e0
        have e1 := X9.e1
        have e2 := X9.e2
        have e3 := X9.e3
        have e4 := X9.e4
        have z0 := X9.froz 0
        have z1 := X9.froz 1
        have z2 := X9.froz 2
        have z3 := X9.froz 3
        have z4 := X9.froz 4
        have f0 := X6.e0
        have f1 := X6.e1
        have f2 := X6.e2
        have f3 := X6.e3
        have f4 := X6.e4
        have y0 := X6.froz 0
        have y1 := X6.froz 1
        have y2 := X6.froz 2
        have y3 := X6.froz 3
        have y4 := X6.froz 4
        clear X9 X6 hb
        generalize numL (r.take 2) = x at *
        generalize r.drop 2 = r1 at *
        rcases Nat.eq_zero_or_pos nest with h0 | h0
        · have hRn := Lib.hid (HE0.out h0)
          have q5 : decide ((nest : Int) < 1) = true := decide_eq_true (by omega)
          clear HE1 HE0
          go_wp2
          refine ret_five3 (B := w.heap.size) rfl (HY6.out.set5 _ _ _ _ _) rfl rfl rfl ?_
          rw [hRn.out]
          exact ⟨below_set5 HB2.out (Nat.le_refl _) _ _ _ _ _, rfl⟩
        obtain ⟨n', hn'⟩ : ∃ n', nest = n' + 1 := ⟨nest - 1, by omega⟩
        have q5 : decide ((nest : Int) < 1) = false := decide_eq_false (by omega)
        have HR9 := Lib.hid (HE1.out n' hn')
        have hnc : (nest : Int) - 1 = (n' : Int) := by omega
        clear HE1 HE0
        by_cases hxl3 : x ≤ left - 1
        rotate_left
        · have hRn := Lib.hid (HR9.out.trans (if_neg hxl3))
          have q6 : decide ((left : Int) ≤ (x : Int)) = true := decide_eq_true (by omega)
          have q6' : decide (left ≤ x) = true := decide_eq_true (by omega)
          clear HR9
          go_wp2
          refine ret_five3 (B := w.heap.size) rfl (HY6.out.set5 _ _ _ _ _) rfl rfl rfl ?_
          rw [hRn.out]
          exact ⟨below_set5 HB2.out (Nat.le_refl _) _ _ _ _ _, rfl⟩
        have HR2 := Lib.hid (HR9.out.trans (if_pos hxl3))
        have q6 : decide ((left : Int) ≤ (x : Int)) = false := decide_eq_false (by omega)
        have q6' : decide (left ≤ x) = false := decide_eq_false (by omega)
        have HST := Lib.hid (FrRun.mk (ts := []) HB2.out HY6.out HY9.out ⟨[], World.ownsRow_nil _ _ _ _, fun q h => absurd h (Nat.not_lt_zero _)⟩)
        have HRc := Lib.hid (HRd.out n' hn')
        obtain ⟨i0, hi, hz0, hz1, hz2⟩ := info_parts infoV
        have Hnc := Lib.hid hnc
        clear HR9 HY6 HY9 hn'
        go_wp2
        go_loopw [0, 12, 13] (fun sv pv iv wr => ∃ (ts : List VT) (sj : List UInt8) (lv : Value), ts.length ≤ x ∧ sv = .string (strL sj) ∧ iv = .int .u64 (ts.length : Int) ∧ pv = .int .i64 ((1 + VT.partsL ts : Nat) : Int) ∧ VT.partsL ts ≤ left - 1 ∧ sj.length ≤ maxLen ∧
          readMany (readT n') x (left - 1) r1 = behind ts (readMany (readT n') (x - ts.length) (left - 1 - VT.partsL ts) sj) ∧ FrRun w ts lv wr) (fun _ _ iv _ => x - (intOf iv).toNat)
        case atStart => exact ⟨[], r1, .slice none 0 0, Nat.zero_le _, rfl, rfl, rfl, Nat.zero_le _, HS1.out, (behind_nil _).symm, HST.out⟩
        case round =>
          obtain ⟨ts, sj, lv, hj, rfl, rfl, rfl, hpt, hsj, heq, hrun⟩ := hrel
          clear HST e0 e1 e2 e3 e4 z0 z1 z2 z3 z4 f0 f1 f2 f3 f4 y0 y1 y2 y3 y4
          have HEQ := Lib.hid heq
          have HSJ := Lib.hid hsj
          have HRun := Lib.hid hrun
          clear heq hsj hrun
          by_cases hlt : ts.length < x
          · have hnc := Hnc.out
            have HC := HRc.out (left - (1 + VT.partsL ts)) sj wr HSJ.out (by omega)
            rw [show left - (1 + VT.partsL ts) = left - 1 - VT.partsL ts by omega, show ((left - 1 - VT.partsL ts : Nat) : Int) = (left : Int) - (1 + (VT.partsL ts : Int)) by omega] at HC
            have HC2 := Lib.hid HC
            have HPT := Lib.hid (fun t r => readT_parts n' (left - 1 - VT.partsL ts) sj t r)
            have HLN := Lib.hid (fun t r => readT_len n' (left - 1 - VT.partsL ts) sj t r)
            have HBF := Lib.hid (fun hf => behind_fail (f := readT n') (n := x - ts.length - 1) (L := left - 1 - VT.partsL ts) (s := sj) (ts := ts) hf)
            have HBS := Lib.hid (fun t r hf => behind_step (f := readT n') (n := x - ts.length - 1) (L := left - 1 - VT.partsL ts) (s := sj) (r := r) (ts := ts) (t := t) hf)
            obtain ⟨xs, o1, o2⟩ := HRun.out.own
            obtain ⟨A0, c0, rfl⟩ := la_shape o1
            have HO := Lib.hid (And.intro o1 o2)
            clear HC o1 o2
            generalize hto : readT n' (left - 1 - VT.partsL ts) sj = o at *
            clear hto
            have HNone : Hid (o = none → R = none) := Lib.hid fun e => by rw [HR2.out, HEQ.out, show x - ts.length = x - ts.length - 1 + 1 by omega, HBF.out e]
            have hpa : ∀ t, VT.partsL (ts ++ [t]) = VT.partsL ts + t.parts := fun t => by
              rw [VT.partsL_append, show VT.partsL [t] = t.parts + 0 from rfl, Nat.add_zero]
            have HStep : Hid (∀ t r, o = some (t, r) → readMany (readT n') x (left - 1) r1 = behind (ts ++ [t]) (readMany (readT n') (x - (ts ++ [t]).length) (left - 1 - VT.partsL (ts ++ [t])) r)) := Lib.hid fun t r e => by
              rw [HEQ.out, show x - ts.length = x - ts.length - 1 + 1 by omega, HBS.out t r e, hpa, List.length_append, List.length_singleton, Nat.sub_sub x, Nat.sub_sub (left - 1)]
            have HPA := Lib.hid hpa
            clear hpa HBS HBF HEQ HR2
            go_wp2_with fail
            refine HC2.out.mono ?_
            rintro e w2 ⟨hb, hres⟩
            have hwr := HRun.out.below.size
            have hs22 := hb.size
            have X9 := HRun.out.out.below hb HRun.out.out.lt
            have X6 := HRun.out.res.below hb HRun.out.res.lt
            have HX9' := Lib.hid X9
            have HX6' := Lib.hid X6
            have HBw := Lib.hid (HRun.out.below.trans (hb.mono hwr))
            have HBr := Lib.hid hb
            have hol9 := X9.lt
            have e0 := fun o => (X9.alloc o).e0
            have e1 := fun o => (X9.alloc o).e1
            have e2 := fun o => (X9.alloc o).e2
            have e3 := fun o => (X9.alloc o).e3
            have e4 := fun o => (X9.alloc o).e4
            have z0 := fun o => (X9.alloc o).froz 0
            have z1 := fun o => (X9.alloc o).froz 1
            have z2 := fun o => (X9.alloc o).froz 2
            have z3 := fun o => (X9.alloc o).froz 3
            have z4 := fun o => (X9.alloc o).froz 4
            have f0 := fun o => (X6.alloc o).e0
            have f1 := fun o => (X6.alloc o).e1
            have f2 := fun o => (X6.alloc o).e2
            have f3 := fun o => (X6.alloc o).e3
            have f4 := fun o => (X6.alloc o).e4
            have y0 := fun o => (X6.alloc o).froz 0
            have y1 := fun o => (X6.alloc o).froz 1
            have y2 := fun o => (X6.alloc o).froz 2
            have y3 := fun o => (X6.alloc o).froz 3
            have y4 := fun o => (X6.alloc o).froz 4
            clear X9 X6 hb HC2
            cases o with
            | none =>
              obtain rfl := hres
              have hRn := Lib.hid (HNone.out rfl)
              unfold zeroVal
              go_wp2
              refine ret_five3 (B := w.heap.size) rfl ((HX6'.out.alloc _).set5 _ _ _ _ _) rfl rfl rfl ?_
              rw [hRn.out]
              exact ⟨below_set5 (HBw.out.alloc (by omega) _) (Nat.le_refl _) _ _ _ _ _, rfl⟩
            | some y =>
              obtain ⟨t, r'⟩ := y
              obtain ⟨v, rfl, hF⟩ := hres
              obtain ⟨A2, cap2, rfl⟩ := hF.cells
              have HF := Lib.hid hF
              have hpn := HPT.out t r' rfl
              have hln := Lib.hid (HLN.out t r' rfl)
              have HS3 := Lib.hid (HStep.out t r' rfl)
              have hpp := VT.parts_pos t
              have q8 : decide ((t.parts : Int) < 0) = false := decide_eq_false (by omega)
              clear hF HStep HNone HPT HLN
              go_wp2_with (at_builtin; refine wpList_append_own_at _ rfl (.tmp 138) (.tmp 140) 23 rfl (w.heap.size + 1 + 1) 26 i0 (.agg #[.int .u8 0, .int .i64 0, .string ⟨#[]⟩, .slice none 0 0, .int .i64 0]) 5 64 Try.underlying23 hi hz0 hz1 hz2 rfl (by decide) _ _ _ rfl (((owns_below HO.out.1 HBr.out).alloc _).alloc _) ⟨_, 0, none⟩ 1 1 [.int .u8 (t.k : Int), .int .i64 t.n, .string t.s, .slice A2 t.l.length cap2, .int .i64 t.r] rfl rfl (five_cell _ (by simp)) (by simp [Value.oneCell']) (by unfold maxLen; omega) (by omega) (by simp; omega) ?_; intro v3 w3 hown3 hgrow3 hnil3 hat3; have HX3 := Lib.hid (ro_box (HRun.out.out) (by omega) HO.out.1 (HBr.out.alloc (o := .cells #[.int .u8 (t.k : Int), .int .i64 t.n, .string t.s, .slice A2 t.l.length cap2, .int .i64 t.r] 26) hs22) hgrow3); have HN := Lib.hid (HRun.out.step HO.out.1 HO.out.2 (HBr.out.alloc (o := .cells #[.int .u8 (t.k : Int), .int .i64 t.n, .string t.s, .slice A2 t.l.length cap2, .int .i64 t.r] 26) hs22) (LiesN.alloc HF.out _) hown3 hgrow3 hat3); obtain ⟨g, cp, rfl⟩ := owns_form hown3 (by omega); have d3 := HX3.out.e3; have dz := HX3.out.froz 3; have hb3 := HX3.out.lt; clear hown3 hgrow3 hnil3 hat3)
              go_roundw
              case rel => exact ⟨ts ++ [t], r', _, by rw [List.length_append, List.length_singleton]; omega, rfl, by rw [List.length_append, List.length_singleton]; go_num, by rw [HPA.out]; go_num, by rw [HPA.out]; omega, by have := hln.out; have := HSJ.out; omega, HS3.out, HN.out⟩
              case measure => simp [intOf]; omega
          · obtain rfl : x = ts.length := by omega
            have hRs : Hid (R = some (.mk 3 0 ⟨#[]⟩ 0 ts, sj)) := by
              refine Lib.hid (HR2.out.trans ?_)
              rw [HEQ.out, Nat.sub_self]
              simp [readMany, behind]
            obtain ⟨xs, o1, o2⟩ := HRun.out.own
            obtain ⟨A0, c0, rfl⟩ := la_shape o1
            clear o1 o2
            have X9 := HRun.out.out
            have X6 := HRun.out.res
            have e0 := X9.e0
            have e1 := X9.e1
            have e2 := X9.e2
            have e3 := X9.e3
            have e4 := X9.e4
            have z0 := X9.froz 0
            have z1 := X9.froz 1
            have z2 := X9.froz 2
            have z3 := X9.froz 3
            have z4 := X9.froz 4
            have f0 := X6.e0
            have f1 := X6.e1
            have f2 := X6.e2
            have f3 := X6.e3
            have f4 := X6.e4
            have y0 := X6.froz 0
            have y1 := X6.froz 1
            have y2 := X6.froz 2
            have y3 := X6.froz 3
            have y4 := X6.froz 4
            have HPa := Lib.hid (show VT.parts (.mk 3 0 ⟨#[]⟩ 0 ts) = 1 + VT.partsL ts from rfl)
            clear X9 X6 HEQ HR2
            go_wp2
            refine ret_five3 (B := w.heap.size) rfl (HRun.out.res.set5 _ _ _ _ _) rfl rfl rfl ?_
            rw [hRs.out]
            refine ⟨below_set5 HRun.out.below (Nat.le_refl _) _ _ _ _ _, _, ?_, HRun.out.done (by unfold maxLen; omega) _ _ _ _ _⟩
            rw [HPa.out]
            rfl
      · have hRn := Lib.hid (hRs.out.trans ((rlOf_eq nest left r).2.1 h8))
        clear hRs
        go_wp2_with fail
        refine (number_no_w 2 r W1 h8).mono ?_
        rintro e W2 ⟨rfl, hb⟩
        have X9 := HX9.out.below hb HX9.out.lt
        have X6 := HX6.out.below hb HX6.out.lt
        have HY9 := Lib.hid X9
        have HY6 := Lib.hid X6
        have HB2 := Lib.hid (HB1.out.trans (hb.mono hs1))
        have hxl2 := X9.lt
        clear e0 e1 e2 e3 e4 z0 z1 z2 z3 z4 f0 f1 f2 f3 f4 y0 y1 y2 y3 y4
        have e0 := X9.e0
        have e1 := X9.e1
        have e2 := X9.e2
        have e3 := X9.e3
        have e4 := X9.e4
        have z0 := X9.froz 0
        have z1 := X9.froz 1
        have z2 := X9.froz 2
        have z3 := X9.froz 3
        have z4 := X9.froz 4
        have f0 := X6.e0
        have f1 := X6.e1
        have f2 := X6.e2
        have f3 := X6.e3
        have f4 := X6.e4
        have y0 := X6.froz 0
        have y1 := X6.froz 1
        have y2 := X6.froz 2
        have y3 := X6.froz 3
        have y4 := X6.froz 4
        clear X9 X6 hb
        go_wp2
        refine ret_five3 (B := w.heap.size) rfl (HY6.out.set5 _ _ _ _ _) rfl rfl rfl ?_
        rw [hRn.out]
        exact ⟨below_set5 HB2.out (Nat.le_refl _) _ _ _ _ _, rfl⟩
    · have hRs := Lib.hid (HK.out.2.2.2.2.1 rfl)
      clear HK
      by_cases h8 : 4 ≤ r.length
      · have hx : numL (r.take 4) < 4294967296 := by
          have := numL_lt 4 (r.take 4) (by rw [List.length_take]; omega)
          omega
        go_wp2_with fail
        refine (number_yes_w 4 r W1 (by decide) hrl h8).mono ?_
        rintro e W2 ⟨rfl, hb⟩
        have X9 := HX9.out.below hb HX9.out.lt
        have X6 := HX6.out.below hb HX6.out.lt
        have HY9 := Lib.hid X9
        have HY6 := Lib.hid X6
        have HB2 := Lib.hid (HB1.out.trans (hb.mono hs1))
        have hxl2 := X9.lt
        clear e0 e1 e2 e3 e4 z0 z1 z2 z3 z4 f0 f1 f2 f3 f4 y0 y1 y2 y3 y4
        have e0 := X9.e0
        have e1 := X9.e1
        have e2 := X9.e2
        have e3 := X9.e3
        have e4 := X9.e4
        have z0 := X9.froz 0
        have z1 := X9.froz 1
        have z2 := X9.froz 2
        have z3 := X9.froz 3
        have z4 := X9.froz 4
        have f0 := X6.e0
        have f1 := X6.e1
        have f2 := X6.e2
        have f3 := X6.e3
        have f4 := X6.e4
        have y0 := X6.froz 0
        have y1 := X6.froz 1
        have y2 := X6.froz 2
        have y3 := X6.froz 3
        have y4 := X6.froz 4
        clear X9 X6 hb
        generalize numL (r.take 4) = x at *
        by_cases hx1 : 1 ≤ x
        · have hR1 := Lib.hid (hRs.out.trans (if_pos ⟨h8, hx1⟩))
          have q5 : decide ((0 : Int) < (x : Int)) = true := decide_eq_true (by omega)
          have q5' : decide (0 < x) = true := decide_eq_true (by omega)
          have hbd : -9223372036854775808 ≤ (x : Int) ∧ (x : Int) ≤ 9223372036854775807 := by omega
          go_wp2
          refine ret_five3 (B := w.heap.size) rfl ((HY6.out.other (by simp) _).set5 _ _ _ _ _) rfl rfl rfl ?_
          rw [hR1.out]
          exact ⟨below_set5 (HB2.out.setCell (p := ⟨w.heap.size + 1, 4, none⟩) (by simp) _) (Nat.le_refl _) _ _ _ _ _, _, rfl, liesN_flat ⟨by decide, by decide, hbd, by decide, by decide⟩⟩
        · have hRn := Lib.hid (hRs.out.trans (if_neg (fun h => hx1 h.2)))
          obtain rfl : x = 0 := by omega
          go_wp2
          refine ret_five3 (B := w.heap.size) rfl ((HY6.out.other (by simp) _).set5 _ _ _ _ _) rfl rfl rfl ?_
          rw [hRn.out]
          exact ⟨below_set5 (HB2.out.setCell (p := ⟨w.heap.size + 1, 4, none⟩) (by simp) _) (Nat.le_refl _) _ _ _ _ _, rfl⟩
      · have hRn := Lib.hid (hRs.out.trans (if_neg (fun h => h8 h.1)))
        go_wp2_with fail
        refine (number_no_w 4 r W1 h8).mono ?_
        rintro e W2 ⟨rfl, hb⟩
        have X9 := HX9.out.below hb HX9.out.lt
        have X6 := HX6.out.below hb HX6.out.lt
        have HY9 := Lib.hid X9
        have HY6 := Lib.hid X6
        have HB2 := Lib.hid (HB1.out.trans (hb.mono hs1))
        have hxl2 := X9.lt
        clear e0 e1 e2 e3 e4 z0 z1 z2 z3 z4 f0 f1 f2 f3 f4 y0 y1 y2 y3 y4
        have e0 := X9.e0
        have e1 := X9.e1
        have e2 := X9.e2
        have e3 := X9.e3
        have e4 := X9.e4
        have z0 := X9.froz 0
        have z1 := X9.froz 1
        have z2 := X9.froz 2
        have z3 := X9.froz 3
        have z4 := X9.froz 4
        have f0 := X6.e0
        have f1 := X6.e1
        have f2 := X6.e2
        have f3 := X6.e3
        have f4 := X6.e4
        have y0 := X6.froz 0
        have y1 := X6.froz 1
        have y2 := X6.froz 2
        have y3 := X6.froz 3
        have y4 := X6.froz 4
        clear X9 X6 hb
        go_wp2
        refine ret_five3 (B := w.heap.size) rfl ((HY6.out.other (by simp) _).set5 _ _ _ _ _) rfl rfl rfl ?_
        rw [hRn.out]
        exact ⟨below_set5 (HB2.out.setCell (p := ⟨w.heap.size + 1, 4, none⟩) (by simp) _) (Nat.le_refl _) _ _ _ _ _, rfl⟩
    · have q0 : ((k : Int) == 0) = false := by rw [beq_eq_false_iff_ne]; omega
      have q1 : ((k : Int) == 1) = false := by rw [beq_eq_false_iff_ne]; omega
      have q2 : ((k : Int) == 2) = false := by rw [beq_eq_false_iff_ne]; omega
      have q3 : ((k : Int) == 3) = false := by rw [beq_eq_false_iff_ne]; omega
      have q4 : ((k : Int) == 4) = false := by rw [beq_eq_false_iff_ne]; omega
      have hRn := Lib.hid (HK.out.2.2.2.2.2 hk5)
      clear HK
      go_wp2
      refine ret_five3 (B := w.heap.size) rfl (HX6.out.set5 _ _ _ _ _) rfl rfl rfl ?_
      rw [hRn.out]
      exact ⟨below_set5 HB1.out (Nat.le_refl _) _ _ _ _ _, rfl⟩
end Go.Proofs.Ytckgmdlacaiacaa
