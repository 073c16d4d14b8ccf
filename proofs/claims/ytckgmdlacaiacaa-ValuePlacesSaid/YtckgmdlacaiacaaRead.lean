/-
  value.read: what is no list; a list by what stands behind its kind.
-/
import Derived.Test.YtckgmdlacaiacaaLay2
import Derived.Test.YtckgmdlacaiacaaRead0
namespace Go.Proofs.Ytckgmdlacaiacaa
open Go.RowKit Go.Shelf
attribute [local go_sem] Oper.semAt_some

theorem chg_set5 {F : List Nat} {w W : World} {B : Nat} (h : Chg F w W) (hB : w.heap.size ≤ B) (v0 v1 v2 v3 v4 : Value) : Chg F w (((((W.setCell ⟨B, 0, none⟩ v0).setCell ⟨B, 1, none⟩ v1).setCell ⟨B, 2, none⟩ v2).setCell ⟨B, 3, none⟩ v3).setCell ⟨B, 4, none⟩ v4) :=
  ((((h.set (a := ⟨B, 0, none⟩) (.inr hB) _).set (a := ⟨B, 1, none⟩) (.inr hB) _).set (a := ⟨B, 2, none⟩) (.inr hB) _).set (a := ⟨B, 3, none⟩) (.inr hB) _).set (a := ⟨B, 4, none⟩) (.inr hB) _
theorem Five.set0 {W : World} {B : Nat} {c0 c1 c2 c3 c4 : Value} (h : Five W B c0 c1 c2 c3 c4) (v : Value) : Five (W.setCell ⟨B, 0, none⟩ v) B v c1 c2 c3 c4 := by
  refine ⟨?_⟩
  simp [World.setCell, Array.getElem?_modify, h.row]
theorem Five.set1 {W : World} {B : Nat} {c0 c1 c2 c3 c4 : Value} (h : Five W B c0 c1 c2 c3 c4) (v : Value) : Five (W.setCell ⟨B, 1, none⟩ v) B c0 v c2 c3 c4 := by
  refine ⟨?_⟩
  simp [World.setCell, Array.getElem?_modify, h.row]
theorem Five.set2 {W : World} {B : Nat} {c0 c1 c2 c3 c4 : Value} (h : Five W B c0 c1 c2 c3 c4) (v : Value) : Five (W.setCell ⟨B, 2, none⟩ v) B c0 c1 v c3 c4 := by
  refine ⟨?_⟩
  simp [World.setCell, Array.getElem?_modify, h.row]
theorem Five.set4 {W : World} {B : Nat} {c0 c1 c2 c3 c4 : Value} (h : Five W B c0 c1 c2 c3 c4) (v : Value) : Five (W.setCell ⟨B, 4, none⟩ v) B c0 c1 c2 c3 v := by
  refine ⟨?_⟩
  simp [World.setCell, Array.getElem?_modify, h.row]

theorem xor_back (x : Nat) (h : x < 18446744073709551616) : wrap64 (bits .xor .u64 (x : Int) 9223372036854775808) = (x : Int) - 9223372036854775808 := by
  have h1 := bits_xor_u64_nat x 9223372036854775808 h (by omega)
  rw [show ((9223372036854775808 : Nat) : Int) = 9223372036854775808 from rfl] at h1
  rw [h1, show (9223372036854775808 : Nat) = 2 ^ 63 from rfl]
  by_cases h0 : x < 2 ^ 63
  · rw [xor_lo x h0]
    unfold wrap64
    omega
  · obtain ⟨a, rfl⟩ : ∃ a : Nat, x = 2 ^ 63 + a := ⟨x - 2 ^ 63, by omega⟩
    rw [xor_hi a (by omega)]
    unfold wrap64
    omega
/-- A value without parts is in memory of its own, which is none. -/
theorem fresh_flat {w W : World} {k : Nat} {n : Int} {s : ByteArray} {r : Int} (h : Bnd k n s r 0) : Fresh w W (.mk k n s r []) (.agg #[.int .u8 (k : Int), .int .i64 n, .string s, .slice none 0 0, .int .i64 r]) :=
  ⟨[], ⟨h, .inl ⟨rfl, rfl, rfl⟩⟩, List.nodup_nil, fun _ h => absurd h List.not_mem_nil⟩
theorem heap_set1_other {W : World} {B q g : Nat} (v : Value) (h : g ≠ B) : (W.setCell ⟨B, q, none⟩ v).heap[g]? = W.heap[g]? := heap_setCell_other _ _ _ _ h
/-- Behind the question whether it is proper. -/
theorem read_tail {cb B : Nat} {w W W2 : World} {r : List UInt8} {c0 c1 c2 c3 c4 : Value} (hL : Left W cb r) (hX : Five W B c0 c1 c2 c3 c4) (hC : Chg [cb] w W) (hB : w.heap.size ≤ B) (hne : B ≠ cb) (hb : Below W.heap.size W W2) (v0 v1 v2 v3 v4 : Value) :
    Five (((((W2.setCell ⟨B, 0, none⟩ v0).setCell ⟨B, 1, none⟩ v1).setCell ⟨B, 2, none⟩ v2).setCell ⟨B, 3, none⟩ v3).setCell ⟨B, 4, none⟩ v4) B v0 v1 v2 v3 v4 ∧
    Left (((((W2.setCell ⟨B, 0, none⟩ v0).setCell ⟨B, 1, none⟩ v1).setCell ⟨B, 2, none⟩ v2).setCell ⟨B, 3, none⟩ v3).setCell ⟨B, 4, none⟩ v4) cb r ∧
    Chg [cb] w (((((W2.setCell ⟨B, 0, none⟩ v0).setCell ⟨B, 1, none⟩ v1).setCell ⟨B, 2, none⟩ v2).setCell ⟨B, 3, none⟩ v3).setCell ⟨B, 4, none⟩ v4) :=
  ⟨(hX.below hb hX.lt).set5 _ _ _ _ _, hL.same ((heap_set5_other _ _ _ _ _ (fun e => hne e.symm)).trans (hb.block cb hL.lt)), chg_set5 (hC.behind hb) hB _ _ _ _ _⟩
theorem propN_0 : propN 0 0 ⟨#[]⟩ 0 0 = true := by kernel_rfl
theorem propN_1 (n : Int) : propN 1 n ⟨#[]⟩ 0 0 = true := by
  simp [propN]
theorem propN_2 (s : ByteArray) : propN 2 0 s 0 0 = decide (s.size ≤ 256) := by
  simp [propN]
  omega
theorem propN_4 (r : Nat) : propN 4 0 ⟨#[]⟩ (r : Int) 0 = decide (1 ≤ r) := by
  simp [propN]
  omega

set_option maxRecDepth 100000 in
set_option maxHeartbeats 8000000 in
theorem read_of_list (cb nest : Nat) (rl : Nat → List UInt8 → Option (VT × List UInt8))
    (HRL : ∀ (left : Nat) s w, Left w cb s → s.length ≤ maxLen → 1 ≤ left → left ≤ 512 → Calls Try.prog 93 #[.func (.func 80) #[] #[.pointer (some ⟨cb, 0, none⟩)], .int .i64 (left : Int), .int .i64 (nest : Int)] w (ReadPost w cb (rl left s)))
    (left : Nat) (s : List UInt8) (w : World) (h : Left w cb s) (hs : s.length ≤ maxLen) (hleft : left ≤ 512) :
    Calls Try.prog 81 #[.func (.func 80) #[] #[.pointer (some ⟨cb, 0, none⟩)], .int .i64 (left : Int), .int .i64 (nest : Int)] w (ReadPost w cb (readK (rl left) left s)) := by
  have hcb := h.lt
  have X0 := Five.new w (.int .u8 0) (.int .i64 0) (.string ⟨#[]⟩) (.slice none 0 0) (.int .i64 0)
  have hne : w.heap.size ≠ cb := by omega
  have C0 : Chg [cb] w (w.alloc (.cells #[.int .u8 0, .int .i64 0, .string ⟨#[]⟩, .slice none 0 0, .int .i64 0] 26)) := Chg.of_below ((Below.refl _ w).alloc (Nat.le_refl _) _)
  have HC0 := Lib.hid C0
  have hL0 := h.alloc (.cells #[.int .u8 0, .int .i64 0, .string ⟨#[]⟩, .slice none 0 0, .int .i64 0] 26)
  have HX0 := Lib.hid X0
  have HRL := Lib.hid HRL
  have HS := Lib.hid hs
  obtain ⟨R, hR⟩ : ∃ R, readK (rl left) left s = R := ⟨_, rfl⟩
  rw [hR]
  by_cases h1 : 1 ≤ s.length
  rotate_left
  · have hR2 := Lib.hid (show R = none by rw [← hR]; exact if_neg (fun e => h1 e.1))
    have H := Lib.hid (wide_no_w 1 s cb _ hL0 hs h1)
    have f0 := X0.e0
    have f1 := X0.e1
    have f2 := X0.e2
    have f3 := X0.e3
    have f4 := X0.e4
    clear h C0 hL0 X0 hR h1
    go_enter Try.func81, Try.ntmps81
    go_wp2_with fail
    refine H.out.mono ?_
    rintro e w' ⟨rfl, rfl⟩
    go_wp2
    refine ret_five3 (B := w.heap.size) rfl HX0.out rfl rfl rfl ?_
    rw [hR2.out]
    exact ⟨HC0.out, rfl⟩
  by_cases h2 : 1 ≤ left
  rotate_left
  · have hR2 := Lib.hid (show R = none by rw [← hR]; exact if_neg (fun e => h2 e.2))
    have H := Lib.hid (wide_w 1 s cb _ hL0 (by decide) hs h1)
    have q1 : decide ((left : Int) < 1) = true := decide_eq_true (by omega)
    clear h C0 hL0 X0 hR h1
    go_enter Try.func81, Try.ntmps81
    go_wp2_with fail
    refine H.out.mono ?_
    rintro e w1 ⟨rfl, hL1, hC1⟩
    have X1 := HX0.out.chg1 hC1 hne
    have f0 := X1.e0
    have f1 := X1.e1
    have f2 := X1.e2
    have f3 := X1.e3
    have f4 := X1.e4
    have z0 := X1.froz
    have HX1 := Lib.hid X1
    have HC1 := Lib.hid (HC0.out.trans hC1)
    clear X1 hC1 hL1
    go_wp2
    refine ret_five3 (B := w.heap.size) rfl (HX1.out.set5 _ _ _ _ _) rfl rfl rfl ?_
    rw [hR2.out]
    exact ⟨chg_set5 HC1.out (Nat.le_refl _) _ _ _ _ _, rfl⟩
  have hR1 : R = (match numL (s.take 1) with
    | 0 => some (.mk 0 0 ⟨#[]⟩ 0 [], s.drop 1)
    | 1 => if 8 ≤ (s.drop 1).length then some (.mk 1 ((numL ((s.drop 1).take 8) : Int) - 9223372036854775808) ⟨#[]⟩ 0 [], (s.drop 1).drop 8) else none
    | 2 => if 2 ≤ (s.drop 1).length ∧ numL ((s.drop 1).take 2) ≤ ((s.drop 1).drop 2).length ∧ numL ((s.drop 1).take 2) ≤ 256 then some (.mk 2 0 (strL (((s.drop 1).drop 2).take (numL ((s.drop 1).take 2)))) 0 [], ((s.drop 1).drop 2).drop (numL ((s.drop 1).take 2))) else none
    | 3 => rl left (s.drop 1)
    | 4 => if 4 ≤ (s.drop 1).length ∧ 1 ≤ numL ((s.drop 1).take 4) then some (.mk 4 0 ⟨#[]⟩ (numL ((s.drop 1).take 4) : Int) [], (s.drop 1).drop 4) else none
    | _ => none) := by rw [← hR]; exact if_pos ⟨h1, h2⟩
  have hk : numL (s.take 1) < 256 := by
    have := numL_lt 1 (s.take 1) (by rw [List.length_take]; omega)
    omega
  have H := Lib.hid (wide_w 1 s cb _ hL0 (by decide) hs h1)
  have hs1 : (s.drop 1).length ≤ maxLen := by rw [List.length_drop]; omega
  have HRL1 := Lib.hid (fun W (hL : Left W cb (s.drop 1)) => HRL.out left (s.drop 1) W hL hs1 h2 hleft)
  have HS1 := Lib.hid hs1
  have q1 : decide ((left : Int) < 1) = false := decide_eq_false (by omega)
  have hk4 : numL (s.take 1) = 0 ∨ numL (s.take 1) = 1 ∨ numL (s.take 1) = 2 ∨ numL (s.take 1) = 3 ∨ numL (s.take 1) = 4 ∨ 5 ≤ numL (s.take 1) := by omega
  generalize numL (s.take 1) = k at *
  generalize s.drop 1 = s1 at *
  have HR1 := Lib.hid hR1
  clear h C0 hL0 X0 hR h1 hR1 hs1 hs
  go_enter Try.func81, Try.ntmps81
  go_wp2_with fail
  refine H.out.mono ?_
  rintro e w1 ⟨rfl, hL1, hC1⟩
  have X1 := HX0.out.chg1 hC1 hne
  have f0 := X1.e0
  have f1 := X1.e1
  have f2 := X1.e2
  have f3 := X1.e3
  have f4 := X1.e4
  have z0 := X1.froz
  have HX1 := Lib.hid X1
  have HC1 := Lib.hid (HC0.out.trans hC1)
  have HL1 := Lib.hid hL1
  clear X1 hC1 hL1 H
  rcases hk4 with rfl | rfl | rfl | rfl | rfl | hk5
  · have hR2 := Lib.hid (show R = some (.mk 0 0 ⟨#[]⟩ 0 [], s1) from HR1.out)
    have HP := Lib.hid (fun W => proper_w 0 0 ⟨#[]⟩ 0 none 0 0 W (by decide) (by decide) (by decide))
    unfold five at HP
    have HX2 := Lib.hid (HX1.out.set0 (.int .u8 0))
    have HL2 := Lib.hid (HL1.out.same (heap_set1_other (B := w.heap.size) (q := 0) (.int .u8 0) (fun e => hne e.symm)))
    have HC2 := Lib.hid (HC1.out.set (a := ⟨w.heap.size, 0, none⟩) (.inr (Nat.le_refl _)) (.int .u8 0))
    go_wp2_with fail
    refine (HP.out _).mono ?_
    rintro e w2 ⟨rfl, hb⟩
    rw [propN_0]
    have X3 := HX2.out.below hb HX2.out.lt
    have g0 := X3.e0
    have g1 := X3.e1
    have g2 := X3.e2
    have g3 := X3.e3
    have g4 := X3.e4
    have y0 := X3.froz
    have HT := Lib.hid (read_tail HL2.out HX2.out HC2.out (Nat.le_refl _) hne hb)
    clear X3 hb f0 f1 f2 f3 f4 z0
    go_wp2
    refine ret_five3 (B := w.heap.size) rfl (HT.out _ _ _ _ _).1 rfl rfl rfl ?_
    rw [hR2.out]
    exact ⟨(HT.out _ _ _ _ _).2.2, (HT.out _ _ _ _ _).2.1, _, rfl, fresh_flat ⟨by decide, by decide, by decide, by decide, by decide⟩⟩
  · have HX2 := Lib.hid (HX1.out.set0 (.int .u8 1))
    have HL2 := Lib.hid (HL1.out.same (heap_set1_other (B := w.heap.size) (q := 0) (.int .u8 1) (fun e => hne e.symm)))
    have HC2 := Lib.hid (HC1.out.set (a := ⟨w.heap.size, 0, none⟩) (.inr (Nat.le_refl _)) (.int .u8 1))
    by_cases h8 : 8 ≤ s1.length
    · have hR2 := Lib.hid (show R = some (.mk 1 ((numL (s1.take 8) : Int) - 9223372036854775808) ⟨#[]⟩ 0 [], s1.drop 8) from HR1.out.trans (if_pos h8))
      have hx : numL (s1.take 8) < 18446744073709551616 := by
        have := numL_lt 8 (s1.take 8) (by rw [List.length_take]; omega)
        omega
      have H8 := Lib.hid (wide_w 8 s1 cb _ HL2.out (by decide) HS1.out h8)
      generalize numL (s1.take 8) = x at *
      have HP := Lib.hid (fun W => proper_w 1 ((x : Int) - 9223372036854775808) ⟨#[]⟩ 0 none 0 0 W (by decide) (by decide) (by decide))
      unfold five at HP
      go_wp2_with fail
      refine H8.out.mono ?_
      rintro e w2 ⟨rfl, hL2, hC2⟩
      have HC3 := Lib.hid ((HC2.out.trans hC2).set (a := ⟨w.heap.size, 1, none⟩) (.inr (Nat.le_refl _)) (.int .i64 ((x : Int) - 9223372036854775808)))
      have HX3 := Lib.hid ((HX2.out.chg1 hC2 hne).set1 (.int .i64 ((x : Int) - 9223372036854775808)))
      have HL3 := Lib.hid (hL2.same (heap_set1_other (B := w.heap.size) (q := 1) (.int .i64 ((x : Int) - 9223372036854775808)) (fun e => hne e.symm)))
      have X2 := HX2.out.chg1 hC2 hne
      have e0 := X2.e0
      have e1 := X2.e1
      have e2 := X2.e2
      have e3 := X2.e3
      have e4 := X2.e4
      have y0 := X2.froz
      have hXB := X2.lt
      clear X2 hL2 hC2 f0 f1 f2 f3 f4 z0
      go_wp2_with fail
      rw [xor_back x hx]
      refine (HP.out _).mono ?_
      rintro e w3 ⟨rfl, hb⟩
      rw [propN_1]
      have X3 := HX3.out.below hb HX3.out.lt
      have g0 := X3.e0
      have g1 := X3.e1
      have g2 := X3.e2
      have g3 := X3.e3
      have g4 := X3.e4
      have y1 := X3.froz
      have HT := Lib.hid (read_tail HL3.out HX3.out HC3.out (Nat.le_refl _) hne hb)
      clear X3 hb e0 e1 e2 e3 e4 y0
      go_wp2
      refine ret_five3 (B := w.heap.size) rfl (HT.out _ _ _ _ _).1 rfl rfl rfl ?_
      rw [hR2.out]
      exact ⟨(HT.out _ _ _ _ _).2.2, (HT.out _ _ _ _ _).2.1, _, rfl, fresh_flat ⟨by decide, by omega, by decide, by decide, by decide⟩⟩
    · have hR2 := Lib.hid (show R = none from HR1.out.trans (if_neg h8))
      have H8 := Lib.hid (wide_no_w 8 s1 cb _ HL2.out HS1.out h8)
      go_wp2_with fail
      refine H8.out.mono ?_
      rintro e w2 ⟨rfl, rfl⟩
      go_wp2
      refine ret_five3 (B := w.heap.size) rfl ((HX2.out.set1 _).set5 _ _ _ _ _) rfl rfl rfl ?_
      rw [hR2.out]
      exact ⟨chg_set5 (HC2.out.set (a := ⟨w.heap.size, 1, none⟩) (.inr (Nat.le_refl _)) _) (Nat.le_refl _) _ _ _ _ _, rfl⟩
  · have HX2 := Lib.hid (HX1.out.set0 (.int .u8 2))
    have HL2 := Lib.hid (HL1.out.same (heap_set1_other (B := w.heap.size) (q := 0) (.int .u8 2) (fun e => hne e.symm)))
    have HC2 := Lib.hid (HC1.out.set (a := ⟨w.heap.size, 0, none⟩) (.inr (Nat.le_refl _)) (.int .u8 2))
    by_cases h8 : 2 ≤ s1.length
    · have hx : numL (s1.take 2) < 65536 := by
        have := numL_lt 2 (s1.take 2) (by rw [List.length_take]; omega)
        omega
      have H8 := Lib.hid (wide_w 2 s1 cb _ HL2.out (by decide) HS1.out h8)
      have hs2 : (s1.drop 2).length ≤ maxLen := by have := HS1.out; rw [List.length_drop]; omega
      have HR3 : Hid (R = if numL (s1.take 2) ≤ (s1.drop 2).length ∧ numL (s1.take 2) ≤ 256 then some (.mk 2 0 (strL ((s1.drop 2).take (numL (s1.take 2)))) 0 [], (s1.drop 2).drop (numL (s1.take 2))) else none) := by
        refine Lib.hid (HR1.out.trans ?_)
        by_cases h9 : numL (s1.take 2) ≤ (s1.drop 2).length ∧ numL (s1.take 2) ≤ 256
        · rw [if_pos h9]
          exact if_pos ⟨h8, h9⟩
        · rw [if_neg h9]
          exact if_neg (fun e => h9 e.2)
      have HS2 := Lib.hid hs2
      clear hs2
      generalize numL (s1.take 2) = x at *
      generalize s1.drop 2 = s2 at *
      go_wp2_with fail
      refine H8.out.mono ?_
      rintro e w2 ⟨rfl, hL2, hC2⟩
      have HX3 := Lib.hid (HX2.out.chg1 hC2 hne)
      have HC3 := Lib.hid (HC2.out.trans hC2)
      have HL3 := Lib.hid hL2
      have X2 := HX3.out
      have e0 := X2.e0
      have e1 := X2.e1
      have e2 := X2.e2
      have e3 := X2.e3
      have e4 := X2.e4
      have y0 := X2.froz
      have hXB := X2.lt
      clear X2 hL2 hC2 f0 f1 f2 f3 f4 z0
      by_cases h9 : x ≤ s2.length
      · have H9 := Lib.hid (take_w x s2 cb w2 HL3.out HS2.out h9)
        have hsz : (strL (s2.take x)).size = x := by rw [strL_size, List.length_take]; omega
        have HP := Lib.hid (fun W => proper_w 2 0 (strL (s2.take x)) 0 none 0 0 W (by decide) (by decide) (by rw [hsz]; unfold maxLen; omega))
        unfold five at HP
        have hpn : propN 2 0 (strL (s2.take x)) 0 0 = decide (x ≤ 256) := by rw [propN_2, hsz]
        rw [hpn] at HP
        have HSz := Lib.hid hsz
        clear hsz hpn
        generalize strL (s2.take x) = S at *
        go_wp2_with fail
        refine H9.out.mono ?_
        rintro e w3 ⟨rfl, hL3, hC3⟩
        have HC4 := Lib.hid ((HC3.out.trans hC3).set (a := ⟨w.heap.size, 2, none⟩) (.inr (Nat.le_refl _)) (.string S))
        have HX4 := Lib.hid ((HX3.out.chg1 hC3 hne).set2 (.string S))
        have HL4 := Lib.hid (hL3.same (heap_set1_other (B := w.heap.size) (q := 2) (.string S) (fun e => hne e.symm)))
        have X2 := HX3.out.chg1 hC3 hne
        have d0 := X2.e0
        have d1 := X2.e1
        have d2 := X2.e2
        have d3 := X2.e3
        have d4 := X2.e4
        have u0 := X2.froz
        have hXB := X2.lt
        clear X2 hL3 hC3 e0 e1 e2 e3 e4 y0
        go_wp2_with fail
        refine (HP.out _).mono ?_
        rintro e w4 ⟨rfl, hb⟩
        have X3 := HX4.out.below hb HX4.out.lt
        have g0 := X3.e0
        have g1 := X3.e1
        have g2 := X3.e2
        have g3 := X3.e3
        have g4 := X3.e4
        have y1 := X3.froz
        have HT := Lib.hid (read_tail HL4.out HX4.out HC4.out (Nat.le_refl _) hne hb)
        clear X3 hb d0 d1 d2 d3 d4 u0
        by_cases h6 : x ≤ 256
        · have hR2 := Lib.hid (HR3.out.trans (if_pos ⟨h9, h6⟩))
          rw [decide_eq_true h6]
          go_wp2
          refine ret_five3 (B := w.heap.size) rfl (HT.out _ _ _ _ _).1 rfl rfl rfl ?_
          rw [hR2.out]
          exact ⟨(HT.out _ _ _ _ _).2.2, (HT.out _ _ _ _ _).2.1, _, rfl, fresh_flat ⟨by decide, by decide, by decide, by rw [HSz.out]; unfold maxLen; omega, by decide⟩⟩
        · have hR2 := Lib.hid (HR3.out.trans (if_neg (fun e => h6 e.2)))
          rw [decide_eq_false h6]
          go_wp2
          refine ret_five3 (B := w.heap.size) rfl (HT.out _ _ _ _ _).1 rfl rfl rfl ?_
          rw [hR2.out]
          exact ⟨(HT.out _ _ _ _ _).2.2, rfl⟩
      · have hR2 := Lib.hid (HR3.out.trans (if_neg (fun e => h9 e.1)))
        have H9 := Lib.hid (take_no_w x s2 cb w2 HL3.out HS2.out h9)
        go_wp2_with fail
        refine H9.out.mono ?_
        rintro e w3 ⟨rfl, rfl⟩
        go_wp2
        refine ret_five3 (B := w.heap.size) rfl ((HX3.out.set2 _).set5 _ _ _ _ _) rfl rfl rfl ?_
        rw [hR2.out]
        exact ⟨chg_set5 (HC3.out.set (a := ⟨w.heap.size, 2, none⟩) (.inr (Nat.le_refl _)) _) (Nat.le_refl _) _ _ _ _ _, rfl⟩
    · have hR2 := Lib.hid (show R = none from HR1.out.trans (if_neg (fun e => h8 e.1)))
      have H8 := Lib.hid (wide_no_w 2 s1 cb _ HL2.out HS1.out h8)
      go_wp2_with fail
      refine H8.out.mono ?_
      rintro e w2 ⟨rfl, rfl⟩
      go_wp2
      refine ret_five3 (B := w.heap.size) rfl (HX2.out.set5 _ _ _ _ _) rfl rfl rfl ?_
      rw [hR2.out]
      exact ⟨chg_set5 HC2.out (Nat.le_refl _) _ _ _ _ _, rfl⟩
  · have HX2 := Lib.hid (HX1.out.set0 (.int .u8 3))
    have HL2 := Lib.hid (HL1.out.same (heap_set1_other (B := w.heap.size) (q := 0) (.int .u8 3) (fun e => hne e.symm)))
    have HC2 := Lib.hid (HC1.out.set (a := ⟨w.heap.size, 0, none⟩) (.inr (Nat.le_refl _)) (.int .u8 3))
    have hR2 := Lib.hid (show R = rl left s1 from HR1.out)
    have H8 := Lib.hid (HRL1.out _ HL2.out)
    clear HRL HRL1
    generalize rl left s1 = o at *
    go_wp2_with fail
    refine H8.out.mono ?_
    rintro e w2 ⟨hC2, hres⟩
    have HC3 := Lib.hid (HC2.out.trans hC2)
    have HX3 := Lib.hid (HX2.out.chg1 hC2 hne)
    have X2 := HX3.out
    have e0 := X2.e0
    have e1 := X2.e1
    have e2 := X2.e2
    have e3 := X2.e3
    have e4 := X2.e4
    have y0 := X2.froz
    have hXB := X2.lt
    clear X2 hC2 f0 f1 f2 f3 f4 z0
    cases o with
    | none =>
      obtain rfl := hres
      unfold zeroVal
      go_wp2
      refine ret_five3 (B := w.heap.size) rfl (HX3.out.set5 _ _ _ _ _) rfl rfl rfl ?_
      rw [hR2.out]
      exact ⟨chg_set5 HC3.out (Nat.le_refl _) _ _ _ _ _, rfl⟩
    | some x =>
      obtain ⟨t, r⟩ := x
      obtain ⟨hL3, v, rfl, hF⟩ := hres
      obtain ⟨A2, cap2, rfl⟩ := hF.cells
      have HLF := Lib.hid (And.intro hL3 hF)
      clear hL3 hF
      go_wp2
      refine ret_five3 (B := w.heap.size) rfl (HX3.out.set5 _ _ _ _ _) rfl rfl rfl ?_
      rw [hR2.out]
      refine ⟨chg_set5 HC3.out (Nat.le_refl _) _ _ _ _ _, HLF.out.1.same (heap_set5_other _ _ _ _ _ (fun e => hne e.symm)), _, rfl, ?_⟩
      have hs0 := HC2.out.size
      have hs1 := HX2.out.lt
      exact HLF.out.2.mono hs0 (fun g g1 _ => heap_set5_other _ _ _ _ _ (by omega)) (by simp)
  · have HX2 := Lib.hid (HX1.out.set0 (.int .u8 4))
    have HL2 := Lib.hid (HL1.out.same (heap_set1_other (B := w.heap.size) (q := 0) (.int .u8 4) (fun e => hne e.symm)))
    have HC2 := Lib.hid (HC1.out.set (a := ⟨w.heap.size, 0, none⟩) (.inr (Nat.le_refl _)) (.int .u8 4))
    by_cases h8 : 4 ≤ s1.length
    · have hx : numL (s1.take 4) < 4294967296 := by
        have := numL_lt 4 (s1.take 4) (by rw [List.length_take]; omega)
        omega
      have H8 := Lib.hid (wide_w 4 s1 cb _ HL2.out (by decide) HS1.out h8)
      have HR3 : Hid (R = if 1 ≤ numL (s1.take 4) then some (.mk 4 0 ⟨#[]⟩ (numL (s1.take 4) : Int) [], s1.drop 4) else none) := by
        refine Lib.hid (HR1.out.trans ?_)
        by_cases h9 : 1 ≤ numL (s1.take 4)
        · rw [if_pos h9]
          exact if_pos ⟨h8, h9⟩
        · rw [if_neg h9]
          exact if_neg (fun e => h9 e.2)
      generalize numL (s1.take 4) = x at *
      have HP := Lib.hid (fun W => proper_w 4 0 ⟨#[]⟩ (x : Int) none 0 0 W (by decide) (by decide) (by decide))
      unfold five at HP
      rw [propN_4] at HP
      go_wp2_with fail
      refine H8.out.mono ?_
      rintro e w2 ⟨rfl, hL2, hC2⟩
      have HC3 := Lib.hid ((HC2.out.trans hC2).set (a := ⟨w.heap.size, 4, none⟩) (.inr (Nat.le_refl _)) (.int .i64 (x : Int)))
      have HX3 := Lib.hid ((HX2.out.chg1 hC2 hne).set4 (.int .i64 (x : Int)))
      have HL3 := Lib.hid (hL2.same (heap_set1_other (B := w.heap.size) (q := 4) (.int .i64 (x : Int)) (fun e => hne e.symm)))
      have X2 := HX2.out.chg1 hC2 hne
      have e0 := X2.e0
      have e1 := X2.e1
      have e2 := X2.e2
      have e3 := X2.e3
      have e4 := X2.e4
      have y0 := X2.froz
      have hXB := X2.lt
      clear X2 hL2 hC2 f0 f1 f2 f3 f4 z0
      go_wp2_with fail
      refine (HP.out _).mono ?_
      rintro e w3 ⟨rfl, hb⟩
      have X3 := HX3.out.below hb HX3.out.lt
      have g0 := X3.e0
      have g1 := X3.e1
      have g2 := X3.e2
      have g3 := X3.e3
      have g4 := X3.e4
      have y1 := X3.froz
      have HT := Lib.hid (read_tail HL3.out HX3.out HC3.out (Nat.le_refl _) hne hb)
      clear X3 hb e0 e1 e2 e3 e4 y0
      by_cases h6 : 1 ≤ x
      · have hR2 := Lib.hid (HR3.out.trans (if_pos h6))
        rw [decide_eq_true h6]
        go_wp2
        refine ret_five3 (B := w.heap.size) rfl (HT.out _ _ _ _ _).1 rfl rfl rfl ?_
        rw [hR2.out]
        exact ⟨(HT.out _ _ _ _ _).2.2, (HT.out _ _ _ _ _).2.1, _, rfl, fresh_flat ⟨by decide, by decide, by omega, by decide, by decide⟩⟩
      · have hR2 := Lib.hid (HR3.out.trans (if_neg h6))
        rw [decide_eq_false h6]
        go_wp2
        refine ret_five3 (B := w.heap.size) rfl (HT.out _ _ _ _ _).1 rfl rfl rfl ?_
        rw [hR2.out]
        exact ⟨(HT.out _ _ _ _ _).2.2, rfl⟩
    · have hR2 := Lib.hid (show R = none from HR1.out.trans (if_neg (fun e => h8 e.1)))
      have H8 := Lib.hid (wide_no_w 4 s1 cb _ HL2.out HS1.out h8)
      go_wp2_with fail
      refine H8.out.mono ?_
      rintro e w2 ⟨rfl, rfl⟩
      go_wp2
      refine ret_five3 (B := w.heap.size) rfl ((HX2.out.set4 _).set5 _ _ _ _ _) rfl rfl rfl ?_
      rw [hR2.out]
      exact ⟨chg_set5 (HC2.out.set (a := ⟨w.heap.size, 4, none⟩) (.inr (Nat.le_refl _)) _) (Nat.le_refl _) _ _ _ _ _, rfl⟩
  · have hR2 : Hid (R = none) := by
      refine Lib.hid (HR1.out.trans ?_)
      match k, hk5 with
      | k + 5, _ => rfl
    go_wp2
    refine ret_five3 (B := w.heap.size) rfl ((HX1.out.set0 _).set5 _ _ _ _ _) rfl rfl rfl ?_
    rw [hR2.out]
    exact ⟨chg_set5 (HC1.out.set (a := ⟨w.heap.size, 0, none⟩) (.inr (Nat.le_refl _)) _) (Nat.le_refl _) _ _ _ _ _, rfl⟩
end Go.Proofs.Ytckgmdlacaiacaa
