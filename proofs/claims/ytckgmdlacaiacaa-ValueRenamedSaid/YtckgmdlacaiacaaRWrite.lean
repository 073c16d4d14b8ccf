/-
  posternref02.Write; posternref02.number.
-/
import Derived.Test.YtckgmdlacaiacaaRBytes
namespace Go.Proofs.Ytckgmdlacaiacaa
open Go.RowKit Go.Shelf
attribute [local go_sem] Oper.semAt_some

set_option maxRecDepth 100000 in
set_option maxHeartbeats 4000000 in
theorem rWrite_w {pp : Nat → Prop} {m : Bool} (t : VT) (v : Value) (w : World) (h : Lies w pp m t v) (hpp : ∀ b, pp b → b < w.heap.size) :
    Calls Try.prog 50 #[v] w fun e w' => e = .returned (bytesV t) ∧ Below w.heap.size w w' := by
  obtain ⟨A, cap, rfl⟩ := h.cells
  have HM := Lib.hid (fun W (hW : Below w.heap.size w W) => rmay_w t _ W (h.below (W' := W) hW hpp) (fun b hb => Nat.lt_of_lt_of_le (hpp b hb) (Below.size hW)))
  have HR := Lib.hid (fun (hm : t.may = true) W (hW : Below w.heap.size w W) => rrefs_w pp m t _ W (h.below (W' := W) hW hpp) (fun b hb => Nat.lt_of_lt_of_le (hpp b hb) (Below.size hW)) (by have := may_good hm; omega))
  have HL := Lib.hid (fun (hb : (bytesT t).length ≤ 4294967280) W (hW : Below w.heap.size w W) => rbytes_w pp m t _ W (h.below (W' := W) hW hpp) (fun b hb => Nat.lt_of_lt_of_le (hpp b hb) (Below.size hW)) hb)
  have HG := Lib.hid (fun hm : t.may = true => show (bytesT t).length ≤ 4294967280 from (by have h1 := may_good hm; have h2 := bytesT_le t h1.1; omega))
  have HRl := Lib.hid (fun hm : t.may = true => show (refsT t).length ≤ 512 from Nat.le_trans (refsT_len t) (may_good hm).2)
  have HV : bytesV t = if t.may = true ∧ (refsT t).all (fun r => decide (r ≤ 4294967295)) = true then .tuple #[.string ⟨(bytesT t).toArray⟩, .int .i64 0] else .tuple #[.string ⟨#[]⟩, .int .i64 2] := rfl
  have HQ := Lib.hid HV
  have X0 := Five.new w (.int .u8 (t.k : Int)) (.int .i64 t.n) (.string t.s) (.slice A t.l.length cap) (.int .i64 t.r)
  have hb0 := Lib.hid ((Below.refl w.heap.size w).alloc (Nat.le_refl _) (.cells #[.int .u8 (t.k : Int), .int .i64 t.n, .string t.s, .slice A t.l.length cap, .int .i64 t.r] 26))
  clear HV h
  generalize bytesV t = BV at *
  generalize bytesT t = BT at *
  generalize refsT t = RM at *
  generalize t.may = q at *
  generalize t.k = a0 at *
  generalize t.n = a1 at *
  generalize t.s = a2 at *
  generalize t.l.length = a3 at *
  generalize t.r = a4 at *
  have HX := Lib.hid X0
  clear X0
  go_enter Try.func50, Try.ntmps50
  go_wp2_with fail
  refine (HM.out _ hb0.out).mono ?_
  rintro e w1 ⟨rfl, hb1⟩
  have HB1 := Lib.hid (hb0.out.trans (hb1.mono (by simp)))
  have X1 := HX.out.below hb1 HX.out.lt
  have HX1 := Lib.hid X1
  have e0 := X1.e0
  have e1 := X1.e1
  have e2 := X1.e2
  have e3 := X1.e3
  have e4 := X1.e4
  clear X1 hb1
  cases q
  · go_wp2
    go_ret2
    exact ⟨by rw [HQ.out, if_neg (by simp)]; rfl, HB1.out⟩
  have hBl := HG.out rfl
  have hRl := HRl.out rfl
  go_wp2_with fail
  refine (HR.out (by trivial) _ HB1.out).mono ?_
  rintro e w2 ⟨rv, rfl, hown, hb2⟩
  have HB2 := Lib.hid (HB1.out.trans (hb2.mono HB1.out.size))
  have X2 := HX1.out.below hb2 HX1.out.lt
  have HX2 := Lib.hid X2
  have e0 := X2.e0
  have e1 := X2.e1
  have e2 := X2.e2
  have e3 := X2.e3
  have e4 := X2.e4
  clear X2 hb2
  obtain ⟨A2, cap2, rfl, hcell⟩ := owns_read hown
  have HC := Lib.hid hcell
  clear hown hcell
  go_wp2
  go_loopw [5] (fun iv wr => ∃ j : Nat, j ≤ RM.length ∧ iv = .int .i64 (j : Int) ∧ wr = w2 ∧ (RM.take j).all (fun r => decide (r ≤ 4294967295)) = true) (fun iv _ => RM.length - (intOf iv).toNat)
  case atStart => exact ⟨0, Nat.zero_le _, rfl, rfl, by rw [List.take_zero]; rfl⟩
  case round =>
    obtain ⟨j, hj, rfl, rfl, hok⟩ := hrel
    have HOK := Lib.hid hok
    by_cases hlt : j < RM.length
    · obtain ⟨g, rfl, hg, hc⟩ := HC.out j hlt
      obtain ⟨hy, hn⟩ := all_take hlt hok
      have HY := Lib.hid (And.intro hy hn)
      clear hok hy hn
      generalize RM[j] = x at *
      by_cases hx : x ≤ 4294967295
      · have hq : decide (4294967295 < x) = false := decide_eq_false (by omega)
        go_wp2
        go_roundw
        case rel => exact ⟨j + 1, by omega, by go_num, trivial, HY.out.1 hx⟩
        case measure => simp [intOf]; omega
      · have hq : decide (4294967295 < x) = true := decide_eq_true (by omega)
        have hV := Lib.hid (HQ.out.trans (if_neg (fun h => by rw [HY.out.2 (by omega)] at h; exact Bool.noConfusion h.2)))
        go_wp2
        go_ret2
        exact ⟨by rw [hV.out]; rfl, HB2.out⟩
    · obtain rfl : j = RM.length := by omega
      rw [List.take_length] at hok
      have hV := Lib.hid (HQ.out.trans (if_pos ⟨trivial, hok⟩))
      clear hok
      go_wp2_with fail
      refine (HL.out hBl _ HB2.out).mono ?_
      rintro e w3 ⟨g3, c3, rfl, hown3, hb⟩
      have hcv := conv_own hown3
      have HB3 := Lib.hid (HB2.out.trans (hb.mono HB2.out.size))
      clear hown3 hb
      go_wp2
      go_ret2
      exact ⟨by rw [hV.out]; rfl, HB3.out⟩

set_option maxRecDepth 100000 in
set_option maxHeartbeats 4000000 in
theorem number_no_w (n : Nat) (l : List UInt8) (w : World) (hx : ¬ n ≤ l.length) :
    Calls Try.prog 94 #[.string (strL l), .int .i64 (n : Int)] w fun e w' => e = .returned (.tuple #[.int .u64 0, .string (strL l), .bool false]) ∧ Below w.heap.size w w' := by
  have hsz := strL_size l
  have q : decide (((strL l).size : Int) < (n : Int)) = true := decide_eq_true (by omega)
  generalize strL l = s at *
  go_enter Try.func94, Try.ntmps94
  go_wp2
  go_ret3
  exact ⟨rfl, Below.refl _ _⟩
set_option maxRecDepth 100000 in
set_option maxHeartbeats 4000000 in
theorem number_yes_w (n : Nat) (l : List UInt8) (w : World) (hn : n ≤ 8) (hl : l.length ≤ maxLen) (hx : n ≤ l.length) :
    Calls Try.prog 94 #[.string (strL l), .int .i64 (n : Int)] w fun e w' => e = .returned (.tuple #[.int .u64 (numL (l.take n) : Int), .string (strL (l.drop n)), .bool true]) ∧ Below w.heap.size w w' := by
  have hsz := strL_size l
  have HD := Lib.hid (strL_drop l n)
  unfold maxLen at hl
  have q : decide (((strL l).size : Int) < (n : Int)) = false := decide_eq_false (by omega)
  have q' : decide (l.length < n) = false := decide_eq_false (by omega)
  go_enter Try.func94, Try.ntmps94
  go_wp2
  go_loopw [7, 8] (fun xv iv wr => ∃ j : Nat, j ≤ n ∧ iv = .int .i64 (j : Int) ∧ xv = .int .u64 (numL (l.take j) : Int) ∧ wr = w) (fun _ iv _ => n - (intOf iv).toNat)
  case atStart => exact ⟨0, Nat.zero_le _, rfl, rfl, rfl⟩
  case round =>
    obtain ⟨j, hj, rfl, rfl, rfl⟩ := hrel
    by_cases hlt : j < n
    · go_wp2
      go_roundw
      case rel =>
        refine ⟨j + 1, by omega, by go_num, congrArg (Value.int .u64) ?_, by trivial⟩
        have h1 : numL (l.take (j + 1)) = numL (l.take j) * 256 + (l[j]'(by omega)).toNat := by
          rw [List.take_succ_eq_append_getElem (by omega), numL_snoc]
        have h2 : numL (l.take j) < 256 ^ j := numL_lt j _ (by rw [List.length_take]; omega)
        have h3 : 256 ^ j ≤ 256 ^ 7 := Nat.pow_le_pow_right (by omega) (by omega)
        have h4 : (256 : Nat) ^ 7 = 72057594037927936 := by decide
        have h5 := (l[j]'(by omega)).toNat_lt
        change bits .or .u64 (IntKind.u64.wrap ((numL (l.take j) : Int) * 256)) (IntKind.u64.wrap (((l[j]'(by omega)).toNat : Nat) : Int)) = _
        rw [h1, IntKind.wrap_u64, IntKind.wrap_u64, Int.emod_eq_of_lt (by omega) (by omega), Int.emod_eq_of_lt (by omega) (by omega)]
        exact or_byte _ _ (by omega) (by omega)
      case measure => simp [intOf]; omega
    · obtain rfl : j = n := by omega
      go_wp2
      go_quiet (fail)
      go_wp2
      go_ret3
      exact ⟨by rw [HD.out]; rfl, below_drewN (Below.refl _ _) _⟩
end Go.Proofs.Ytckgmdlacaiacaa
