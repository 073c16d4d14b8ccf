/-
  The walks of the small functions of package able that only compute: what each call answers, for every value of a set (a number from 0 to 255).
-/
import Derived.Test.YtohhobmjebdfaaaDoorRows
import Derived.Test.YtohhobmjebdfaaaDoorMath
import Derived.Test.YtohhobmjebdfaaaDoorShelf
import Derived.WalkKit
import Derived.Lib.Hide
import Derived.WalkSpells
import Derived.WalkLawsBesides
namespace Go.Proofs.YtohhobmjebdfaaaDoor
open Go.RowKit

set_option maxHeartbeats 400000 in
theorem may_w (a : Int) (w : World) (h0 : 0 ≤ a) (h1 : a ≤ 255) :
    Calls Tryd.prog 14 #[.int .u8 a] w fun e w' => e = .returned (.bool (decide (a ≤ 63))) ∧ w = w' := by
  go_enter Tryd.func14, Tryd.ntmps14
  go_wp2
  go_ret
  exact ⟨ret_bool (mayN a h0 h1), rfl⟩

set_option maxHeartbeats 400000 in
theorem less_w (a b : Int) (w : World) (h0 : 0 ≤ a) (h1 : a ≤ 255) (h2 : 0 ≤ b) (h3 : b ≤ 255):
    Calls Tryd.prog 26 #[.int .u8 a, .int .u8 b] w fun e w' => e = .returned (.int .u8 ((lessN a.toNat b.toNat : Nat) : Int)) ∧ w = w' := by
  go_enter Tryd.func26, Tryd.ntmps26
  go_wp2
  go_ret
  exact ⟨ret_num (less_bits a b h0 h1 h2 h3), rfl⟩

theorem ones_w (x : Int) (w : World) (h0 : 0 ≤ x) (h1 : x ≤ 255) :
    Calls Tryd.prog 41 #[.int .u8 x] w fun e w' => e = .returned (.int .i64 (Lib.onesCount x.toNat)) ∧ w = w' :=
  (Tryd.bits_OnesCount8 x w h0 h1).mono fun _ _ h => ⟨h.1, h.2.symm⟩
theorem zeros_w (x : Int) (w : World) (h0 : 0 ≤ x) (h1 : x ≤ 255) :
    Calls Tryd.prog 38 #[.int .u8 x] w fun e w' => e = .returned (.int .i64 (Lib.trailingZeros8 x.toNat)) ∧ w = w' :=
  (Tryd.bits_TrailingZeros8 x w h0 h1).mono fun _ _ h => ⟨h.1, h.2.symm⟩

set_option maxHeartbeats 400000 in
theorem count_w (a : Int) (w : World) (h0 : 0 ≤ a) (h1 : a ≤ 255) :
    Calls Tryd.prog 18 #[.int .u8 a] w fun e w' => e = .returned (.int .i64 ((countN a.toNat : Nat) : Int)) ∧ w = w' := by
  go_enter Tryd.func18, Tryd.ntmps18
  go_wp2_with fail
  refine (ones_w _ _ (by omega) (by omega)).mono ?_
  rintro e w' ⟨rfl, rfl⟩
  go_wp2
  go_ret
  refine ⟨ret_num ?_, rfl⟩
  unfold countN
  rw [show (a % 64).toNat = a.toNat % 64 by omega]

set_option maxHeartbeats 400000 in
theorem has_w (a b : Int) (w : World) (h0 : 0 ≤ a) (h1 : a ≤ 255) (h2 : 0 ≤ b) (h3 : b ≤ 255):
    Calls Tryd.prog 28 #[.int .u8 a, .int .u8 b] w fun e w' => e = .returned (.bool (hasN a.toNat b.toNat)) ∧ w = w' := by
  go_enter Tryd.func28, Tryd.ntmps28
  go_wp2_with (go_at_call 26; refine (less_w b a _ h2 h3 h0 h1).mono ?_; rintro e w' ⟨rfl, rfl⟩)
  go_ret
  refine ⟨ret_bool ?_, rfl⟩
  unfold hasN
  rw [Bool.eq_iff_iff]; simp; try omega

set_option maxHeartbeats 400000 in
theorem one_w (a : Int) (w : World) (h0 : 0 ≤ a) (h1 : a ≤ 255) :
    Calls Tryd.prog 16 #[.int .u8 a] w fun e w' => e = .returned (.bool (oneN a.toNat)) ∧ w = w' := by
  by_cases h : a ≤ 63
  · go_enter Tryd.func16, Tryd.ntmps16
    go_wp2_with fail
    refine (may_w a _ h0 h1).mono ?_
    rintro e w' ⟨rfl, rfl⟩
    go_wp2_with fail
    refine (count_w a _ h0 h1).mono ?_
    rintro e w' ⟨rfl, rfl⟩
    go_wp2
    go_ret
    refine ⟨ret_bool ?_, rfl⟩
    unfold oneN
    rw [Bool.eq_iff_iff]; simp; omega
  · go_enter Tryd.func16, Tryd.ntmps16
    go_wp2_with fail
    refine (may_w a _ h0 h1).mono ?_
    rintro e w' ⟨rfl, rfl⟩
    go_wp2
    go_ret
    refine ⟨ret_bool ?_, rfl⟩
    unfold oneN
    rw [Bool.eq_iff_iff]; simp; omega

set_option maxHeartbeats 400000 in
theorem next_w (a b : Int) (w : World) (h0 : 0 ≤ a) (h1 : a ≤ 255) (h2 : 0 ≤ b) (h3 : b ≤ 255):
    Calls Tryd.prog 45 #[.int .u8 a, .int .u8 b] w fun e w' => e = .returned (.int .u8 ((nextN a.toNat b.toNat : Nat) : Int)) ∧ w = w' := by
  go_enter Tryd.func45, Tryd.ntmps45
  go_wp2
  go_ret
  refine ⟨ret_num ?_, rfl⟩
  rw [u8_and _ b (by omega) (by omega) h2 (by omega)]
  unfold nextN
  rw [show ((a - b) % 256).toNat = (a.toNat + 256 - b.toNat) % 256 by omega]

set_option maxHeartbeats 400000 in
theorem place_w (a : Int) (w : World) (h0 : 0 ≤ a) (h1 : a ≤ 255) :
    Calls Tryd.prog 11 #[.int .u8 a] w fun e w' => e = .returned (.tuple #[.int .i64 ((placeN a.toNat : Nat) : Int), .int .i64 (if oneN a.toNat then 0 else 2)]) ∧ w = w' := by
  by_cases h : oneN a.toNat = true
  · go_enter Tryd.func11, Tryd.ntmps11
    go_wp2_with fail
    refine (one_w a _ h0 h1).mono ?_
    rintro e w' ⟨rfl, rfl⟩
    go_wp2_with fail
    refine (zeros_w a _ h0 h1).mono ?_
    rintro e w' ⟨rfl, rfl⟩
    go_wp2
    go_ret2
    exact ⟨by simp [placeN, h], rfl⟩
  · go_enter Tryd.func11, Tryd.ntmps11
    go_wp2_with fail
    refine (one_w a _ h0 h1).mono ?_
    rintro e w' ⟨rfl, rfl⟩
    go_wp2
    go_ret2
    exact ⟨by simp [placeN, h], rfl⟩
end Go.Proofs.YtohhobmjebdfaaaDoor
