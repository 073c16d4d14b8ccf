/-
  Plain facts on sets of six abilities as numbers from 0 to 255: no program stands here.
-/
import Derived.WalkKit
import Derived.Laws.BitsAllLaws
import Derived.Lib.BitFns
namespace Go.Proofs.YtohhobmjebdfaaaDoor
open Go.RowKit

theorem ret_bool {a b : Bool} (h : a = b) : Ending.returned (.bool a) = Ending.returned (.bool b) := by rw [h]
theorem ret_num {k : IntKind} {a b : Int} (h : a = b) : Ending.returned (.int k a) = Ending.returned (.int k b) := by rw [h]

theorem all256 {p : Nat → Bool} (h : (List.range 256).all p = true) {n : Nat} (hn : n < 256) : p n = true :=
  List.all_eq_true.1 h n (List.mem_range.2 hn)
theorem all64 {p : Nat → Bool} (h : (List.range 64).all p = true) {n : Nat} (hn : n < 64) : p n = true :=
  List.all_eq_true.1 h n (List.mem_range.2 hn)

/-- What is in a and not in b. -/
def lessN (a b : Nat) : Nat := (a &&& (255 - b)) % 64
def hasN (a b : Nat) : Bool := lessN b a == 0
def countN (a : Nat) : Nat := Lib.onesCount (a % 64)
def oneN (a : Nat) : Bool := decide (a ≤ 63) && (countN a == 1)
def placeN (a : Nat) : Nat := if oneN a then Lib.trailingZeros8 a else 0

/-- The least set within b that is above a. -/
def nextN (a b : Nat) : Nat := ((a + 256 - b) % 256) &&& b
theorem lessN_lt (a b : Nat) : lessN a b < 64 := Nat.mod_lt _ (by decide)
theorem countN_le (a : Nat) : countN a ≤ 6 := by
  have : (List.range 64).all (fun a => decide (Lib.onesCount a ≤ 6)) = true := by decide +kernel
  exact of_decide_eq_true (all64 this (Nat.mod_lt a (by decide : 0 < 64)))

theorem and63 (a : Int) (h0 : 0 ≤ a) (h1 : a ≤ 255) : bits .and .u8 a 63 = ((a.toNat % 64 : Nat) : Int) := by
  rw [u8_and a 63 h0 (by omega) (by decide) (by decide)]
  exact congrArg _ (nat_mask6 a.toNat)
theorem mayN (a : Int) (h0 : 0 ≤ a) (h1 : a ≤ 255) : (bits .andNot .u8 a 63 == 0) = decide (a ≤ 63) := by
  rw [u8_andNot a 63 h0 (by omega) (by decide) (by decide)]
  obtain ⟨n, rfl⟩ := Int.eq_ofNat_of_zero_le h0
  have hn : n < 256 := by omega
  have := all256 (p := fun n => (((n &&& (255 - (63 : Int).toNat) : Nat) : Int) == 0) == decide ((n : Int) ≤ 63)) (by decide +kernel) hn
  simpa using this
theorem less_bits (a b : Int) (h0 : 0 ≤ a) (h1 : a ≤ 255) (h2 : 0 ≤ b) (h3 : b ≤ 255) :
    bits .and .u8 (bits .andNot .u8 a b) 63 = ((lessN a.toNat b.toNat : Nat) : Int) := by
  rw [u8_andNot a b h0 (by omega) h2 (by omega)]
  have hb : (a.toNat &&& (255 - b.toNat)) ≤ 255 := Nat.le_trans Nat.and_le_left (by omega)
  rw [and63 _ (by omega) (by omega)]
  rfl
end Go.Proofs.YtohhobmjebdfaaaDoor
