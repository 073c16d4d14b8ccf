/-
  The document's answers for layer 1, part four: Meet, Join.
-/
import Derived.Test.YtohhobmjebdfaaaDoorRef3
namespace Go.Proofs.YtohhobmjebdfaaaDoor
open Go.RowKit

theorem bit_meet (xs : List Nat) (i : Nat) : (meetN xs).testBit i = (decide (i < 6) && xs.all (fun x => x.testBit i)) := by
  have : ∀ (xs : List Nat) (m : Nat), (xs.foldl (fun m x => m &&& x) m).testBit i = (m.testBit i && xs.all (fun x => x.testBit i)) := by
    intro xs
    induction xs with
    | nil => intro m; simp
    | cons x xs ih => intro m; rw [List.foldl_cons, ih, Nat.testBit_and, List.all_cons, Bool.and_assoc]
  unfold meetN
  rw [this, bit_63]
theorem bit_join (xs : List Nat) (i : Nat) : (joinN xs % 64).testBit i = (decide (i < 6) && xs.any (fun x => x.testBit i)) := by
  have : ∀ (xs : List Nat) (m : Nat), (xs.foldl (fun m x => m ||| x) m).testBit i = (m.testBit i || xs.any (fun x => x.testBit i)) := by
    intro xs
    induction xs with
    | nil => intro m; simp
    | cons x xs ih => intro m; rw [List.foldl_cons, ih, Nat.testBit_or, List.any_cons, Bool.or_assoc]
  rw [show (64 : Nat) = 2 ^ 6 from rfl, Nat.testBit_mod_two_pow]
  unfold joinN
  rw [this]
  simp
theorem all_snoc {xs : List Nat} {i k : Nat} (h : i < xs.length) : (xs.take (i + 1)).all (fun x => x.testBit k) = ((xs.take i).all (fun x => x.testBit k) && (xs[i]?.getD 0).testBit k) := by
  rw [take_snoc h, List.all_append]; simp
theorem any_snoc {xs : List Nat} {i k : Nat} (h : i < xs.length) : (xs.take (i + 1)).any (fun x => x.testBit k) = ((xs.take i).any (fun x => x.testBit k) || (xs[i]?.getD 0).testBit k) := by
  rw [take_snoc h, List.any_append]; simp

/-- A slice's value, nil or not, over the list xs. -/
def LiesAt (w : World) (pa : Option Addr) (xs : List Nat) : Prop := ∀ i, i < xs.length → ∃ b off, pa = some ⟨b, off, none⟩ ∧ w.cell? ⟨b, off + i, none⟩ = some (.int .u8 ((xs[i]?.getD 0 : Nat) : Int))

set_option maxRecDepth 100000 in
set_option maxHeartbeats 2000000 in
theorem rmeet_w (pa : Option Addr) (cap : Nat) (xs : List Nat) (w : World) (hc : LiesAt w pa xs) (hx : ∀ x ∈ xs, x < 256) (hl : xs.length ≤ 9223372036854775807) :
    Calls Tryd.prog 22 #[.slice pa xs.length cap] w fun e w' => e = .returned (.int .u8 ((meetN xs : Nat) : Int)) ∧ w = w' := by
  have HL : Hid (sumTo (fun j => xs.all (fun x => x.testBit j)) 6 = meetN xs) := Lib.hid (sumTo_eq (meetN_lt xs) fun i hi => by rw [bit_meet]; simp [hi])
  obtain ⟨p, hp⟩ : ∃ p : Nat → Bool, p = fun j => xs.all (fun x => x.testBit j) := ⟨_, rfl⟩
  rw [← hp] at HL
  have HP := Lib.hid hp
  have HC := Lib.hid hc
  have HX := Lib.hid hx
  clear hp hc hx
  go_enter Tryd.func22, Tryd.ntmps22
  go_wp2
  go_loop [3, 4] (fun o i => ∃ k : Nat, k ≤ 6 ∧ i = .int .i64 k ∧ o = .int .u8 ((sumTo p k : Nat) : Int)) (fun _ i => 6 - (intOf i).toNat)
  case atStart => exact ⟨0, by omega, rfl, rfl⟩
  case round =>
    obtain ⟨k, hk, rfl, rfl⟩ := hrel
    by_cases hlt : k < 6
    · have HS := Lib.hid (show sumTo p (k + 1) = sumTo p k + (if p k then 2 ^ k else 0) from rfl)
      have hle := sumTo_le (p := p) (show k + 1 ≤ 6 by omega)
      have hle0 := sumTo_le (p := p) hk
      have hpk : Hid (p k = xs.all (fun x => x.testBit k)) := Lib.hid (by rw [HP.out])
      have Hbit := Lib.hid (bit_w k hlt)
      have hpw := pow_le hlt
      go_wp2
      go_loop [5, 6] (fun al i => ∃ j : Nat, j ≤ xs.length ∧ i = .int .i64 j ∧ al = .bool ((xs.take j).all (fun x => x.testBit k))) (fun _ i => xs.length - (intOf i).toNat)
      case atStart => exact ⟨0, by omega, rfl, by simp⟩
      case round =>
        obtain ⟨j, hj, rfl, rfl⟩ := hrel
        by_cases hjl : j < xs.length
        · have HA := Lib.hid (all_snoc (xs := xs) (k := k) hjl)
          have Hin := Lib.hid (in_w (xs[j]?.getD 0) (getD_lt xs HX.out j) k hlt)
          have hcell := HC.out j hjl
          clear HC
          generalize (xs.take j).all (fun x => x.testBit k) = al at *
          generalize htb : (xs[j]?.getD 0).testBit k = tb at *
          generalize xs[j]?.getD 0 = d at *
          clear htb
          cases al
          · go_wp2
            go_round
            case rel => exact ⟨j + 1, by omega, by go_num, by rw [HA.out]; simp⟩
            case measure => simp [intOf]; omega
          · obtain ⟨b, off, rfl, hcell⟩ := hcell
            go_wp2_with fail
            refine (Hin.out _).mono ?_
            rintro e w' ⟨rfl, rfl⟩
            go_wp2
            go_round
            case rel => exact ⟨j + 1, by omega, by go_num, by rw [HA.out]; simp⟩
            case measure => simp [intOf]; omega
        · obtain rfl : j = xs.length := by omega
          rw [List.take_of_length_le (Nat.le_refl _), ← hpk.out]
          generalize hpp : p k = pk at *
          clear hpp
          cases pk
          · go_wp2
            go_round
            case rel => exact ⟨k + 1, by omega, by go_num, by rw [HS.out]; simp⟩
            case measure => simp [intOf]; omega
          · have HS2 : Hid (sumTo p (k + 1) = sumTo p k + 2 ^ k) := Lib.hid (by rw [HS.out]; simp)
            rw [HS2.out] at hle
            generalize hq : (2 : Nat) ^ k = q at *
            clear hq
            generalize sumTo p k = o at *
            go_wp2_with fail
            refine (Hbit.out _).mono ?_
            rintro e w' ⟨rfl, rfl⟩
            go_wp2
            go_round
            case rel => exact ⟨k + 1, by omega, by go_num, by rw [HS2.out]; go_num⟩
            case measure => simp [intOf]; omega
    · obtain rfl : k = 6 := by omega
      rw [HL.out]
      go_wp2
      go_ret
      exact ⟨rfl, rfl⟩

set_option maxRecDepth 100000 in
set_option maxHeartbeats 2000000 in
theorem rjoin_w (pa : Option Addr) (cap : Nat) (xs : List Nat) (w : World) (hc : LiesAt w pa xs) (hx : ∀ x ∈ xs, x < 256) (hl : xs.length ≤ 9223372036854775807) :
    Calls Tryd.prog 24 #[.slice pa xs.length cap] w fun e w' => e = .returned (.int .u8 ((joinN xs % 64 : Nat) : Int)) ∧ w = w' := by
  have HL : Hid (sumTo (fun j => xs.any (fun x => x.testBit j)) 6 = joinN xs % 64) := Lib.hid (sumTo_eq (join_lt _) fun i hi => by rw [bit_join]; simp [hi])
  obtain ⟨p, hp⟩ : ∃ p : Nat → Bool, p = fun j => xs.any (fun x => x.testBit j) := ⟨_, rfl⟩
  rw [← hp] at HL
  have HP := Lib.hid hp
  have HC := Lib.hid hc
  have HX := Lib.hid hx
  clear hp hc hx
  go_enter Tryd.func24, Tryd.ntmps24
  go_wp2
  go_loop [3, 4] (fun o i => ∃ k : Nat, k ≤ 6 ∧ i = .int .i64 k ∧ o = .int .u8 ((sumTo p k : Nat) : Int)) (fun _ i => 6 - (intOf i).toNat)
  case atStart => exact ⟨0, by omega, rfl, rfl⟩
  case round =>
    obtain ⟨k, hk, rfl, rfl⟩ := hrel
    by_cases hlt : k < 6
    · have HS := Lib.hid (show sumTo p (k + 1) = sumTo p k + (if p k then 2 ^ k else 0) from rfl)
      have hle := sumTo_le (p := p) (show k + 1 ≤ 6 by omega)
      have hle0 := sumTo_le (p := p) hk
      have hpk : Hid (p k = xs.any (fun x => x.testBit k)) := Lib.hid (by rw [HP.out])
      have Hbit := Lib.hid (bit_w k hlt)
      have hpw := pow_le hlt
      go_wp2
      go_loop [5, 6] (fun al i => ∃ j : Nat, j ≤ xs.length ∧ i = .int .i64 j ∧ al = .bool ((xs.take j).any (fun x => x.testBit k))) (fun _ i => xs.length - (intOf i).toNat)
      case atStart => exact ⟨0, by omega, rfl, by simp⟩
      case round =>
        obtain ⟨j, hj, rfl, rfl⟩ := hrel
        by_cases hjl : j < xs.length
        · have HA := Lib.hid (any_snoc (xs := xs) (k := k) hjl)
          have Hin := Lib.hid (in_w (xs[j]?.getD 0) (getD_lt xs HX.out j) k hlt)
          have hcell := HC.out j hjl
          clear HC
          generalize (xs.take j).any (fun x => x.testBit k) = al at *
          generalize htb : (xs[j]?.getD 0).testBit k = tb at *
          generalize xs[j]?.getD 0 = d at *
          clear htb
          cases al
          · obtain ⟨b, off, rfl, hcell⟩ := hcell
            go_wp2_with fail
            refine (Hin.out _).mono ?_
            rintro e w' ⟨rfl, rfl⟩
            go_wp2
            go_round
            case rel => exact ⟨j + 1, by omega, by go_num, by rw [HA.out]; simp⟩
            case measure => simp [intOf]; omega
          · go_wp2
            go_round
            case rel => exact ⟨j + 1, by omega, by go_num, by rw [HA.out]; simp⟩
            case measure => simp [intOf]; omega
        · obtain rfl : j = xs.length := by omega
          rw [List.take_of_length_le (Nat.le_refl _), ← hpk.out]
          generalize hpp : p k = pk at *
          clear hpp
          cases pk
          · go_wp2
            go_round
            case rel => exact ⟨k + 1, by omega, by go_num, by rw [HS.out]; simp⟩
            case measure => simp [intOf]; omega
          · have HS2 : Hid (sumTo p (k + 1) = sumTo p k + 2 ^ k) := Lib.hid (by rw [HS.out]; simp)
            rw [HS2.out] at hle
            generalize hq : (2 : Nat) ^ k = q at *
            clear hq
            generalize sumTo p k = o at *
            go_wp2_with fail
            refine (Hbit.out _).mono ?_
            rintro e w' ⟨rfl, rfl⟩
            go_wp2
            go_round
            case rel => exact ⟨k + 1, by omega, by go_num, by rw [HS2.out]; go_num⟩
            case measure => simp [intOf]; omega
    · obtain rfl : k = 6 := by omega
      rw [HL.out]
      go_wp2
      go_ret
      exact ⟨rfl, rfl⟩
end Go.Proofs.YtohhobmjebdfaaaDoor
