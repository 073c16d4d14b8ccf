/-
  The document's answers for layer 1, part three: Less, Has, Meet, Join.
-/
import Derived.Test.YtohhobmjebdfaaaDoorRef
import Derived.Test.YtohhobmjebdfaaaDoorLatMath
namespace Go.Proofs.YtohhobmjebdfaaaDoor
open Go.RowKit

/-- The number whose bits below k are those that p says. -/
def sumTo (p : Nat → Bool) : Nat → Nat
  | 0 => 0
  | k + 1 => sumTo p k + (if p k then 2 ^ k else 0)
theorem sumTo_lt (p : Nat → Bool) (k : Nat) : sumTo p k < 2 ^ k := by
  induction k with
  | zero => simp [sumTo]
  | succ k ih => simp only [sumTo, Nat.pow_succ]; split <;> omega
theorem sumTo_bit (p : Nat → Bool) (k i : Nat) : (sumTo p k).testBit i = (decide (i < k) && p i) := by
  induction k with
  | zero => simp [sumTo]
  | succ k ih =>
    have hlt := sumTo_lt p k
    simp only [sumTo]
    cases hp : p k
    · simp only [Bool.false_eq_true, if_false, Nat.add_zero, ih]
      by_cases h : i = k
      · subst h; simp [hp]
      · by_cases h2 : i < k
        · simp [h2, show i < k + 1 by omega]
        · simp [h2, show ¬ i < k + 1 by omega]
    · simp only [if_true]
      have := Nat.two_pow_add_eq_or_of_lt hlt 1
      rw [Nat.mul_one] at this
      rw [Nat.add_comm, this, Nat.testBit_or, ih, Nat.testBit_two_pow]
      by_cases h : i = k
      · subst h; simp [hp]
      · by_cases h2 : i < k
        · simp [h2, show i < k + 1 by omega, show ¬ k = i by omega]
        · simp [h2, show ¬ i < k + 1 by omega, show ¬ k = i by omega]
theorem sumTo_eq {p : Nat → Bool} {x : Nat} (hx : x < 64) (h : ∀ i, i < 6 → x.testBit i = p i) : sumTo p 6 = x :=
  same6 (sumTo_lt p 6) hx fun i hi => by rw [sumTo_bit, h i hi]; simp [hi]
theorem pow_le {k : Nat} (hk : k < 6) : 2 ^ k ≤ 32 := Nat.pow_le_pow_right (n := 2) (by decide) (by omega : k ≤ 5)
theorem sumTo_le {p : Nat → Bool} {k : Nat} (hk : k ≤ 6) : sumTo p k ≤ 63 := by
  have h1 := sumTo_lt p k
  have h2 := Nat.pow_le_pow_right (n := 2) (by decide) hk
  omega

set_option maxRecDepth 100000 in
set_option maxHeartbeats 1000000 in
theorem rless_w (a b : Nat) (ha : a < 256) (hb : b < 256) (w : World) : Calls Tryd.prog 27 #[.int .u8 (a : Int), .int .u8 (b : Int)] w fun e w' => e = .returned (.int .u8 ((lessN a b : Nat) : Int)) ∧ w = w' := by
  have HL : Hid (sumTo (fun j => a.testBit j && !b.testBit j) 6 = lessN a b) := Lib.hid (sumTo_eq (lessN_lt a b) fun i hi => by rw [bit_less a b i hb]; simp [hi])
  obtain ⟨p, hp⟩ : ∃ p : Nat → Bool, p = fun j => a.testBit j && !b.testBit j := ⟨_, rfl⟩
  rw [← hp] at HL
  have HP := Lib.hid hp
  clear hp
  go_enter Tryd.func27, Tryd.ntmps27
  go_wp2
  go_loop [5, 6] (fun o i => ∃ k : Nat, k ≤ 6 ∧ i = .int .i64 k ∧ o = .int .u8 ((sumTo p k : Nat) : Int)) (fun _ i => 6 - (intOf i).toNat)
  case atStart => exact ⟨0, by omega, rfl, rfl⟩
  case round =>
    obtain ⟨k, hk, rfl, rfl⟩ := hrel
    by_cases hlt : k < 6
    · have HS := Lib.hid (show sumTo p (k + 1) = sumTo p k + (if p k then 2 ^ k else 0) from rfl)
      have hle := sumTo_le (p := p) (show k + 1 ≤ 6 by omega)
      have hle0 := sumTo_le (p := p) hk
      have hpk : Hid (p k = (a.testBit k && !b.testBit k)) := Lib.hid (by rw [HP.out])
      have Hia := Lib.hid (in_w a ha k hlt)
      have Hib := Lib.hid (in_w b hb k hlt)
      have Hbit := Lib.hid (bit_w k hlt)
      have hpw := pow_le hlt
      generalize hta : a.testBit k = ta at *
      generalize htb : b.testBit k = tb at *
      clear hta htb
      cases ta
      · go_wp2_with fail
        refine (Hia.out _).mono ?_
        rintro e w' ⟨rfl, rfl⟩
        go_wp2
        go_round
        case rel => exact ⟨k + 1, by omega, by go_num, by rw [HS.out, hpk.out]; simp⟩
        case measure => simp [intOf]; omega
      · cases tb
        · have HS2 : Hid (sumTo p (k + 1) = sumTo p k + 2 ^ k) := Lib.hid (by rw [HS.out, hpk.out]; simp)
          rw [HS2.out] at hle
          generalize hq : (2 : Nat) ^ k = q at *
          clear hq
          generalize sumTo p k = o at *
          go_wp2_with fail
          refine (Hia.out _).mono ?_
          rintro e w' ⟨rfl, rfl⟩
          go_wp2_with fail
          refine (Hib.out _).mono ?_
          rintro e w' ⟨rfl, rfl⟩
          go_wp2_with fail
          refine (Hbit.out _).mono ?_
          rintro e w' ⟨rfl, rfl⟩
          go_wp2
          go_round
          case rel => exact ⟨k + 1, by omega, by go_num, by rw [HS2.out]; go_num⟩
          case measure => simp [intOf]; omega
        · go_wp2_with fail
          refine (Hia.out _).mono ?_
          rintro e w' ⟨rfl, rfl⟩
          go_wp2_with fail
          refine (Hib.out _).mono ?_
          rintro e w' ⟨rfl, rfl⟩
          go_wp2
          go_round
          case rel => exact ⟨k + 1, by omega, by go_num, by rw [HS.out, hpk.out]; simp⟩
          case measure => simp [intOf]; omega
    · obtain rfl : k = 6 := by omega
      rw [HL.out]
      go_wp2
      go_ret
      exact ⟨rfl, rfl⟩

theorem has_false {a b k : Nat} (_hb : b < 256) (hk : k < 6) (h1 : b.testBit k = true) (h2 : a.testBit k = false) (ha : a < 256) : hasN a b = false := by
  have : (lessN b a).testBit k = true := by rw [bit_less b a k ha]; simp [hk, h1, h2]
  unfold hasN
  rw [beq_eq_false_iff_ne]
  intro h
  rw [h] at this
  simp at this
theorem has_true {a b : Nat} (ha : a < 256) (h : ∀ k, k < 6 → ¬ (b.testBit k = true ∧ a.testBit k = false)) : hasN a b = true := by
  unfold hasN
  rw [beq_iff_eq]
  refine same6 (lessN_lt _ _) (by decide) fun i hi => ?_
  rw [bit_less b a i ha, Nat.zero_testBit]
  have := h i hi
  cases h1 : b.testBit i <;> cases h2 : a.testBit i <;> simp_all

set_option maxRecDepth 100000 in
set_option maxHeartbeats 1000000 in
theorem rhas_w (a b : Nat) (ha : a < 256) (hb : b < 256) (w : World) : Calls Tryd.prog 29 #[.int .u8 (a : Int), .int .u8 (b : Int)] w fun e w' => e = .returned (.bool (hasN a b)) ∧ w = w' := by
  have HF := Lib.hid (fun k hk h1 h2 => has_false (a := a) (b := b) (k := k) hb hk h1 h2 ha)
  have HT := Lib.hid (has_true (a := a) (b := b) ha)
  generalize hasN a b = r at *
  go_enter Tryd.func29, Tryd.ntmps29
  go_wp2
  go_loop [5] (fun i => ∃ k : Nat, k ≤ 6 ∧ i = .int .i64 k ∧ ∀ j, j < k → ¬ (b.testBit j = true ∧ a.testBit j = false)) (fun i => 6 - (intOf i).toNat)
  case atStart => exact ⟨0, by omega, rfl, fun j hj => absurd hj (Nat.not_lt_zero _)⟩
  case round =>
    obtain ⟨k, hk, rfl, hno⟩ := hrel
    have Hno := Lib.hid hno
    clear hno
    by_cases hlt : k < 6
    · have Hia := Lib.hid (in_w a ha k hlt)
      have Hib := Lib.hid (in_w b hb k hlt)
      have HF' := Lib.hid (HF.out k hlt)
      have Hstep : Hid (¬ (b.testBit k = true ∧ a.testBit k = false) → ∀ j, j < k + 1 → ¬ (b.testBit j = true ∧ a.testBit j = false)) := Lib.hid (fun h j hj => by
        rcases Nat.lt_or_ge j k with h1 | h1
        · exact Hno.out j h1
        · obtain rfl : j = k := by omega
          exact h)
      generalize hta : a.testBit k = ta at *
      generalize htb : b.testBit k = tb at *
      clear hta htb
      cases tb
      · go_wp2_with fail
        refine (Hib.out _).mono ?_
        rintro e w' ⟨rfl, rfl⟩
        go_wp2
        go_round
        case rel => exact ⟨k + 1, by omega, by go_num, Hstep.out (by simp)⟩
        case measure => simp [intOf]; omega
      · cases ta
        · obtain rfl := HF'.out rfl rfl
          go_wp2_with fail
          refine (Hib.out _).mono ?_
          rintro e w' ⟨rfl, rfl⟩
          go_wp2_with fail
          refine (Hia.out _).mono ?_
          rintro e w' ⟨rfl, rfl⟩
          go_wp2
          go_ret
          exact ⟨rfl, rfl⟩
        · go_wp2_with fail
          refine (Hib.out _).mono ?_
          rintro e w' ⟨rfl, rfl⟩
          go_wp2_with fail
          refine (Hia.out _).mono ?_
          rintro e w' ⟨rfl, rfl⟩
          go_wp2
          go_round
          case rel => exact ⟨k + 1, by omega, by go_num, Hstep.out (by simp)⟩
          case measure => simp [intOf]; omega
    · obtain rfl : k = 6 := by omega
      obtain rfl := HT.out Hno.out
      go_wp2
      go_ret
      exact ⟨rfl, rfl⟩
end Go.Proofs.YtohhobmjebdfaaaDoor
