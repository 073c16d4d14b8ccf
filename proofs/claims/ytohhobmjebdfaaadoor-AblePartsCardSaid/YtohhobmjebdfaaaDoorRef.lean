/-
  The document's answers for layer 1, part one: bit, In, May, Count, One, Place, Names, Text, Read.
-/
import Derived.Test.YtohhobmjebdfaaaDoorFold
namespace Go.Proofs.YtohhobmjebdfaaaDoor
open Go.RowKit

theorem below_alloc {n₀ : Nat} {w₀ w : World} (h : Below n₀ w₀ w) (hn : n₀ ≤ w.heap.size) (o : Obj) : Below n₀ w₀ (w.alloc o) := h.alloc hn o

set_option maxHeartbeats 400000 in
theorem bit_w (k : Nat) (hk : k < 6) (w : World) : Calls Tryd.prog 39 #[.int .i64 (k : Int)] w fun e w' => e = .returned (.int .u8 ((2 ^ k : Nat) : Int)) ∧ w = w' := by
  obtain rfl | rfl | rfl | rfl | rfl | rfl : k = 0 ∨ k = 1 ∨ k = 2 ∨ k = 3 ∨ k = 4 ∨ k = 5 := by omega
  all_goals
    go_enter Tryd.func39, Tryd.ntmps39
    go_wp2
    go_ret
    exact ⟨rfl, rfl⟩

set_option maxHeartbeats 400000 in
theorem in_w (a : Nat) (ha : a < 256) (k : Nat) (hk : k < 6) (w : World) : Calls Tryd.prog 42 #[.int .u8 (a : Int), .int .i64 (k : Int)] w fun e w' => e = .returned (.bool (a.testBit k)) ∧ w = w' := by
  go_enter Tryd.func42, Tryd.ntmps42
  go_wp2_with fail
  refine (bit_w k hk _).mono ?_
  rintro e w' ⟨rfl, rfl⟩
  have hb := Lib.hid (and_bit a k ha hk)
  go_wp2
  go_ret
  refine ⟨ret_bool ?_, rfl⟩
  rw [show ((2 : Int) ^ k) = ((2 ^ k : Nat) : Int) by simp, hb.out]
  have hp := Nat.two_pow_pos k
  cases a.testBit k
  · rfl
  · simp only [if_true, bne_iff_ne]
    omega

set_option maxHeartbeats 400000 in
theorem rmay_w (a : Nat) (w : World) : Calls Tryd.prog 15 #[.int .u8 (a : Int)] w fun e w' => e = .returned (.bool (decide (a < 64))) ∧ w = w' := by
  go_enter Tryd.func15, Tryd.ntmps15
  go_wp2
  go_ret
  exact ⟨ret_bool (by rw [Bool.eq_iff_iff]; simp; try omega), rfl⟩

/-- How many of the first k abilities a has. -/
def cntTo (a k : Nat) : Nat := ((List.range k).filter (fun j => a.testBit j)).length
theorem cntTo_succ (a k : Nat) : cntTo a (k + 1) = cntTo a k + (if a.testBit k then 1 else 0) := by
  unfold cntTo
  rw [List.range_succ, List.filter_append, List.length_append]
  by_cases h : a.testBit k <;> simp [h]
theorem cntTo_le (a k : Nat) : cntTo a k ≤ k := by
  unfold cntTo
  exact Nat.le_trans (List.length_filter_le _ _) (by simp)
theorem cntTo_all (a : Nat) (ha : a < 256) : cntTo a 6 = countN a := by
  have := all256 (p := fun a => cntTo a 6 == countN a) (by decide +kernel) ha
  simpa using this

set_option maxHeartbeats 1000000 in
theorem rcount_w (a : Nat) (ha : a < 256) (w : World) : Calls Tryd.prog 19 #[.int .u8 (a : Int)] w fun e w' => e = .returned (.int .i64 ((countN a : Nat) : Int)) ∧ w = w' := by
  go_enter Tryd.func19, Tryd.ntmps19
  go_wp2
  go_loop [3, 4] (fun n i => ∃ k : Nat, k ≤ 6 ∧ i = .int .i64 k ∧ n = .int .i64 ((cntTo a k : Nat) : Int)) (fun _ i => 6 - (intOf i).toNat)
  case atStart => exact ⟨0, by omega, rfl, rfl⟩
  case round =>
    obtain ⟨k, hk, rfl, rfl⟩ := hrel
    have hle := cntTo_le a k
    by_cases hlt : k < 6
    · have HS := Lib.hid (cntTo_succ a k)
      generalize hb : a.testBit k = b at *
      have Hb := Lib.hid hb
      clear hb
      cases b
      all_goals
        have Hin := Lib.hid (in_w a ha k hlt)
        rw [Hb.out] at Hin
        go_wp2_with fail
        refine (Hin.out _).mono ?_
        rintro e w' ⟨rfl, rfl⟩
        go_wp2
        go_round
        case rel => exact ⟨k + 1, by omega, by go_num, by rw [HS.out]; first | rfl | go_num⟩
        case measure => simp [intOf]; omega
    · obtain rfl : k = 6 := by omega
      go_wp2
      go_ret
      exact ⟨ret_num (by rw [cntTo_all a ha]), rfl⟩

set_option maxHeartbeats 400000 in
theorem rone_w (a : Nat) (ha : a < 256) (w : World) : Calls Tryd.prog 17 #[.int .u8 (a : Int)] w fun e w' => e = .returned (.bool (oneN a)) ∧ w = w' := by
  by_cases h : a < 64
  · have hd : Hid (decide (a < 64) = true) := Lib.hid (by simpa using h)
    go_enter Tryd.func17, Tryd.ntmps17
    go_wp2_with fail
    refine (rmay_w a _).mono ?_
    rw [hd.out]
    rintro e w' ⟨rfl, rfl⟩
    go_wp2_with fail
    refine (rcount_w a ha _).mono ?_
    rintro e w' ⟨rfl, rfl⟩
    go_wp2
    go_ret
    refine ⟨ret_bool ?_, rfl⟩
    unfold oneN
    rw [Bool.eq_iff_iff]; simp; omega
  · have hd : Hid (decide (a < 64) = false) := Lib.hid (by simpa using h)
    go_enter Tryd.func17, Tryd.ntmps17
    go_wp2_with fail
    refine (rmay_w a _).mono ?_
    rw [hd.out]
    rintro e w' ⟨rfl, rfl⟩
    go_wp2
    go_ret
    refine ⟨ret_bool ?_, rfl⟩
    unfold oneN
    rw [Bool.eq_iff_iff]; simp; omega

theorem one_facts (a : Nat) (ha : a < 256) : (∀ k, k < 6 → a = 2 ^ k → oneN a = true ∧ placeN a = k) ∧ ((∀ k, k < 6 → a ≠ 2 ^ k) → oneN a = false) := by
  have h := all256 (p := fun a => (List.range 6).all (fun k => a != 2 ^ k || (oneN a && placeN a == k)) && ((List.range 6).any (fun k => a == 2 ^ k) || !oneN a)) (by decide +kernel) ha
  simp only [Bool.and_eq_true, List.all_eq_true, List.mem_range, Bool.or_eq_true, bne_iff_ne, ne_eq, beq_iff_eq, List.any_eq_true, Bool.not_eq_true'] at h
  refine ⟨fun k hk e => ?_, fun hn => ?_⟩
  · rcases h.1 k hk with h1 | h1
    · exact absurd e h1
    · exact h1
  · rcases h.2 with ⟨k, hk, e⟩ | h1
    · exact absurd e (hn k hk)
    · exact h1

set_option maxHeartbeats 1000000 in
theorem rplace_w (a : Nat) (ha : a < 256) (w : World) : Calls Tryd.prog 12 #[.int .u8 (a : Int)] w fun e w' => e = .returned (.tuple #[.int .i64 ((placeN a : Nat) : Int), .bool (oneN a)]) ∧ w = w' := by
  have hf := one_facts a ha
  have hz : oneN a = false → placeN a = 0 := fun h => by simp [placeN, h]
  have H1 := Lib.hid hf.1
  have H2 := Lib.hid hf.2
  have H3 := Lib.hid hz
  clear hf hz
  generalize placeN a = p at *
  generalize oneN a = o at *
  go_enter Tryd.func12, Tryd.ntmps12
  go_wp2
  go_loop [4] (fun i => ∃ k : Nat, k ≤ 6 ∧ i = .int .i64 k ∧ ∀ j, j < k → a ≠ 2 ^ j) (fun i => 6 - (intOf i).toNat)
  case atStart => exact ⟨0, by omega, rfl, fun j hj => absurd hj (Nat.not_lt_zero _)⟩
  case round =>
    obtain ⟨k, hk, rfl, hno⟩ := hrel
    have Hno := Lib.hid hno
    clear hno
    by_cases hlt : k < 6
    · by_cases he : a = 2 ^ k
      · obtain ⟨rfl, rfl⟩ := H1.out k hlt he
        have He := Lib.hid he
        have hx : ((a : Int) == ((2 : Int) ^ p)) = true := by rw [show ((2 : Int) ^ p) = ((2 ^ p : Nat) : Int) by simp, He.out]; simp
        clear he
        go_wp2_with fail
        refine (bit_w p hlt _).mono ?_
        rintro e w' ⟨rfl, rfl⟩
        go_wp2
        go_ret2
        exact ⟨rfl, rfl⟩
      · have hx : ((a : Int) == ((2 : Int) ^ k)) = false := by
          rw [beq_eq_false_iff_ne, show ((2 : Int) ^ k) = ((2 ^ k : Nat) : Int) by simp]; omega
        have He := Lib.hid he
        clear he
        go_wp2_with fail
        refine (bit_w k hlt _).mono ?_
        rintro e w' ⟨rfl, rfl⟩
        go_wp2
        go_round
        case rel =>
          refine ⟨k + 1, by omega, by go_num, fun j hj => ?_⟩
          rcases Nat.lt_or_ge j k with h | h
          · exact Hno.out j h
          · obtain rfl : j = k := by omega
            exact He.out
        case measure => simp [intOf]; omega
    · obtain rfl : k = 6 := by omega
      obtain rfl := H2.out Hno.out
      obtain rfl := H3.out rfl
      go_wp2
      go_ret2
      exact ⟨rfl, rfl⟩

set_option maxHeartbeats 400000 in
theorem names0_w (w : World) : Calls Tryd.prog 43 #[] w fun e w' => e = .returned (.slice (some ⟨w.heap.size, 0, none⟩) 6 6) ∧ w.alloc (.cells #[.string (nameB 0), .string (nameB 1), .string (nameB 2), .string (nameB 3), .string (nameB 4), .string (nameB 5)] 9) = w' := by
  go_enter Tryd.func43, Tryd.ntmps43
  go_wp2
  go_ret
  exact ⟨rfl, rfl⟩
end Go.Proofs.YtohhobmjebdfaaaDoor
