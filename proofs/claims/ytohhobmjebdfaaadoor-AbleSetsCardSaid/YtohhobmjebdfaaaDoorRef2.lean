/-
  The document's answers for layer 1, part two: Text, Read.
-/
import Derived.Test.YtohhobmjebdfaaaDoorRef
namespace Go.Proofs.YtohhobmjebdfaaaDoor
open Go.RowKit

theorem names_cell (w : World) (j : Fin 6) : (w.alloc (.cells #[.string (nameB 0), .string (nameB 1), .string (nameB 2), .string (nameB 3), .string (nameB 4), .string (nameB 5)] 9)).cell? ⟨w.heap.size, j.val, none⟩ = some (.string (nameB j)) := by
  have h := World.alloc_heap_new w (.cells #[.string (nameB 0), .string (nameB 1), .string (nameB 2), .string (nameB 3), .string (nameB 4), .string (nameB 5)] 9)
  obtain ⟨j, hj⟩ := j
  obtain rfl | rfl | rfl | rfl | rfl | rfl : j = 0 ∨ j = 1 ∨ j = 2 ∨ j = 3 ∨ j = 4 ∨ j = 5 := by omega
  all_goals simp only [World.cell?, h]; rfl

theorem names1_w (n₀ : Nat) (w₀ : World) (j : Fin 6) (w : World) (hb : Below n₀ w₀ w) (hn : n₀ ≤ w.heap.size) :
    Calls Tryd.prog 43 #[] w fun e w' => e = .returned (.slice (some ⟨w.heap.size, 0, none⟩) 6 6) ∧ Below n₀ w₀ w' ∧ w'.cell? ⟨w.heap.size, j.val, none⟩ = some (.string (nameB j)) :=
  (names0_w w).mono fun _ _ h => ⟨h.1, h.2 ▸ hb.alloc hn _, h.2 ▸ names_cell w j⟩

theorem ret_str {a b : ByteArray} (h : a = b) : Ending.returned (.string a) = Ending.returned (.string b) := by rw [h]
theorem isEmpty_eq (s : ByteArray) : s.toList.isEmpty = s.data.toList.isEmpty := by rw [Lib.toList_data]

theorem eachL_empty : ∀ a : Fin 64, ((namesTo (eachL a.val)).data.toList.isEmpty = true ↔ a.val = 0) := by decide +kernel

set_option maxRecDepth 100000 in
set_option maxHeartbeats 4000000 in
theorem rtext_w (a : Nat) (ha : a < 64) (w : World) : Calls Tryd.prog 20 #[.int .u8 (a : Int)] w fun e w' => e = .returned (.string (textB a)) ∧ Below w.heap.size w w' := by
  go_enter Tryd.func20, Tryd.ntmps20
  go_wp2
  go_loopw [3, 4] (fun s i wr => ∃ k : Nat, k ≤ 6 ∧ i = .int .i64 k ∧ s = .string (namesTo (eachTo a k)) ∧ Below w.heap.size w wr) (fun _ i _ => 6 - (intOf i).toNat)
  case atStart => exact ⟨0, by omega, rfl, rfl, Below.refl _ _⟩
  case round =>
    obtain ⟨k, hk, rfl, rfl, hB⟩ := hrel
    have hsz : (namesTo (eachTo a k)).size ≤ 30 := by have := namesTo_size (eachTo a k); have := eachTo_len a k; omega
    by_cases hlt : k < 6
    · have HS := Lib.hid (eachTo_succ a k hlt)
      have HN := Lib.hid (namesTo_snoc (eachTo a k) ⟨k, hlt⟩)
      generalize hb : a.testBit k = b at *
      have Hb := Lib.hid hb
      clear hb
      have Hin := Lib.hid (in_w a (by omega) k hlt)
      rw [Hb.out] at Hin
      cases b
      · have HE : Hid (namesTo (eachTo a (k + 1)) = namesTo (eachTo a k)) := Lib.hid (by rw [HS.out]; simp)
        generalize namesTo (eachTo a k) = s at *
        clear HS HN
        go_wp2_with fail
        refine (Hin.out _).mono ?_
        rintro e w' ⟨rfl, rfl⟩
        go_wp2
        go_roundw
        case rel => exact ⟨k + 1, by omega, by go_num, by rw [HE.out], hB⟩
        case measure => simp [intOf]; omega
      · have HE : Hid (namesTo (eachTo a (k + 1)) = joinB (namesTo (eachTo a k)) ⟨k, hlt⟩) := Lib.hid (by rw [HS.out, if_pos rfl, HN.out])
        have hnz := nameB_size ⟨k, hlt⟩
        generalize namesTo (eachTo a k) = s at *
        clear HS HN
        by_cases he : s.data.toList.isEmpty = true
        · have hj : Hid (joinB s ⟨k, hlt⟩ = s ++ nameB ⟨k, hlt⟩) := Lib.hid (by simp only [joinB, he, if_true])
          have he' : s.toList.isEmpty = true := by rw [isEmpty_eq]; exact he
          clear he
          go_wp2_with fail
          refine (Hin.out _).mono ?_
          rintro e w' ⟨rfl, rfl⟩
          go_wp2_with fail
          refine (names1_w w.heap.size w ⟨k, hlt⟩ _ hB hB.size).mono ?_
          rintro e w2 ⟨rfl, hB2, hc2⟩
          generalize nameB ⟨k, hlt⟩ = nm at *
          simp only at hc2
          go_wp2
          go_roundw
          case rel => exact ⟨k + 1, by omega, by go_num, by rw [HE.out, hj.out], hB2⟩
          case measure => simp [intOf]; omega
        · have hj : Hid (joinB s ⟨k, hlt⟩ = s ++ ⟨#[43]⟩ ++ nameB ⟨k, hlt⟩) := Lib.hid (by simp only [joinB, he, if_false, Bool.false_eq_true])
          have he' : s.toList.isEmpty = false := by rw [isEmpty_eq]; simpa using he
          clear he
          go_wp2_with fail
          refine (Hin.out _).mono ?_
          rintro e w' ⟨rfl, rfl⟩
          go_wp2_with fail
          refine (names1_w w.heap.size w ⟨k, hlt⟩ _ hB hB.size).mono ?_
          rintro e w2 ⟨rfl, hB2, hc2⟩
          generalize nameB ⟨k, hlt⟩ = nm at *
          simp only at hc2
          go_wp2
          go_roundw
          case rel => exact ⟨k + 1, by omega, by go_num, by rw [HE.out, hj.out], hB2⟩
          case measure => simp [intOf]; omega
    · obtain rfl : k = 6 := by omega
      have hz := eachL_empty ⟨a, ha⟩
      unfold eachL at hz
      simp only at hz
      have HT : Hid (textB a = if a = 0 then ⟨#[45]⟩ else namesTo (eachTo a 6)) := Lib.hid rfl
      generalize namesTo (eachTo a 6) = s at *
      by_cases h0 : a = 0
      · have he' : s.toList.isEmpty = true := by rw [isEmpty_eq]; exact hz.2 h0
        have H0 := Lib.hid h0
        clear hz h0
        go_wp2
        go_ret
        exact ⟨ret_str (by rw [HT.out, if_pos H0.out]), hB⟩
      · have he' : s.toList.isEmpty = false := by
          rw [isEmpty_eq]
          cases hh : s.data.toList.isEmpty
          · rfl
          · exact absurd (hz.1 hh) h0
        have H0 := Lib.hid h0
        clear hz h0
        go_wp2
        go_ret
        exact ⟨ret_str (by rw [HT.out, if_neg H0.out]), hB⟩

theorem within63 : withinL 63 = List.finRange 64 := by decide +kernel
theorem readN_first {s : ByteArray} (k : Nat) (hk : k < 64) (h : textB k = s) (hno : ∀ j, j < k → textB j ≠ s) : readN s = some ⟨k, hk⟩ := by
  unfold readN
  rw [within63]
  refine find_some s ((List.finRange 64).take k) _ ⟨k, hk⟩ (fun c hc => ?_) h ?_
  · obtain ⟨i, hi, rfl⟩ := List.mem_iff_getElem.1 hc
    simp at hi ⊢
    exact hno i (by omega)
  · have : (List.finRange 64).take k ++ [⟨k, hk⟩] = (List.finRange 64).take (k + 1) := by
      rw [List.take_succ_eq_append_getElem (by simpa using hk)]; simp
    rw [this]
    exact List.take_prefix _ _
theorem readN_not {s : ByteArray} (hno : ∀ j, j < 64 → textB j ≠ s) : readN s = none := find_none s _ (fun b _ => hno b.val b.isLt)

set_option maxRecDepth 100000 in
set_option maxHeartbeats 4000000 in
theorem rread_w (s : ByteArray) (w : World) :
    Calls Tryd.prog 35 #[.string s] w fun e w' => (∃ b : Fin 64, readN s = some b ∧ e = .returned (.tuple #[.int .u8 (b.val : Int), .bool true]) ∧ Below w.heap.size w w') ∨ (readN s = none ∧ e = .returned (.tuple #[.int .u8 0, .bool false]) ∧ Below w.heap.size w w') := by
  have HF := Lib.hid (@readN_first s)
  have HO := Lib.hid (@readN_not s)
  generalize readN s = r at *
  obtain ⟨R, hR⟩ : ∃ R : Ending → World → Prop, R = fun e w' => (∃ b : Fin 64, r = some b ∧ e = .returned (.tuple #[.int .u8 (b.val : Int), .bool true]) ∧ Below w.heap.size w w') ∨ (r = none ∧ e = .returned (.tuple #[.int .u8 0, .bool false]) ∧ Below w.heap.size w w') := ⟨_, rfl⟩
  rw [← hR]
  have HR := Lib.hid hR
  clear hR
  go_enter Tryd.func35, Tryd.ntmps35
  go_wp2
  go_loopw [4] (fun i wr => ∃ k : Nat, k ≤ 64 ∧ i = .int .u8 k ∧ (∀ j, j < k → textB j ≠ s) ∧ Below w.heap.size w wr) (fun i _ => 64 - (intOf i).toNat)
  case atStart => exact ⟨0, by omega, rfl, fun j hj => absurd hj (Nat.not_lt_zero _), Below.refl _ _⟩
  case round =>
    obtain ⟨k, hk, rfl, hno, hB⟩ := hrel
    have Hno := Lib.hid hno
    clear hno
    by_cases hlt : k < 64
    · have HT := Lib.hid (rtext_w k hlt)
      by_cases he : textB k = s
      · rw [he] at HT
        have He := Lib.hid he
        clear he
        go_wp2_with fail
        refine (HT.out _).mono ?_
        rintro e w1 ⟨rfl, hb1⟩
        go_wp2
        rw [HR.out]
        exact .inl ⟨⟨k, hlt⟩, HF.out k hlt He.out Hno.out, rfl, hB.trans (hb1.mono hB.size)⟩
      · generalize ht : textB k = t at *
        have Ht := Lib.hid ht
        have He := Lib.hid he
        have hts : (t.toList == s.toList) = false := str_ne he
        clear he ht
        go_wp2_with fail
        refine (HT.out _).mono ?_
        rintro e w1 ⟨rfl, hb1⟩
        go_wp2
        go_roundw
        case rel =>
          refine ⟨k + 1, by omega, by go_num, fun j hj => ?_, hB.trans (hb1.mono hB.size)⟩
          rcases Nat.lt_or_ge j k with h | h
          · exact Hno.out j h
          · obtain rfl : j = k := by omega
            rw [Ht.out]
            exact He.out
        case measure => simp [intOf]; omega
    · obtain rfl : k = 64 := by omega
      go_wp2
      rw [HR.out]
      exact .inr ⟨HO.out Hno.out, rfl, hB⟩
end Go.Proofs.YtohhobmjebdfaaaDoor
