/-
  able.Meet, able.Join over a list; the answers that every statement of layer 1 asks first ('lives').
-/
import Derived.Test.YtohhobmjebdfaaaDoorText2
namespace Go.Proofs.YtohhobmjebdfaaaDoor
open Go.RowKit Go.Shelf

def meetN (xs : List Nat) : Nat := xs.foldl (fun m x => m &&& x) 63
def joinN (xs : List Nat) : Nat := xs.foldl (fun m x => m ||| x) 0
/-- The list xs lies in memory, k bytes of it from a on. -/
def Lies (w : World) (b off : Nat) (xs : List Nat) : Prop := ∀ i, i < xs.length → w.cell? ⟨b, off + i, none⟩ = some (.int .u8 ((xs[i]?.getD 0 : Nat) : Int))
theorem cell_in_row {W : World} {b i : Nat} {c : Array Value} {t : TypeId} {v : Value} (h : W.heap[b]? = some (.cells c t (0, 0))) (hv : c[i]? = some v) : W.cell? ⟨b, i, none⟩ = some v := by
  simp [World.cell?, h, hv]
theorem take_snoc {xs : List Nat} {k : Nat} (h : k < xs.length) : xs.take (k + 1) = xs.take k ++ [xs[k]?.getD 0] := by
  rw [List.take_succ_eq_append_getElem h, List.getElem?_eq_getElem h]; rfl
theorem meetN_snoc (xs : List Nat) (x : Nat) : meetN (xs ++ [x]) = meetN xs &&& x := by simp [meetN]
theorem joinN_snoc (xs : List Nat) (x : Nat) : joinN (xs ++ [x]) = joinN xs ||| x := by simp [joinN]
theorem meetN_lt (xs : List Nat) : meetN xs < 64 := by
  have : ∀ (xs : List Nat) (m : Nat), m < 64 → xs.foldl (fun m x => m &&& x) m < 64 := by
    intro xs
    induction xs with
    | nil => exact fun m h => h
    | cons x xs ih => exact fun m h => ih _ (Nat.lt_of_le_of_lt Nat.and_le_left h)
  exact this xs 63 (by decide)
theorem joinN_lt (xs : List Nat) (hx : ∀ x ∈ xs, x < 256) : joinN xs < 256 := by
  have : ∀ (xs : List Nat) (m : Nat), (∀ x ∈ xs, x < 256) → m < 256 → xs.foldl (fun m x => m ||| x) m < 256 := by
    intro xs
    induction xs with
    | nil => exact fun m _ h => h
    | cons x xs ih => exact fun m hx h => ih _ (fun y hy => hx y (List.mem_cons_of_mem _ hy)) (Nat.or_lt_two_pow (n := 8) h (hx x List.mem_cons_self))
  exact this xs 0 hx (by decide)
theorem getD_lt (xs : List Nat) (hx : ∀ x ∈ xs, x < 256) (k : Nat) : xs[k]?.getD 0 < 256 := by
  rcases Nat.lt_or_ge k xs.length with h | h
  · rw [List.getElem?_eq_getElem h]; exact hx _ (List.getElem_mem h)
  · rw [List.getElem?_eq_none h]; decide
theorem u8_and_le (a b : Int) (h1 : 0 ≤ a) (h2 : a ≤ 255) (h3 : 0 ≤ b) (h4 : b ≤ 255) : bits .and .u8 a b = ((a.toNat &&& b.toNat : Nat) : Int) := u8_and a b h1 (by omega) h3 (by omega)

set_option maxHeartbeats 400000 in
theorem meet_nil (w : World) : Calls Tryd.prog 21 #[.slice none 0 0] w fun e w' => e = .returned (.int .u8 63) ∧ w = w' := by
  go_enter Tryd.func21, Tryd.ntmps21
  go_wp2
  go_loop [3, 8] (fun m i => i = .int .i64 0 ∧ m = .int .u8 63) (fun _ _ => 0)
  case atStart => exact ⟨rfl, rfl⟩
  case round =>
    obtain ⟨rfl, rfl⟩ := hrel
    go_wp2
    go_ret
    exact ⟨rfl, rfl⟩
set_option maxHeartbeats 400000 in
theorem join_nil (w : World) : Calls Tryd.prog 23 #[.slice none 0 0] w fun e w' => e = .returned (.int .u8 0) ∧ w = w' := by
  go_enter Tryd.func23, Tryd.ntmps23
  go_wp2
  go_loop [3, 8] (fun m i => i = .int .i64 0 ∧ m = .int .u8 0) (fun _ _ => 0)
  case atStart => exact ⟨rfl, rfl⟩
  case round =>
    obtain ⟨rfl, rfl⟩ := hrel
    go_wp2
    go_ret
    exact ⟨rfl, rfl⟩

set_option maxHeartbeats 1000000 in
theorem meet_w (b off cap : Nat) (xs : List Nat) (w : World) (hc : Lies w b off xs) (hx : ∀ x ∈ xs, x < 256) (hl : xs.length ≤ 9223372036854775807) (h0 : 0 < xs.length) :
    Calls Tryd.prog 21 #[.slice (some ⟨b, off, none⟩) xs.length cap] w fun e w' => e = .returned (.int .u8 ((meetN xs : Nat) : Int)) ∧ w = w' := by
  go_enter Tryd.func21, Tryd.ntmps21
  go_wp2
  go_loop [3, 8] (fun m i => ∃ k : Nat, k ≤ xs.length ∧ i = .int .i64 k ∧ m = .int .u8 ((meetN (xs.take k) : Nat) : Int)) (fun _ i => xs.length - (intOf i).toNat)
  case atStart => exact ⟨0, Nat.zero_le _, rfl, rfl⟩
  case round =>
    obtain ⟨k, hk, rfl, rfl⟩ := hrel
    by_cases hlt : k < xs.length
    · have hcell := hc k hlt
      have HS := Lib.hid (show meetN (xs.take (k + 1)) = meetN (xs.take k) &&& (xs[k]?.getD 0) by rw [take_snoc hlt, meetN_snoc])
      have hm := meetN_lt (xs.take k)
      have hd := getD_lt xs hx k
      generalize meetN (xs.take k) = m at *
      generalize xs[k]?.getD 0 = d at *
      clear hc hx
      go_wp2
      go_round
      case rel => exact ⟨k + 1, by omega, by go_num, by rw [HS.out, u8_and_le _ _ (by omega) (by omega) (by omega) (by omega)]; rfl⟩
      case measure => simp [intOf]; omega
    · obtain rfl : k = xs.length := by omega
      rw [List.take_of_length_le (Nat.le_refl _)]
      go_wp2
      go_ret
      exact ⟨rfl, rfl⟩

set_option maxHeartbeats 1000000 in
theorem join_w (b off cap : Nat) (xs : List Nat) (w : World) (hc : Lies w b off xs) (hx : ∀ x ∈ xs, x < 256) (hl : xs.length ≤ 9223372036854775807) (h0 : 0 < xs.length) :
    Calls Tryd.prog 23 #[.slice (some ⟨b, off, none⟩) xs.length cap] w fun e w' => e = .returned (.int .u8 ((joinN xs % 64 : Nat) : Int)) ∧ w = w' := by
  go_enter Tryd.func23, Tryd.ntmps23
  go_wp2
  go_loop [3, 8] (fun m i => ∃ k : Nat, k ≤ xs.length ∧ i = .int .i64 k ∧ m = .int .u8 ((joinN (xs.take k) : Nat) : Int)) (fun _ i => xs.length - (intOf i).toNat)
  case atStart => exact ⟨0, Nat.zero_le _, rfl, rfl⟩
  case round =>
    obtain ⟨k, hk, rfl, rfl⟩ := hrel
    have hm := joinN_lt (xs.take k) (fun x h => hx x (List.mem_of_mem_take h))
    by_cases hlt : k < xs.length
    · have hcell := hc k hlt
      have HS := Lib.hid (show joinN (xs.take (k + 1)) = joinN (xs.take k) ||| (xs[k]?.getD 0) by rw [take_snoc hlt, joinN_snoc])
      have hd := getD_lt xs hx k
      generalize joinN (xs.take k) = m at *
      generalize xs[k]?.getD 0 = d at *
      clear hc hx
      go_wp2
      go_round
      case rel => exact ⟨k + 1, by omega, by go_num, by rw [HS.out, u8_or_nat _ _ (by omega) (by omega)]⟩
      case measure => simp [intOf]; omega
    · obtain rfl : k = xs.length := by omega
      rw [List.take_of_length_le (Nat.le_refl _)] at hm ⊢
      go_wp2
      go_ret
      exact ⟨ret_num (by omega), rfl⟩

theorem Text_15 (w : World) (hN : NamesAt w) :
    Calls Tryd.prog 13 #[.int .u8 15] w fun e W' => e = .returned (.tuple #[.string ⟨#[103, 101, 116, 43, 112, 117, 116, 43, 116, 97, 107, 101, 43, 103, 105, 118, 101]⟩, .int .i64 0]) ∧ Below w.heap.size w W' :=
  (Text_w 15 w (by decide) (by decide) hN).mono fun _ _ h => ⟨by rw [h.1, if_pos (by decide), if_pos (by decide), show textB (Int.toNat 15) = ⟨#[103, 101, 116, 43, 112, 117, 116, 43, 116, 97, 107, 101, 43, 103, 105, 118, 101]⟩ by decide +kernel], h.2⟩
theorem Read_gt (w : World) (hN : NamesAt w) :
    Calls Tryd.prog 34 #[.string ⟨#[103, 101, 116, 43, 116, 97, 107, 101]⟩] w fun e W' => e = .returned (.tuple #[.int .u8 5, .int .i64 0]) ∧ Below w.heap.size w W' :=
  (Read_w _ w hN).mono fun _ _ h => ⟨by rw [h.1]; unfold readV; rw [show readN ⟨#[103, 101, 116, 43, 116, 97, 107, 101]⟩ = some 5 by decide +kernel]; rfl, h.2⟩
theorem Read_tg (w : World) (hN : NamesAt w) :
    Calls Tryd.prog 34 #[.string ⟨#[116, 97, 107, 101, 43, 103, 101, 116]⟩] w fun e W' => e = .returned (.tuple #[.int .u8 0, .int .i64 10]) ∧ Below w.heap.size w W' :=
  (Read_w _ w hN).mono fun _ _ h => ⟨by rw [h.1]; unfold readV; rw [show readN ⟨#[116, 97, 107, 101, 43, 103, 101, 116]⟩ = none by decide +kernel]; rfl, h.2⟩

set_option maxHeartbeats 1000000 in
theorem lives_w (w : World) (hN : NamesAt w) :
    Calls Tryd.prog 30 #[] w fun e W' => e = .returned (.bool true) ∧ Below w.heap.size w W' := by
  have h0 := hN.size
  go_enter Tryd.func30, Tryd.ntmps30
  go_wp2_with fail
  refine (Text_15 _ hN).mono ?_
  rintro e w1 ⟨rfl, hb1⟩
  go_wp2_with fail
  refine (Read_gt _ (hN.below hb1 h0)).mono ?_
  rintro e w2 ⟨rfl, hb2⟩
  go_wp2_with fail
  refine (Read_tg _ ((hN.below hb1 h0).below hb2 (by have := hb1.size; omega))).mono ?_
  rintro e w3 ⟨rfl, hb3⟩
  go_wp2_with fail
  refine (meet_nil _).mono ?_
  rintro e w' ⟨rfl, rfl⟩
  go_wp2_with fail
  refine (less_w 7 5 _ (by decide) (by decide) (by decide) (by decide)).mono ?_
  rintro e w' ⟨rfl, rfl⟩
  go_wp2_with fail
  refine (count_w 69 _ (by decide) (by decide)).mono ?_
  rintro e w' ⟨rfl, rfl⟩
  go_wp2_with fail
  refine (one_w 68 _ (by decide) (by decide)).mono ?_
  rintro e w' ⟨rfl, rfl⟩
  go_wp2
  go_ret
  exact ⟨ret_bool (by decide +kernel), (hb1.trans (hb2.mono hb1.size)).trans (hb3.mono (by have := hb1.size; have := hb2.size; omega))⟩
end Go.Proofs.YtohhobmjebdfaaaDoor
