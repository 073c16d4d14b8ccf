/-
  The law's own 'lent' and 'kept': a copy of a list with room behind it, in which two marks stand.
-/
import Derived.OwnWalk
import Derived.Laws.AppendOwnNone
import Derived.RegionTactic
import Derived.ChangeAlike
import Derived.Deep.QuietTactic
import Derived.BigQuiet
import Derived.Maps.AppendAt
import Derived.Test.YtohhobmjebdfaaaDoorRef4
namespace Go.Proofs.YtohhobmjebdfaaaDoor
open Go.RowKit

theorem info22 : (Tryd.prog.info? 22).map (fun i => (i.zero, i.size, i.bytes)) = some (some (.int .u8 0), 1, 1) := by kernel_rfl

/-- The list's cells, as values. -/
def u8s (xs : List Nat) : List Value := xs.map fun (x : Nat) => Value.int .u8 (x : Int)
/-- What lent answers: a row of its own, the list and the two marks in it. -/
def Lent (n₀ : Nat) (w₀ w : World) (v : Value) (xs : List Nat) : Prop :=
  ∃ g cap cur, v = .slice (some ⟨g, 0, none⟩) xs.length cap ∧ n₀ ≤ g ∧ w.heap[g]? = some (.cells cur 22 (0, 0)) ∧ xs.length + 2 ≤ cap ∧ cap ≤ maxLen ∧ cur.size = cap ∧ cur.toList.take (xs.length + 2) = u8s xs ++ [.int .u8 77, .int .u8 78] ∧ Below n₀ w₀ w

theorem two_new (w1 : World) : ∀ j u, ([.int .u8 77, .int .u8 78] : List Value)[j]? = some u → (w1.alloc (.cells #[.int .u8 77, .int .u8 78] 22)).cell? ((⟨w1.heap.size, 0, none⟩ : Addr).add j) = some u := by
  intro j u hu
  have hj : j < 2 := (List.getElem?_eq_some_iff.1 hu).1
  have h := World.alloc_heap_new w1 (.cells #[.int .u8 77, .int .u8 78] 22)
  obtain rfl | rfl : j = 0 ∨ j = 1 := by omega
  all_goals
    simp at hu
    subst hu
    exact cell_in_row h rfl
theorem owns_some {w : World} {base : Nat} {e : TypeId} {v : Value} {n : Nat} {xs : List Value} (h : w.ownsRow base e 1 v (n + 2) xs) :
    ∃ g cap cur, v = .slice (some ⟨g, 0, none⟩) (n + 2) cap ∧ base ≤ g ∧ w.heap[g]? = some (.cells cur e (0, 0)) ∧ n + 2 ≤ cap ∧ cap ≤ maxLen ∧ cur.size = cap * 1 ∧ cur.toList.take ((n + 2) * 1) = xs := by
  rcases h.2 with ⟨_, h0⟩ | h
  · omega
  · exact h

set_option maxRecDepth 100000 in
set_option maxHeartbeats 2000000 in
theorem lent_some (ad : Addr) (cap : Nat) (xs : List Nat) (w : World) (hnews : ∀ j u, (u8s xs)[j]? = some u → w.cell? (ad.add j) = some u) (hl : xs.length ≤ 140737488351232) :
    Calls Tryd.prog 10 #[.slice (some ad) xs.length cap] w fun e w' => ∃ v, e = .returned v ∧ Lent w.heap.size w w' v xs := by
  obtain ⟨i0, hi, hz0, hz1, hz2⟩ := info_parts info22
  have h1c : ∀ u ∈ u8s xs, u.oneCell' = true := by
    intro u hu
    obtain ⟨x, _, rfl⟩ := List.mem_map.1 hu
    rfl
  have hlen : (u8s xs).length = xs.length * 1 := by simp [u8s]
  have HN := Lib.hid hnews
  have H1 := Lib.hid h1c
  have HL := Lib.hid hlen
  clear hnews h1c hlen
  have hown := World.ownsRow_nil w w.heap.size 22 1
  go_enter Tryd.func10, Tryd.ntmps10
  go_wp2_with (first | (at_builtin; refine wpList_append_own _ rfl (.const (.slice none 0 0)) (.tmp 3) 23 rfl w.heap.size 22 i0 (.int .u8 0) 1 1 Tryd.underlying23 hi hz0 hz1 hz2 rfl (by decide) _ _ _ rfl hown ad xs.length cap (u8s xs) rfl HL.out HN.out H1.out (by unfold maxLen; omega) (by omega) (Nat.le_refl _) ?_; intro v1 w1 hown1 hgrow1 hnil1; rw [Nat.zero_add, List.nil_append] at hown1; replace hgrow1 : w.grownBy w1 none := hgrow1; clear hnil1) | (at_builtin; have hgs := hgrow1.size; refine wpList_append_own _ rfl (.tmp 4) (.tmp 5) 23 rfl w.heap.size 22 i0 (.int .u8 0) 1 1 Tryd.underlying23 hi hz0 hz1 hz2 rfl (by decide) _ _ _ rfl (hown1.alloc _) ⟨_, 0, none⟩ 2 2 [.int .u8 77, .int .u8 78] rfl rfl (two_new w1) (by simp [Value.oneCell']) (by unfold maxLen; omega) (by omega) (by simp; omega) ?_; intro v2 w2 hown2 hgrow2 hnil2; clear hnil2; obtain ⟨g, cap2, cur, rfl, hg1, hg2, hg3, hg4, hg5, hg6⟩ := owns_some hown2; replace hgrow2 : (w1.alloc (.cells #[.int .u8 77, .int .u8 78] 22)).grownBy w2 v1.ownBlock := hgrow2))
  go_ret
  refine ⟨_, rfl, g, cap2, cur, rfl, hg1, hg2, hg3, hg4, by omega, by simpa using hg6, ?_⟩
  exact (((Below.refl _ w).grown hgrow1 (Nat.le_refl _) (fun k e => by cases e)).alloc hgrow1.size _).grown hgrow2 (by have := hgrow1.size; simp; omega) (fun k e => (hown1.lt k e).1)

set_option maxRecDepth 100000 in
set_option maxHeartbeats 2000000 in
theorem lent_nil (w : World) : Calls Tryd.prog 10 #[.slice none 0 0] w fun e w' => ∃ v, e = .returned v ∧ Lent w.heap.size w w' v [] := by
  obtain ⟨i0, hi, hz0, hz1, hz2⟩ := info_parts info22
  have hown := World.ownsRow_nil w w.heap.size 22 1
  go_enter Tryd.func10, Tryd.ntmps10
  go_wp2_with (first | (at_builtin; refine wpList_append_own_none rfl (.const (.slice none 0 0)) (.tmp 3) 23 rfl w.heap.size 22 i0 1 Tryd.underlying23 hi _ _ _ rfl hown rfl ?_) | (at_builtin; refine wpList_append_own _ rfl (.tmp 4) (.tmp 5) 23 rfl w.heap.size 22 i0 (.int .u8 0) 1 1 Tryd.underlying23 hi hz0 hz1 hz2 rfl (by decide) _ _ _ rfl (hown.alloc _) ⟨_, 0, none⟩ 2 2 [.int .u8 77, .int .u8 78] rfl rfl (two_new w) (by simp [Value.oneCell']) (by unfold maxLen; omega) (by omega) (by simp) ?_; intro v2 w2 hown2 hgrow2 hnil2; clear hnil2; obtain ⟨g, cap2, cur, rfl, hg1, hg2, hg3, hg4, hg5, hg6⟩ := owns_some hown2; replace hgrow2 : (w.alloc (.cells #[.int .u8 77, .int .u8 78] 22)).grownBy w2 none := hgrow2))
  go_ret
  refine ⟨_, rfl, g, cap2, cur, rfl, hg1, hg2, hg3, hg4, by omega, by simpa [u8s] using hg6, ?_⟩
  exact ((Below.refl _ w).alloc (Nat.le_refl _) _).grown hgrow2 (by simp) (fun k e => by cases e)

set_option maxRecDepth 100000 in
set_option maxHeartbeats 2000000 in
theorem kept_w (g og cap capl : Nat) (pa : Option Addr) (xs : List Nat) (w : World) (hg : g < w.heap.size) (hm : Lies w g og xs) (h77 : w.cell? ⟨g, og + xs.length, none⟩ = some (.int .u8 77)) (h78 : w.cell? ⟨g, og + (xs.length + 1), none⟩ = some (.int .u8 78))
    (hl : LiesAt w pa xs) (hc : xs.length + 2 ≤ cap) (hmax : cap ≤ 9223372036854775807) :
    Calls Tryd.prog 25 #[.slice (some ⟨g, og, none⟩) xs.length cap, .slice pa xs.length capl] w fun e w' => e = .returned (.bool true) ∧ Below w.heap.size w w' := by
  have HM := Lib.hid hm
  have HL := Lib.hid hl
  have H77 := Lib.hid h77
  have H78 := Lib.hid h78
  clear hm hl h77 h78
  go_enter Tryd.func25, Tryd.ntmps25
  go_wp2
  go_loopw [5] (fun i wr => ∃ k : Nat, k ≤ xs.length ∧ i = .int .i64 k ∧ Below w.heap.size w wr) (fun i _ => xs.length - (intOf i).toNat)
  case atStart => exact ⟨0, by omega, rfl, Below.refl _ _⟩
  case round =>
    obtain ⟨k, hk, rfl, hB⟩ := hrel
    by_cases hlt : k < xs.length
    · obtain ⟨b, off, rfl, hcl⟩ := HL.out k hlt
      have hc1 : wr.cell? ⟨g, og + k, none⟩ = some (.int .u8 ((xs[k]?.getD 0 : Nat) : Int)) := (hB.cell (p := ⟨g, og + k, none⟩) hg).trans (HM.out k hlt)
      have hc2 : wr.cell? ⟨b, off + k, none⟩ = some (.int .u8 ((xs[k]?.getD 0 : Nat) : Int)) := (hB.cell (p := ⟨b, off + k, none⟩) (lt_of_cell hcl)).trans hcl
      clear hcl HL
      generalize xs[k]?.getD 0 = d at *
      go_wp2
      go_quiet (fail)
      go_wp2
      go_roundw
      case rel => exact ⟨k + 1, by omega, by go_num, below_drewN hB _⟩
      case measure => simp [intOf]; omega
    · obtain rfl : k = xs.length := by omega
      have hc1 : wr.cell? ⟨g, og + xs.length, none⟩ = some (.int .u8 77) := (hB.cell (p := ⟨g, og + xs.length, none⟩) hg).trans H77.out
      have hc2 : wr.cell? ⟨g, og + (xs.length + 1), none⟩ = some (.int .u8 78) := (hB.cell (p := ⟨g, og + (xs.length + 1), none⟩) hg).trans H78.out
      go_wp2
      go_ret
      exact ⟨rfl, hB⟩

theorem lent_w (pa : Option Addr) (cap : Nat) (xs : List Nat) (w : World) (h : LiesAt w pa xs) (hn : pa = none → xs = [] ∧ cap = 0) (hl : xs.length ≤ 140737488351232) :
    Calls Tryd.prog 10 #[.slice pa xs.length cap] w fun e w' => ∃ v, e = .returned v ∧ Lent w.heap.size w w' v xs := by
  cases pa with
  | none =>
    obtain ⟨rfl, rfl⟩ := hn rfl
    exact lent_nil w
  | some ad =>
    refine lent_some ad cap xs w (fun j u hu => ?_) hl
    simp only [u8s, List.getElem?_map, Option.map_eq_some_iff] at hu
    obtain ⟨x, hx, rfl⟩ := hu
    obtain ⟨b, off, he, hc⟩ := h j (List.getElem?_eq_some_iff.1 hx).1
    cases he
    rw [hx] at hc
    rw [Addr.add_lit]
    exact hc

/-- What the copy's row holds. -/
theorem Lent.row {n₀ : Nat} {w₀ w : World} {v : Value} {xs : List Nat} (h : Lent n₀ w₀ w v xs) :
    ∃ g cap, v = .slice (some ⟨g, 0, none⟩) xs.length cap ∧ g < w.heap.size ∧ Lies w g 0 xs ∧ w.cell? ⟨g, 0 + xs.length, none⟩ = some (.int .u8 77) ∧ w.cell? ⟨g, 0 + (xs.length + 1), none⟩ = some (.int .u8 78) ∧ xs.length + 2 ≤ cap ∧ cap ≤ 9223372036854775807 ∧ Below n₀ w₀ w := by
  obtain ⟨g, cap, cur, rfl, hg1, hg2, hg3, hg4, hg5, hg6, hb⟩ := h
  have key : ∀ i u, (u8s xs ++ [.int .u8 77, .int .u8 78])[i]? = some u → w.cell? ⟨g, 0 + i, none⟩ = some u := by
    intro i u hu
    rw [← hg6, List.getElem?_take] at hu
    split at hu
    · rw [Nat.zero_add]
      exact cell_in_row hg2 (by simpa using hu)
    · cases hu
  have hlen : (u8s xs).length = xs.length := by simp [u8s]
  refine ⟨g, cap, rfl, (Array.getElem?_eq_some_iff.1 hg2).1, fun i hi => key i _ ?_, key xs.length _ ?_, key (xs.length + 1) _ ?_, hg3, by unfold maxLen at hg4; omega, hb⟩
  · rw [List.getElem?_append_left (by omega)]
    simp only [u8s, List.getElem?_map, List.getElem?_eq_getElem hi, Option.map_some, Option.getD_some]
  · rw [List.getElem?_append_right (by omega), hlen, Nat.sub_self]; rfl
  · rw [List.getElem?_append_right (by omega), hlen, Nat.add_sub_cancel_left]; rfl

theorem LiesAt.below {w w' : World} {pa : Option Addr} {xs : List Nat} (h : LiesAt w pa xs) (hb : Below w.heap.size w w') : LiesAt w' pa xs := by
  intro i hi
  obtain ⟨b, off, he, hc⟩ := h i hi
  exact ⟨b, off, he, (hb.cell (p := ⟨b, off + i, none⟩) (lt_of_cell hc)).trans hc⟩
theorem Lies.at {w : World} {g og : Nat} {xs : List Nat} (h : Lies w g og xs) : LiesAt w (some ⟨g, og, none⟩) xs := fun i hi => ⟨g, og, rfl, h i hi⟩
theorem Lies.below {w w' : World} {g og : Nat} {xs : List Nat} (h : Lies w g og xs) (hb : Below w.heap.size w w') : Lies w' g og xs := fun i hi => (hb.cell (p := ⟨g, og + i, none⟩) (lt_of_cell (h i hi))).trans (h i hi)

set_option maxHeartbeats 1000000 in
theorem meetA (pa : Option Addr) (cap : Nat) (xs : List Nat) (w : World) (hc : LiesAt w pa xs) (hx : ∀ x ∈ xs, x < 256) (hl : xs.length ≤ 9223372036854775807) :
    Calls Tryd.prog 21 #[.slice pa xs.length cap] w fun e w' => e = .returned (.int .u8 ((meetN xs : Nat) : Int)) ∧ w = w' := by
  have HC := Lib.hid hc
  clear hc
  go_enter Tryd.func21, Tryd.ntmps21
  go_wp2
  go_loop [3, 8] (fun m i => ∃ k : Nat, k ≤ xs.length ∧ i = .int .i64 k ∧ m = .int .u8 ((meetN (xs.take k) : Nat) : Int)) (fun _ i => xs.length - (intOf i).toNat)
  case atStart => exact ⟨0, Nat.zero_le _, rfl, rfl⟩
  case round =>
    obtain ⟨k, hk, rfl, rfl⟩ := hrel
    by_cases hlt : k < xs.length
    · obtain ⟨b, off, rfl, hcell⟩ := HC.out k hlt
      have HS := Lib.hid (show meetN (xs.take (k + 1)) = meetN (xs.take k) &&& (xs[k]?.getD 0) by rw [take_snoc hlt, meetN_snoc])
      have hm := meetN_lt (xs.take k)
      have hd := getD_lt xs hx k
      clear HC
      generalize meetN (xs.take k) = m at *
      generalize xs[k]?.getD 0 = d at *
      clear hx
      go_wp2
      go_round
      case rel => exact ⟨k + 1, by omega, by go_num, by rw [HS.out, u8_and_le _ _ (by omega) (by omega) (by omega) (by omega)]; rfl⟩
      case measure => simp [intOf]; omega
    · obtain rfl : k = xs.length := by omega
      rw [List.take_of_length_le (Nat.le_refl _)]
      go_wp2
      go_ret
      exact ⟨rfl, rfl⟩

set_option maxHeartbeats 1000000 in
theorem joinA (pa : Option Addr) (cap : Nat) (xs : List Nat) (w : World) (hc : LiesAt w pa xs) (hx : ∀ x ∈ xs, x < 256) (hl : xs.length ≤ 9223372036854775807) :
    Calls Tryd.prog 23 #[.slice pa xs.length cap] w fun e w' => e = .returned (.int .u8 ((joinN xs % 64 : Nat) : Int)) ∧ w = w' := by
  have HC := Lib.hid hc
  clear hc
  go_enter Tryd.func23, Tryd.ntmps23
  go_wp2
  go_loop [3, 8] (fun m i => ∃ k : Nat, k ≤ xs.length ∧ i = .int .i64 k ∧ m = .int .u8 ((joinN (xs.take k) : Nat) : Int)) (fun _ i => xs.length - (intOf i).toNat)
  case atStart => exact ⟨0, Nat.zero_le _, rfl, rfl⟩
  case round =>
    obtain ⟨k, hk, rfl, rfl⟩ := hrel
    have hm := joinN_lt (xs.take k) (fun x h => hx x (List.mem_of_mem_take h))
    by_cases hlt : k < xs.length
    · obtain ⟨b, off, rfl, hcell⟩ := HC.out k hlt
      have HS := Lib.hid (show joinN (xs.take (k + 1)) = joinN (xs.take k) ||| (xs[k]?.getD 0) by rw [take_snoc hlt, joinN_snoc])
      have hd := getD_lt xs hx k
      clear HC
      generalize joinN (xs.take k) = m at *
      generalize xs[k]?.getD 0 = d at *
      clear hx
      go_wp2
      go_round
      case rel => exact ⟨k + 1, by omega, by go_num, by rw [HS.out, u8_or_nat _ _ (by omega) (by omega)]⟩
      case measure => simp [intOf]; omega
    · obtain rfl : k = xs.length := by omega
      rw [List.take_of_length_le (Nat.le_refl _)] at hm ⊢
      go_wp2
      go_ret
      exact ⟨ret_num (by omega), rfl⟩
end Go.Proofs.YtohhobmjebdfaaaDoor
