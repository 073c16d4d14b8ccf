/-
  The iterator of able.Each: it tells the abilities of a set in their order, to whatever body.
-/
import Derived.RangeFuncNested
import Derived.RangeFuncBound
import Derived.RangeFuncCalls
import Derived.RangeFuncLeaves
import Derived.Shelf.Abstract
import Derived.Shelf.RegionOpen
import Derived.WalkKit
import Derived.OwnWalkIn
import Derived.TacticsInMore
import Derived.LoopNIn
import Derived.LoopIn
import Derived.Test.YtohhobmjebdfaaaDoorPure
namespace Go.Proofs.YtohhobmjebdfaaaDoor
open Go.RowKit Go.Shelf
attribute [local go_sem] Oper.semAt_some

/-- What a round keeps: the iterator's own cell. -/
def KeepsCell (Bn : Nat) (W W' : World) : Prop := ∀ v, W.cell? ⟨Bn, 0, none⟩ = some v → W'.cell? ⟨Bn, 0, none⟩ = some v
theorem keepsCell_t {Bn : Nat} {A B C : World} (h : KeepsCell Bn A B) (k : KeepsCell Bn B C) : KeepsCell Bn A C := fun v hv => k v (h v hv)
theorem keepsCell_b {Bn : Nat} (W : World) (l : Nat) (o o' : Obj) (h : W.heap[l]? = some o) (hc : o.isCells = false) : KeepsCell Bn W (W.putObj l o') :=
  fun _ hv => cell_kept hv (grownBy_putObj' W l o') (fun r e => by cases e; exact ⟨o, h, hc⟩)

def eachTo (a k : Nat) : List (Fin 6) := ((List.finRange 6).take k).filter (fun j => a.testBit j)
def eachL (a : Nat) : List (Fin 6) := eachTo a 6
theorem eachTo_succ (a k : Nat) (hk : k < 6) : eachTo a (k + 1) = eachTo a k ++ (if a.testBit k then [⟨k, hk⟩] else []) := by
  unfold eachTo
  rw [List.take_succ_eq_append_getElem (by simpa using hk), List.filter_append]
  simp [List.filter_cons]
theorem eachTo_len (a k : Nat) : (eachTo a k).length ≤ k := by
  unfold eachTo
  exact Nat.le_trans (List.length_filter_le _ _) (by simp; omega)
theorem eachTo_prefix (a k : Nat) (h : k ≤ 6) : eachTo a k <+: eachL a := by
  have step : ∀ d, k + d ≤ 6 → eachTo a k <+: eachTo a (k + d) := by
    intro d
    induction d with
    | zero => exact fun _ => List.prefix_refl _
    | succ d ih => exact fun hd => (ih (by omega)).trans (by rw [show k + (d + 1) = (k + d) + 1 by omega, eachTo_succ a (k + d) (by omega)]; exact List.prefix_append _ _)
  have := step (6 - k) (by omega)
  rwa [show k + (6 - k) = 6 by omega] at this
theorem and_bit (a k : Nat) (ha : a < 256) (hk : k < 6) : bits .and .u8 (a : Int) ((2 ^ k : Nat) : Int) = if a.testBit k then ((2 ^ k : Nat) : Int) else 0 := by
  have h2 : 2 ^ k < 256 := Nat.lt_of_lt_of_le (Nat.pow_lt_pow_right (by decide) hk) (by decide)
  rw [u8_and_nat a (2 ^ k) ha h2]
  have := all64 (p := fun k => decide (k < 6 → ∀ a : Fin 256, (a.val &&& 2 ^ k) = if a.val.testBit k then 2 ^ k else 0)) (by decide +kernel) (n := k) (by omega)
  have := of_decide_eq_true this hk ⟨a, ha⟩
  simp only at this
  rw [this]
  split <;> rfl
theorem and_bit_yes (a k : Nat) (ha : a < 256) (hk : k < 6) (h : a.testBit k = true) : ¬ bits .and .u8 (a : Int) ((2 ^ k : Nat) : Int) = 0 := by
  rw [and_bit a k ha hk, if_pos h]
  have := Nat.two_pow_pos k
  omega
theorem and_bit_no (a k : Nat) (ha : a < 256) (hk : k < 6) (h : a.testBit k = false) : bits .and .u8 (a : Int) ((2 ^ k : Nat) : Int) = 0 := by
  rw [and_bit a k ha hk, if_neg (by simp [h])]

set_option maxRecDepth 100000 in
set_option maxHeartbeats 2000000 in
theorem each1_in (F : Fence) (n : Nat) (h6 : F.fn 46) (hro : F.round = none) (hn : 1 ≤ n) (l Bn : Nat) (a : Nat) (ha : a < 256) (J Jx : List (Fin 6) → World → Prop)
    (hY : ∀ (pre : List (Fin 6)) (x : Fin 6) (W : World), J pre W → pre.length < 6 → YieldAt F (n - 1) Tryd.prog l #[.int .u8 ((2 ^ x.val : Nat) : Int)] W fun e W' =>
      (e = .returned (.bool true) ∧ J (pre ++ [x]) W' ∧ KeepsCell Bn W W') ∨ (e = .returned (.bool false) ∧ Jx (pre ++ [x]) W'))
    (W : World) (hBn : W.cell? ⟨Bn, 0, none⟩ = some (.int .u8 (a : Int))) (h0 : J [] W) :
    CallsIn F n Tryd.prog 46 #[.func (.yield l) #[] #[], .pointer (some ⟨Bn, 0, none⟩)] W fun e W' => (∃ v, e = .returned v) ∧
      ((∃ ys, ys = eachL a ∧ J ys W') ∨ (∃ pre, pre <+: eachL a ∧ Jx pre W')) := by
  refine callsIn_of_wp Tryd.func46 rfl h6 ?_ hro
  simp only [Tryd.ntmps46, List.size_toArray, List.length_cons, List.length_nil, Nat.reduceAdd, Nat.reduceSub, Array.replicate_succ, Array.replicate_zero, List.push_toArray, List.append_toArray, List.nil_append, List.cons_append]
  gi_wp2
  gi_loopw [5] (fun i wr => ∃ k : Nat, k ≤ 6 ∧ i = .int .i64 k ∧ J (eachTo a k) wr ∧ wr.cell? ⟨Bn, 0, none⟩ = some (.int .u8 (a : Int)))
    (fun i _ => 6 - (intOf i).toNat)
  case atStart =>
    exact ⟨0, by omega, rfl, h0, hBn⟩
  case round =>
    obtain ⟨k, hk, rfl, hJ, hc⟩ := hrel
    have hlen := eachTo_len a k
    by_cases h6 : k = 6
    · subst h6
      gi_wp2
      go_end0
      exact ⟨⟨_, rfl⟩, .inl ⟨eachL a, rfl, hJ⟩⟩
    · obtain ⟨fn, tmps, assign, body, hy, hR⟩ := hY (eachTo a k) ⟨k, by omega⟩ wr hJ (by omega)
      have hstep := Lib.hid (eachTo_succ a k (by omega))
      have hpre := eachTo_prefix a (k + 1) (by omega)
      by_cases hb : a.testBit k = true
      · have hbit := and_bit_yes a k ha (by omega) hb
        have HE : Hid (eachTo a (k + 1) = eachTo a k ++ [⟨k, by omega⟩]) := Lib.hid (by rw [hstep.out, if_pos hb])
        clear hb hstep
        obtain rfl | rfl | rfl | rfl | rfl | rfl : k = 0 ∨ k = 1 ∨ k = 2 ∨ k = 3 ∨ k = 4 ∨ k = 5 := by omega
        all_goals
          simp at hy hbit
          gi_wp2
          refine hR.mono ?_
          rintro e W3 (⟨rfl, hJ3, hk3⟩ | ⟨rfl, hJx3⟩)
          · have hc3 : W3.cell? ⟨Bn, 0, none⟩ = some (.int .u8 (a : Int)) := hk3 _ hc
            gi_wp2
            go_roundw
            case rel => exact ⟨_, by decide, rfl, by rw [HE.out]; exact hJ3, hc3⟩
            case measure => simp [intOf]
          · gi_wp2
            refine bodyPost_ret (results_none rfl _ _ _) rfl ?_
            exact ⟨⟨_, rfl⟩, .inr ⟨_, hpre, by rw [HE.out]; exact hJx3⟩⟩
      · have hbit := and_bit_no a k ha (by omega) (by simpa using hb)
        have HE : Hid (eachTo a (k + 1) = eachTo a k) := Lib.hid (by rw [hstep.out, if_neg hb, List.append_nil])
        clear hb hstep
        obtain rfl | rfl | rfl | rfl | rfl | rfl : k = 0 ∨ k = 1 ∨ k = 2 ∨ k = 3 ∨ k = 4 ∨ k = 5 := by omega
        all_goals
          simp at hbit
          gi_wp2
          refine ⟨fun _ h => (by cases h), ?_⟩
          gi_wp2
          go_roundw
          case rel => exact ⟨_, by decide, rfl, by rw [HE.out]; exact hJ, hc⟩
          case measure => simp [intOf]

theorem each_stops (F : Fence) (n : Nat) (h6 : F.fn 46) (hro : F.round = none) (hn : 1 ≤ n) (Bn : Nat) (a : Nat) (ha : a < 256) (w : World) (hBw : Bn < w.heap.size)
    (hc : w.cell? ⟨Bn, 0, none⟩ = some (.int .u8 (a : Int))) :
    SeqStopsK F n Tryd.prog 46 #[.pointer (some ⟨Bn, 0, none⟩)] (fun x : Fin 6 => #[Value.int .u8 ((2 ^ x.val : Nat) : Int)]) (KeepsCell Bn) (fun ys => ys = eachL a) (fun pre => pre <+: eachL a) 6 w := fun l J Jx W hW _ _ hY h0 =>
  each1_in F n h6 hro hn l Bn a ha J Jx hY W ((hW.cell (p := ⟨Bn, 0, none⟩) hBw).trans hc) h0

set_option maxHeartbeats 400000 in
theorem each_w (a : Int) (w : World) :
    Calls Tryd.prog 37 #[.int .u8 a] w fun e w' => e = .returned (.func (.func 46) #[] #[.pointer (some ⟨w.heap.size, 0, none⟩)]) ∧ w.alloc (.cells #[.int .u8 a] 22) = w' := by
  go_enter Tryd.func37, Tryd.ntmps37
  go_wp2
  go_ret
  exact ⟨rfl, rfl⟩
end Go.Proofs.YtohhobmjebdfaaaDoor
