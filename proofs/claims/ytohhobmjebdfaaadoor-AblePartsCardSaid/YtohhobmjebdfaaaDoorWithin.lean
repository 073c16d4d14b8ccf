/-
  The iterator of able.Within: it tells the sets within a set, rising, to whatever body.
-/
import Derived.Test.YtohhobmjebdfaaaDoorEach
namespace Go.Proofs.YtohhobmjebdfaaaDoor
open Go.RowKit Go.Shelf
attribute [local go_sem] Oper.semAt_some

/-- The k-th set within m. -/
def nthN (m : Nat) : Nat → Nat
  | 0 => 0
  | k + 1 => nextN (nthN m k) m
def manyN (m : Nat) : Nat := 2 ^ Lib.onesCount m
theorem within_facts : ∀ m : Fin 64, 1 ≤ manyN m ∧ manyN m ≤ 64 ∧ nthN m (manyN m - 1) = m.val ∧ (List.range (manyN m)).all (fun k => decide (nthN m k ≤ 63) && (k + 1 == manyN m || (nthN m k != m.val && decide (nthN m k < nthN m (k + 1))))) = true := by decide +kernel
theorem nth_le (m k : Nat) (hm : m < 64) (hk : k < manyN m) : nthN m k ≤ 63 := by
  have := List.all_eq_true.1 (within_facts ⟨m, hm⟩).2.2.2 k (List.mem_range.2 hk)
  simp only [Bool.and_eq_true, decide_eq_true_eq] at this
  exact this.1
theorem nth_ne (m k : Nat) (hm : m < 64) (hk : k + 1 < manyN m) : nthN m k ≠ m ∧ nthN m k < nthN m (k + 1) := by
  have := List.all_eq_true.1 (within_facts ⟨m, hm⟩).2.2.2 k (List.mem_range.2 (by simp only; omega))
  simp only [Bool.and_eq_true, decide_eq_true_eq, Bool.or_eq_true, beq_iff_eq, bne_iff_ne] at this
  rcases this.2 with h | h
  · exact absurd h (by omega)
  · exact h
theorem nth_last (m k : Nat) (hm : m < 64) (hk : k + 1 = manyN m) : nthN m k = m := by
  have := (within_facts ⟨m, hm⟩).2.2.1
  simp only at this
  rwa [← hk] at this

def withinTo (m k : Nat) : List (Fin 64) := (List.range k).map (fun i => ⟨nthN m i % 64, Nat.mod_lt _ (by decide)⟩)
def withinL (m : Nat) : List (Fin 64) := withinTo m (manyN m)
theorem withinTo_succ (m k : Nat) : withinTo m (k + 1) = withinTo m k ++ [⟨nthN m k % 64, Nat.mod_lt _ (by decide)⟩] := by
  simp [withinTo, List.range_succ]
theorem withinTo_len (m k : Nat) : (withinTo m k).length = k := by simp [withinTo]
theorem withinTo_prefix (m k : Nat) (h : k ≤ manyN m) : withinTo m k <+: withinL m := by
  have step : ∀ d, withinTo m k <+: withinTo m (k + d) := by
    intro d
    induction d with
    | zero => exact List.prefix_refl _
    | succ d ih => exact ih.trans (by rw [show k + (d + 1) = (k + d) + 1 by omega, withinTo_succ]; exact List.prefix_append _ _)
  have := step (manyN m - k)
  rwa [show k + (manyN m - k) = manyN m by omega] at this

set_option maxHeartbeats 400000 in
theorem next_in (F : Fence) (n : Nat) (h45 : F.fn 45) (hro : F.round = none) (a b : Int) (w : World) (h0 : 0 ≤ a) (h1 : a ≤ 255) (h2 : 0 ≤ b) (h3 : b ≤ 255):
    CallsIn F n Tryd.prog 45 #[.int .u8 a, .int .u8 b] w fun e w' => e = .returned (.int .u8 ((nextN a.toNat b.toNat : Nat) : Int)) ∧ w = w' := by
  refine callsIn_of_wp Tryd.func45 rfl h45 ?_ hro
  simp only [Tryd.ntmps45, List.size_toArray, List.length_cons, List.length_nil, Nat.reduceAdd, Nat.reduceSub, Array.replicate_succ, Array.replicate_zero, List.push_toArray, List.append_toArray, List.nil_append, List.cons_append]
  gi_wp2
  go_ret
  refine ⟨ret_num ?_, rfl⟩
  rw [u8_and _ b (by omega) (by omega) h2 (by omega)]
  unfold nextN
  rw [show ((a - b) % 256).toNat = (a.toNat + 256 - b.toNat) % 256 by omega]

set_option maxRecDepth 100000 in
set_option maxHeartbeats 2000000 in
theorem within1_in (F : Fence) (n : Nat) (h44 : F.fn 44) (h45 : F.fn 45) (hro : F.round = none) (hn : 1 ≤ n) (l Bn : Nat) (m : Nat) (hm : m < 64) (J Jx : List (Fin 64) → World → Prop)
    (hY : ∀ (pre : List (Fin 64)) (x : Fin 64) (W : World), J pre W → pre.length < 64 → YieldAt F (n - 1) Tryd.prog l #[.int .u8 (x.val : Int)] W fun e W' =>
      (e = .returned (.bool true) ∧ J (pre ++ [x]) W' ∧ KeepsCell Bn W W') ∨ (e = .returned (.bool false) ∧ Jx (pre ++ [x]) W'))
    (W : World) (hBn : W.cell? ⟨Bn, 0, none⟩ = some (.int .u8 (m : Int))) (h0 : J [] W) :
    CallsIn F n Tryd.prog 44 #[.func (.yield l) #[] #[], .pointer (some ⟨Bn, 0, none⟩)] W fun e W' => (∃ v, e = .returned v) ∧
      ((∃ ys, ys = withinL m ∧ J ys W') ∨ (∃ pre, pre <+: withinL m ∧ Jx pre W')) := by
  have hmany : 1 ≤ manyN m ∧ manyN m ≤ 64 := ⟨(within_facts ⟨m, hm⟩).1, (within_facts ⟨m, hm⟩).2.1⟩
  refine callsIn_of_wp Tryd.func44 rfl h44 ?_ hro
  simp only [Tryd.ntmps44, List.size_toArray, List.length_cons, List.length_nil, Nat.reduceAdd, Nat.reduceSub, Array.replicate_succ, Array.replicate_zero, List.push_toArray, List.append_toArray, List.nil_append, List.cons_append]
  gi_wp2
  gi_loopw [3] (fun i wr => ∃ k : Nat, k < manyN m ∧ i = .int .u8 (nthN m k) ∧ J (withinTo m k) wr ∧ wr.cell? ⟨Bn, 0, none⟩ = some (.int .u8 (m : Int)))
    (fun i _ => 64 - (intOf i).toNat)
  case atStart =>
    exact ⟨0, by omega, rfl, h0, hBn⟩
  case round =>
    obtain ⟨k, hk, rfl, hJ, hc⟩ := hrel
    have hle := nth_le m k hm hk
    obtain ⟨fn, tmps, assign, body, hy, hR⟩ := hY (withinTo m k) ⟨nthN m k % 64, Nat.mod_lt _ (by decide)⟩ wr hJ (by rw [withinTo_len]; omega)
    have hpre := withinTo_prefix m (k + 1) hk
    have HE := Lib.hid (withinTo_succ m k)
    rw [← HE.out] at hR
    simp only [Nat.mod_eq_of_lt (show nthN m k < 64 by omega)] at hy
    by_cases hlast : k + 1 = manyN m
    · have Hl := nth_last m k hm hlast
      rw [Hl] at hy hle ⊢
      gi_wp2
      refine hR.mono ?_
      rintro e W3 (⟨rfl, hJ3, hk3⟩ | ⟨rfl, hJx3⟩)
      · have hc3 : W3.cell? ⟨Bn, 0, none⟩ = some (.int .u8 (m : Int)) := hk3 _ hc
        gi_wp2
        go_end0
        exact ⟨⟨_, rfl⟩, .inl ⟨withinL m, rfl, by unfold withinL; rw [← hlast]; exact hJ3⟩⟩
      · gi_wp2
        go_end0
        exact ⟨⟨_, rfl⟩, .inr ⟨_, hpre, hJx3⟩⟩
    · obtain ⟨Hn, hlt⟩ := nth_ne m k hm (by omega)
      have Hx : Hid (nthN m (k + 1) = nextN (nthN m k) m) := Lib.hid rfl
      have Hy := nth_le m (k + 1) hm (by omega)
      have Hk : Hid (k + 1 < manyN m) := Lib.hid (by omega)
      have HJ : Hid (withinTo m (k + 1) <+: withinL m) := Lib.hid hpre
      clear hlast hk hpre HE hJ hmany
      generalize hx : nthN m k = x at *
      generalize hy' : nthN m (k + 1) = y at *
      have Hex := Lib.hid hx
      have Hey := Lib.hid hy'
      clear hx hy' hY
      have Hne : ((x : Int) != (m : Int)) = true := by rw [bne_iff_ne]; omega

      gi_wp2

      refine hR.mono ?_
      clear hR
      rintro e W3 (⟨rfl, hJ3, hk3⟩ | ⟨rfl, hJx3⟩)
      · have hc3 : W3.cell? ⟨Bn, 0, none⟩ = some (.int .u8 (m : Int)) := hk3 _ hc
        clear hk3 hc hy
        dsimp only
        gi_wp2_with (gi_at_call 45; refine (next_in F _ h45 hro x m _ (by omega) (by omega) (by omega) (by omega)).mono ?_; rintro e w' ⟨rfl, rfl⟩)
        go_roundw
        case rel => exact ⟨k + 1, Hk.out, by rw [Hey.out, Hx.out], hJ3, hc3⟩
        case measure => have h := Hx.out; simp [intOf]; omega
      · gi_wp2
        go_end0
        exact ⟨⟨_, rfl⟩, .inr ⟨_, HJ.out, hJx3⟩⟩

theorem within_stops (F : Fence) (n : Nat) (h44 : F.fn 44) (h45 : F.fn 45) (hro : F.round = none) (hn : 1 ≤ n) (Bn : Nat) (m : Nat) (hm : m < 64) (w : World) (hBw : Bn < w.heap.size)
    (hc : w.cell? ⟨Bn, 0, none⟩ = some (.int .u8 (m : Int))) :
    SeqStopsK F n Tryd.prog 44 #[.pointer (some ⟨Bn, 0, none⟩)] (fun x : Fin 64 => #[Value.int .u8 (x.val : Int)]) (KeepsCell Bn) (fun ys => ys = withinL m) (fun pre => pre <+: withinL m) 64 w := fun l J Jx W hW _ _ hY h0 =>
  within1_in F n h44 h45 hro hn l Bn m hm J Jx hY W ((hW.cell (p := ⟨Bn, 0, none⟩) hBw).trans hc) h0

set_option maxHeartbeats 400000 in
theorem within_w (a : Int) (w : World) (h0 : 0 ≤ a) (h1 : a ≤ 255) :
    Calls Tryd.prog 36 #[.int .u8 a] w fun e w' => e = .returned (.func (.func 44) #[] #[.pointer (some ⟨w.heap.size, 0, none⟩)]) ∧ w.alloc (.cells #[.int .u8 (a % 64)] 22) = w' := by
  go_enter Tryd.func36, Tryd.ntmps36
  go_wp2
  go_ret
  exact ⟨rfl, rfl⟩
end Go.Proofs.YtohhobmjebdfaaaDoor
