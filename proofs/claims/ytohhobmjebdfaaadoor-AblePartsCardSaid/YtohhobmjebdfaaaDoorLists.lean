/-
  The document's answers for layer 1, part five: the lists that Each and Within go over.
-/
import Derived.Test.YtohhobmjebdfaaaDoorLent
namespace Go.Proofs.YtohhobmjebdfaaaDoor
open Go.RowKit

def eachNat (a k : Nat) : List Nat := (eachTo a k).map (fun j => 2 ^ j.val)
theorem eachNat_succ (a k : Nat) (hk : k < 6) : eachNat a (k + 1) = eachNat a k ++ (if a.testBit k then [2 ^ k] else []) := by
  unfold eachNat
  rw [eachTo_succ a k hk, List.map_append]
  cases a.testBit k <;> simp
theorem eachNat_len (a k : Nat) : (eachNat a k).length ≤ k := by unfold eachNat; rw [List.length_map]; exact eachTo_len a k
theorem u8s_snoc (xs : List Nat) (x : Nat) : u8s (xs ++ [x]) = u8s xs ++ [.int .u8 (x : Int)] := by simp [u8s]
theorem u8s_len (xs : List Nat) : (u8s xs).length = xs.length := by simp [u8s]
theorem one_new (w : World) (x : Value) : ∀ j u, ([x] : List Value)[j]? = some u → (w.alloc (.cells #[x] 22)).cell? ((⟨w.heap.size, 0, none⟩ : Addr).add j) = some u := by
  intro j u hu
  have hj : j < 1 := (List.getElem?_eq_some_iff.1 hu).1
  have h := World.alloc_heap_new w (.cells #[x] 22)
  obtain rfl : j = 0 := by omega
  simp at hu
  subst hu
  exact cell_in_row h rfl
theorem owns_lies {w : World} {base : Nat} {v : Value} {xs : List Nat} (h : w.ownsRow base 22 1 v xs.length (u8s xs)) : ∃ pa cap, v = .slice pa xs.length cap ∧ LiesAt w pa xs := by
  rcases h.2 with ⟨rfl, h0⟩ | ⟨g, cap, cur, rfl, _, hg, hn, _, hsz, htake⟩
  · exact ⟨none, 0, by rw [h0], fun i hi => absurd hi (by omega)⟩
  · refine ⟨_, cap, rfl, fun i hi => ⟨g, 0, rfl, ?_⟩⟩
    rw [Nat.mul_one] at htake
    have : (cur.toList.take xs.length)[i]? = some (.int .u8 ((xs[i]?.getD 0 : Nat) : Int)) := by
      rw [htake]
      simp [u8s, List.getElem?_eq_getElem hi]
    rw [List.getElem?_take, if_pos hi] at this
    rw [Nat.zero_add]
    exact cell_in_row hg (by simpa using this)

set_option maxRecDepth 100000 in
set_option maxHeartbeats 2000000 in
theorem reach_w (a : Nat) (ha : a < 256) (w : World) : Calls Tryd.prog 32 #[.int .u8 (a : Int)] w fun e w' => ∃ v, e = .returned v ∧ w'.ownsRow w.heap.size 22 1 v (eachNat a 6).length (u8s (eachNat a 6)) ∧ Below w.heap.size w w' := by
  obtain ⟨i0, hi, hz0, hz1, hz2⟩ := info_parts info22
  go_enter Tryd.func32, Tryd.ntmps32
  go_wp2
  go_loopw [3, 4] (fun v i wr => ∃ k : Nat, k ≤ 6 ∧ i = .int .i64 k ∧ wr.ownsRow w.heap.size 22 1 v (eachNat a k).length (u8s (eachNat a k)) ∧ Below w.heap.size w wr) (fun _ i _ => 6 - (intOf i).toNat)
  case atStart => exact ⟨0, by omega, rfl, World.ownsRow_nil _ _ _ _, Below.refl _ _⟩
  case round =>
    obtain ⟨k, hk, rfl, hown, hB⟩ := hrel
    have hlen := eachNat_len a k
    by_cases hlt : k < 6
    · have HS := Lib.hid (eachNat_succ a k hlt)
      have Hin := Lib.hid (in_w a ha k hlt)
      have Hbit := Lib.hid (bit_w k hlt)
      have hBs := hB.size
      generalize hb : a.testBit k = b at *
      clear hb
      cases b
      · have HE : Hid (eachNat a (k + 1) = eachNat a k) := Lib.hid (by rw [HS.out]; simp)
        generalize eachNat a k = xs at *
        go_wp2_with fail
        refine (Hin.out _).mono ?_
        rintro e w' ⟨rfl, rfl⟩
        go_wp2
        go_roundw
        case rel => exact ⟨k + 1, by omega, by go_num, by rw [HE.out]; exact hown, hB⟩
        case measure => simp [intOf]; omega
      · have HE : Hid (eachNat a (k + 1) = eachNat a k ++ [2 ^ k]) := Lib.hid (by rw [HS.out]; simp)
        generalize eachNat a k = xs at *
        generalize (2 : Nat) ^ k = x at *
        go_wp2_with fail
        refine (Hin.out _).mono ?_
        rintro e w' ⟨rfl, rfl⟩
        go_wp2_with fail
        refine (Hbit.out _).mono ?_
        rintro e w' ⟨rfl, rfl⟩
        go_wp2_with (at_builtin; refine wpList_append_own _ rfl (.tmp 12) (.tmp 15) 23 rfl w.heap.size 22 i0 (.int .u8 0) 1 1 Tryd.underlying23 hi hz0 hz1 hz2 rfl (by decide) _ _ _ rfl (hown.alloc _) ⟨_, 0, none⟩ 1 1 [.int .u8 (x : Int)] rfl rfl (one_new _ _) (by simp [Value.oneCell']) (by unfold maxLen; omega) (by omega) (by simp; omega) ?_; intro v2 w2 hown2 hgrow2 hnil2; clear hnil2)
        go_roundw
        case rel =>
          refine ⟨k + 1, by omega, by go_num, ?_, (hB.alloc hBs _).grown hgrow2 (by simp; omega) (fun r e => (hown.lt r e).1)⟩
          rw [HE.out, List.length_append, u8s_snoc]
          exact hown2
        case measure => simp [intOf]; omega
    · obtain rfl : k = 6 := by omega
      go_wp2
      go_ret
      exact ⟨_, rfl, hown, hB⟩

def withinNat (a k : Nat) : List Nat := (List.range k).filter (fun b => hasN a b)
theorem withinNat_succ (a k : Nat) : withinNat a (k + 1) = withinNat a k ++ (if hasN a k then [k] else []) := by
  unfold withinNat
  rw [List.range_succ, List.filter_append]
  cases h : hasN a k <;> simp [h]
theorem withinNat_len (a k : Nat) : (withinNat a k).length ≤ k := Nat.le_trans (List.length_filter_le _ _) (by simp)

set_option maxRecDepth 100000 in
set_option maxHeartbeats 2000000 in
theorem rwithin_w (a : Nat) (ha : a < 256) (w : World) : Calls Tryd.prog 33 #[.int .u8 (a : Int)] w fun e w' => ∃ v, e = .returned v ∧ w'.ownsRow w.heap.size 22 1 v (withinNat a 64).length (u8s (withinNat a 64)) ∧ Below w.heap.size w w' := by
  obtain ⟨i0, hi, hz0, hz1, hz2⟩ := info_parts info22
  go_enter Tryd.func33, Tryd.ntmps33
  go_wp2
  go_loopw [3, 4] (fun v i wr => ∃ k : Nat, k ≤ 64 ∧ i = .int .u8 k ∧ wr.ownsRow w.heap.size 22 1 v (withinNat a k).length (u8s (withinNat a k)) ∧ Below w.heap.size w wr) (fun _ i _ => 64 - (intOf i).toNat)
  case atStart => exact ⟨0, by omega, rfl, World.ownsRow_nil _ _ _ _, Below.refl _ _⟩
  case round =>
    obtain ⟨k, hk, rfl, hown, hB⟩ := hrel
    have hlen := withinNat_len a k
    by_cases hlt : k < 64
    · have HS := Lib.hid (withinNat_succ a k)
      have Hin := Lib.hid (rhas_w a k ha (by omega))
      have hBs := hB.size
      generalize hb : hasN a k = b at *
      clear hb
      cases b
      · have HE : Hid (withinNat a (k + 1) = withinNat a k) := Lib.hid (by rw [HS.out]; simp)
        generalize withinNat a k = xs at *
        go_wp2_with fail
        refine (Hin.out _).mono ?_
        rintro e w' ⟨rfl, rfl⟩
        go_wp2
        go_roundw
        case rel => exact ⟨k + 1, by omega, by go_num, by rw [HE.out]; exact hown, hB⟩
        case measure => simp [intOf]; omega
      · have HE : Hid (withinNat a (k + 1) = withinNat a k ++ [k]) := Lib.hid (by rw [HS.out]; simp)
        generalize withinNat a k = xs at *
        go_wp2_with fail
        refine (Hin.out _).mono ?_
        rintro e w' ⟨rfl, rfl⟩
        go_wp2_with (at_builtin; refine wpList_append_own _ rfl (.tmp 12) (.tmp 14) 23 rfl w.heap.size 22 i0 (.int .u8 0) 1 1 Tryd.underlying23 hi hz0 hz1 hz2 rfl (by decide) _ _ _ rfl (hown.alloc _) ⟨_, 0, none⟩ 1 1 [.int .u8 (k : Int)] rfl rfl (one_new _ _) (by simp [Value.oneCell']) (by unfold maxLen; omega) (by omega) (by simp; omega) ?_; intro v2 w2 hown2 hgrow2 hnil2; clear hnil2)
        go_roundw
        case rel =>
          refine ⟨k + 1, by omega, by go_num, ?_, (hB.alloc hBs _).grown hgrow2 (by simp; omega) (fun r e => (hown.lt r e).1)⟩
          rw [HE.out, List.length_append, u8s_snoc]
          exact hown2
        case measure => simp [intOf]; omega
    · obtain rfl : k = 64 := by omega
      go_wp2
      go_ret
      exact ⟨_, rfl, hown, hB⟩

theorem within_same : ∀ a : Fin 256, (withinL (a.val % 64)).map Fin.val = withinNat a.val 64 := by decide +kernel
end Go.Proofs.YtohhobmjebdfaaaDoor
