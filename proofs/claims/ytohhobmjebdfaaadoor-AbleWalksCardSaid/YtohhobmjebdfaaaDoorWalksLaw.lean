/-
  AbleWalks: what Each and Within go over is the document's list, left early behind some, gone over again.
  CONDITIONS: the variable able.names holds what its text lays (the card ties that to the program's text).
-/
import Derived.Test.YtohhobmjebdfaaaDoorTab
import Derived.Test.YtohhobmjebdfaaaDoorWalk
namespace Go.Proofs.YtohhobmjebdfaaaDoor
open Go.ChangeShapes Go.WideShapes Go.ChangeAt Go.RowKit

theorem reach_n (a : Nat) (ha : a < 256) (w : World) : Calls Tryd.prog 32 #[.int .u8 (a : Int)] w fun e w' => ∃ pa cap, e = .returned (.slice pa (eachNat a 6).length cap) ∧ LiesAt w' pa (eachNat a 6) ∧ Below w.heap.size w w' :=
  (reach_w a ha w).mono fun _ _ ⟨v, he, ho, hb⟩ => by
    obtain ⟨pa, cap, rfl, hl⟩ := owns_lies ho
    exact ⟨pa, cap, he, hl, hb⟩
theorem rwithin_n (a : Nat) (ha : a < 256) (w : World) : Calls Tryd.prog 33 #[.int .u8 (a : Int)] w fun e w' => ∃ pa cap, e = .returned (.slice pa (withinNat a 64).length cap) ∧ LiesAt w' pa (withinNat a 64) ∧ Below w.heap.size w w' :=
  (rwithin_w a ha w).mono fun _ _ ⟨v, he, ho, hb⟩ => by
    obtain ⟨pa, cap, rfl, hl⟩ := owns_lies ho
    exact ⟨pa, cap, he, hl, hb⟩

theorem below5w {w w1 w2 w3 w4 w5 : World} (h1 : Below w.heap.size w w1) (h2 : Below w1.heap.size w1 w2) (h3 : Below w2.heap.size w2 w3) (h4 : Below w3.heap.size w3 w4) (h5 : Below w4.heap.size w4 w5) : Below w.heap.size w w5 :=
  (((h1.trans (h2.mono h1.size)).trans (h3.mono (Nat.le_trans h1.size h2.size))).trans (h4.mono (Nat.le_trans h1.size (Nat.le_trans h2.size h3.size)))).trans (h5.mono (Nat.le_trans h1.size (Nat.le_trans h2.size (Nat.le_trans h3.size h4.size))))

set_option maxRecDepth 100000 in
set_option maxHeartbeats 2000000 in
theorem walks_w (A lv : Int) (w : World) (bA : 0 ≤ A ∧ A ≤ 255) (bl : -9223372036854775808 ≤ lv ∧ lv ≤ 9223372036854775807) (hN : NamesAt w) :
    Calls Tryd.prog 4 #[.int .u8 A, .int .i64 lv] w fun e W' => e = .returned (.bool true) ∧ Below w.heap.size w W' := by
  obtain ⟨a, rfl⟩ := Int.eq_ofNat_of_zero_le bA.1
  have ha : a < 256 := by omega
  have hm : Hid (a % 64 = a % 64) := Lib.hid rfl
  have H1 := Lib.hid (fun pa cap w hl => callsIn_wide.1 (walk_each 4 (by decide) a ha lv bl pa cap w hl))
  have H2 := Lib.hid (fun pa cap w hl => callsIn_wide.1 (walk_within 4 (by decide) a (a % 64) ha hm (Nat.mod_lt _ (by decide)) lv bl pa cap w hl))
  have R1 := Lib.hid (reach_n a ha)
  have R2 := Lib.hid (rwithin_n a ha)
  clear hm
  generalize eachNat a 6 = xs at *
  generalize withinNat a 64 = ys at *
  go_enter Tryd.func4, Tryd.ntmps4
  go_wp2_with fail
  refine (R1.out _).mono ?_
  rintro e w1 ⟨pa, cap, rfl, hl1, hb1⟩
  go_wp2_with fail
  refine (H1.out pa cap _ hl1).mono ?_
  rintro e w2 ⟨rfl, hb2⟩
  go_wp2_with fail
  refine (R2.out _).mono ?_
  rintro e w3 ⟨pb, cbp, rfl, hl3, hb3⟩
  go_wp2_with fail
  refine (H2.out pb cbp _ hl3).mono ?_
  rintro e w4 ⟨rfl, hb4⟩
  have hN4 := (((hN.below hb1 hN.size).below hb2 (hN.below hb1 hN.size).size).below hb3 ((hN.below hb1 hN.size).below hb2 (hN.below hb1 hN.size).size).size).below hb4 (((hN.below hb1 hN.size).below hb2 (hN.below hb1 hN.size).size).below hb3 ((hN.below hb1 hN.size).below hb2 (hN.below hb1 hN.size).size).size).size
  go_wp2_with fail
  refine (lives_w _ hN4).mono ?_
  rintro e w5 ⟨rfl, hb5⟩
  go_wp2
  go_ret
  exact ⟨rfl, below5w hb1 hb2 hb3 hb4 hb5⟩

namespace AbleWalks
theorem contract (H : Type) (enc : TypeId × Value → H) (W : World) (base : Nat) (args : Array Value) (ds gs : List (DataW H)) (before : List MemPlace)
    (hval : ∀ (j : Nat) t v, Tryd.f4.params[j]? = some t → args[j]? = some v → Value.okWide Tryd.prog W .any base t v)
    (hW : DataW.Whole enc Tryd.prog Tryd.f4.params.toList Rows.ableWalksSpec.vars false W args.toList ds gs before) (hL : laidMetH Tryd.prog Rows.ableWalksRow.laid W) :
    Calls Tryd.prog 4 args W fun e W' => ∃ v, e = .returned v ∧ Rows.ableWalksSpec.post enc Tryd.prog Tryd.f4 false true false false W args v W' := by
  have hW' := hW
  obtain ⟨p, q, hA0, hV, rfl, hfz, hnd⟩ := hW
  have hA : DataW.TrodAll enc Tryd.prog W 0 (fun _ => true) true Tryd.f4.params.toList args.toList ds p := hA0
  rw [Tryd.params4] at hA hval
  obtain ⟨v0, vs0, d0, ds0, p0, q0, hargs, rfl, rfl, h0, r0⟩ := trodAll_cons hA
  obtain ⟨v1, vs1, d1, ds1, p1, q1, rfl, rfl, rfl, h1, r1⟩ := trodAll_cons r0
  obtain ⟨rfl, rfl, rfl⟩ := trodAll_nil r1
  obtain rfl : args = #[v0, v1] := by cases args; simp_all
  obtain ⟨rfl, rfl⟩ := trodVars_none hV
  obtain ⟨a0, rfl, rfl, rfl, w0⟩ := open_int Tryd.underlying22 (hval 0 22 v0 rfl rfl) h0
  have b0 : 0 ≤ a0 ∧ a0 ≤ 255 := by simpa [Lit.wf, IntKind.min, IntKind.max, IntKind.signed, IntKind.bits] using w0
  obtain ⟨a1, rfl, rfl, rfl, w1⟩ := open_int Tryd.underlying3 (hval 1 3 v1 rfl rfl) h1
  have b1 : -9223372036854775808 ≤ a1 ∧ a1 ≤ 9223372036854775807 := by simpa [Lit.wf, IntKind.min, IntKind.max, IntKind.signed, IntKind.bits] using w1
  clear hA0
  refine (walks_w a0 a1 W b0 b1 (namesAt hL)).mono fun e W' ⟨he, hb⟩ => ?_
  subst he
  exact ⟨_, rfl, law_post (by kernel_rfl) (by kernel_rfl) hW' rfl rfl rfl Tryd.underlying4 hb⟩

theorem laid_met (os : Os) : laidMet Tryd.prog Rows.ableWalksRow.laid ((laidWorld os).forCall (fun _ _ => 0) ⟨#[], #[.int .u8 0, .int .i64 0], []⟩).memory :=
  laidMet_of_run' 8 (by kernel_rfl) (by kernel_rfl)
theorem reads (os : Os) {H : Type} (enc : TypeId × Value → H) : ∃ places, DataW.whole enc Tryd.prog ((laidWorld os).forCall (fun _ _ => 0) ⟨#[], #[.int .u8 0, .int .i64 0], []⟩).memory Tryd.f4.params.toList Rows.ableWalksSpec.vars false (#[Value.int .u8 0, Value.int .i64 0] : Array Value).toList 8 = some ([.lit (.int .u8 0), .lit (.int .i64 0)], [], places) :=
  ⟨[], by kernel_rfl⟩

set_option maxRecDepth 100000 in
theorem lifted (os : Os) (started : os.Started) (H : Type) (enc : TypeId × Value → H) (F : Stop.Interp) :
    ReturnsInHanded {} Tryd.checked os 4 .any ((OpenSpec.ofChange Rows.ableWalksSpec).preRow enc Tryd.prog Tryd.f4 Rows.ableWalksRow.domain false Rows.ableWalksRow.laid) (((OpenSpec.ofChange Rows.ableWalksSpec).at F).post enc Tryd.prog Tryd.f4 false true false false) := by
  obtain ⟨places, hx⟩ := reads os enc
  refine returnsInHanded_of_row (C := Tryd.checked) (s := OpenSpec.ofChange Rows.ableWalksSpec) own started (by kernel_rfl) Tryd.func4
    (witness_row_at (enc := enc) (C := Tryd.checked) false (laidWorld os) #[.int .u8 0, .int .i64 0] rfl (by kernel_rfl) (by kernel_rfl) (by kernel_rfl)
      (OpenSpec.preRow_of_cond 8 hx (by kernel_rfl) (fun k hk => by cases hk) (by kernel_rfl) (laid_met os))) ?_
  intro W base args ds gs before hval hW _ _ _ hL _ _
  exact contract H enc W base args ds gs before hval hW hL

theorem said : Rows.AbleWalksSaid :=
  OpenClaim.holds_of_cond 4 Tryd.f4 rfl rfl rfl rfl rfl rfl rfl ⟨rfl, rfl, rfl, rfl, rfl⟩ rfl rfl rfl rfl rfl (by kernel_rfl) Tryd.func4 (by kernel_rfl)
    (of_decide_eq_true (by kernel_rfl)) (by unfold Func.isWrapper; first | (rw [if_pos (by decide +kernel)]; kernel_rfl) | (rw [if_neg (by decide +kernel)]; exact ⟨rfl, rfl⟩))
    (fun os started H enc _ F => by rw [OpenClaim.pre_eq_preRow]; exact lifted os started H enc F)

theorem plain (f : FuncId) (fn : Func) (hf : Tryd.pinned.checked.prog.funcNamed "postern/posternlaw01.AbleWalks" = some f) (hfn : Tryd.pinned.checked.prog.funcs[f]? = some fn) :
    false = Tryd.pinned.checked.prog.looks [] ∧ ∀ (j : Nat) t, fn.params[j]? = some t → Tryd.pinned.checked.prog.wantsStandIn t = false := by
  obtain rfl : f = 4 := Option.some.inj ((show Tryd.prog.funcNamed "postern/posternlaw01.AbleWalks" = some 4 by kernel_rfl).symm.trans hf) |>.symm
  obtain rfl : fn = Tryd.f4 := (Option.some.inj (Tryd.func4.symm.trans hfn)).symm
  refine ⟨by kernel_rfl, fun j t ht => ?_⟩
  rw [Tryd.params4] at ht
  have hm := Array.mem_of_getElem? ht
  simp only [List.mem_toArray, List.mem_cons, List.not_mem_nil, or_false] at hm
  rcases hm with rfl | rfl
  · exact (show Tryd.prog.wantsStandIn 22 = false by kernel_rfl)
  · exact (show Tryd.prog.wantsStandIn 3 = false by kernel_rfl)

theorem card : Rows.AbleWalksCardSaid :=
  Claim7.holds_tied_plain_at .later [] _ _ _ _ said (fun _ h => by cases h) (by kernel_rfl) (fun _ h => by cases h) ableWalks_row_tie rfl ⟨rfl, rfl⟩ (by kernel_rfl) rfl plain (by kernel_rfl)
end AbleWalks
end Go.Proofs.YtohhobmjebdfaaaDoor
