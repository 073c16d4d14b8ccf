/-
  AbleBack: Read of a set's text is the set; the text of what Read takes is the text.
  CONDITIONS: the variable able.names holds what its text lays (the card ties that to the program's text).
-/
import Derived.Test.YtohhobmjebdfaaaDoorTab
namespace Go.Proofs.YtohhobmjebdfaaaDoor
open Go.ChangeShapes Go.WideShapes Go.ChangeAt Go.RowKit
open Go.ChangeMaps (open_string shut_string)

theorem read_text : ∀ a : Fin 64, readN (textB a.val) = some a := by decide +kernel
theorem text_of_read {s : ByteArray} {b : Fin 64} (h : readN s = some b) : textB b.val = s := by
  unfold readN at h
  have := List.find?_some h
  simpa using this

theorem Text_of (a : Int) (n : Nat) (s : ByteArray) (hs : textB n = s) (ha : a = (n : Int)) (hn : n < 64) (w : World) (hN : NamesAt w) :
    Calls Tryd.prog 13 #[.int .u8 a] w fun e W' => e = .returned (.tuple #[.string s, .int .i64 0]) ∧ Below w.heap.size w W' := by
  subst ha
  exact (Text_w n w (by omega) (by omega) hN).mono fun _ _ h => ⟨by rw [h.1, if_pos (by omega), if_pos (by omega), ← hs]; rfl, h.2⟩
theorem Read_some {s : ByteArray} {b : Fin 64} (hr : readN s = some b) (w : World) (hN : NamesAt w) :
    Calls Tryd.prog 34 #[.string s] w fun e W' => e = .returned (.tuple #[.int .u8 (b.val : Int), .int .i64 0]) ∧ Below w.heap.size w W' :=
  (Read_w s w hN).mono fun _ _ h => ⟨by rw [h.1]; unfold readV; rw [hr]; rfl, h.2⟩
theorem Read_none {s : ByteArray} (hr : readN s = none) (w : World) (hN : NamesAt w) :
    Calls Tryd.prog 34 #[.string s] w fun e W' => e = .returned (.tuple #[.int .u8 0, .int .i64 10]) ∧ Below w.heap.size w W' :=
  (Read_w s w hN).mono fun _ _ h => ⟨by rw [h.1]; unfold readV; rw [hr]; rfl, h.2⟩

set_option maxRecDepth 100000 in
set_option maxHeartbeats 2000000 in
theorem back_w (A : Int) (a : Nat) (hA : A % 64 = (a : Int)) (ha : a < 64) (bA : 0 ≤ A ∧ A ≤ 255) (s : ByteArray) (w : World) (hN : NamesAt w) :
    Calls Tryd.prog 9 #[.int .u8 A, .string s] w fun e W' => e = .returned (.bool true) ∧ Below w.heap.size w W' := by
  have h0 := hN.size
  obtain ⟨t, ht⟩ : ∃ t, textB a = t := ⟨_, rfl⟩
  have hrt : readN t = some ⟨a, ha⟩ := by rw [← ht]; exact read_text ⟨a, ha⟩
  have Ht := Lib.hid ht
  have Hrt := Lib.hid hrt
  clear ht hrt
  cases hr : readN s with
  | none =>
    have Hr := Lib.hid hr
    clear hr
    go_enter Tryd.func9, Tryd.ntmps9
    go_wp2_with fail
    refine (Text_of _ a t Ht.out rfl ha _ hN).mono ?_
    rintro e w1 ⟨rfl, hb1⟩
    have hN1 := hN.below hb1 h0
    go_wp2_with fail
    refine (Read_some Hrt.out _ hN1).mono ?_
    rintro e w2 ⟨rfl, hb2⟩
    have hN2 := hN1.below hb2 hN1.size
    go_wp2_with fail
    refine (Read_none Hr.out _ hN2).mono ?_
    rintro e w3 ⟨rfl, hb3⟩
    have hN3 := hN2.below hb3 hN2.size
    go_wp2_with fail
    refine (lives_w _ hN3).mono ?_
    rintro e w4 ⟨rfl, hb4⟩
    go_wp2
    go_ret
    exact ⟨rfl, ((hb1.trans (hb2.mono hb1.size)).trans (hb3.mono (Nat.le_trans hb1.size hb2.size))).trans (hb4.mono (Nat.le_trans hb1.size (Nat.le_trans hb2.size hb3.size)))⟩
  | some b =>
    have Hr := Lib.hid hr
    have Htb := Lib.hid (text_of_read hr)
    have hb := b.isLt
    clear hr
    go_enter Tryd.func9, Tryd.ntmps9
    go_wp2_with fail
    refine (Text_of _ a t Ht.out rfl ha _ hN).mono ?_
    rintro e w1 ⟨rfl, hb1⟩
    have hN1 := hN.below hb1 h0
    go_wp2_with fail
    refine (Read_some Hrt.out _ hN1).mono ?_
    rintro e w2 ⟨rfl, hb2⟩
    have hN2 := hN1.below hb2 hN1.size
    go_wp2_with fail
    refine (Read_some Hr.out _ hN2).mono ?_
    rintro e w3 ⟨rfl, hb3⟩
    have hN3 := hN2.below hb3 hN2.size
    go_wp2_with fail
    refine (Text_of _ b.val s Htb.out rfl hb _ hN3).mono ?_
    rintro e w4 ⟨rfl, hb4⟩
    have hN4 := hN3.below hb4 hN3.size
    go_wp2_with fail
    refine (lives_w _ hN4).mono ?_
    rintro e w5 ⟨rfl, hb5⟩
    go_wp2
    go_ret
    exact ⟨rfl, (((hb1.trans (hb2.mono hb1.size)).trans (hb3.mono (Nat.le_trans hb1.size hb2.size))).trans (hb4.mono (Nat.le_trans hb1.size (Nat.le_trans hb2.size hb3.size)))).trans (hb5.mono (Nat.le_trans hb1.size (Nat.le_trans hb2.size (Nat.le_trans hb3.size hb4.size))))⟩

theorem back_all (A : Int) (s : ByteArray) (w : World) (bA : 0 ≤ A ∧ A ≤ 255) (hN : NamesAt w) :
    Calls Tryd.prog 9 #[.int .u8 A, .string s] w fun e W' => e = .returned (.bool true) ∧ Below w.heap.size w W' := by
  obtain ⟨a, hA⟩ := Int.eq_ofNat_of_zero_le (show 0 ≤ A % 64 by omega)
  exact back_w A a hA (by omega) bA s w hN
namespace AbleBack
theorem contract (H : Type) (enc : TypeId × Value → H) (W : World) (base : Nat) (args : Array Value) (ds gs : List (DataW H)) (before : List MemPlace)
    (hval : ∀ (j : Nat) t v, Tryd.f9.params[j]? = some t → args[j]? = some v → Value.okWide Tryd.prog W .any base t v)
    (hW : DataW.Whole enc Tryd.prog Tryd.f9.params.toList Rows.ableBackSpec.vars false W args.toList ds gs before) (hL : laidMetH Tryd.prog Rows.ableBackRow.laid W) :
    Calls Tryd.prog 9 args W fun e W' => ∃ v, e = .returned v ∧ Rows.ableBackSpec.post enc Tryd.prog Tryd.f9 false true false false W args v W' := by
  have hW' := hW
  obtain ⟨p, q, hA0, hV, rfl, hfz, hnd⟩ := hW
  have hA : DataW.TrodAll enc Tryd.prog W 0 (fun _ => true) true Tryd.f9.params.toList args.toList ds p := hA0
  rw [Tryd.params9] at hA hval
  obtain ⟨v0, vs0, d0, ds0, p0, q0, hargs, rfl, rfl, h0, r0⟩ := trodAll_cons hA
  obtain ⟨v1, vs1, d1, ds1, p1, q1, rfl, rfl, rfl, h1, r1⟩ := trodAll_cons r0
  obtain ⟨rfl, rfl, rfl⟩ := trodAll_nil r1
  obtain rfl : args = #[v0, v1] := by cases args; simp_all
  obtain ⟨rfl, rfl⟩ := trodVars_none hV
  obtain ⟨a0, rfl, rfl, rfl, w0⟩ := open_int Tryd.underlying22 (hval 0 22 v0 rfl rfl) h0
  have b0 : 0 ≤ a0 ∧ a0 ≤ 255 := by simpa [Lit.wf, IntKind.min, IntKind.max, IntKind.signed, IntKind.bits] using w0
  obtain ⟨a1, rfl, rfl, rfl, w1⟩ := open_string Tryd.underlying9 (hval 1 9 v1 rfl rfl) h1
  clear hA0
  refine (back_all a0 a1 W b0 (namesAt hL)).mono fun e W' ⟨he, hb⟩ => ?_
  subst he
  exact ⟨_, rfl, law_post (by kernel_rfl) (by kernel_rfl) hW' rfl rfl rfl Tryd.underlying4 hb⟩

theorem laid_met (os : Os) : laidMet Tryd.prog Rows.ableBackRow.laid ((laidWorld os).forCall (fun _ _ => 0) ⟨#[], #[.int .u8 0, .string ⟨#[]⟩], []⟩).memory :=
  laidMet_of_run' 8 (by kernel_rfl) (by kernel_rfl)
theorem reads (os : Os) {H : Type} (enc : TypeId × Value → H) : ∃ places, DataW.whole enc Tryd.prog ((laidWorld os).forCall (fun _ _ => 0) ⟨#[], #[.int .u8 0, .string ⟨#[]⟩], []⟩).memory Tryd.f9.params.toList Rows.ableBackSpec.vars false (#[Value.int .u8 0, Value.string ⟨#[]⟩] : Array Value).toList 8 = some ([.lit (.int .u8 0), .lit (.string [])], [], places) :=
  ⟨[], by kernel_rfl⟩

set_option maxRecDepth 100000 in
theorem lifted (os : Os) (started : os.Started) (H : Type) (enc : TypeId × Value → H) (F : Stop.Interp) :
    ReturnsInHanded {} Tryd.checked os 9 .any ((OpenSpec.ofChange Rows.ableBackSpec).preRow enc Tryd.prog Tryd.f9 Rows.ableBackRow.domain false Rows.ableBackRow.laid) (((OpenSpec.ofChange Rows.ableBackSpec).at F).post enc Tryd.prog Tryd.f9 false true false false) := by
  obtain ⟨places, hx⟩ := reads os enc
  refine returnsInHanded_of_row (C := Tryd.checked) (s := OpenSpec.ofChange Rows.ableBackSpec) own started (by kernel_rfl) Tryd.func9
    (witness_row_at (enc := enc) (C := Tryd.checked) false (laidWorld os) #[.int .u8 0, .string ⟨#[]⟩] rfl (by kernel_rfl) (by kernel_rfl) (by kernel_rfl)
      (OpenSpec.preRow_of_cond 8 hx (by kernel_rfl) (fun k hk => by cases hk) (by kernel_rfl) (laid_met os))) ?_
  intro W base args ds gs before hval hW _ _ _ hL _ _
  exact contract H enc W base args ds gs before hval hW hL

theorem said : Rows.AbleBackSaid :=
  OpenClaim.holds_of_cond 9 Tryd.f9 rfl rfl rfl rfl rfl rfl rfl ⟨rfl, rfl, rfl, rfl, rfl⟩ rfl rfl rfl rfl rfl (by kernel_rfl) Tryd.func9 (by kernel_rfl)
    (of_decide_eq_true (by kernel_rfl)) (by unfold Func.isWrapper; first | (rw [if_pos (by decide +kernel)]; kernel_rfl) | (rw [if_neg (by decide +kernel)]; exact ⟨rfl, rfl⟩))
    (fun os started H enc _ F => by rw [OpenClaim.pre_eq_preRow]; exact lifted os started H enc F)

theorem plain (f : FuncId) (fn : Func) (hf : Tryd.pinned.checked.prog.funcNamed "postern/posternlaw01.AbleBack" = some f) (hfn : Tryd.pinned.checked.prog.funcs[f]? = some fn) :
    false = Tryd.pinned.checked.prog.looks [] ∧ ∀ (j : Nat) t, fn.params[j]? = some t → Tryd.pinned.checked.prog.wantsStandIn t = false := by
  obtain rfl : f = 9 := Option.some.inj ((show Tryd.prog.funcNamed "postern/posternlaw01.AbleBack" = some 9 by kernel_rfl).symm.trans hf) |>.symm
  obtain rfl : fn = Tryd.f9 := (Option.some.inj (Tryd.func9.symm.trans hfn)).symm
  refine ⟨by kernel_rfl, fun j t ht => ?_⟩
  rw [Tryd.params9] at ht
  have hm := Array.mem_of_getElem? ht
  simp only [List.mem_toArray, List.mem_cons, List.not_mem_nil, or_false] at hm
  rcases hm with rfl | rfl
  · exact (show Tryd.prog.wantsStandIn 22 = false by kernel_rfl)
  · exact (show Tryd.prog.wantsStandIn 9 = false by kernel_rfl)

theorem card : Rows.AbleBackCardSaid :=
  Claim7.holds_tied_plain_at .later [] _ _ _ _ said (fun _ h => by cases h) (by kernel_rfl) (fun _ h => by cases h) ableBack_row_tie rfl ⟨rfl, rfl⟩ (by kernel_rfl) rfl plain (by kernel_rfl)
end AbleBack
end Go.Proofs.YtohhobmjebdfaaaDoor
