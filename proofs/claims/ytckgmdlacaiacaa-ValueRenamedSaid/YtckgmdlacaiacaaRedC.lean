/-
  ValueRenamed: for every value and every three lists of references, the call answers true, and they read afterwards as they read before.
  CONDITIONS: none of its own.
-/
import Derived.Deep.DeepHandedRow
import Derived.Lib.LaidTab
import Derived.Test.YtckgmdlacaiacaaRed
import Derived.Test.YtckgmdlacaiacaaOpenI
import Derived.Test.YtckgmdlacaiacaaEnd
namespace Go.Proofs.Ytckgmdlacaiacaa
open Go.ChangeShapes Go.WideShapes Go.ChangeAt Go.RowKit Go.Shelf Go.ChangeMaps
theorem own : ownKnob Try.prog.godebug = none := by kernel_rfl
/-- A world for the witness: the settled one. -/
noncomputable def laidWorld (os : Os) : World := World.holding Try.prog os ⟨#[], #[], []⟩
theorem Renamed_s {pp : Nat → Prop} {m : Bool} (t : VT) (v : Value) (fr ts next : List Int) (FA TA NA : Option Addr) (fc tc nc : Nat) (w : World) (h : Lies w pp m t v) (hpp : ∀ b, pp b → b < w.heap.size) (hfr : IntsAt w w.heap.size FA fr) (hto : IntsAt w w.heap.size TA ts) (hne : IntsAt w w.heap.size NA next)
    (hf64 : In64 fr) (ht64 : In64 ts) (hn64 : In64 next) (hfl : fr.length ≤ maxLen) (htl : ts.length ≤ maxLen) (hnl : next.length ≤ maxLen) :
    Calls Try.prog 12 #[v, .slice FA fr.length fc, .slice TA ts.length tc, .slice NA next.length nc] w fun e w' => e = .returned (.bool true) ∧ Below w.heap.size w w' :=
  ValueRenamed_w t v fr ts next FA TA NA fc tc nc w h hpp hfr hto hne hf64 ht64 hn64 (by unfold maxLen at hfl; omega) (by unfold maxLen at htl; omega) (by unfold maxLen at hnl; omega)
namespace ValueRenamed
set_option maxRecDepth 100000 in
theorem contract (H : Type) (enc : TypeId × Value → H) (W : World) (base : Nat) (args : Array Value) (ds gs : List (DataW H)) (before : List MemPlace)
    (hval : ∀ (j : Nat) t v, Try.f12.params[j]? = some t → args[j]? = some v → Value.okWide Try.prog W .any base t v)
    (hW : DataW.Whole enc Try.prog Try.f12.params.toList Rows.valueRenamedSpec.vars false W args.toList ds gs before) (_hL : laidMetH Try.prog Rows.valueRenamedRow.laid W) :
    Calls Try.prog 12 args W fun e W' => ∃ v, e = .returned v ∧ Rows.valueRenamedSpec.post enc Try.prog Try.f12 false true false false W args v W' := by
  have hW' := hW
  obtain ⟨p, q, hA0, hV, rfl, hfz, hnd⟩ := hW
  have hA : DataW.TrodAll enc Try.prog W 0 (fun _ => true) true Try.f12.params.toList args.toList ds p := hA0
  rw [Try.params12] at hA hval
  obtain ⟨v0, vs0, d0, ds0, p0, q0, hargs, rfl, rfl, h0, r0⟩ := trodAll_cons hA
  obtain ⟨v1, vs1, d1, ds1, p1, q1, rfl, rfl, rfl, h1, r1⟩ := trodAll_cons r0
  obtain ⟨v2, vs2, d2, ds2, p2, q2, rfl, rfl, rfl, h2, r2⟩ := trodAll_cons r1
  obtain ⟨v3, vs3, d3, ds3, p3, q3, rfl, rfl, rfl, h3, r3⟩ := trodAll_cons r2
  obtain ⟨rfl, rfl, rfl⟩ := trodAll_nil r3
  obtain rfl : args = #[v0, v1, v2, v3] := by cases args; simp_all
  obtain ⟨rfl, rfl⟩ := trodVars_none hV
  obtain ⟨t0, ht0⟩ := open_value (hval 0 26 v0 rfl rfl) h0
  obtain ⟨l1, A1, cap1, rfl, hi1, hn1, h641, hl1, hc1, hm1⟩ := open_refs (hval 1 30 v1 rfl rfl) h1
  obtain ⟨l2, A2, cap2, rfl, hi2, hn2, h642, hl2, hc2, hm2⟩ := open_refs (hval 2 30 v2 rfl rfl) h2
  obtain ⟨l3, A3, cap3, rfl, hi3, hn3, h643, hl3, hc3, hm3⟩ := open_refs (hval 3 30 v3 rfl rfl) h3
  clear hA0
  refine (Renamed_s t0 v0 l1 l2 l3 A1 A2 A3 cap1 cap2 cap3 W ht0 (fun _ h => h) hi1 hi2 hi3 h641 h642 h643 hl1 hl2 hl3).mono fun e W' ⟨he, hb⟩ => ?_
  subst he
  exact ⟨_, rfl, law_post (by kernel_rfl) (by kernel_rfl) hW' rfl rfl rfl Try.underlying4 hb⟩

theorem laid_met (os : Os) : laidMet Try.prog Rows.valueRenamedRow.laid ((laidWorld os).forCall (fun _ _ => 0) ⟨#[], #[.agg #[.int .u8 0, .int .i64 0, .string ⟨#[]⟩, .slice none 0 0, .int .i64 0], .slice none 0 0, .slice none 0 0, .slice none 0 0], []⟩).memory :=
  laidMet_of_run' 8 (by kernel_rfl) (by kernel_rfl)
theorem reads (os : Os) {H : Type} (enc : TypeId × Value → H) : ∃ places, DataW.whole enc Try.prog ((laidWorld os).forCall (fun _ _ => 0) ⟨#[], #[.agg #[.int .u8 0, .int .i64 0, .string ⟨#[]⟩, .slice none 0 0, .int .i64 0], .slice none 0 0, .slice none 0 0, .slice none 0 0], []⟩).memory Try.f12.params.toList Rows.valueRenamedSpec.vars false (#[Value.agg #[.int .u8 0, .int .i64 0, .string ⟨#[]⟩, .slice none 0 0, .int .i64 0], Value.slice none 0 0, Value.slice none 0 0, Value.slice none 0 0] : Array Value).toList 8 = some ([.agg [.lit (.int .u8 0), .lit (.int .i64 0), .lit (.string []), .nil, .lit (.int .i64 0)], .nil, .nil, .nil], [], places) :=
  ⟨[], by kernel_rfl⟩

set_option maxRecDepth 100000 in
theorem lifted (os : Os) (started : os.Started) (H : Type) (enc : TypeId × Value → H) (F : Stop.Interp) :
    ReturnsInHanded {} Try.checked os 12 .any ((OpenSpec.ofChange Rows.valueRenamedSpec).preRow enc Try.prog Try.f12 Rows.valueRenamedRow.domain false Rows.valueRenamedRow.laid) (((OpenSpec.ofChange Rows.valueRenamedSpec).at F).post enc Try.prog Try.f12 false true false false) := by
  obtain ⟨places, hx⟩ := reads os enc
  refine returnsInHanded_of_row (C := Try.checked) (s := OpenSpec.ofChange Rows.valueRenamedSpec) own started (by kernel_rfl) Try.func12
    (witness_row_at (enc := enc) (C := Try.checked) false (laidWorld os) #[.agg #[.int .u8 0, .int .i64 0, .string ⟨#[]⟩, .slice none 0 0, .int .i64 0], .slice none 0 0, .slice none 0 0, .slice none 0 0] rfl (by kernel_rfl) (by kernel_rfl) (by kernel_rfl)
      (OpenSpec.preRow_of_cond 8 hx (by kernel_rfl) (fun k hk => by cases hk) (by kernel_rfl) (laid_met os))) ?_
  intro W base args ds gs before hval hW _ _ _ hL _ _
  exact contract H enc W base args ds gs before hval hW hL

theorem said : Rows.ValueRenamedSaid :=
  OpenClaim.holds_of_cond 12 Try.f12 rfl rfl rfl rfl rfl rfl rfl ⟨rfl, rfl, rfl, rfl, rfl⟩ rfl rfl rfl rfl rfl (by kernel_rfl) Try.func12 (by kernel_rfl)
    (of_decide_eq_true (by kernel_rfl)) (by unfold Func.isWrapper; first | (rw [if_pos (by decide +kernel)]; kernel_rfl) | (rw [if_neg (by decide +kernel)]; exact ⟨rfl, rfl⟩))
    (fun os started H enc _ F => by rw [OpenClaim.pre_eq_preRow]; exact lifted os started H enc F)

end ValueRenamed
end Go.Proofs.Ytckgmdlacaiacaa
