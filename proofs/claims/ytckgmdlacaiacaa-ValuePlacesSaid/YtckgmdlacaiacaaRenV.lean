/-
  value.Rename.
-/
import Derived.StillTailTactics
import Derived.Test.YtckgmdlacaiacaaRen
import Derived.Test.YtckgmdlacaiacaaRefs0
import Derived.Test.YtckgmdlacaiacaaLooks0
namespace Go.Proofs.Ytckgmdlacaiacaa
open Go.RowKit Go.Shelf Go.Maps
attribute [local go_sem] Oper.semAt_some

/-- What a reference is turned into: by the first of some pairs that names it. -/
def lookF : List Int → List Int → Int → Option Int
  | a :: fr, b :: to, r => if a = r then some b else lookF fr to r
  | _, _, _ => none
theorem lookF_drop {fr to : List Int} {j : Nat} (h : j < fr.length) (h' : j < to.length) (r : Int) : lookF (fr.drop j) (to.drop j) r = if fr[j] = r then some to[j] else lookF (fr.drop (j + 1)) (to.drop (j + 1)) r := by
  rw [List.drop_eq_getElem_cons h, List.drop_eq_getElem_cons h', lookF]
def renOut : Option VT → Option VT × Int
  | none => (none, 21)
  | some u => (some u, 0)
def renOk (t : VT) (fr to : List Int) : Bool := t.may && (fr.length == to.length) && posAll fr && posAll to
/-- What Rename answers. -/
def renRes (t : VT) (fr to : List Int) : Option VT × Int := if renOk t fr to = true then renOut (renT (lookF fr to) t) else (none, 2)
/-- Numbers such as a machine holds. -/
def In64 (l : List Int) : Prop := ∀ x ∈ l, -9223372036854775808 ≤ x ∧ x ≤ 9223372036854775807
theorem wf64 {x : Int} (h : -9223372036854775808 ≤ x ∧ x ≤ 9223372036854775807) : (Lit.int .i64 x).wf = true := by
  simp [Lit.wf, IntKind.min, IntKind.max, IntKind.signed, IntKind.bits]; omega
theorem MapIs.made : MapIs (.map []) (fun _ => none) := ⟨fun _ => rfl, fun _ _ h => by cases h⟩
theorem MapIs.put {D : DataW Unit} {f g : Int → Option Int} {a b : Int} (h : MapIs D f) (hD : Maps.IsMap D) (hg : ∀ r, g r = if a = r then some b else f r) : MapIs (D.put (.int .i64 a) (.lit (.int .i64 b))) g := by
  constructor
  · intro r
    rw [hg]
    by_cases e : a = r
    · subst e
      rw [if_pos rfl, Maps.has_put_same hD (show WideAt.IsKeyLit (.int .i64 a) from trivial)]
      rfl
    · rw [if_neg e, Maps.has_put_other (by simp; exact fun h => e h.symm), h.has]
  · intro r x hx
    rw [hg] at hx
    by_cases e : a = r
    · subst e
      rw [if_pos rfl] at hx
      cases hx
      exact Maps.atKey_put_same hD (show WideAt.IsKeyLit (.int .i64 a) from trivial) _ _
    · rw [if_neg e] at hx
      rw [Maps.atKey_put_other (by simp; exact fun h => e h.symm)]
      exact h.get r x hx
theorem MapIs.congr {D : DataW Unit} {f g : Int → Option Int} (h : MapIs D f) (he : ∀ r, g r = f r) : MapIs D g := ⟨fun r => by rw [he]; exact h.has r, fun r x hx => h.get r x (by rw [← he]; exact hx)⟩
/-- While the map is filled: from place j on. -/
structure MpRun (fr to : List Int) (M : Nat) (j : Nat) (W : World) : Prop where
  own : ∃ D, W.ownsMap Try.prog 24 (plainElem Try.prog 24) M (fr.length - j) D ∧ MapIs D (lookF (fr.drop j) (to.drop j))

set_option maxRecDepth 100000 in
set_option maxHeartbeats 8000000 in
theorem Rename_w {pp : Nat → Prop} {m : Bool} (t : VT) (v : Value) (fr to : List Int) (FA TA : Option Addr) (fc tc : Nat) (w : World) (h : Lies w pp m t v) (hpp : ∀ b, pp b → b < w.heap.size) (hfr : IntsAt w w.heap.size FA fr) (hto : IntsAt w w.heap.size TA to)
    (hfl : fr.length ≤ 4294967295) (htl : to.length ≤ 4294967295) (hf64 : In64 fr) (ht64 : In64 to) :
    Calls Try.prog 47 #[v, .slice FA fr.length fc, .slice TA to.length tc] w (ReadRes w (renRes t fr to)) := by
  obtain ⟨A, cap, rfl⟩ := h.cells
  have HM := Lib.hid (fun W hW => may_w t _ W (h.below (W' := W) hW hpp) (fun b hb => Nat.lt_of_lt_of_le (hpp b hb) (Below.size hW)))
  have HO := Lib.hid (fun W (hW : Below w.heap.size w W) (hmay : t.may = true) => own_w pp m t _ W (h.below (W' := W) hW hpp) (fun b hb => Nat.lt_of_lt_of_le (hpp b hb) (Below.size hW)) (by have := may_good hmay; omega))
  have HI := Lib.hid (And.intro hfr hto)
  have H64 := Lib.hid (And.intro hf64 ht64)
  have X1 := Five.new (w.alloc (.cells #[.int .u8 (t.k : Int), .int .i64 t.n, .string t.s, .slice A t.l.length cap, .int .i64 t.r] 26)) (.int .u8 0) (.int .i64 0) (.string ⟨#[]⟩) (.slice none 0 0) (.int .i64 0)
  have X0 := (Five.new w (.int .u8 (t.k : Int)) (.int .i64 t.n) (.string t.s) (.slice A t.l.length cap) (.int .i64 t.r)).alloc (.cells #[.int .u8 0, .int .i64 0, .string ⟨#[]⟩, .slice none 0 0, .int .i64 0] 26)
  rw [World.size_alloc] at X1
  have hb0 := Lib.hid (((Below.refl w.heap.size w).alloc (Nat.le_refl _) (.cells #[.int .u8 (t.k : Int), .int .i64 t.n, .string t.s, .slice A t.l.length cap, .int .i64 t.r] 26)).alloc (by simp) (.cells #[.int .u8 0, .int .i64 0, .string ⟨#[]⟩, .slice none 0 0, .int .i64 0] 26))
  have HX := Lib.hid (And.intro X0 X1)
  have HR := Lib.hid (show renRes t fr to = if renOk t fr to = true then renOut (renT (lookF fr to) t) else (none, 2) from rfl)
  have HK := Lib.hid (show renOk t fr to = (t.may && (fr.length == to.length) && posAll fr && posAll to) from rfl)
  obtain ⟨q, hq⟩ : ∃ q, t.may = q := ⟨_, rfl⟩
  rw [hq] at HM HK
  have Hq := Lib.hid hq
  generalize renRes t fr to = res at *
  generalize renOk t fr to = ok at *
  clear h hpp hfr hto hf64 ht64 X0 X1 hq
  have hmm := @run_makeMap Try.prog
  go_enter Try.func47, Try.ntmps47
  go_wp2_with fail
  refine (HM.out _ hb0.out).mono ?_
  rintro e w1 ⟨rfl, hb⟩
  have hB := hb0.out.trans (hb.mono (by simp; omega))
  have Y0 := HX.out.1.below hb (by simp; omega)
  have Y1 := HX.out.2.below hb (by simp)
  have HB := Lib.hid hB
  have HY := Lib.hid (And.intro Y0 Y1)
  have e0 := Y0.e0
  have e1 := Y0.e1
  have e2 := Y0.e2
  have e3 := Y0.e3
  have e4 := Y0.e4
  have f0 := Y1.e0
  have f1 := Y1.e1
  have f2 := Y1.e2
  have f3 := Y1.e3
  have f4 := Y1.e4
  have z0 := Y1.froz 0
  have z1 := Y1.froz 1
  have z2 := Y1.froz 2
  have z3 := Y1.froz 3
  have z4 := Y1.froz 4
  have hs1 := hB.size
  have hs2 := Y1.lt
  clear hb hB Y0 Y1 HX hb0
  have HP1 := Lib.hid (positive_w fr FA fc w.heap.size w1 (HI.out.1.below HB.out (Nat.le_refl _)) hfl)
  have HP2 := Lib.hid (positive_w to TA tc w.heap.size w1 (HI.out.2.below HB.out (Nat.le_refl _)) htl)
  have HBad := Lib.hid (fun e : ok = false => HR.out.trans (if_neg (by rw [e]; simp)))
  cases q
  · have hR := HBad.out (by rw [HK.out]; rfl)
    have HRR := Lib.hid hR
    clear hR
    go_wp2
    refine ret_five2 (B := w.heap.size + 1) rfl (HY.out.2.set5 _ _ _ _ _) rfl rfl ?_
    rw [HRR.out]
    exact ⟨below_set5 HB.out (by omega) _ _ _ _ _, rfl⟩
  by_cases hlen : fr.length = to.length
  case neg =>
    have p1 : ((fr.length : Int) != (to.length : Int)) = true := by rw [bne_iff_ne]; omega
    have p1' : (fr.length != to.length) = true := by rw [bne_iff_ne]; exact hlen
    have HRR := Lib.hid (HBad.out (by rw [HK.out, show (fr.length == to.length) = false by rw [beq_eq_false_iff_ne]; exact hlen]; rfl))
    have HL := Lib.hid hlen
    clear hlen
    go_wp2
    refine ret_five2 (B := w.heap.size + 1) rfl (HY.out.2.set5 _ _ _ _ _) rfl rfl ?_
    rw [HRR.out]
    exact ⟨below_set5 HB.out (by omega) _ _ _ _ _, rfl⟩
  have p1 : ((fr.length : Int) != (to.length : Int)) = false := by rw [bne_eq_false_iff_eq]; omega
  have p1' : (fr.length != to.length) = false := by rw [bne_eq_false_iff_eq]; exact hlen
  have HL := Lib.hid hlen
  clear hlen
  go_wp2_with fail
  refine HP1.out.mono ?_
  rintro e w' ⟨rfl, hw⟩
  subst hw
  clear HP1
  obtain ⟨q1, hq1⟩ : ∃ q, posAll fr = q := ⟨_, rfl⟩
  rw [hq1] at HK ⊢
  clear hq1
  cases q1
  · have HRR := Lib.hid (HBad.out (by rw [HK.out, Bool.and_false, Bool.false_and]))
    go_wp2
    refine ret_five2 (B := w.heap.size + 1) rfl (HY.out.2.set5 _ _ _ _ _) rfl rfl ?_
    rw [HRR.out]
    exact ⟨below_set5 HB.out (by omega) _ _ _ _ _, rfl⟩
  go_wp2_with fail
  refine HP2.out.mono ?_
  rintro e w2 ⟨rfl, hw⟩
  subst hw
  clear HP2
  obtain ⟨q2, hq2⟩ : ∃ q, posAll to = q := ⟨_, rfl⟩
  rw [hq2] at HK ⊢
  clear hq2
  cases q2
  · have HRR := Lib.hid (HBad.out (by rw [HK.out, Bool.and_false]))
    go_wp2
    refine ret_five2 (B := w.heap.size + 1) rfl (HY.out.2.set5 _ _ _ _ _) rfl rfl ?_
    rw [HRR.out]
    exact ⟨below_set5 HB.out (by omega) _ _ _ _ _, rfl⟩
  have HRR := Lib.hid (HR.out.trans (if_pos (by rw [HK.out, show (fr.length == to.length) = true by rw [beq_iff_eq]; exact HL.out]; rfl)))
  clear HBad HR HK
  have HB2 := Lib.hid (HB.out.alloc hs1 (.map #[] 0))
  have HY2 := Lib.hid (And.intro (HY.out.1.alloc (.map #[] 0)) (HY.out.2.alloc (.map #[] 0)))
  have HM0 := Lib.hid (show MpRun fr to w2.heap.size fr.length (w2.alloc (.map #[] 0)) from ⟨.map [], by rw [Nat.sub_self]; exact World.ownsMap_made _ _ _ _, by rw [List.drop_of_length_le (Nat.le_refl _)]; exact MapIs.made⟩)
  clear e0 e1 e2 e3 e4 f0 f1 f2 f3 f4 z0 z1 z2 z3 z4 p1 p1'
  go_wp2
  go_loopw [9] (fun iv wr => ∃ j : Nat, j ≤ fr.length ∧ iv = .int .i64 ((j : Int) - 1) ∧ Below w.heap.size w wr ∧ Five wr w.heap.size (.int .u8 (t.k : Int)) (.int .i64 t.n) (.string t.s) (.slice A t.l.length cap) (.int .i64 t.r) ∧ Five wr (w.heap.size + 1) (.int .u8 0) (.int .i64 0) (.string ⟨#[]⟩) (.slice none 0 0) (.int .i64 0) ∧ w2.heap.size < wr.heap.size ∧ MpRun fr to w2.heap.size j wr) (fun iv _ => (intOf iv + 1).toNat)
  case atStart => exact ⟨fr.length, Nat.le_refl _, rfl, HB2.out, HY2.out.1, HY2.out.2, by simp, HM0.out⟩
  case round =>
    obtain ⟨j, hj, rfl, hB, hX, hY, hMs, hM⟩ := hrel
    cases j with
    | zero =>
      obtain ⟨D, hown, hD⟩ := hM.own
      rw [List.drop_zero, List.drop_zero] at hD
      have HJ := Lib.hid (And.intro hB (And.intro hX (And.intro hY (And.intro hown hD))))
      have hj1 : ((0 : Nat) : Int) - 1 = -1 := by omega
      rw [hj1]
      have e0 := hX.e0
      have e1 := hX.e1
      have e2 := hX.e2
      have e3 := hX.e3
      have e4 := hX.e4
      have hsr := hB.size
      have hyl := hY.lt
      clear hB hX hY hM hown hD hj1
      go_wp2_with fail
      refine (HO.out _ HJ.out.1 Hq.out).mono ?_
      rintro e w3 ⟨v', rfl, hF, hb⟩
      obtain ⟨A2, cap2, rfl⟩ := hF.cells
      obtain ⟨F, hown, hnd, hFm⟩ := hF
      have hs3 := hb.size
      have HF := Lib.hid (And.intro hown (And.intro hnd (And.intro hFm hb)))
      clear hb hown hnd hFm e0 e1 e2 e3 e4
      have HC := Lib.hid (rename_w (lookF fr to) D HJ.out.2.2.2.2 w2.heap.size (fr.length - 0) t w3.heap.size 0 #[.int .u8 (t.k : Int), .int .i64 t.n, .string t.s, .slice A2 t.l.length cap2, .int .i64 t.r] F (w3.alloc (.cells #[.int .u8 (t.k : Int), .int .i64 t.n, .string t.s, .slice A2 t.l.length cap2, .int .i64 t.r] 26))
        (heap_alloc_new _ _) (show 0 * 5 + 4 < 5 by decide) (HF.out.1.below ((Below.refl w3.heap.size w3).alloc (Nat.le_refl _) _) (fun g hg => (HF.out.2.2.1 g hg).2)) (List.nodup_cons.2 ⟨fun hm => Nat.lt_irrefl _ (HF.out.2.2.1 _ hm).2, HF.out.2.1⟩) (fun g hg => by have := (HF.out.2.2.1 g hg).2; simp; omega)
        (ownsMap_same HJ.out.2.2.2.1 ((heap_alloc_old _ _ (by omega)).trans (HF.out.2.2.2.block _ hMs))) (fun hm => by
          rcases List.mem_cons.1 hm with e | e
          · omega
          · have := (HF.out.2.2.1 _ e).1; omega))
      go_wp2_with fail
      refine HC.out.mono ?_
      rintro e w4 ⟨ok2, c', rfl, hc, k1, k2, _, k4, k5⟩
      have Y5 := ((HJ.out.2.2.1.below HF.out.2.2.2 (by omega)).alloc (.cells #[.int .u8 (t.k : Int), .int .i64 t.n, .string t.s, .slice A2 t.l.length cap2, .int .i64 t.r] 26)).chg hc (fun hm => by
        rcases List.mem_cons.1 hm with e | e
        · omega
        · have := (HF.out.2.2.1 _ e).1; omega)
      have HB5 := Lib.hid (below_chg ((HJ.out.1.trans (HF.out.2.2.2.mono hsr)).alloc (by omega) (.cells #[.int .u8 (t.k : Int), .int .i64 t.n, .string t.s, .slice A2 t.l.length cap2, .int .i64 t.r] 26)) hc (by simp; omega) (fun g hg => by
        rcases List.mem_cons.1 hg with e | e
        · omega
        · have := (HF.out.2.2.1 _ e).1; omega))
      have HY5 := Lib.hid Y5
      have f0 := Y5.e0
      have f1 := Y5.e1
      have f2 := Y5.e2
      have f3 := Y5.e3
      have f4 := Y5.e4
      have z0 := Y5.froz 0
      have z1 := Y5.froz 1
      have z2 := Y5.froz 2
      have z3 := Y5.froz 3
      have z4 := Y5.froz 4
      have hs5 := hc.size
      rw [World.size_alloc] at hs5
      clear Y5 HC hc
      cases ok2
      · have HV := Lib.hid (HRR.out.trans (congrArg renOut (k4 rfl)))
        clear k1 k2 k4 k5
        go_wp2
        refine ret_five2 (B := w.heap.size + 1) rfl (HY5.out.set5 _ _ _ _ _) rfl rfl ?_
        rw [HV.out]
        exact ⟨below_set5 HB5.out (by omega) _ _ _ _ _, rfl⟩
      · obtain ⟨u, hu, hou⟩ := k5 rfl
        have HV := Lib.hid (HRR.out.trans (congrArg renOut hu))
        obtain ⟨A3, cap3, he⟩ := hou.cells
        obtain ⟨g0, g1, g2, g3, g4⟩ := (cells_of_row (i := 0) k1 (by rw [k2]; exact (show 0 * 5 + 4 < 5 by decide)) (Value.agg.inj he)).get
        rw [he] at hou
        have HU := Lib.hid hou
        clear k1 k2 k4 k5 hu hou he
        go_wp2
        refine ret_five2 (B := w.heap.size + 1) rfl (HY5.out.set5 _ _ _ _ _) rfl rfl ?_
        rw [HV.out]
        refine ⟨below_set5 HB5.out (by omega) _ _ _ _ _, _, rfl, F, ?_, HF.out.2.1, fun g hg => ?_⟩
        · exact Own.same_all _ _ _ (fun g hg => heap_set5_other _ _ _ _ _ (by have := (HF.out.2.2.1 g hg).1; omega)) HU.out
        · have h1 := HF.out.2.2.1 g hg
          exact ⟨by omega, by simp; omega⟩
    | succ j =>
      obtain ⟨D, hown, hD⟩ := hM.own
      obtain ⟨ga, offa, rfl, hga, hca⟩ := HI.out.1 j (by omega)
      obtain ⟨gb, offb, rfl, hgb, hcb⟩ := HI.out.2 j (by have := HL.out; omega)
      have ca := (World.cell?_of_block (w := w) (a := ⟨ga, offa + j, none⟩) (hB.block ga hga)).trans hca
      have cb := (World.cell?_of_block (w := w) (a := ⟨gb, offb + j, none⟩) (hB.block gb hgb)).trans hcb
      have hx64 := H64.out.1 _ (List.getElem_mem (show j < fr.length by omega))
      have hy64 := H64.out.2 _ (List.getElem_mem (show j < to.length by have := HL.out; omega))
      have HLD := Lib.hid (lookF_drop (fr := fr) (to := to) (j := j) (by omega) (by have := HL.out; omega))
      have HJ := Lib.hid (And.intro hB (And.intro hX (And.intro hY (And.intro hown (And.intro hD (And.intro hx64 hy64))))))
      have hjt : j < to.length := by have := HL.out; omega
      have hj1 : ((j + 1 : Nat) : Int) - 1 = (j : Int) := by omega
      rw [hj1]
      clear hB hX hY hM hown hD hx64 hy64 hca hcb hj1
      generalize fr[j] = x at *
      generalize to[j] = y at *
      go_wp2
      have hjI : (j : Int) < (fr.length : Int) := by omega
      have hjI2 : (j : Int) < (to.length : Int) := by omega
      have hj0 : (0 : Int) ≤ (j : Int) := by omega
      go_still_tail 9, (by kernel_rfl)
      change wpList _ _ _ _ _ wr.drew
      have hkey : keyOf Try.prog 24 (.int .i64 x) = some (.int .i64 x) := keyOf_int_mk Try.underlying24 (wf64 HJ.out.2.2.2.2.2.1)
      have HKey := Lib.hid hkey
      clear hkey
      go_wp2_with (at_mapUpdate; refine wpList_mapUpdate_own _ rfl _ _ _ 103 rfl 24 24 law_ref Try.underlying103 _ w2.heap.size (fr.length - (j + 1)) D rfl HJ.out.2.2.2.1.drew (by unfold maxLen; omega) _ _ _ rfl rfl HKey.out _ [] (plainElem_int Try.underlying24 (wf64 HJ.out.2.2.2.2.2.2)) ?_; intro w3 hown3 hg3)
      have HN := Lib.hid (show Below w.heap.size w w3 ∧ Five w3 w.heap.size (.int .u8 (t.k : Int)) (.int .i64 t.n) (.string t.s) (.slice A t.l.length cap) (.int .i64 t.r) ∧ Five w3 (w.heap.size + 1) (.int .u8 0) (.int .i64 0) (.string ⟨#[]⟩) (.slice none 0 0) (.int .i64 0) ∧ w2.heap.size < w3.heap.size ∧ MpRun fr to w2.heap.size j w3 from by
        obtain ⟨b1, b2, b3, b4, b5, _, _⟩ := HJ.out
        have hs3 := hg3.size
        have hM := b5.put b4.isMap HLD.out
        refine ⟨b1.drew.grown hg3 b1.size (fun k hk => by cases hk; exact hs1), ⟨(hg3.block _ b2.lt (by simp; omega)).trans b2.row⟩, ⟨(hg3.block _ b3.lt (by simp; omega)).trans b3.row⟩, Nat.lt_of_lt_of_le hMs hs3, ⟨_, ?_, hM⟩⟩
        rw [show fr.length - j = fr.length - (j + 1) + 1 by omega]
        exact hown3)
      clear hown3 hg3
      go_roundw
      case rel => exact ⟨j, by omega, by go_num, HN.out⟩
      case measure => simp [intOf]
end Go.Proofs.Ytckgmdlacaiacaa
