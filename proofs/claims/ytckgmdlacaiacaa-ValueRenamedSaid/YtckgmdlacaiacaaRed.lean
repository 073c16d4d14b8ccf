/-
  ValueRenamed: the walk.
-/
import Derived.Deep.RegionHeld3
import Derived.Deep.DeepCutAuto
import Derived.Test.YtckgmdlacaiacaaRedM
import Derived.Test.YtckgmdlacaiacaaOfs0
namespace Go.Proofs.Ytckgmdlacaiacaa
open Go.RowKit Go.Shelf
attribute [local go_sem] Oper.semAt_some

theorem IntsAt.up {W : World} {B B' : Nat} {A : Option Addr} {ps : List Int} (h : IntsAt W B A ps) (hB : B ≤ B') : IntsAt W B' A ps := fun i hi => by
  obtain ⟨b, off, h1, h2, h3⟩ := h i hi
  exact ⟨b, off, h1, by omega, h3⟩
theorem renT_may {f : Int → Option Int} (hf : ∀ r x, f r = some x → 1 ≤ x) : ∀ (t : VT), t.good = true → ∀ u, renT f t = some u → u.good = true ∧ u.parts = t.parts ∧ u.deep = t.deep := by
  refine VT.ind fun k n s r l ih h u hu => ?_
  obtain ⟨hp, hg⟩ := good_text h
  rw [renT] at hu
  split at hu
  · rename_i h4
    subst h4
    cases hf1 : f r with
    | none => rw [hf1] at hu; cases hu
    | some x =>
      rw [hf1] at hu
      simp only [Option.map_some, Option.some.injEq] at hu
      subst hu
      have hx := hf r x hf1
      refine ⟨?_, rfl, rfl⟩
      rw [VT.good, hg, Bool.and_true]
      simp only [propN, Bool.and_eq_true, decide_eq_true_eq] at hp ⊢
      exact ⟨hp.1, hx⟩
  · rename_i h4
    have key : ∀ (l' : List VT), (∀ t ∈ l', t ∈ l) → ∀ us, renL f l' = some us → VT.goodL us = true ∧ VT.partsL us = VT.partsL l' ∧ VT.deepL us = VT.deepL l' := by
      intro l'
      induction l' with
      | nil =>
        intro _ us h
        simp only [renL, Option.some.injEq] at h
        subst h
        exact ⟨rfl, rfl, rfl⟩
      | cons t ts iht =>
        intro hm us h
        simp only [renL] at h
        cases h1 : renT f t with
        | none => rw [h1] at h; cases h
        | some t' =>
          cases h2 : renL f ts with
          | none => rw [h1, h2] at h; cases h
          | some ts' =>
            rw [h1, h2] at h
            simp only [Option.bind_some, Option.map_some, Option.some.injEq] at h
            subst h
            obtain ⟨a1, a2, a3⟩ := ih t (hm t List.mem_cons_self) (goodL_mem hg t (hm t List.mem_cons_self)) t' h1
            obtain ⟨b1, b2, b3⟩ := iht (fun u hu => hm u (List.mem_cons_of_mem _ hu)) ts' h2
            refine ⟨by rw [VT.goodL, a1, b1]; rfl, ?_, ?_⟩
            · show t'.parts + VT.partsL ts' = t.parts + VT.partsL ts
              rw [a2, b2]
            · show max t'.deep (VT.deepL ts') = max t.deep (VT.deepL ts)
              rw [a3, b3]
    cases h1 : renL f l with
    | none => rw [h1] at hu; cases hu
    | some us =>
      rw [h1] at hu
      simp only [Option.map_some, Option.some.injEq] at hu
      subst hu
      obtain ⟨a1, a2, a3⟩ := key l (fun _ h => h) us h1
      have hl := renL_len f _ _ h1
      refine ⟨by rw [VT.good, hl, hp, a1]; rfl, ?_, ?_⟩
      · show 1 + VT.partsL us = 1 + VT.partsL l
        rw [a2]
      · show (if k = 3 then 1 + VT.deepL us else 0) = (if k = 3 then 1 + VT.deepL l else 0)
        rw [a3]
/-- What Rename comes to. -/
theorem renRes_ways (t : VT) (fr tos : List Int) : (∃ u, renRes t fr tos = (some u, 0) ∧ renT (lookF fr tos) t = some u ∧ renOk t fr tos = true) ∨ renRes t fr tos = (none, 2) ∨ renRes t fr tos = (none, 21) := by
  unfold renRes
  split
  · rename_i h
    cases hr : renT (lookF fr tos) t with
    | none => exact .inr (.inr rfl)
    | some u => exact .inl ⟨u, rfl, rfl, h⟩
  · exact .inr (.inl rfl)
theorem renOk_iff {t : VT} {fr tos : List Int} : renOk t fr tos = true ↔ t.may = true ∧ fr.length = tos.length ∧ posAll fr = true ∧ posAll tos = true := by
  unfold renOk
  simp only [Bool.and_eq_true, beq_iff_eq]
  exact ⟨fun ⟨⟨⟨a, b⟩, c⟩, d⟩ => ⟨a, b, c, d⟩, fun ⟨a, b, c, d⟩ => ⟨⟨⟨a, b⟩, c⟩, d⟩⟩
theorem renRes_some {t u : VT} {fr tos : List Int} (hk : renOk t fr tos = true) (hr : renT (lookF fr tos) t = some u) : renRes t fr tos = (some u, 0) := by
  unfold renRes
  rw [if_pos hk, hr]
  rfl
theorem ren_may {t u : VT} {fr tos : List Int} (hk : renOk t fr tos = true) (hr : renT (lookF fr tos) t = some u) : u.may = true ∧ u.parts = t.parts ∧ u.deep = t.deep := by
  obtain ⟨h1, _, _, h4⟩ := renOk_iff.1 hk
  have hm := h1
  unfold VT.may VT.ok at hm
  simp only [Bool.and_eq_true, decide_eq_true_eq] at hm
  obtain ⟨a1, a2, a3⟩ := renT_may (fun r x => fun h => posAll_mem h4 x (lookF_mem h).1) t hm.1.1 u hr
  refine ⟨?_, a2, a3⟩
  unfold VT.may VT.ok
  simp only [Bool.and_eq_true, decide_eq_true_eq]
  exact ⟨⟨a1, by omega⟩, by omega⟩
/-- There and back. -/
theorem ren_back {t u : VT} {fr tos : List Int} (hk : renOk t fr tos = true) (hr : renT (lookF fr tos) t = some u) (hn : tos.Nodup) : renRes u tos fr = (some t, 0) := by
  obtain ⟨h1, h2, h3, h4⟩ := renOk_iff.1 hk
  refine renRes_some (renOk_iff.2 ⟨(ren_may hk hr).1, h2.symm, h4, h3⟩) ?_
  rw [renT_chain (hh := some) (fun r y h => lookF_inv hn h) t u hr]
  exact renT_id t
/-- Twice. -/
theorem ren_twice {t u y : VT} {fr tos next : List Int} (hk : renOk t fr tos = true) (hr : renT (lookF fr tos) t = some u) (hk2 : renOk u tos next = true) (hr2 : renT (lookF tos next) u = some y) :
    ∃ both, imgL (lookF tos next) tos = some both ∧ renRes t fr both = (some y, 0) ∧ both.length = tos.length ∧ ∀ z ∈ both, z ∈ next := by
  obtain ⟨h1, h2, h3, h4⟩ := renOk_iff.1 hk
  obtain ⟨k1, k2, k3, k4⟩ := renOk_iff.1 hk2
  obtain ⟨both, hb⟩ := imgL_has (f := lookF tos next) (l := tos) (fun r hr => lookF_has (by omega) hr)
  have hl := imgL_len _ _ _ hb
  have hm : ∀ z ∈ both, z ∈ next := fun z hz => by
    obtain ⟨r, hr⟩ := imgL_mem hb z hz
    exact (lookF_mem hr).1
  refine ⟨both, hb, renRes_some (renOk_iff.2 ⟨h1, by omega, h3, posAll_of fun z hz => posAll_mem k4 z (hm z hz)⟩) ?_, hl, hm⟩
  rw [← hr2]
  exact (renT_chain (fun r y h => (lookF_both hb h).symm) t u hr).symm
/-- The value, and what it was turned into. -/
structure RdS (w : World) (t u : VT) (pp : Nat → Prop) (m : Bool) (A : Option Addr) (cap : Nat) (px : Nat → Prop) (BX : Nat) (AX : Option Addr) (capX : Nat) (W : World) : Prop where
  v : BoxT pp m w.heap.size t A cap W
  x : BoxT px false BX u AX capX W
  below : Below w.heap.size w W
namespace RdS
variable {w : World} {t u : VT} {pp : Nat → Prop} {m : Bool} {A : Option Addr} {cap : Nat} {px : Nat → Prop} {BX : Nat} {AX : Option Addr} {capX : Nat} {W W' : World}
theorem step (h : RdS w t u pp m A cap px BX AX capX W) (hb : Below W.heap.size W W') : RdS w t u pp m A cap px BX AX capX W' := ⟨h.v.step hb, h.x.step hb, h.below.trans (hb.mono h.below.size)⟩
theorem alloc (h : RdS w t u pp m A cap px BX AX capX W) (o : Obj) : RdS w t u pp m A cap px BX AX capX (W.alloc o) := h.step ((Below.refl _ W).alloc (Nat.le_refl _) o)
theorem drewN (h : RdS w t u pp m A cap px BX AX capX W) (n : Nat) : RdS w t u pp m A cap px BX AX capX (W.drewN n) := h.step (below_drewN (Below.refl _ W) n)
end RdS
theorem rd_cells {W : World} {B1 B2 : Nat} {a0 a1 a2 a3 a4 b0 b1 b2 b3 b4 : Value} (ha : Five W B1 a0 a1 a2 a3 a4) (hb : Five W B2 b0 b1 b2 b3 b4) :
    W.cell? ⟨B1, 0, none⟩ = some a0 ∧ W.cell? ⟨B1, 1, none⟩ = some a1 ∧ W.cell? ⟨B1, 2, none⟩ = some a2 ∧ W.cell? ⟨B1, 3, none⟩ = some a3 ∧ W.cell? ⟨B1, 4, none⟩ = some a4 ∧
    W.cell? ⟨B2, 0, none⟩ = some b0 ∧ W.cell? ⟨B2, 1, none⟩ = some b1 ∧ W.cell? ⟨B2, 2, none⟩ = some b2 ∧ W.cell? ⟨B2, 3, none⟩ = some b3 ∧ W.cell? ⟨B2, 4, none⟩ = some b4 :=
  ⟨ha.e0, ha.e1, ha.e2, ha.e3, ha.e4, hb.e0, hb.e1, hb.e2, hb.e3, hb.e4⟩

set_option maxRecDepth 100000 in
set_option maxHeartbeats 32000000 in
theorem ValueRenamed_w {pp : Nat → Prop} {m : Bool} (t : VT) (v : Value) (fr tos next : List Int) (FA TA NA : Option Addr) (fc tc nc : Nat) (w : World) (h : Lies w pp m t v) (hpp : ∀ b, pp b → b < w.heap.size) (hfr : IntsAt w w.heap.size FA fr) (hto : IntsAt w w.heap.size TA tos) (hne : IntsAt w w.heap.size NA next)
    (hf64 : In64 fr) (ht64 : In64 tos) (hn64 : In64 next) (hfl : fr.length ≤ 9223372036854775807) (htl : tos.length ≤ 9223372036854775807) (hnl : next.length ≤ 9223372036854775807) :
    Calls Try.prog 12 #[v, .slice FA fr.length fc, .slice TA tos.length tc, .slice NA next.length nc] w fun e w' => e = .returned (.bool true) ∧ Below w.heap.size w w' := by
  obtain ⟨A, cap, rfl⟩ := h.cells
  have HX := Lib.hid (BoxT.new w h hpp)
  have HB := Lib.hid ((Below.refl w.heap.size w).alloc (Nat.le_refl _) (.cells #[.int .u8 (t.k : Int), .int .i64 t.n, .string t.s, .slice A t.l.length cap, .int .i64 t.r] 26))
  have HI := Lib.hid (And.intro hfr (And.intro hto (And.intro hne (And.intro hf64 (And.intro ht64 hn64)))))
  clear h hpp hfr hto hne hf64 ht64 hn64
  go_enter Try.func12, Try.ntmps12
  go_wp2_with fail
  refine (small_w pp m t _ 1200 41 40 _ HX.out.lies HX.out.small (by omega) (by omega) (by omega)).mono ?_
  rintro e w1 ⟨rfl, hb⟩
  replace HX := Lib.hid (HX.out.step hb)
  replace HB := Lib.hid (HB.out.trans (hb.mono HB.out.size))
  clear hb
  have e0 := HX.out.box.e0
  have e1 := HX.out.box.e1
  have e2 := HX.out.box.e2
  have e3 := HX.out.box.e3
  have e4 := HX.out.box.e4
  obtain ⟨q, hq⟩ : ∃ q, t.sm 1200 41 = q := ⟨_, rfl⟩
  unfold smallV
  rw [hq]
  have Hq := Lib.hid hq
  clear hq
  cases q
  · rw [if_neg (by simp)]
    go_wp2_with fail
    refine (awake_w _).mono ?_
    rintro e wz ⟨rfl, hb⟩
    have HBz := Lib.hid (HB.out.trans (hb.mono HB.out.size))
    clear hb
    go_wp2
    go_ret
    exact ⟨rfl, HBz.out⟩
  have hpar := VT.sm_parts Hq.out
  rw [if_pos rfl]
  have q2 : decide ((t.parts : Int) < 0) = false := decide_eq_false (by omega)
  by_cases hbigq3 : 600 < fr.length
  · have q3 : decide ((600 : Int) < (fr.length : Int)) = true := decide_eq_true (by omega)
    have q3' : decide (600 < fr.length) = true := decide_eq_true hbigq3
    go_wp2_with fail
    refine (awake_w _).mono ?_
    rintro e wz ⟨rfl, hb⟩
    have HBz := Lib.hid (HB.out.trans (hb.mono HB.out.size))
    clear hb
    go_wp2
    go_ret
    exact ⟨rfl, HBz.out⟩
  have q3 : decide ((600 : Int) < (fr.length : Int)) = false := decide_eq_false (by omega)
  have q3' : decide (600 < fr.length) = false := decide_eq_false hbigq3
  by_cases hbigq4 : 600 < tos.length
  · have q4 : decide ((600 : Int) < (tos.length : Int)) = true := decide_eq_true (by omega)
    have q4' : decide (600 < tos.length) = true := decide_eq_true hbigq4
    go_wp2_with fail
    refine (awake_w _).mono ?_
    rintro e wz ⟨rfl, hb⟩
    have HBz := Lib.hid (HB.out.trans (hb.mono HB.out.size))
    clear hb
    go_wp2
    go_ret
    exact ⟨rfl, HBz.out⟩
  have q4 : decide ((600 : Int) < (tos.length : Int)) = false := decide_eq_false (by omega)
  have q4' : decide (600 < tos.length) = false := decide_eq_false hbigq4
  by_cases hbigq5 : 600 < next.length
  · have q5 : decide ((600 : Int) < (next.length : Int)) = true := decide_eq_true (by omega)
    have q5' : decide (600 < next.length) = true := decide_eq_true hbigq5
    go_wp2_with fail
    refine (awake_w _).mono ?_
    rintro e wz ⟨rfl, hb⟩
    have HBz := Lib.hid (HB.out.trans (hb.mono HB.out.size))
    clear hb
    go_wp2
    go_ret
    exact ⟨rfl, HBz.out⟩
  have q5 : decide ((600 : Int) < (next.length : Int)) = false := decide_eq_false (by omega)
  have q5' : decide (600 < next.length) = false := decide_eq_false hbigq5
  have hf6 : fr.length ≤ 600 := by omega
  have ht6 : tos.length ≤ 600 := by omega
  have hn6 : next.length ≤ 600 := by omega
  have HR1 := Lib.hid (fun W (hW : Below w.heap.size w W) (hl : Lies W pp m t (.agg #[.int .u8 (t.k : Int), .int .i64 t.n, .string t.s, .slice A t.l.length cap, .int .i64 t.r])) (hp : ∀ b, pp b → b < W.heap.size) => Rename_w t _ fr tos FA TA fc tc W hl hp (IntsAt.up (HI.out.1.below hW (Nat.le_refl _)) hW.size) (IntsAt.up (HI.out.2.1.below hW (Nat.le_refl _)) hW.size) (by omega) (by omega) HI.out.2.2.2.1 HI.out.2.2.2.2.1)
  rcases renRes_ways t fr tos with ⟨u, hu1, hu2, hu3⟩ | hu1 | hu1
  case inr.inl | inr.inr =>
    rw [hu1] at HR1
    go_wp2_with fail
    refine (HR1.out _ HB.out HX.out.lies HX.out.small).mono ?_
    rintro e w2 ⟨hb, rfl⟩
    replace HB := Lib.hid ((HB.out.trans (hb.mono HB.out.size)).alloc (Nat.le_trans HB.out.size hb.size) (.cells #[.int .u8 0, .int .i64 0, .string ⟨#[]⟩, .slice none 0 0, .int .i64 0] 26))
    clear hb
    unfold zeroVal
    go_wp2_with fail
    refine (awake_w _).mono ?_
    rintro e wz ⟨rfl, hb⟩
    have HBz := Lib.hid (HB.out.trans (hb.mono HB.out.size))
    clear hb
    go_wp2
    go_ret
    exact ⟨rfl, HBz.out⟩
  rw [hu1] at HR1
  have HU := Lib.hid (And.intro hu2 (And.intro hu3 (ren_may hu3 hu2)))
  have HImg := Lib.hid (renT_refs t u hu2)
  have hmay := (renOk_iff.1 hu3).1
  have HRMt := Lib.hid (show refsM t = refsT t from if_pos hmay)
  have HRMu := Lib.hid (show refsM u = refsT u from if_pos (ren_may hu3 hu2).1)
  have HLen := Lib.hid (And.intro (show (refsT t).length ≤ 512 from Nat.le_trans (refsT_len t) (may_good hmay).2) (show (refsT u).length ≤ 512 from Nat.le_trans (refsT_len u) (may_good (ren_may hu3 hu2).1).2))
  have HMay := Lib.hid hmay
  clear hu1 hu2 hu3 hmay
  go_wp2_with fail
  refine (HR1.out _ HB.out HX.out.lies HX.out.small).mono ?_
  rintro e w2 ⟨hb, v2, rfl, hF⟩
  obtain ⟨AX, capX, rfl⟩ := hF.cells
  have hS := RdS.mk ((HX.out.step hb).alloc (.cells #[.int .u8 (u.k : Int), .int .i64 u.n, .string u.s, .slice AX u.l.length capX, .int .i64 u.r] 26)) (BoxT.new w2 hF.from (fun _ h => h.2)) ((HB.out.trans (hb.mono HB.out.size)).alloc (Nat.le_trans HB.out.size hb.size) (.cells #[.int .u8 (u.k : Int), .int .i64 u.n, .string u.s, .slice AX u.l.length capX, .int .i64 u.r] 26))
  have HS := Lib.hid hS
  clear hb hF hS HX HB HR1 e0 e1 e2 e3 e4
  have e0 := HS.out.v.box.e0
  have e1 := HS.out.v.box.e1
  have e2 := HS.out.v.box.e2
  have e3 := HS.out.v.box.e3
  have e4 := HS.out.v.box.e4
  go_wp2_with fail
  refine (Refs_w t _ _ HS.out.v.lies HS.out.v.small).mono ?_
  rintro e w3 ⟨rv, rfl, hown, hb⟩
  rw [HRMt.out] at hown
  obtain ⟨A3, cap3, rfl, hcell⟩ := owns_read hown
  have HR3 := Lib.hid (show IntsAt w3 w3.heap.size A3 (refsT t) from fun i hi => by
    obtain ⟨g, h1, h2, h3⟩ := hcell i hi
    exact ⟨g, 0, h1, h2, by rw [Nat.zero_add]; exact h3⟩)
  have HS3 := Lib.hid (HS.out.step hb)
  clear hown hcell hb HS e0 e1 e2 e3 e4
  generalize w2.heap.size = BX at *
  generalize hpx : (fun b => w1.heap.size ≤ b ∧ b < BX) = px at *
  clear hpx w2
  go_wp2_with fail
  refine (image_w (refsT t) fr tos A3 FA TA cap3 fc tc w3.heap.size w3 HR3.out (IntsAt.up (HI.out.1.below HS3.out.below (Nat.le_refl _)) HS3.out.below.size) (IntsAt.up (HI.out.2.1.below HS3.out.below (Nat.le_refl _)) HS3.out.below.size) (Nat.le_refl _) (by have := HLen.out.1; omega) (by omega) (by omega)).mono ?_
  rw [HImg.out]
  rintro e w4 ⟨hb, wv, rfl, hown⟩
  obtain ⟨A4, cap4, rfl, hcell⟩ := owns_read hown
  have HW4 := Lib.hid (show IntsAt w4 w4.heap.size A4 (refsT u) from fun i hi => by
    obtain ⟨g, h1, h2, h3⟩ := hcell i hi
    exact ⟨g, 0, h1, h2, by rw [Nat.zero_add]; exact h3⟩)
  have HS4 := Lib.hid (HS3.out.step hb)
  clear hown hcell hb HS3 HR3
  have e0 := HS4.out.x.box.e0
  have e1 := HS4.out.x.box.e1
  have e2 := HS4.out.x.box.e2
  have e3 := HS4.out.x.box.e3
  have e4 := HS4.out.x.box.e4
  go_wp2_with fail
  refine (Refs_w u _ _ HS4.out.x.lies HS4.out.x.small).mono ?_
  rintro e w5 ⟨rv, rfl, hown, hb⟩
  rw [HRMu.out] at hown
  obtain ⟨A5, cap5, rfl, hcell⟩ := owns_read hown
  have HG5 := Lib.hid (show IntsAt w5 w5.heap.size A5 (refsT u) from fun i hi => by
    obtain ⟨g, h1, h2, h3⟩ := hcell i hi
    exact ⟨g, 0, h1, h2, by rw [Nat.zero_add]; exact h3⟩)
  have HS5 := Lib.hid (HS4.out.step hb)
  have HW5 := Lib.hid (IntsAt.up (HW4.out.below hb (Nat.le_refl _)) hb.size)
  clear hown hcell hb HS4 HW4 e0 e1 e2 e3 e4
  have HNil := Lib.hid (fun h0 : (refsT t).length = 0 => renT_none t u HU.out.1 (List.eq_nil_of_length_eq_zero h0))
  have hil := imgL_len _ _ _ HImg.out
  have hl5 := HLen.out.2
  have HIL := Lib.hid hil
  clear hil
  go_wp2_with fail
  have HSd := Lib.hid (HS5.out.step (Below.refl w5.heap.size w5).drew)
  have HCd := Lib.hid (rd_cells HSd.out.v.box HSd.out.x.box)
  have HBd := Lib.hid (Below.refl w5.heap.size w5).drew
  have PX := Lib.hid (fun (W : World) (hS : RdS w t u pp m A cap px BX AX capX W) => parts_w u _ W hS.x.lies hS.x.small)
  have PV := Lib.hid (fun (W : World) (hS : RdS w t u pp m A cap px BX AX capX W) => parts_w t _ W hS.v.lies hS.v.small)
  have DX := Lib.hid (fun (W : World) (hS : RdS w t u pp m A cap px BX AX capX W) => deep_w u _ W hS.x.lies hS.x.small)
  have DV := Lib.hid (fun (W : World) (hS : RdS w t u pp m A cap px BX AX capX W) => deep_w t _ W hS.v.lies hS.v.small)
  have SX := Lib.hid (fun (W : World) (hS : RdS w t u pp m A cap px BX AX capX W) => vSame_w u t _ _ W hS.x.lies hS.v.lies hS.x.small hS.v.small)
  rw [HU.out.2.2.1, if_pos rfl, HU.out.2.2.2.1] at PX
  rw [HMay.out, if_pos rfl] at PV
  rw [HU.out.2.2.1, if_pos rfl, HU.out.2.2.2.2] at DX
  rw [HMay.out, if_pos rfl] at DV
  generalize hR : refsT u = R at *
  have HRR := Lib.hid hR
  clear hR
  generalize hnR : R.length = nR at *
  have HnR := Lib.hid hnR
  clear hnR
  go_cut [95] (fun s95 wx => s95 = .bool false ∧ RdS w t u pp m A cap px BX AX capX wx ∧ Below w5.heap.size w5 wx)
  case first =>
    by_cases h0 : nR = 0
    · have hut := HNil.out (by have := HIL.out; omega)
      have HSm := Lib.hid (show sameT u t = true from by rw [hut]; exact sameT_refl HMay.out)
      rw [HSm.out] at SX
      have n0 : ((nR : Int) == 0) = true := by rw [beq_iff_eq]; omega
      have n0' : (nR == 0) = true := by rw [beq_iff_eq]; exact h0
      have H0 := Lib.hid h0
      clear h0 hut
      go_region_held3 (fun w' => w'.cell? ⟨w.heap.size, 0, none⟩ = some (.int .u8 (t.k : Int)) ∧ w'.cell? ⟨w.heap.size, 1, none⟩ = some (.int .i64 t.n) ∧ w'.cell? ⟨w.heap.size, 2, none⟩ = some (.string t.s) ∧ w'.cell? ⟨w.heap.size, 3, none⟩ = some (.slice A t.l.length cap) ∧ w'.cell? ⟨w.heap.size, 4, none⟩ = some (.int .i64 t.r) ∧ w'.cell? ⟨BX, 0, none⟩ = some (.int .u8 (u.k : Int)) ∧ w'.cell? ⟨BX, 1, none⟩ = some (.int .i64 u.n) ∧ w'.cell? ⟨BX, 2, none⟩ = some (.string u.s) ∧ w'.cell? ⟨BX, 3, none⟩ = some (.slice AX u.l.length capX) ∧ w'.cell? ⟨BX, 4, none⟩ = some (.int .i64 u.r)) (first | with_reducible exact HCd.out | with_reducible exact HC6.out | with_reducible exact HC7.out | with_reducible exact HC8.out | with_reducible exact HC9.out | with_reducible exact HC10.out)
        (first | (go_at_call 15; ((with_reducible refine (PX.out _ HSd.out).mono ?_); rintro e w6 ⟨rfl, hb⟩; have HS6 := Lib.hid (HSd.out.step hb); have HB6 := Lib.hid (HBd.out.trans (hb.mono HBd.out.size)); have HC6 := Lib.hid (rd_cells HS6.out.v.box HS6.out.x.box); clear hb)) | (go_at_call 15; ((with_reducible refine (PV.out _ HS6.out).mono ?_); rintro e w7 ⟨rfl, hb⟩; have HS7 := Lib.hid (HS6.out.step hb); have HB7 := Lib.hid (HB6.out.trans (hb.mono HB6.out.size)); have HC7 := Lib.hid (rd_cells HS7.out.v.box HS7.out.x.box); clear hb)) | (go_at_call 16; ((with_reducible refine (DX.out _ HS7.out).mono ?_); rintro e w8 ⟨rfl, hb⟩; have HS8 := Lib.hid (HS7.out.step hb); have HB8 := Lib.hid (HB7.out.trans (hb.mono HB7.out.size)); have HC8 := Lib.hid (rd_cells HS8.out.v.box HS8.out.x.box); clear hb)) | (go_at_call 16; ((with_reducible refine (DV.out _ HS8.out).mono ?_); rintro e w9 ⟨rfl, hb⟩; have HS9 := Lib.hid (HS8.out.step hb); have HB9 := Lib.hid (HB8.out.trans (hb.mono HB8.out.size)); have HC9 := Lib.hid (rd_cells HS9.out.v.box HS9.out.x.box); clear hb)) | (go_at_call 39; ((with_reducible refine (SX.out _ HS9.out).mono ?_); rintro e w10 ⟨rfl, hb⟩; have HS10 := Lib.hid (HS9.out.step hb); have HB10 := Lib.hid (HB9.out.trans (hb.mono HB9.out.size)); have HC10 := Lib.hid (rd_cells HS10.out.v.box HS10.out.x.box); clear hb)))
      go_wp2_with fail
      go_meet
      exact ⟨rfl, HS10.out, HB10.out⟩
    · have n0 : ((nR : Int) == 0) = false := by rw [beq_eq_false_iff_ne]; omega
      have n0' : (nR == 0) = false := by rw [beq_eq_false_iff_ne]; exact h0
      have H0 := Lib.hid h0
      clear h0
      refine wp_region_noPanic ?_
      refine wp_region_held_drew (S := (fun w' => w'.cell? ⟨w.heap.size, 0, none⟩ = some (.int .u8 (t.k : Int)) ∧ w'.cell? ⟨w.heap.size, 1, none⟩ = some (.int .i64 t.n) ∧ w'.cell? ⟨w.heap.size, 2, none⟩ = some (.string t.s) ∧ w'.cell? ⟨w.heap.size, 3, none⟩ = some (.slice A t.l.length cap) ∧ w'.cell? ⟨w.heap.size, 4, none⟩ = some (.int .i64 t.r) ∧ w'.cell? ⟨BX, 0, none⟩ = some (.int .u8 (u.k : Int)) ∧ w'.cell? ⟨BX, 1, none⟩ = some (.int .i64 u.n) ∧ w'.cell? ⟨BX, 2, none⟩ = some (.string u.s) ∧ w'.cell? ⟨BX, 3, none⟩ = some (.slice AX u.l.length capX) ∧ w'.cell? ⟨BX, 4, none⟩ = some (.int .i64 u.r))) (by kernel_rfl) (by (try dsimp only); (first | with_reducible exact HCd.out | with_reducible exact HC6.out | with_reducible exact HC7.out | with_reducible exact HC8.out | with_reducible exact HC9.out)) (fun hH0 => ?_)
      refine wpAnyH_take (i := 0) (oi := ⟨_, _, _, _, _, _⟩) (v := ?_) rfl (by kernel_rfl) (by kernel_rfl) (by kernel_rfl) (fun _ _ _ h => h) (Or.inl ⟨by rfl, ?_⟩) (by assumption) ?_
      rotate_left
      · (intro w hSw; (try dsimp only at hSw); go_simp; try (with_reducible rfl))
      (try simp only [Act.put, List.setIfInBounds_toArray, List.set_cons_zero, List.set_cons_succ])
      refine wpAnyH_take (i := 1) (oi := ⟨_, _, _, _, _, _⟩) (v := ?_) rfl (by kernel_rfl) (by kernel_rfl) (by kernel_rfl) (fun _ _ _ h => h) (Or.inl ⟨by rfl, ?_⟩) (by assumption) ?_
      rotate_left
      · (intro w hSw; (try dsimp only at hSw); go_simp; try (with_reducible rfl))
      (try simp only [Act.put, List.setIfInBounds_toArray, List.set_cons_zero, List.set_cons_succ])
      refine wpAnyH_take (i := 2) (oi := ⟨_, _, _, _, _, _⟩) (v := ?_) rfl (by kernel_rfl) (by kernel_rfl) (by kernel_rfl) (fun _ _ _ h => h) (Or.inl ⟨by rfl, ?_⟩) (by assumption) ?_
      rotate_left
      · (intro w hSw; (try dsimp only at hSw); go_simp; try (with_reducible rfl))
      (try simp only [Act.put, List.setIfInBounds_toArray, List.set_cons_zero, List.set_cons_succ])
      refine wpAnyH_take (i := 3) (oi := ⟨_, _, _, _, _, _⟩) (v := ?_) rfl (by kernel_rfl) (by kernel_rfl) (by kernel_rfl) (fun _ _ _ h => h) (Or.inl ⟨by rfl, ?_⟩) (by assumption) ?_
      rotate_left
      · (intro w hSw; (try dsimp only at hSw); go_simp; try (with_reducible rfl))
      (try simp only [Act.put, List.setIfInBounds_toArray, List.set_cons_zero, List.set_cons_succ])
      refine wpAnyH_take (i := 4) (oi := ⟨_, _, _, _, _, _⟩) (v := ?_) rfl (by kernel_rfl) (by kernel_rfl) (by kernel_rfl) (fun _ _ _ h => h) (Or.inl ⟨by rfl, ?_⟩) (by assumption) ?_
      rotate_left
      · (intro w hSw; (try dsimp only at hSw); go_simp; try (with_reducible rfl))
      (try simp only [Act.put, List.setIfInBounds_toArray, List.set_cons_zero, List.set_cons_succ])
      refine wpAnyH_take (i := 5) (oi := ⟨_, _, _, _, _, _⟩) (v := ?_) rfl (by kernel_rfl) (by kernel_rfl) (by kernel_rfl) (fun _ _ _ h => h) (Or.inl ⟨by rfl, ?_⟩) (by assumption) ?_
      rotate_left
      · (intro w hSw; (try dsimp only at hSw); go_simp; try (with_reducible rfl))
      (try simp only [Act.put, List.setIfInBounds_toArray, List.set_cons_zero, List.set_cons_succ])
      refine wpAnyH_take (i := 6) (oi := ⟨_, _, _, _, _, _⟩) (v := ?_) rfl (by kernel_rfl) (by kernel_rfl) (by kernel_rfl) (fun _ _ _ h => h) (Or.inl ⟨by rfl, ?_⟩) (by assumption) ?_
      rotate_left
      · (intro w hSw; (try dsimp only at hSw); go_simp; try (with_reducible rfl))
      (try simp only [Act.put, List.setIfInBounds_toArray, List.set_cons_zero, List.set_cons_succ])
      refine wpAnyH_take (i := 7) (oi := ⟨_, _, _, _, _, _⟩) (v := ?_) rfl (by kernel_rfl) (by kernel_rfl) (by kernel_rfl) (fun _ _ _ h => h) (Or.inl ⟨by rfl, ?_⟩) (by assumption) ?_
      rotate_left
      · (intro w hSw; (try dsimp only at hSw); go_simp; try (with_reducible rfl))
      (try simp only [Act.put, List.setIfInBounds_toArray, List.set_cons_zero, List.set_cons_succ])
      refine wpAnyH_take (i := 8) (oi := ⟨_, _, _, _, _, _⟩) (v := ?_) rfl (by kernel_rfl) (by kernel_rfl) (by kernel_rfl) (fun _ _ _ h => h) (Or.inl ⟨by rfl, ?_⟩) (by assumption) ?_
      rotate_left
      · (intro w hSw; (try dsimp only at hSw); go_simp; try (with_reducible rfl))
      (try simp only [Act.put, List.setIfInBounds_toArray, List.set_cons_zero, List.set_cons_succ])
      refine wpAnyH_take (i := 9) (oi := ⟨_, _, _, _, _, _⟩) (v := ?_) rfl (by kernel_rfl) (by kernel_rfl) (by kernel_rfl) (fun _ _ _ h => h) (Or.inl ⟨by rfl, ?_⟩) (by assumption) ?_
      rotate_left
      · (intro w hSw; (try dsimp only at hSw); go_simp; try (with_reducible rfl))
      (try simp only [Act.put, List.setIfInBounds_toArray, List.set_cons_zero, List.set_cons_succ])
      refine wpAnyH_take (i := 10) (oi := ⟨_, _, _, _, _, _⟩) (v := ?_) rfl (by kernel_rfl) (by kernel_rfl) (by kernel_rfl) (fun _ _ _ h => h) (Or.inl ⟨by rfl, ?_⟩) (by assumption) ?_
      rotate_left
      · (intro w hSw; (try dsimp only at hSw); go_simp; try (with_reducible rfl))
      (try simp only [Act.put, List.setIfInBounds_toArray, List.set_cons_zero, List.set_cons_succ])
      refine wpAnyH_take (i := 12) (oi := ⟨_, _, _, _, _, _⟩) (v := ?_) rfl (by kernel_rfl) (by kernel_rfl) (by kernel_rfl) (fun _ _ _ h => h) (Or.inl ⟨by rfl, ?_⟩) (by assumption) ?_
      rotate_left
      · (intro w hSw; (try dsimp only at hSw); go_simp; try (with_reducible rfl))
      (try simp only [Act.put, List.setIfInBounds_toArray, List.set_cons_zero, List.set_cons_succ])
      refine wpAnyH_ready (rs := [11]) (by kernel_rfl) (by simp) ?_
      refine AllReadyH.cons (o := ⟨_, _, _, _, _, _⟩) rfl (fun K hK => ?_) AllReadyH.nil
      go_simp
      go_at_call 15
      (with_reducible refine (PX.out _ HSd.out).mono ?_); rintro e w6 ⟨rfl, hb⟩; have HS6 := Lib.hid (HSd.out.step hb); have HB6 := Lib.hid (HBd.out.trans (hb.mono HBd.out.size)); have HC6 := Lib.hid (rd_cells HS6.out.v.box HS6.out.x.box); clear hb
      try (go_wp2_with fail)
      refine hK.out _ _ (by (try dsimp only); (first | with_reducible exact HCd.out | with_reducible exact HC6.out | with_reducible exact HC7.out | with_reducible exact HC8.out | with_reducible exact HC9.out)) (fun hH1 => ?_)
      clear hK K hH0
      (try simp only [Act.put, List.setIfInBounds_toArray, List.set_cons_zero, List.set_cons_succ])
      refine wpAnyH_ready (rs := [13]) (by kernel_rfl) (by simp) ?_
      refine AllReadyH.cons (o := ⟨_, _, _, _, _, _⟩) rfl (fun K hK => ?_) AllReadyH.nil
      go_simp
      go_at_call 15
      (with_reducible refine (PV.out _ HS6.out).mono ?_); rintro e w7 ⟨rfl, hb⟩; have HS7 := Lib.hid (HS6.out.step hb); have HB7 := Lib.hid (HB6.out.trans (hb.mono HB6.out.size)); have HC7 := Lib.hid (rd_cells HS7.out.v.box HS7.out.x.box); clear hb
      try (go_wp2_with fail)
      refine hK.out _ _ (by (try dsimp only); (first | with_reducible exact HCd.out | with_reducible exact HC6.out | with_reducible exact HC7.out | with_reducible exact HC8.out | with_reducible exact HC9.out)) (fun hH2 => ?_)
      clear hK K hH1
      (try simp only [Act.put, List.setIfInBounds_toArray, List.set_cons_zero, List.set_cons_succ])
      refine wpAnyH_take (i := 14) (oi := ⟨_, _, _, _, _, _⟩) (v := ?_) rfl (by kernel_rfl) (by kernel_rfl) (by kernel_rfl) (fun _ _ _ h => h) (Or.inl ⟨by rfl, ?_⟩) (by assumption) ?_
      rotate_left
      · (intro w hSw; (try dsimp only at hSw); go_simp; try (with_reducible rfl))
      (try simp only [Act.put, List.setIfInBounds_toArray, List.set_cons_zero, List.set_cons_succ])
      refine wpAnyH_take (i := 15) (oi := ⟨_, _, _, _, _, _⟩) (v := ?_) rfl (by kernel_rfl) (by kernel_rfl) (by kernel_rfl) (fun _ _ _ h => h) (Or.inl ⟨by rfl, ?_⟩) (by assumption) ?_
      rotate_left
      · (intro w hSw; (try dsimp only at hSw); go_simp; try (with_reducible rfl))
      (try simp only [Act.put, List.setIfInBounds_toArray, List.set_cons_zero, List.set_cons_succ])
      refine wpAnyH_take (i := 16) (oi := ⟨_, _, _, _, _, _⟩) (v := ?_) rfl (by kernel_rfl) (by kernel_rfl) (by kernel_rfl) (fun _ _ _ h => h) (Or.inl ⟨by rfl, ?_⟩) (by assumption) ?_
      rotate_left
      · (intro w hSw; (try dsimp only at hSw); go_simp; try (with_reducible rfl))
      (try simp only [Act.put, List.setIfInBounds_toArray, List.set_cons_zero, List.set_cons_succ])
      refine wpAnyH_take (i := 17) (oi := ⟨_, _, _, _, _, _⟩) (v := ?_) rfl (by kernel_rfl) (by kernel_rfl) (by kernel_rfl) (fun _ _ _ h => h) (Or.inl ⟨by rfl, ?_⟩) (by assumption) ?_
      rotate_left
      · (intro w hSw; (try dsimp only at hSw); go_simp; try (with_reducible rfl))
      (try simp only [Act.put, List.setIfInBounds_toArray, List.set_cons_zero, List.set_cons_succ])
      refine wpAnyH_take (i := 19) (oi := ⟨_, _, _, _, _, _⟩) (v := ?_) rfl (by kernel_rfl) (by kernel_rfl) (by kernel_rfl) (fun _ _ _ h => h) (Or.inl ⟨by rfl, ?_⟩) (by assumption) ?_
      rotate_left
      · (intro w hSw; (try dsimp only at hSw); go_simp; try (with_reducible rfl))
      (try simp only [Act.put, List.setIfInBounds_toArray, List.set_cons_zero, List.set_cons_succ])
      refine wpAnyH_ready (rs := [18]) (by kernel_rfl) (by simp) ?_
      refine AllReadyH.cons (o := ⟨_, _, _, _, _, _⟩) rfl (fun K hK => ?_) AllReadyH.nil
      go_simp
      go_at_call 16
      (with_reducible refine (DX.out _ HS7.out).mono ?_); rintro e w8 ⟨rfl, hb⟩; have HS8 := Lib.hid (HS7.out.step hb); have HB8 := Lib.hid (HB7.out.trans (hb.mono HB7.out.size)); have HC8 := Lib.hid (rd_cells HS8.out.v.box HS8.out.x.box); clear hb
      try (go_wp2_with fail)
      refine hK.out _ _ (by (try dsimp only); (first | with_reducible exact HCd.out | with_reducible exact HC6.out | with_reducible exact HC7.out | with_reducible exact HC8.out | with_reducible exact HC9.out)) (fun hH3 => ?_)
      clear hK K hH2
      (try simp only [Act.put, List.setIfInBounds_toArray, List.set_cons_zero, List.set_cons_succ])
      refine wpAnyH_ready (rs := [20]) (by kernel_rfl) (by simp) ?_
      refine AllReadyH.cons (o := ⟨_, _, _, _, _, _⟩) rfl (fun K hK => ?_) AllReadyH.nil
      go_simp
      go_at_call 16
      (with_reducible refine (DV.out _ HS8.out).mono ?_); rintro e w9 ⟨rfl, hb⟩; have HS9 := Lib.hid (HS8.out.step hb); have HB9 := Lib.hid (HB8.out.trans (hb.mono HB8.out.size)); have HC9 := Lib.hid (rd_cells HS9.out.v.box HS9.out.x.box); clear hb
      try (go_wp2_with fail)
      refine hK.out _ _ (by (try dsimp only); (first | with_reducible exact HCd.out | with_reducible exact HC6.out | with_reducible exact HC7.out | with_reducible exact HC8.out | with_reducible exact HC9.out)) (fun hH4 => ?_)
      clear hK K hH3
      (try simp only [Act.put, List.setIfInBounds_toArray, List.set_cons_zero, List.set_cons_succ])
      refine wpAnyH_take (i := 21) (oi := ⟨_, _, _, _, _, _⟩) (v := ?_) rfl (by kernel_rfl) (by kernel_rfl) (by kernel_rfl) (fun _ _ _ h => h) (Or.inl ⟨by rfl, ?_⟩) (by assumption) ?_
      rotate_left
      · (intro w hSw; (try dsimp only at hSw); go_simp; try (with_reducible rfl))
      (try simp only [Act.put, List.setIfInBounds_toArray, List.set_cons_zero, List.set_cons_succ])
      refine wpAnyH_take (i := 22) (oi := ⟨_, _, _, _, _, _⟩) (v := ?_) rfl (by kernel_rfl) (by kernel_rfl) (by kernel_rfl) (fun _ _ _ h => h) (Or.inl ⟨by rfl, ?_⟩) (by assumption) ?_
      rotate_left
      · (intro w hSw; (try dsimp only at hSw); go_simp; try (with_reducible rfl))
      (try simp only [Act.put, List.setIfInBounds_toArray, List.set_cons_zero, List.set_cons_succ])
      refine wpAnyH_take (i := 23) (oi := ⟨_, _, _, _, _, _⟩) (v := ?_) rfl (by kernel_rfl) (by kernel_rfl) (by kernel_rfl) (fun _ _ _ h => h) (Or.inl ⟨by rfl, ?_⟩) (by assumption) ?_
      rotate_left
      · (intro w hSw; (try dsimp only at hSw); go_simp; try (with_reducible rfl))
      (try simp only [Act.put, List.setIfInBounds_toArray, List.set_cons_zero, List.set_cons_succ])
      refine wpAnyH_take (i := 24) (oi := ⟨_, _, _, _, _, _⟩) (v := ?_) rfl (by kernel_rfl) (by kernel_rfl) (by kernel_rfl) (fun _ _ _ h => h) (Or.inl ⟨by rfl, ?_⟩) (by assumption) ?_
      rotate_left
      · (intro w hSw; (try dsimp only at hSw); go_simp; try (with_reducible rfl))
      (try simp only [Act.put, List.setIfInBounds_toArray, List.set_cons_zero, List.set_cons_succ])
      refine wpAnyH_take (i := 25) (oi := ⟨_, _, _, _, _, _⟩) (v := ?_) rfl (by kernel_rfl) (by kernel_rfl) (by kernel_rfl) (fun _ _ _ h => h) (Or.inl ⟨by rfl, ?_⟩) (by assumption) ?_
      rotate_left
      · (intro w hSw; (try dsimp only at hSw); go_simp; try (with_reducible rfl))
      (try simp only [Act.put, List.setIfInBounds_toArray, List.set_cons_zero, List.set_cons_succ])
      refine wpAnyH_take (i := 26) (oi := ⟨_, _, _, _, _, _⟩) (v := ?_) rfl (by kernel_rfl) (by kernel_rfl) (by kernel_rfl) (fun _ _ _ h => h) (Or.inl ⟨by rfl, ?_⟩) (by assumption) ?_
      rotate_left
      · (intro w hSw; (try dsimp only at hSw); go_simp; try (with_reducible rfl))
      (try simp only [Act.put, List.setIfInBounds_toArray, List.set_cons_zero, List.set_cons_succ])
      refine wpAnyH_take (i := 27) (oi := ⟨_, _, _, _, _, _⟩) (v := ?_) rfl (by kernel_rfl) (by kernel_rfl) (by kernel_rfl) (fun _ _ _ h => h) (Or.inl ⟨by rfl, ?_⟩) (by assumption) ?_
      rotate_left
      · (intro w hSw; (try dsimp only at hSw); go_simp; try (with_reducible rfl))
      (try simp only [Act.put, List.setIfInBounds_toArray, List.set_cons_zero, List.set_cons_succ])
      refine wpAnyH_take (i := 28) (oi := ⟨_, _, _, _, _, _⟩) (v := undef) rfl (by kernel_rfl) (by kernel_rfl) (by kernel_rfl) (fun _ _ _ h => h) (Or.inr ⟨by rfl, rfl⟩) (by assumption) ?_
      (try simp only [Act.put, List.setIfInBounds_toArray, List.set_cons_zero, List.set_cons_succ])
      refine wpAnyH_take (i := 29) (oi := ⟨_, _, _, _, _, _⟩) (v := undef) rfl (by kernel_rfl) (by kernel_rfl) (by kernel_rfl) (fun _ _ _ h => h) (Or.inr ⟨by rfl, rfl⟩) (by assumption) ?_
      (try simp only [Act.put, List.setIfInBounds_toArray, List.set_cons_zero, List.set_cons_succ])
      refine wpAnyH_take (i := 30) (oi := ⟨_, _, _, _, _, _⟩) (v := undef) rfl (by kernel_rfl) (by kernel_rfl) (by kernel_rfl) (fun _ _ _ h => h) (Or.inr ⟨by rfl, rfl⟩) (by assumption) ?_
      (try simp only [Act.put, List.setIfInBounds_toArray, List.set_cons_zero, List.set_cons_succ])
      refine wpAnyH_take (i := 31) (oi := ⟨_, _, _, _, _, _⟩) (v := undef) rfl (by kernel_rfl) (by kernel_rfl) (by kernel_rfl) (fun _ _ _ h => h) (Or.inr ⟨by rfl, rfl⟩) (by assumption) ?_
      (try simp only [Act.put, List.setIfInBounds_toArray, List.set_cons_zero, List.set_cons_succ])
      refine wpAnyH_take (i := 32) (oi := ⟨_, _, _, _, _, _⟩) (v := ?_) rfl (by kernel_rfl) (by kernel_rfl) (by kernel_rfl) (fun _ _ _ h => h) (Or.inl ⟨by rfl, ?_⟩) (by assumption) ?_
      rotate_left
      · (intro w hSw; (try dsimp only at hSw); go_simp; try (with_reducible rfl))
      (try simp only [Act.put, List.setIfInBounds_toArray, List.set_cons_zero, List.set_cons_succ])
      refine wpAnyH_take (i := 33) (oi := ⟨_, _, _, _, _, _⟩) (v := ?_) rfl (by kernel_rfl) (by kernel_rfl) (by kernel_rfl) (fun _ _ _ h => h) (Or.inl ⟨by rfl, ?_⟩) (by assumption) ?_
      rotate_left
      · (intro w hSw; (try dsimp only at hSw); go_simp; try (with_reducible rfl))
      (try simp only [Act.put, List.setIfInBounds_toArray, List.set_cons_zero, List.set_cons_succ])
      refine wpAnyH_done (by kernel_rfl) ?_ _
      refine NoPanic.normal ?_
      go_wp2_with fail; go_meet; exact ⟨rfl, HS9.out, HB9.out⟩
  case rest =>
    obtain ⟨rfl, hS, hB⟩ := hcut
    have HS := Lib.hid (And.intro hS hB)
    clear hS hB HSd HCd HBd HS5 PX PV DX DV SX
    obtain ⟨w11, rfl⟩ : ∃ w11, w11 = wc := ⟨_, rfl⟩
    go_wp2
    go_loopw [14] (fun iv wr => ∃ j : Nat, j ≤ nR ∧ iv = .int .i64 (j : Int) ∧ RdS w t u pp m A cap px BX AX capX wr ∧ Below w5.heap.size w5 wr) (fun iv _ => nR - (intOf iv).toNat)
    case atStart => exact ⟨0, Nat.zero_le _, rfl, HS.out⟩
    case round =>
      obtain ⟨j, hj, rfl, hS, hB⟩ := hrel
      clear HS
      have HN := Lib.hid (fun nq => show RdS w t u pp m A cap px BX AX capX (wr.drewN nq) ∧ Below w5.heap.size w5 (wr.drewN nq) from ⟨hS.drewN nq, below_drewN hB nq⟩)
      by_cases hlt : j < nR
      · have hjR : j < R.length := by rw [HnR.out]; exact hlt
        obtain ⟨ga, offa, rfl, hga, hca⟩ := HG5.out j hjR
        obtain ⟨gb, offb, rfl, hgb, hcb⟩ := HW5.out j hjR
        have ca := (World.cell?_of_block (w := w5) (a := ⟨ga, offa + j, none⟩) (hB.block ga hga)).trans hca
        have cb := (World.cell?_of_block (w := w5) (a := ⟨gb, offb + j, none⟩) (hB.block gb hgb)).trans hcb
        clear hca hcb hS hB
        generalize R[j] = x at *
        have q1 : (x != x) = false := bne_self_eq_false x
        have hjI : (j : Int) < (nR : Int) := by omega
        have hj0 : (0 : Int) ≤ (j : Int) := by omega
        go_wp2
        go_quiet (fail)
        go_wp2
        go_roundw
        case rel => exact ⟨j + 1, by omega, by go_num, HN.out nq⟩
        case measure => simp [intOf]; omega
      · obtain rfl : j = nR := by omega
        have HS := Lib.hid hS
        clear hS hB HN
        go_wp2
        go_loopw [15, 16] (fun ov iv wq => ∃ (i : Nat) (b : Bool), i ≤ tos.length ∧ iv = .int .i64 (i : Int) ∧ ov = .bool b ∧ (b = true → ∀ p (hp : p < tos.length) q (hq : q < tos.length), p < i → q < p → tos[p] ≠ tos[q]) ∧ RdS w t u pp m A cap px BX AX capX wq) (fun _ iv _ => tos.length - (intOf iv).toNat)
        case atStart => exact ⟨0, true, Nat.zero_le _, rfl, rfl, fun _ p _ q _ h => absurd h (Nat.not_lt_zero _), HS.out⟩
        case round =>
          obtain ⟨i, b, hi, rfl, rfl, hon, hS⟩ := hrel
          have HO := Lib.hid (And.intro hon hS)
          clear hon hS HS
          by_cases hlt2 : i < tos.length
          · go_wp2
            go_loopw [15, 17] (fun ov kv wq => ∃ (k : Nat) (b : Bool), k ≤ i ∧ kv = .int .i64 (k : Int) ∧ ov = .bool b ∧ (b = true → (∀ p (hp : p < tos.length) q (hq : q < tos.length), p < i → q < p → tos[p] ≠ tos[q]) ∧ ∀ q (hq : q < tos.length), q < k → tos[i] ≠ tos[q]) ∧ RdS w t u pp m A cap px BX AX capX wq) (fun _ kv _ => i - (intOf kv).toNat)
            case atStart => exact ⟨0, b, Nat.zero_le _, rfl, rfl, fun hb => ⟨HO.out.1 hb, fun q _ h => absurd h (Nat.not_lt_zero _)⟩, HO.out.2⟩
            case round =>
              obtain ⟨k, b2, hk, rfl, rfl, hon, hS⟩ := hrel
              clear HO
              have HO := Lib.hid hon
              have HN := Lib.hid (fun nq => hS.drewN nq)
              by_cases hlt3 : k < i
              · obtain ⟨ga, offa, rfl, hga, hca⟩ := HI.out.2.1 i hlt2
                obtain ⟨gb, offb, hA, hgb, hcb⟩ := HI.out.2.1 k (by omega)
                cases hA
                have ca := (World.cell?_of_block (w := w) (a := ⟨ga, offa + i, none⟩) (hS.below.block ga hga)).trans hca
                have cb := (World.cell?_of_block (w := w) (a := ⟨ga, offa + k, none⟩) (hS.below.block ga hgb)).trans hcb
                clear hca hcb hS hon
                have hiI : (i : Int) < (tos.length : Int) := by omega
                have hkI : (k : Int) < (tos.length : Int) := by omega
                have hi0 : (0 : Int) ≤ (i : Int) := by omega
                have hk0 : (0 : Int) ≤ (k : Int) := by omega
                have hklt : k < tos.length := by omega
                cases b2
                · go_wp2
                  go_quiet (fail)
                  go_wp2
                  go_roundw
                  case rel => exact ⟨k + 1, false, by omega, by go_num, rfl, fun h => absurd h (by simp), HN.out nq⟩
                  case measure => simp [intOf]; omega
                · have HE := Lib.hid (fun hne : tos[i] ≠ tos[k] => show (true = true → (∀ p (hp : p < tos.length) q (hq : q < tos.length), p < i → q < p → tos[p] ≠ tos[q]) ∧ ∀ q (hq : q < tos.length), q < k + 1 → tos[i] ≠ tos[q]) from fun _ => ⟨(HO.out rfl).1, fun q hq h => by
                    by_cases e : q = k
                    · subst e; exact hne
                    · exact (HO.out rfl).2 q hq (by omega)⟩)
                  by_cases hne : tos[i] = tos[k]
                  · have q1 : (tos[i] != tos[k]) = false := by rw [bne_eq_false_iff_eq]; exact hne
                    have q2' : (tos[i] == tos[k]) = true := by rw [beq_iff_eq]; exact hne
                    clear hne HE HO
                    generalize tos[i] = x at *
                    generalize tos[k] = z at *
                    go_wp2
                    go_quiet (fail)
                    go_wp2
                    go_roundw
                    case rel => exact ⟨k + 1, false, by omega, by go_num, rfl, fun h => absurd h (by simp), HN.out nq⟩
                    case measure => simp [intOf]; omega
                  · have HE2 := Lib.hid (HE.out hne)
                    have q1 : (tos[i] != tos[k]) = true := by rw [bne_iff_ne]; exact hne
                    have q2' : (tos[i] == tos[k]) = false := by rw [beq_eq_false_iff_ne]; exact hne
                    clear hne HE HO
                    generalize hti : tos[i] = x at *
                    generalize htk : tos[k] = z at *
                    clear hti htk
                    go_wp2
                    go_quiet (fail)
                    go_wp2
                    go_roundw
                    case rel => exact ⟨k + 1, true, by omega, by go_num, rfl, (fun _ => HE2.out trivial), HN.out nq⟩
                    case measure => simp [intOf]; omega
              · obtain rfl : k = i := by omega
                have HS := Lib.hid hS
                clear hS hon HN
                go_wp2
                go_roundw
                case rel => exact ⟨k + 1, b2, by omega, by go_num, rfl, (fun hb p hp q hq h1 h2 => by
                  by_cases e : p = k
                  · subst e; exact (HO.out hb).2 q hq h2
                  · exact (HO.out hb).1 p hp q hq (by omega) h2), HS.out⟩
                case measure => simp [intOf]; omega
          · obtain rfl : i = tos.length := by omega
            have HS := Lib.hid HO.out.2
            have HOn := Lib.hid HO.out.1
            clear HO
            cases b
            · have HR2 := Lib.hid (fun W (hS : RdS w t u pp m A cap px BX AX capX W) => Rename_w u _ tos next TA NA tc nc W hS.x.lies hS.x.small (IntsAt.up (HI.out.2.1.below hS.below (Nat.le_refl _)) hS.below.size) (IntsAt.up (HI.out.2.2.1.below hS.below (Nat.le_refl _)) hS.below.size) (by omega) (by omega) HI.out.2.2.2.2.1 HI.out.2.2.2.2.2)
              have e0 := HS.out.x.box.e0
              have e1 := HS.out.x.box.e1
              have e2 := HS.out.x.box.e2
              have e3 := HS.out.x.box.e3
              have e4 := HS.out.x.box.e4
              rcases renRes_ways u tos next with ⟨y, hy1, hy2, hy3⟩ | hy1 | hy1
              case inr.inl | inr.inr =>
                rw [hy1] at HR2
                go_wp2_with fail
                refine (HR2.out _ HS.out).mono ?_
                rintro e wa ⟨hb, rfl⟩
                have HB := Lib.hid ((HS.out.step hb).alloc (.cells #[.int .u8 0, .int .i64 0, .string ⟨#[]⟩, .slice none 0 0, .int .i64 0] 26)).below
                clear hb
                unfold zeroVal
                go_wp2_with fail
                refine (awake_w _).mono ?_
                rintro e wz ⟨rfl, hb⟩
                have HBz := Lib.hid (HB.out.trans (hb.mono HB.out.size))
                clear hb
                go_wp2
                go_ret
                exact ⟨rfl, HBz.out⟩
              rw [hy1] at HR2
              obtain ⟨both, hb1, hb2, hb3, hb4⟩ := ren_twice HU.out.2.1 HU.out.1 hy3 hy2
              have HBo := Lib.hid (And.intro hb1 (And.intro hb2 (show In64 both from fun z hz => HI.out.2.2.2.2.2 z (hb4 z hz))))
              have hbl : both.length ≤ 600 := by omega
              have HMy := Lib.hid (sameT_refl (ren_may hy3 hy2).1)
              clear hy1 hy2 hy3 hb1 hb2 hb3 hb4
              go_wp2_with fail
              refine (HR2.out _ HS.out).mono ?_
              rintro e wa ⟨hb, v2, rfl, hF⟩
              obtain ⟨AY, capY, rfl⟩ := hF.cells
              have HY := Lib.hid (BoxT.new wa hF.from (fun _ h => h.2))
              replace HS := Lib.hid ((HS.out.step hb).alloc (.cells #[.int .u8 (y.k : Int), .int .i64 y.n, .string y.s, .slice AY y.l.length capY, .int .i64 y.r] 26))
              clear hb hF HR2 e0 e1 e2 e3 e4
              have HIm := Lib.hid (fun W (hS : RdS w t u pp m A cap px BX AX capX W) => image_w tos tos next TA TA NA tc tc nc W.heap.size W (IntsAt.up (HI.out.2.1.below hS.below (Nat.le_refl _)) hS.below.size) (IntsAt.up (HI.out.2.1.below hS.below (Nat.le_refl _)) hS.below.size) (IntsAt.up (HI.out.2.2.1.below hS.below (Nat.le_refl _)) hS.below.size) (Nat.le_refl _) (by omega) (by omega) (by omega))
              rw [HBo.out.1] at HIm
              go_wp2_with fail
              refine (HIm.out _ HS.out).mono ?_
              rintro e wb ⟨hb, bv, rfl, hown⟩
              obtain ⟨AB, capB, rfl, hcell⟩ := owns_read hown
              have HRb := Lib.hid (show IntsAt wb wb.heap.size AB both from fun i hi => by
                obtain ⟨g, h1, h2, h3⟩ := hcell i hi
                exact ⟨g, 0, h1, h2, by rw [Nat.zero_add]; exact h3⟩)
              replace HS := Lib.hid (HS.out.step hb)
              replace HY := Lib.hid (HY.out.step hb)
              clear hb hown hcell HIm
              have HR3 := Lib.hid (fun W (hS : RdS w t u pp m A cap px BX AX capX W) (hW : IntsAt W W.heap.size AB both) => Rename_w t _ fr both FA AB fc capB W hS.v.lies hS.v.small (IntsAt.up (HI.out.1.below hS.below (Nat.le_refl _)) hS.below.size) hW (by omega) (by omega) HI.out.2.2.2.1 HBo.out.2.2)
              rw [HBo.out.2.1] at HR3
              have e0 := HS.out.v.box.e0
              have e1 := HS.out.v.box.e1
              have e2 := HS.out.v.box.e2
              have e3 := HS.out.v.box.e3
              have e4 := HS.out.v.box.e4
              go_wp2_with fail
              refine (HR3.out _ HS.out HRb.out).mono ?_
              rintro e wc ⟨hb, v3, rfl, hF⟩
              obtain ⟨AZ, capZ, rfl⟩ := hF.cells
              have HZ := Lib.hid (BoxT.new wc hF.from (fun _ h => h.2))
              replace HS := Lib.hid ((HS.out.step hb).alloc (.cells #[.int .u8 (y.k : Int), .int .i64 y.n, .string y.s, .slice AZ y.l.length capZ, .int .i64 y.r] 26))
              replace HY := Lib.hid ((HY.out.step hb).alloc (.cells #[.int .u8 (y.k : Int), .int .i64 y.n, .string y.s, .slice AZ y.l.length capZ, .int .i64 y.r] 26))
              clear hb hF HR3 HRb e0 e1 e2 e3 e4
              have f0 := HY.out.box.e0
              have f1 := HY.out.box.e1
              have f2 := HY.out.box.e2
              have f3 := HY.out.box.e3
              have f4 := HY.out.box.e4
              go_wp2_with fail
              refine (vSame_w y y _ _ _ HY.out.lies HZ.out.lies HY.out.small HZ.out.small).mono ?_
              rintro e wd ⟨rfl, hb⟩
              rw [HMy.out]
              have HB := Lib.hid (HS.out.step hb).below
              clear hb f0 f1 f2 f3 f4 HY HZ HS
              go_wp2_with fail
              refine (awake_w _).mono ?_
              rintro e wz ⟨rfl, hb⟩
              have HBz := Lib.hid (HB.out.trans (hb.mono HB.out.size))
              clear hb
              go_wp2
              go_ret
              exact ⟨rfl, HBz.out⟩
            · have HNd := Lib.hid (show tos.Nodup from List.pairwise_iff_getElem.2 (fun i j hi hj hij e => HOn.out rfl j hj i hi hj hij e.symm))
              have HR4 := Lib.hid (fun W (hS : RdS w t u pp m A cap px BX AX capX W) => Rename_w u _ tos fr TA FA tc fc W hS.x.lies hS.x.small (IntsAt.up (HI.out.2.1.below hS.below (Nat.le_refl _)) hS.below.size) (IntsAt.up (HI.out.1.below hS.below (Nat.le_refl _)) hS.below.size) (by omega) (by omega) HI.out.2.2.2.2.1 HI.out.2.2.2.1)
              rw [ren_back HU.out.2.1 HU.out.1 HNd.out] at HR4
              have e0 := HS.out.x.box.e0
              have e1 := HS.out.x.box.e1
              have e2 := HS.out.x.box.e2
              have e3 := HS.out.x.box.e3
              have e4 := HS.out.x.box.e4
              go_wp2_with fail
              refine (HR4.out _ HS.out).mono ?_
              rintro e wa ⟨hb, v2, rfl, hF⟩
              obtain ⟨AY, capY, rfl⟩ := hF.cells
              have HY := Lib.hid (BoxT.new wa hF.from (fun _ h => h.2))
              replace HS := Lib.hid ((HS.out.step hb).alloc (.cells #[.int .u8 (t.k : Int), .int .i64 t.n, .string t.s, .slice AY t.l.length capY, .int .i64 t.r] 26))
              clear hb hF HR4 e0 e1 e2 e3 e4
              have f0 := HY.out.box.e0
              have f1 := HY.out.box.e1
              have f2 := HY.out.box.e2
              have f3 := HY.out.box.e3
              have f4 := HY.out.box.e4
              have e0 := HS.out.v.box.e0
              have e1 := HS.out.v.box.e1
              have e2 := HS.out.v.box.e2
              have e3 := HS.out.v.box.e3
              have e4 := HS.out.v.box.e4
              go_wp2_with fail
              refine (vSame_w t t _ _ _ HY.out.lies HS.out.v.lies HY.out.small HS.out.v.small).mono ?_
              rintro e wb ⟨rfl, hb⟩
              rw [sameT_refl HMay.out]
              replace HS := Lib.hid (HS.out.step hb)
              clear hb f0 f1 f2 f3 f4 e0 e1 e2 e3 e4 HY
              have HR2 := Lib.hid (fun W (hS : RdS w t u pp m A cap px BX AX capX W) => Rename_w u _ tos next TA NA tc nc W hS.x.lies hS.x.small (IntsAt.up (HI.out.2.1.below hS.below (Nat.le_refl _)) hS.below.size) (IntsAt.up (HI.out.2.2.1.below hS.below (Nat.le_refl _)) hS.below.size) (by omega) (by omega) HI.out.2.2.2.2.1 HI.out.2.2.2.2.2)
              have e0 := HS.out.x.box.e0
              have e1 := HS.out.x.box.e1
              have e2 := HS.out.x.box.e2
              have e3 := HS.out.x.box.e3
              have e4 := HS.out.x.box.e4
              rcases renRes_ways u tos next with ⟨y, hy1, hy2, hy3⟩ | hy1 | hy1
              case inr.inl | inr.inr =>
                rw [hy1] at HR2
                go_wp2_with fail
                refine (HR2.out _ HS.out).mono ?_
                rintro e wa ⟨hb, rfl⟩
                have HB := Lib.hid ((HS.out.step hb).alloc (.cells #[.int .u8 0, .int .i64 0, .string ⟨#[]⟩, .slice none 0 0, .int .i64 0] 26)).below
                clear hb
                unfold zeroVal
                go_wp2_with fail
                refine (awake_w _).mono ?_
                rintro e wz ⟨rfl, hb⟩
                have HBz := Lib.hid (HB.out.trans (hb.mono HB.out.size))
                clear hb
                go_wp2
                go_ret
                exact ⟨rfl, HBz.out⟩
              rw [hy1] at HR2
              obtain ⟨both, hb1, hb2, hb3, hb4⟩ := ren_twice HU.out.2.1 HU.out.1 hy3 hy2
              have HBo := Lib.hid (And.intro hb1 (And.intro hb2 (show In64 both from fun z hz => HI.out.2.2.2.2.2 z (hb4 z hz))))
              have hbl : both.length ≤ 600 := by omega
              have HMy := Lib.hid (sameT_refl (ren_may hy3 hy2).1)
              clear hy1 hy2 hy3 hb1 hb2 hb3 hb4
              go_wp2_with fail
              refine (HR2.out _ HS.out).mono ?_
              rintro e wa ⟨hb, v2, rfl, hF⟩
              obtain ⟨AY, capY, rfl⟩ := hF.cells
              have HY := Lib.hid (BoxT.new wa hF.from (fun _ h => h.2))
              replace HS := Lib.hid ((HS.out.step hb).alloc (.cells #[.int .u8 (y.k : Int), .int .i64 y.n, .string y.s, .slice AY y.l.length capY, .int .i64 y.r] 26))
              clear hb hF HR2 e0 e1 e2 e3 e4
              have HIm := Lib.hid (fun W (hS : RdS w t u pp m A cap px BX AX capX W) => image_w tos tos next TA TA NA tc tc nc W.heap.size W (IntsAt.up (HI.out.2.1.below hS.below (Nat.le_refl _)) hS.below.size) (IntsAt.up (HI.out.2.1.below hS.below (Nat.le_refl _)) hS.below.size) (IntsAt.up (HI.out.2.2.1.below hS.below (Nat.le_refl _)) hS.below.size) (Nat.le_refl _) (by omega) (by omega) (by omega))
              rw [HBo.out.1] at HIm
              go_wp2_with fail
              refine (HIm.out _ HS.out).mono ?_
              rintro e wb ⟨hb, bv, rfl, hown⟩
              obtain ⟨AB, capB, rfl, hcell⟩ := owns_read hown
              have HRb := Lib.hid (show IntsAt wb wb.heap.size AB both from fun i hi => by
                obtain ⟨g, h1, h2, h3⟩ := hcell i hi
                exact ⟨g, 0, h1, h2, by rw [Nat.zero_add]; exact h3⟩)
              replace HS := Lib.hid (HS.out.step hb)
              replace HY := Lib.hid (HY.out.step hb)
              clear hb hown hcell HIm
              have HR3 := Lib.hid (fun W (hS : RdS w t u pp m A cap px BX AX capX W) (hW : IntsAt W W.heap.size AB both) => Rename_w t _ fr both FA AB fc capB W hS.v.lies hS.v.small (IntsAt.up (HI.out.1.below hS.below (Nat.le_refl _)) hS.below.size) hW (by omega) (by omega) HI.out.2.2.2.1 HBo.out.2.2)
              rw [HBo.out.2.1] at HR3
              have e0 := HS.out.v.box.e0
              have e1 := HS.out.v.box.e1
              have e2 := HS.out.v.box.e2
              have e3 := HS.out.v.box.e3
              have e4 := HS.out.v.box.e4
              go_wp2_with fail
              refine (HR3.out _ HS.out HRb.out).mono ?_
              rintro e wc ⟨hb, v3, rfl, hF⟩
              obtain ⟨AZ, capZ, rfl⟩ := hF.cells
              have HZ := Lib.hid (BoxT.new wc hF.from (fun _ h => h.2))
              replace HS := Lib.hid ((HS.out.step hb).alloc (.cells #[.int .u8 (y.k : Int), .int .i64 y.n, .string y.s, .slice AZ y.l.length capZ, .int .i64 y.r] 26))
              replace HY := Lib.hid ((HY.out.step hb).alloc (.cells #[.int .u8 (y.k : Int), .int .i64 y.n, .string y.s, .slice AZ y.l.length capZ, .int .i64 y.r] 26))
              clear hb hF HR3 HRb e0 e1 e2 e3 e4
              have f0 := HY.out.box.e0
              have f1 := HY.out.box.e1
              have f2 := HY.out.box.e2
              have f3 := HY.out.box.e3
              have f4 := HY.out.box.e4
              go_wp2_with fail
              refine (vSame_w y y _ _ _ HY.out.lies HZ.out.lies HY.out.small HZ.out.small).mono ?_
              rintro e wd ⟨rfl, hb⟩
              rw [HMy.out]
              have HB := Lib.hid (HS.out.step hb).below
              clear hb f0 f1 f2 f3 f4 HY HZ HS
              go_wp2_with fail
              refine (awake_w _).mono ?_
              rintro e wz ⟨rfl, hb⟩
              have HBz := Lib.hid (HB.out.trans (hb.mono HB.out.size))
              clear hb
              go_wp2
              go_ret
              exact ⟨rfl, HBz.out⟩
end Go.Proofs.Ytckgmdlacaiacaa
