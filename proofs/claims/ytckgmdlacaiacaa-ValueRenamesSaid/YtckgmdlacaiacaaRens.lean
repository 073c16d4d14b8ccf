/-
  ValueRenames: the walk.
-/
import Derived.Deep.RegionHeld3
import Derived.Deep.DeepCutAuto
import Derived.Test.YtckgmdlacaiacaaRens0
import Derived.Test.YtckgmdlacaiacaaOfs0
import Derived.Test.YtckgmdlacaiacaaVBytes
namespace Go.Proofs.Ytckgmdlacaiacaa
open Go.RowKit Go.Shelf
attribute [local go_sem] Oper.semAt_some

theorem renT_may {f : Int → Option Int} (hf : ∀ r x, f r = some x → 1 ≤ x) : ∀ (t : VT), t.good = true → ∀ u, renT f t = some u → u.good = true ∧ u.parts = t.parts ∧ u.deep = t.deep := by
  refine VT.ind fun k n s r l ih h u hu => ?_
  obtain ⟨hp, hg⟩ := good_text h
  rw [renT] at hu
  split at hu
  · rename_i h4
    subst h4
    cases hf1 : f r with
    | none => rw [hf1] at hu; cases hu
    | some x =>
      rw [hf1] at hu
      simp only [Option.map_some, Option.some.injEq] at hu
      subst hu
      have hx := hf r x hf1
      refine ⟨?_, rfl, rfl⟩
      rw [VT.good, hg, Bool.and_true]
      simp only [propN, Bool.and_eq_true, decide_eq_true_eq] at hp ⊢
      exact ⟨hp.1, hx⟩
  · rename_i h4
    have key : ∀ (l' : List VT), (∀ t ∈ l', t ∈ l) → ∀ us, renL f l' = some us → VT.goodL us = true ∧ VT.partsL us = VT.partsL l' ∧ VT.deepL us = VT.deepL l' := by
      intro l'
      induction l' with
      | nil =>
        intro _ us h
        simp only [renL, Option.some.injEq] at h
        subst h
        exact ⟨rfl, rfl, rfl⟩
      | cons t ts iht =>
        intro hm us h
        simp only [renL] at h
        cases h1 : renT f t with
        | none => rw [h1] at h; cases h
        | some t' =>
          cases h2 : renL f ts with
          | none => rw [h1, h2] at h; cases h
          | some ts' =>
            rw [h1, h2] at h
            simp only [Option.bind_some, Option.map_some, Option.some.injEq] at h
            subst h
            obtain ⟨a1, a2, a3⟩ := ih t (hm t List.mem_cons_self) (goodL_mem hg t (hm t List.mem_cons_self)) t' h1
            obtain ⟨b1, b2, b3⟩ := iht (fun u hu => hm u (List.mem_cons_of_mem _ hu)) ts' h2
            refine ⟨by rw [VT.goodL, a1, b1]; rfl, ?_, ?_⟩
            · show t'.parts + VT.partsL ts' = t.parts + VT.partsL ts
              rw [a2, b2]
            · show max t'.deep (VT.deepL ts') = max t.deep (VT.deepL ts)
              rw [a3, b3]
    cases h1 : renL f l with
    | none => rw [h1] at hu; cases hu
    | some us =>
      rw [h1] at hu
      simp only [Option.map_some, Option.some.injEq] at hu
      subst hu
      obtain ⟨a1, a2, a3⟩ := key l (fun _ h => h) us h1
      have hl := renL_len f _ _ h1
      refine ⟨by rw [VT.good, hl, hp, a1]; rfl, ?_, ?_⟩
      · show 1 + VT.partsL us = 1 + VT.partsL l
        rw [a2]
      · show (if k = 3 then 1 + VT.deepL us else 0) = (if k = 3 then 1 + VT.deepL l else 0)
        rw [a3]
theorem lookF_pos : ∀ {fr tos : List Int}, posAll tos = true → ∀ r x, lookF fr tos r = some x → 1 ≤ x
  | [], _, _, r, x, h => by cases h
  | _ :: _, [], _, r, x, h => by cases h
  | a :: fr, b :: tos, hp, r, x, h => by
    unfold posAll at hp
    simp only [List.all_cons, Bool.and_eq_true, decide_eq_true_eq] at hp
    rw [lookF] at h
    split at h
    · cases h; exact hp.1
    · exact lookF_pos (fr := fr) (tos := tos) hp.2 r x h
theorem renRes_may {t : VT} {fr tos : List Int} : (resT (renRes t fr tos).1).may = true := by
  unfold renRes
  split
  · rename_i h
    unfold renOk at h
    simp only [Bool.and_eq_true] at h
    obtain ⟨⟨⟨h1, _⟩, _⟩, h4⟩ := h
    cases hr : renT (lookF fr tos) t with
    | none => exact zeroT_may
    | some u =>
      have hm := h1
      unfold VT.may VT.ok at hm
      simp only [Bool.and_eq_true, decide_eq_true_eq] at hm
      obtain ⟨a1, a2, a3⟩ := renT_may (fun r x => lookF_pos h4 r x) t hm.1.1 u hr
      show u.may = true
      unfold VT.may VT.ok
      simp only [Bool.and_eq_true, decide_eq_true_eq]
      exact ⟨⟨a1, by omega⟩, by omega⟩
  · exact zeroT_may
/-- An answer in new memory, in a box that lies among it. -/
structure LkG (t : VT) (B5 : Nat) (A5 : Option Addr) (cap5 : Nat) (F : List Nat) (lo hi : Nat) (W : World) : Prop where
  box : Five W B5 (.int .u8 (t.k : Int)) (.int .i64 t.n) (.string t.s) (.slice A5 t.l.length cap5) (.int .i64 t.r)
  own : Own W t (.agg #[.int .u8 (t.k : Int), .int .i64 t.n, .string t.s, .slice A5 t.l.length cap5, .int .i64 t.r]) F
  nodup : F.Nodup
  mem : ∀ g ∈ F, lo ≤ g ∧ g < hi ∧ g ≠ B5
  bx : lo ≤ B5 ∧ B5 < hi
  top : hi ≤ W.heap.size
namespace LkG
variable {t : VT} {B5 : Nat} {A5 : Option Addr} {cap5 : Nat} {F : List Nat} {lo hi : Nat} {W W' : World}
theorem small (h : LkG t B5 A5 cap5 F lo hi W) : ∀ g ∈ F, g < W.heap.size := fun g hg => Nat.lt_of_lt_of_le (h.mem g hg).2.1 h.top
theorem step (h : LkG t B5 A5 cap5 F lo hi W) (hb : Below W.heap.size W W') : LkG t B5 A5 cap5 F lo hi W' :=
  ⟨h.box.below hb h.box.lt, h.own.below hb h.small, h.nodup, h.mem, h.bx, Nat.le_trans h.top hb.size⟩
theorem lies (h : LkG t B5 A5 cap5 F lo hi W) : Lies W (· ∈ F) false t (.agg #[.int .u8 (t.k : Int), .int .i64 t.n, .string t.s, .slice A5 t.l.length cap5, .int .i64 t.r]) := Own.lies _ _ _ h.own
end LkG
/-- The box was laid first, the answer came behind it. -/
theorem LkG.first {w W : World} {t : VT} {A5 : Option Addr} {cap5 B5 : Nat} {v0 v1 v2 v3 v4 : Value} (h : Fresh w W t (.agg #[.int .u8 (t.k : Int), .int .i64 t.n, .string t.s, .slice A5 t.l.length cap5, .int .i64 t.r])) (hx : Five W B5 v0 v1 v2 v3 v4) (hB : B5 < w.heap.size) :
    ∃ F, LkG t B5 A5 cap5 F B5 W.heap.size (((((W.setCell ⟨B5, 0, none⟩ (.int .u8 (t.k : Int))).setCell ⟨B5, 1, none⟩ (.int .i64 t.n)).setCell ⟨B5, 2, none⟩ (.string t.s)).setCell ⟨B5, 3, none⟩ (.slice A5 t.l.length cap5)).setCell ⟨B5, 4, none⟩ (.int .i64 t.r)) := by
  obtain ⟨F, h1, h2, h3⟩ := h
  refine ⟨F, hx.set5 _ _ _ _ _, Own.same_all _ _ _ (fun g hg => heap_set5_other _ _ _ _ _ (by have := (h3 g hg).1; omega)) h1, h2, fun g hg => ?_, ⟨Nat.le_refl _, hx.lt⟩, by simp⟩
  have := h3 g hg
  exact ⟨by omega, this.2, by omega⟩
/-- The answer came first. -/
theorem LkG.second {w W : World} {t : VT} {A5 : Option Addr} {cap5 : Nat} (h : Fresh w W t (.agg #[.int .u8 (t.k : Int), .int .i64 t.n, .string t.s, .slice A5 t.l.length cap5, .int .i64 t.r])) (hw : w.heap.size ≤ W.heap.size) :
    ∃ F, LkG t W.heap.size A5 cap5 F w.heap.size (W.heap.size + 1) (W.alloc (.cells #[.int .u8 (t.k : Int), .int .i64 t.n, .string t.s, .slice A5 t.l.length cap5, .int .i64 t.r] 26)) := by
  obtain ⟨F, h1, h2, h3⟩ := h
  refine ⟨F, Five.new W _ _ _ _ _, h1.below ((Below.refl W.heap.size W).alloc (Nat.le_refl _) _) (fun g hg => (h3 g hg).2), h2, fun g hg => ?_, ⟨hw, by omega⟩, by simp⟩
  have := h3 g hg
  exact ⟨this.1, by omega, by omega⟩
theorem IntsAt.up {W : World} {B B' : Nat} {A : Option Addr} {ps : List Int} (h : IntsAt W B A ps) (hB : B ≤ B') : IntsAt W B' A ps := fun i hi => by
  obtain ⟨b, off, h1, h2, h3⟩ := h i hi
  exact ⟨b, off, h1, by omega, h3⟩
theorem below_app1 {W0 w4 : World} (h : W0.grownBy w4 none) : Below W0.heap.size W0 w4 := (Below.refl _ _).grown h (Nat.le_refl _) (fun k hk => by cases hk)
theorem below_app2 {W0 w4 w5 : World} {v : Value} {n base : Nat} {xs : List Value} {o : Obj} (hb : Below W0.heap.size W0 w4) (h : w4.ownsRow base 24 1 v n xs) (hB : W0.heap.size ≤ base) (hg : (w4.alloc o).grownBy w5 v.ownBlock) : Below W0.heap.size W0 w5 :=
  (hb.alloc hb.size o).grown hg (by have := hb.size; simp; omega) (fun k hk => Nat.le_trans hB (h.lt k hk).1)
set_option maxRecDepth 100000 in
set_option maxHeartbeats 16000000 in
theorem ValueRenames_w {pp : Nat → Prop} {m : Bool} (t : VT) (v : Value) (fr tos : List Int) (FA TA : Option Addr) (fc tc : Nat) (w : World) (h : Lies w pp m t v) (hpp : ∀ b, pp b → b < w.heap.size) (hfr : IntsAt w w.heap.size FA fr) (hto : IntsAt w w.heap.size TA tos)
    (hFA : FA = none → fc = 0) (hTA : TA = none → tc = 0) (hf64 : In64 fr) (ht64 : In64 tos) (hfl : fr.length ≤ 9223372036854775807) (htl : tos.length ≤ 9223372036854775807) :
    Calls Try.prog 8 #[v, .slice FA fr.length fc, .slice TA tos.length tc] w fun e w' => e = .returned (.bool true) ∧ Below w.heap.size w w' := by
  obtain ⟨A, cap, rfl⟩ := h.cells
  have HX0 := Lib.hid (BoxT.new w h hpp)
  have HB0 := Lib.hid ((Below.refl w.heap.size w).alloc (Nat.le_refl _) (.cells #[.int .u8 (t.k : Int), .int .i64 t.n, .string t.s, .slice A t.l.length cap, .int .i64 t.r] 26))
  have HI := Lib.hid (And.intro hfr (And.intro hto (And.intro hFA (And.intro hTA (And.intro hf64 ht64)))))
  clear h hpp hfr hto hFA hTA hf64 ht64
  go_enter Try.func8, Try.ntmps8
  go_wp2_with fail
  refine (small_w pp m t _ 1200 41 40 _ HX0.out.lies HX0.out.small (by omega) (by omega) (by omega)).mono ?_
  rintro e w1 ⟨rfl, hb⟩
  have HX1 := Lib.hid (HX0.out.step hb)
  have HB1 := Lib.hid (HB0.out.trans (hb.mono (by simp)))
  have hs1 := HB1.out.size
  clear hb HX0 HB0
  have e0 := HX1.out.box.e0
  have e1 := HX1.out.box.e1
  have e2 := HX1.out.box.e2
  have e3 := HX1.out.box.e3
  have e4 := HX1.out.box.e4
  obtain ⟨q, hq⟩ : ∃ q, t.sm 1200 41 = q := ⟨_, rfl⟩
  unfold smallV
  rw [hq]
  have Hq := Lib.hid hq
  clear hq
  cases q
  · rw [if_neg (by simp)]
    go_wp2_with fail
    refine (awake_w _).mono ?_
    rintro e w2 ⟨rfl, hb⟩
    have HB2 := Lib.hid (HB1.out.trans (hb.mono hs1))
    clear hb
    go_wp2
    go_ret
    exact ⟨rfl, HB2.out⟩
  have hpar := VT.sm_parts Hq.out
  rw [if_pos rfl]
  have q2 : decide ((t.parts : Int) < 0) = false := decide_eq_false (by omega)
  by_cases hbig : 600 < fr.length
  · have q1 : decide ((600 : Int) < (fr.length : Int)) = true := decide_eq_true (by omega)
    have q1' : decide (600 < fr.length) = true := decide_eq_true hbig
    go_wp2_with fail
    refine (awake_w _).mono ?_
    rintro e w2 ⟨rfl, hb⟩
    have HB2 := Lib.hid (HB1.out.trans (hb.mono hs1))
    clear hb
    go_wp2
    go_ret
    exact ⟨rfl, HB2.out⟩
  have q1 : decide ((600 : Int) < (fr.length : Int)) = false := decide_eq_false (by omega)
  have q1' : decide (600 < fr.length) = false := decide_eq_false hbig
  by_cases hbig2 : 600 < tos.length
  · have q3 : decide ((600 : Int) < (tos.length : Int)) = true := decide_eq_true (by omega)
    have q3' : decide (600 < tos.length) = true := decide_eq_true hbig2
    go_wp2_with fail
    refine (awake_w _).mono ?_
    rintro e w2 ⟨rfl, hb⟩
    have HB2 := Lib.hid (HB1.out.trans (hb.mono hs1))
    clear hb
    go_wp2
    go_ret
    exact ⟨rfl, HB2.out⟩
  have q3 : decide ((600 : Int) < (tos.length : Int)) = false := decide_eq_false (by omega)
  have q3' : decide (600 < tos.length) = false := decide_eq_false hbig2
  go_wp2_with fail
  refine (lent_w pp m t _ _ HX1.out.lies HX1.out.small (by omega)).mono ?_
  rintro e w2 ⟨v3, rfl, hlin, hb⟩
  obtain ⟨A3, cap3, rfl⟩ := hlin.cells
  have hsb := hb.size
  have hw1 := HX1.out.box.lt
  have HS := Lib.hid (Lk2.mk ((HX1.out.step hb).alloc (.cells #[.int .u8 (t.k : Int), .int .i64 t.n, .string t.s, .slice A3 t.l.length cap3, .int .i64 t.r] 26)) (BoxT.new w2 hlin (fun _ h => h.2)) ((HB1.out.trans (hb.mono hs1)).alloc (by omega) _) (by omega))
  clear e0 e1 e2 e3 e4
  clear hb HX1 HB1 hlin hs1 q1 q1' q3 q3'
  have hf6 : fr.length ≤ 600 := by omega
  have ht6 : tos.length ≤ 600 := by omega
  clear hbig hbig2
  obtain ⟨i0, hi, hz0, hz1, hz2⟩ := info_parts infoR
  go_wp2_with (first
    | (at_builtin; refine wpList_append_refs rfl (.const (.slice none 0 0)) (.tmp 34) (w2.heap.size + 1) rfl _ 0 [] rfl (World.ownsRow_nil _ _ _ _) FA fr fc w.heap.size rfl HI.out.2.2.1 (HI.out.1.below HS.out.below (Nat.le_refl _)) (by omega) (by first | omega | (simp; done)) ?_; intro v4 w4 h1 h2 h3; clear h3; rw [Nat.zero_add, List.nil_append] at h1; obtain ⟨Av4, cv4, rfl⟩ := owns_slice h1; have HP4 := Lib.hid (And.intro h1 (below_app1 h2)); clear h1 h2)
    | (at_builtin; refine wpList_append_own_at _ rfl (.tmp 35) (.tmp 36) 30 rfl (w2.heap.size + 1) 24 i0 (.int .i64 0) 1 8 Try.underlying30 hi hz0 hz1 hz2 rfl (by decide) _ _ _ rfl (HP4.out.1.alloc _) ⟨_, 0, none⟩ 1 1 [.int .i64 77] rfl rfl (one_cell _ _ (by simp)) (by simp [Value.oneCell']) (by unfold maxLen; omega) (by omega) (by have := HP4.out.2.size; simp at this ⊢; omega) ?_; intro v5 w5 h1 h2 _ h4; obtain ⟨gv5, cv5, rfl, hm⟩ := rowM_of h1; have HP5 := Lib.hid (And.intro hm (below_app2 HP4.out.2 HP4.out.1 (by simp) h2)); clear h1 h2 h4 hm)
    | (at_builtin; refine wpList_append_refs rfl (.const (.slice none 0 0)) (.tmp 38) w5.heap.size rfl _ 0 [] rfl (World.ownsRow_nil _ _ _ _) TA tos tc w.heap.size rfl HI.out.2.2.2.1 (HI.out.2.1.below (HS.out.step HP5.out.2).below (Nat.le_refl _)) (by omega) (by first | omega | (simp; done)) ?_; intro v6 w6 h1 h2 h3; clear h3; rw [Nat.zero_add, List.nil_append] at h1; obtain ⟨Av6, cv6, rfl⟩ := owns_slice h1; have HP6 := Lib.hid (And.intro h1 (below_app1 h2)); clear h1 h2)
    | (at_builtin; refine wpList_append_own_at _ rfl (.tmp 39) (.tmp 40) 30 rfl w5.heap.size 24 i0 (.int .i64 0) 1 8 Try.underlying30 hi hz0 hz1 hz2 rfl (by decide) _ _ _ rfl (HP6.out.1.alloc _) ⟨_, 0, none⟩ 1 1 [.int .i64 78] rfl rfl (one_cell _ _ (by simp)) (by simp [Value.oneCell']) (by unfold maxLen; omega) (by omega) (by have := HP6.out.2.size; simp at this ⊢; omega) ?_; intro v7 w7 h1 h2 _ h4; obtain ⟨gv7, cv7, rfl, hm⟩ := rowM_of h1; have HP7 := Lib.hid (And.intro hm (below_app2 HP6.out.2 HP6.out.1 (Nat.le_refl _) h2)); clear h1 h2 h4 hm))
  have HS7 := Lib.hid ((HS.out.step HP5.out.2).step HP7.out.2)
  have HX7 := Lib.hid (HP5.out.1.step HP7.out.2 (Nat.le_refl _))
  have HY7 := Lib.hid HP7.out.1
  have h57 := HP7.out.2.size
  have hB37 := HS7.out.bLt
  have hx7 := HX7.out.room
  have hy7 := HY7.out.room
  clear HS HP4 HP5 HP6 HP7 hi hz0 hz1 hz2
  have HCall := Lib.hid (fun W (hW : Below w7.heap.size w7 W) => show Calls Try.prog 47 #[.agg #[.int .u8 (t.k : Int), .int .i64 t.n, .string t.s, .slice A3 t.l.length cap3, .int .i64 t.r], .slice (some ⟨gv5, 0, none⟩) fr.length cv5, .slice (some ⟨gv7, 0, none⟩) tos.length cv7] W (fun e W' => AnsT W (resT (renRes t fr tos).1) (renRes t fr tos).2 e W') from
    (Rename_w t _ fr tos _ _ cv5 cv7 W (HS7.out.two.lies.below hW HS7.out.two.small) (fun b hb => Nat.lt_of_lt_of_le (HS7.out.two.small b hb) hW.size) (IntsAt.up (HX7.out.ints.below hW h57) (Nat.le_trans h57 hW.size)) (IntsAt.up (HY7.out.ints.below hW (Nat.le_refl _)) hW.size) (by omega) (by omega) HI.out.2.2.2.2.1 HI.out.2.2.2.2.2).mono fun _ _ h => h.ans)
  have HRCall := Lib.hid (fun W (hW : Below w.heap.size w W) (hl : Lies W pp m t (.agg #[.int .u8 (t.k : Int), .int .i64 t.n, .string t.s, .slice A t.l.length cap, .int .i64 t.r])) (hp : ∀ b, pp b → b < W.heap.size) => show Calls Try.prog 48 #[.agg #[.int .u8 (t.k : Int), .int .i64 t.n, .string t.s, .slice A t.l.length cap, .int .i64 t.r], .slice FA fr.length fc, .slice TA tos.length tc] W (fun e W' => AnsM W (resT (renRes t fr tos).1) (renRes t fr tos).2 e W') from
    (rRename_w t _ fr tos _ _ fc tc W hl hp (IntsAt.up (HI.out.1.below hW (Nat.le_refl _)) hW.size) (IntsAt.up (HI.out.2.1.below hW (Nat.le_refl _)) hW.size) (by omega) (by omega) HI.out.2.2.2.2.2).mono fun _ _ h => h.ans)
  have HMY := Lib.hid (renRes_may (t := t) (fr := fr) (tos := tos))
  -- REGIONS
  have HBase := Lib.hid (Below.refl w7.heap.size w7)
  generalize resT (renRes t fr tos).1 = u at *
  generalize (renRes t fr tos).2 = n at *
  have hq5 : (fr.length : Int) ≤ (cv5 : Int) := by omega
  have hq7 : (tos.length : Int) ≤ (cv7 : Int) := by omega
  have hq5' : fr.length ≤ cv5 := by omega
  have hq7' : tos.length ≤ cv7 := by omega
  have HKeep := Lib.hid (fun W (hW : Below w7.heap.size w7 W) => show W.cell? ⟨w2.heap.size, 0, none⟩ = some (.int .u8 (t.k : Int)) ∧ W.cell? ⟨w2.heap.size, 1, none⟩ = some (.int .i64 t.n) ∧ W.cell? ⟨w2.heap.size, 2, none⟩ = some (.string t.s) ∧ W.cell? ⟨w2.heap.size, 3, none⟩ = some (.slice A3 t.l.length cap3) ∧ W.cell? ⟨w2.heap.size, 4, none⟩ = some (.int .i64 t.r) from
    have X := HS7.out.two.box.below hW HS7.out.bLt
    ⟨X.e0, X.e1, X.e2, X.e3, X.e4⟩)
  have HZ0 := Lib.hid (fun W (h : Below (w7.alloc (.cells #[.int .u8 0, .int .i64 0, .string ⟨#[]⟩, .slice none 0 0, .int .i64 0] 26)).drew.heap.size (w7.alloc (.cells #[.int .u8 0, .int .i64 0, .string ⟨#[]⟩, .slice none 0 0, .int .i64 0] 26)).drew W) => show Five W w7.heap.size (.int .u8 0) (.int .i64 0) (.string ⟨#[]⟩) (.slice none 0 0) (.int .i64 0) from
    (Five.new w7 (.int .u8 0) (.int .i64 0) (.string ⟨#[]⟩) (.slice none 0 0) (.int .i64 0)).drew.below h (by simp))
  go_cut [10, 11] (fun s10 s11 wx => ∃ B5 A5 cap5 F hi, s10 = .pointer (some ⟨B5, 0, none⟩) ∧ s11 = .int .i64 n ∧ LkG u B5 A5 cap5 F w7.heap.size hi wx ∧ Below w7.heap.size w7 wx)
  case first =>
    go_region_held3 (fun w' => w'.cell? ⟨w2.heap.size, 0, none⟩ = some (.int .u8 (t.k : Int)) ∧ w'.cell? ⟨w2.heap.size, 1, none⟩ = some (.int .i64 t.n) ∧ w'.cell? ⟨w2.heap.size, 2, none⟩ = some (.string t.s) ∧ w'.cell? ⟨w2.heap.size, 3, none⟩ = some (.slice A3 t.l.length cap3) ∧ w'.cell? ⟨w2.heap.size, 4, none⟩ = some (.int .i64 t.r))
      (first | with_reducible exact HC8s.out _ _ _ _ _ | with_reducible exact HKeep.out _ (Below.refl _ _) | with_reducible exact HKeep.out _ (Below.refl _ _).drew | with_reducible exact HKeep.out _ ((Below.refl _ _).alloc (Nat.le_refl _) _).drew | with_reducible exact HC8.out _ (Below.refl _ _) | with_reducible exact HC8.out _ ((Below.refl _ _).alloc (Nat.le_refl _) _))
      (first | (go_at_call 47; refine (HCall.out _ (by first | exact HBase.out.trans ((Below.refl w7.heap.size w7).drew.mono HBase.out.size) | exact HBase.out.trans (((Below.refl w7.heap.size w7).alloc (Nat.le_refl _) _).drew.mono HBase.out.size))).mono ?_; rintro e w8 ⟨hb, A5, cap5, rfl, hF⟩; have HF8 := Lib.hid (And.intro hb hF); have HB8 := Lib.hid (show Below w7.heap.size w7 w8 from (by first | exact (Below.refl _ _).drew.trans hb | exact (((Below.refl w7.heap.size w7).alloc (Nat.le_refl _) _).drew).trans (hb.mono (by simp)))); have HC8 := Lib.hid (fun W (hW : Below w8.heap.size w8 W) => HKeep.out W (HB8.out.trans (hW.mono HB8.out.size))); (first | (have hb5 : Below (w7.alloc (.cells #[.int .u8 0, .int .i64 0, .string ⟨#[]⟩, .slice none 0 0, .int .i64 0] 26)).drew.heap.size (w7.alloc (.cells #[.int .u8 0, .int .i64 0, .string ⟨#[]⟩, .slice none 0 0, .int .i64 0] 26)).drew w8 := (by with_reducible exact hb); have b5 := HZ0.out w8 hb5; clear hb5; have y0 := b5.e0; have y1 := b5.e1; have y2 := b5.e2; have y3 := b5.e3; have y4 := b5.e4; have yz0 := b5.froz 0; have yz1 := b5.froz 1; have yz2 := b5.froz 2; have yz3 := b5.froz 3; have yz4 := b5.froz 4; have HB5 := Lib.hid b5; clear b5) | skip); have HC8s := Lib.hid (fun v0 v1 v2 v3 v4 => HKeep.out (((((w8.setCell ⟨w7.heap.size, 0, none⟩ v0).setCell ⟨w7.heap.size, 1, none⟩ v1).setCell ⟨w7.heap.size, 2, none⟩ v2).setCell ⟨w7.heap.size, 3, none⟩ v3).setCell ⟨w7.heap.size, 4, none⟩ v4) (below_set5 HB8.out (Nat.le_refl _) v0 v1 v2 v3 v4)); clear hb hF))
    · obtain ⟨F, hL⟩ := LkG.second HF8.out.2 HF8.out.1.size
      go_wp2_with fail
      go_meet
      exact ⟨_, A5, cap5, F, _, rfl, rfl, hL, HB8.out.alloc HB8.out.size _⟩
    · obtain ⟨F, hL⟩ := LkG.first HF8.out.2 HB5.out (by simp)
      go_wp2_with fail
      go_meet
      exact ⟨_, A5, cap5, F, _, rfl, rfl, hL, below_set5 HB8.out (Nat.le_refl _) _ _ _ _ _⟩
  case rest =>
    obtain ⟨B5, A5, cap5, F5, hi5, rfl, rfl, hL5, hB⟩ := hcut
    have HL5 := Lib.hid hL5
    have HS8 := Lib.hid (HS7.out.step hB)
    have HX8 := Lib.hid (HX7.out.step hB h57)
    have HY8 := Lib.hid (HY7.out.step hB (Nat.le_refl _))
    replace HBase := Lib.hid hB
    clear hL5 hB HS7 HX7 HY7 HKeep HZ0
    obtain ⟨w9, rfl⟩ : ∃ w9, w9 = wc := ⟨_, rfl⟩
    have ht5 := HL5.out.top
    go_wp2_with fail
    have HKeep := Lib.hid (fun W (hW : Below w9.heap.size w9 W) => show W.cell? ⟨w2.heap.size, 0, none⟩ = some (.int .u8 (t.k : Int)) ∧ W.cell? ⟨w2.heap.size, 1, none⟩ = some (.int .i64 t.n) ∧ W.cell? ⟨w2.heap.size, 2, none⟩ = some (.string t.s) ∧ W.cell? ⟨w2.heap.size, 3, none⟩ = some (.slice A3 t.l.length cap3) ∧ W.cell? ⟨w2.heap.size, 4, none⟩ = some (.int .i64 t.r) from
      have X := HS8.out.two.box.below hW HS8.out.bLt
      ⟨X.e0, X.e1, X.e2, X.e3, X.e4⟩)
    have HZ0 := Lib.hid (fun W (h : Below (w9.alloc (.cells #[.int .u8 0, .int .i64 0, .string ⟨#[]⟩, .slice none 0 0, .int .i64 0] 26)).drew.heap.size (w9.alloc (.cells #[.int .u8 0, .int .i64 0, .string ⟨#[]⟩, .slice none 0 0, .int .i64 0] 26)).drew W) => show Five W w9.heap.size (.int .u8 0) (.int .i64 0) (.string ⟨#[]⟩) (.slice none 0 0) (.int .i64 0) from
      (Five.new w9 (.int .u8 0) (.int .i64 0) (.string ⟨#[]⟩) (.slice none 0 0) (.int .i64 0)).drew.below h (by simp))
    go_cut [12, 13] (fun s10 s11 wx => ∃ B5 A5 cap5 F hi, s10 = .pointer (some ⟨B5, 0, none⟩) ∧ s11 = .int .i64 n ∧ LkG u B5 A5 cap5 F w9.heap.size hi wx ∧ Below w9.heap.size w9 wx)
    case first =>
      go_region_held3 (fun w' => w'.cell? ⟨w2.heap.size, 0, none⟩ = some (.int .u8 (t.k : Int)) ∧ w'.cell? ⟨w2.heap.size, 1, none⟩ = some (.int .i64 t.n) ∧ w'.cell? ⟨w2.heap.size, 2, none⟩ = some (.string t.s) ∧ w'.cell? ⟨w2.heap.size, 3, none⟩ = some (.slice A3 t.l.length cap3) ∧ w'.cell? ⟨w2.heap.size, 4, none⟩ = some (.int .i64 t.r))
        (first | with_reducible exact HC8s.out _ _ _ _ _ | with_reducible exact HKeep.out _ (Below.refl _ _) | with_reducible exact HKeep.out _ (Below.refl _ _).drew | with_reducible exact HKeep.out _ ((Below.refl _ _).alloc (Nat.le_refl _) _).drew | with_reducible exact HC8.out _ (Below.refl _ _) | with_reducible exact HC8.out _ ((Below.refl _ _).alloc (Nat.le_refl _) _))
        (first | (go_at_call 47; refine (HCall.out _ (by first | exact HBase.out.trans ((Below.refl w9.heap.size w9).drew.mono HBase.out.size) | exact HBase.out.trans (((Below.refl w9.heap.size w9).alloc (Nat.le_refl _) _).drew.mono HBase.out.size))).mono ?_; rintro e w8 ⟨hb, A5, cap5, rfl, hF⟩; have HF8 := Lib.hid (And.intro hb hF); have HB8 := Lib.hid (show Below w9.heap.size w9 w8 from (by first | exact (Below.refl _ _).drew.trans hb | exact (((Below.refl w9.heap.size w9).alloc (Nat.le_refl _) _).drew).trans (hb.mono (by simp)))); have HC8 := Lib.hid (fun W (hW : Below w8.heap.size w8 W) => HKeep.out W (HB8.out.trans (hW.mono HB8.out.size))); (first | (have hb5 : Below (w9.alloc (.cells #[.int .u8 0, .int .i64 0, .string ⟨#[]⟩, .slice none 0 0, .int .i64 0] 26)).drew.heap.size (w9.alloc (.cells #[.int .u8 0, .int .i64 0, .string ⟨#[]⟩, .slice none 0 0, .int .i64 0] 26)).drew w8 := (by with_reducible exact hb); have b5 := HZ0.out w8 hb5; clear hb5; have y0 := b5.e0; have y1 := b5.e1; have y2 := b5.e2; have y3 := b5.e3; have y4 := b5.e4; have yz0 := b5.froz 0; have yz1 := b5.froz 1; have yz2 := b5.froz 2; have yz3 := b5.froz 3; have yz4 := b5.froz 4; have HB5 := Lib.hid b5; clear b5) | skip); have HC8s := Lib.hid (fun v0 v1 v2 v3 v4 => HKeep.out (((((w8.setCell ⟨w9.heap.size, 0, none⟩ v0).setCell ⟨w9.heap.size, 1, none⟩ v1).setCell ⟨w9.heap.size, 2, none⟩ v2).setCell ⟨w9.heap.size, 3, none⟩ v3).setCell ⟨w9.heap.size, 4, none⟩ v4) (below_set5 HB8.out (Nat.le_refl _) v0 v1 v2 v3 v4)); clear hb hF))
      · obtain ⟨F, hL⟩ := LkG.second HF8.out.2 HF8.out.1.size
        go_wp2_with fail
        go_meet
        exact ⟨_, A5, cap5, F, _, rfl, rfl, hL, HB8.out.alloc HB8.out.size _⟩
      · obtain ⟨F, hL⟩ := LkG.first HF8.out.2 HB5.out (by simp)
        go_wp2_with fail
        go_meet
        exact ⟨_, A5, cap5, F, _, rfl, rfl, hL, below_set5 HB8.out (Nat.le_refl _) _ _ _ _ _⟩
    case rest =>
      obtain ⟨B7, A7, cap7, F7, hi7, rfl, rfl, hL7, hB⟩ := hcut
      have HL7 := Lib.hid hL7
      have HL5' := Lib.hid (HL5.out.step hB)
      have HS9 := Lib.hid (HS8.out.step hB)
      have HX9 := Lib.hid (HX8.out.step hB (Nat.le_trans h57 HBase.out.size))
      have HY9 := Lib.hid (HY8.out.step hB HBase.out.size)
      have hs9 := Nat.le_trans HBase.out.size hB.size
      have h910 := hB.size
      clear hL7 hB HS8 HX8 HY8 HKeep HZ0 HCall HBase
      obtain ⟨w10, rfl⟩ : ∃ w10, w10 = wc := ⟨_, rfl⟩
      have e0 := HS9.out.one.box.e0
      have e1 := HS9.out.one.box.e1
      have e2 := HS9.out.one.box.e2
      have e3 := HS9.out.one.box.e3
      have e4 := HS9.out.one.box.e4
      go_wp2_with fail
      refine (HRCall.out _ HS9.out.below HS9.out.one.lies HS9.out.one.small).mono ?_
      rintro e w11 ⟨hb, A9, cap9, rfl, hF⟩
      have HW := Lib.hid (BoxT.new w11 hF (fun _ h => h.2))
      have hb2 := hb.alloc hb.size (.cells #[.int .u8 (u.k : Int), .int .i64 u.n, .string u.s, .slice A9 u.l.length cap9, .int .i64 u.r] 26)
      have HL5a := Lib.hid (HL5'.out.step hb2)
      have HL7a := Lib.hid (HL7.out.step hb2)
      have HSa := Lib.hid (HS9.out.step hb2)
      have HXa := Lib.hid (HX9.out.step hb2 (Nat.le_trans h57 hs9))
      have HYa := Lib.hid (HY9.out.step hb2 hs9)
      have hsa := Nat.le_trans hs9 hb2.size
      clear hb hb2 hF HL5' HL7 HS9 HX9 HY9 e0 e1 e2 e3 e4 HRCall
      have e0 := HL5a.out.box.e0
      have e1 := HL5a.out.box.e1
      have e2 := HL5a.out.box.e2
      have e3 := HL5a.out.box.e3
      have e4 := HL5a.out.box.e4
      have f0 := HL7a.out.box.e0
      have f1 := HL7a.out.box.e1
      have f2 := HL7a.out.box.e2
      have f3 := HL7a.out.box.e3
      have f4 := HL7a.out.box.e4
      have qn : (n == n) = true := beq_self_eq_true n
      have qn' : (n != n) = false := bne_self_eq_false n
      go_wp2_with fail
      refine (held_w u _ _ _ F5 _ HL5a.out.own HL5a.out.nodup HL5a.out.small HL7a.out.lies HW.out.lies (fun b hb => ⟨HL7a.out.small b hb, fun hm => by have h1 := (HL5a.out.mem b hm).2.1; have h2 := (HL7a.out.mem b hb).1; omega⟩) (fun b hb => ⟨HW.out.small b hb, fun hm => by have h1 := (HL5a.out.mem b hm).2.1; have h2 := hb.1; have h3 := HL7a.out.bx; omega⟩) HMY.out).mono ?_
      rintro e w12 ⟨rfl, hc⟩
      have HSb := Lib.hid (HSa.out.chg hc (fun g hg => by have := (HL5a.out.mem g hg).1; omega))
      have HXb := Lib.hid (HXa.out.chg hc (fun g hg => by have := (HL5a.out.mem g hg).1; omega) (Nat.le_trans h57 hsa))
      have HYb := Lib.hid (HYa.out.chg hc (fun g hg => (HL5a.out.mem g hg).1) hsa)
      have hsb2 := Nat.le_trans hsa hc.size
      clear hc e0 e1 e2 e3 e4 f0 f1 f2 f3 f4 HL5a HL7a HSa HXa HYa HW qn qn' HMY HL5
      have xm := HXb.out.mark
      have ym := HYb.out.mark
      have hix : fr.length < fr.length + 1 := Nat.lt_succ_self _
      have hiy : tos.length < tos.length + 1 := Nat.lt_succ_self _
      go_wp2
      go_loopw [16] (fun iv wr => ∃ j : Nat, j ≤ fr.length ∧ iv = .int .i64 (j : Int) ∧ Lk2 w t pp m A cap (fun b => w1.heap.size ≤ b ∧ b < w2.heap.size) w2.heap.size A3 cap3 wr ∧ RowM (w2.heap.size + 1) w5.heap.size gv5 cv5 fr 77 wr ∧ RowM w5.heap.size w7.heap.size gv7 cv7 tos 78 wr ∧ w7.heap.size ≤ wr.heap.size) (fun iv _ => fr.length - (intOf iv).toNat)
      case atStart => exact ⟨0, Nat.zero_le _, rfl, HSb.out, HXb.out, HYb.out, hsb2⟩
      case round =>
        obtain ⟨j, hj, rfl, hS, hX, hY, hsr⟩ := hrel
        clear HSb HXb HYb xm ym
        by_cases hlt : j < fr.length
        · obtain ⟨ga, offa, rfl, hga, hca⟩ := HI.out.1 j hlt
          have ca := (World.cell?_of_block (w := w) (a := ⟨ga, offa + j, none⟩) (hS.below.block ga hga)).trans hca
          have cx := hX.at_ hlt
          have HN := Lib.hid (fun nq => show Lk2 w t pp m A cap (fun b => w1.heap.size ≤ b ∧ b < w2.heap.size) w2.heap.size A3 cap3 (wr.drewN nq) ∧ RowM (w2.heap.size + 1) w5.heap.size gv5 cv5 fr 77 (wr.drewN nq) ∧ RowM w5.heap.size w7.heap.size gv7 cv7 tos 78 (wr.drewN nq) ∧ w7.heap.size ≤ (wr.drewN nq).heap.size from
            have hb := below_drewN (Below.refl wr.heap.size wr) nq
            ⟨hS.step hb, hX.step hb (Nat.le_trans h57 hsr), hY.step hb hsr, Nat.le_trans hsr hb.size⟩)
          clear hS hX hY hca
          generalize fr[j] = x at *
          have q1 : (x != x) = false := bne_self_eq_false x
          have hjI : (j : Int) < (fr.length : Int) := by omega
          have hjI2 : (j : Int) < ((fr.length + 1 : Nat) : Int) := by omega
          have hj0 : (0 : Int) ≤ (j : Int) := by omega
          go_wp2
          go_quiet (fail)
          go_wp2
          go_roundw
          case rel => exact ⟨j + 1, by omega, by go_num, HN.out nq⟩
          case measure => simp [intOf]; omega
        · obtain rfl : j = fr.length := by omega
          have HN := Lib.hid (And.intro hS (And.intro hX (And.intro hY hsr)))
          clear hS hX hY
          go_wp2
          go_loopw [17] (fun iv wq => ∃ j : Nat, j ≤ tos.length ∧ iv = .int .i64 (j : Int) ∧ Lk2 w t pp m A cap (fun b => w1.heap.size ≤ b ∧ b < w2.heap.size) w2.heap.size A3 cap3 wq ∧ RowM w5.heap.size w7.heap.size gv7 cv7 tos 78 wq ∧ w7.heap.size ≤ wq.heap.size) (fun iv _ => tos.length - (intOf iv).toNat)
          case atStart => exact ⟨0, Nat.zero_le _, rfl, HN.out.1, HN.out.2.2.1, HN.out.2.2.2⟩
          case round =>
            obtain ⟨j, hj, rfl, hS, hY, hsq⟩ := hrel
            clear HN
            by_cases hlt : j < tos.length
            · obtain ⟨gb, offb, rfl, hgb, hcb⟩ := HI.out.2.1 j hlt
              have cb := (World.cell?_of_block (w := w) (a := ⟨gb, offb + j, none⟩) (hS.below.block gb hgb)).trans hcb
              have cy := hY.at_ hlt
              have HN := Lib.hid (fun nq => show Lk2 w t pp m A cap (fun b => w1.heap.size ≤ b ∧ b < w2.heap.size) w2.heap.size A3 cap3 (wr.drewN nq) ∧ RowM w5.heap.size w7.heap.size gv7 cv7 tos 78 (wr.drewN nq) ∧ w7.heap.size ≤ (wr.drewN nq).heap.size from
                have hb := below_drewN (Below.refl wr.heap.size wr) nq
                ⟨hS.step hb, hY.step hb hsq, Nat.le_trans hsq hb.size⟩)
              clear hS hY hcb
              generalize tos[j] = y at *
              have q1 : (y != y) = false := bne_self_eq_false y
              have hjI : (j : Int) < (tos.length : Int) := by omega
              have hjI2 : (j : Int) < ((tos.length + 1 : Nat) : Int) := by omega
              have hj0 : (0 : Int) ≤ (j : Int) := by omega
              go_wp2
              go_quiet (fail)
              go_wp2
              go_roundw
              case rel => exact ⟨j + 1, by omega, by go_num, HN.out nq⟩
              case measure => simp [intOf]; omega
            · obtain rfl : j = tos.length := by omega
              have HN := Lib.hid hS
              have e0 := hS.one.box.e0
              have e1 := hS.one.box.e1
              have e2 := hS.one.box.e2
              have e3 := hS.one.box.e3
              have e4 := hS.one.box.e4
              have f0 := hS.two.box.e0
              have f1 := hS.two.box.e1
              have f2 := hS.two.box.e2
              have f3 := hS.two.box.e3
              have f4 := hS.two.box.e4
              clear hS hY
              go_wp2_with fail
              refine (kept_w (fun b => w1.heap.size ≤ b ∧ b < w2.heap.size) pp m t _ _ _ HN.out.two.lies HN.out.one.lies HN.out.two.small HN.out.one.small).mono ?_
              rintro e wx ⟨rfl, hb⟩
              have HB := Lib.hid (HN.out.step hb).below
              clear hb e0 e1 e2 e3 e4 f0 f1 f2 f3 f4
              go_wp2_with fail
              refine (awake_w _).mono ?_
              rintro e wy ⟨rfl, hb⟩
              have HB2 := Lib.hid (HB.out.trans (hb.mono HB.out.size))
              clear hb
              go_wp2
              go_ret
              exact ⟨rfl, HB2.out⟩
end Go.Proofs.Ytckgmdlacaiacaa
