/-
  ValueRenamed: renamings, one behind the other (plain); posternlaw02.image.
-/
import Derived.Test.YtckgmdlacaiacaaRens0
namespace Go.Proofs.Ytckgmdlacaiacaa
open Go.RowKit Go.Shelf
attribute [local go_sem] Oper.semAt_some

/-- The references that some are turned into. -/
def imgL (f : Int → Option Int) : List Int → Option (List Int)
  | [] => some []
  | r :: l => (f r).bind fun x => (imgL f l).map fun xs => x :: xs
theorem imgL_append (f : Int → Option Int) : ∀ l m : List Int, imgL f (l ++ m) = (imgL f l).bind fun a => (imgL f m).map fun b => a ++ b
  | [], m => by simp [imgL]
  | r :: l, m => by
    simp only [List.cons_append, imgL, imgL_append f l m]
    cases f r with
    | none => rfl
    | some x => cases imgL f l with
      | none => rfl
      | some xs => cases imgL f m <;> rfl
theorem imgL_len (f : Int → Option Int) : ∀ (l us : List Int), imgL f l = some us → us.length = l.length
  | [], us, h => by
    simp only [imgL, Option.some.injEq] at h
    rw [← h]
  | r :: l, us, h => by
    simp only [imgL] at h
    cases h1 : f r with
    | none => rw [h1] at h; cases h
    | some x =>
      cases h2 : imgL f l with
      | none => rw [h1, h2] at h; cases h
      | some xs =>
        rw [h1, h2] at h
        simp only [Option.bind_some, Option.map_some, Option.some.injEq] at h
        rw [← h, List.length_cons, List.length_cons, imgL_len f l xs h2]
theorem imgL_step {f : Int → Option Int} {l us : List Int} {j : Nat} (h : j < l.length) (h1 : imgL f (l.take j) = some us) : (∀ x, f l[j] = some x → imgL f (l.take (j + 1)) = some (us ++ [x])) ∧ (f l[j] = none → imgL f l = none) := by
  constructor
  · intro x hx
    rw [List.take_succ_eq_append_getElem h, imgL_append, h1]
    simp [imgL, hx]
  · intro hx
    have : l = l.take j ++ (l[j] :: l.drop (j + 1)) := by rw [← List.drop_eq_getElem_cons h, List.take_append_drop]
    rw [this, imgL_append, h1]
    simp [imgL, hx]
theorem renT_refs {f : Int → Option Int} : ∀ (t u : VT), renT f t = some u → imgL f (refsT t) = some (refsT u) := by
  refine VT.ind fun k n s r l ih u hu => ?_
  rw [renT] at hu
  split at hu
  · rename_i h4
    subst h4
    cases hf1 : f r with
    | none => rw [hf1] at hu; cases hu
    | some x =>
      rw [hf1] at hu
      simp only [Option.map_some, Option.some.injEq] at hu
      subst hu
      show imgL f [r] = some [x]
      simp [imgL, hf1]
  · rename_i h4
    have key : ∀ (l' : List VT), (∀ t ∈ l', t ∈ l) → ∀ us, renL f l' = some us → imgL f (refsL l') = some (refsL us) := by
      intro l'
      induction l' with
      | nil =>
        intro _ us h
        simp only [renL, Option.some.injEq] at h
        subst h
        rfl
      | cons t ts iht =>
        intro hm us h
        simp only [renL] at h
        cases h1 : renT f t with
        | none => rw [h1] at h; cases h
        | some t' =>
          cases h2 : renL f ts with
          | none => rw [h1, h2] at h; cases h
          | some ts' =>
            rw [h1, h2] at h
            simp only [Option.bind_some, Option.map_some, Option.some.injEq] at h
            subst h
            show imgL f (refsT t ++ refsL ts) = some (refsT t' ++ refsL ts')
            rw [imgL_append, ih t (hm t List.mem_cons_self) t' h1, iht (fun u hu => hm u (List.mem_cons_of_mem _ hu)) ts' h2]
            rfl
    cases h1 : renL f l with
    | none => rw [h1] at hu; cases hu
    | some us =>
      rw [h1] at hu
      simp only [Option.map_some, Option.some.injEq] at hu
      subst hu
      have e1 : refsT (.mk k n s r l) = refsL l := if_neg h4
      have e2 : refsT (.mk k n s r us) = refsL us := if_neg h4
      rw [e1, e2]
      exact key l (fun _ h => h) us h1
/-- Renamed twice. -/
theorem renT_chain {f g hh : Int → Option Int} (hc : ∀ r y, f r = some y → g y = hh r) : ∀ (t u : VT), renT f t = some u → renT g u = renT hh t := by
  refine VT.ind fun k n s r l ih u hu => ?_
  rw [renT] at hu
  split at hu
  · rename_i h4
    subst h4
    cases hf1 : f r with
    | none => rw [hf1] at hu; cases hu
    | some x =>
      rw [hf1] at hu
      simp only [Option.map_some, Option.some.injEq] at hu
      subst hu
      rw [renT, renT, if_pos rfl, if_pos rfl, hc r x hf1]
  · rename_i h4
    have key : ∀ (l' : List VT), (∀ t ∈ l', t ∈ l) → ∀ us, renL f l' = some us → renL g us = renL hh l' := by
      intro l'
      induction l' with
      | nil =>
        intro _ us h
        simp only [renL, Option.some.injEq] at h
        subst h
        rfl
      | cons t ts iht =>
        intro hm us h
        simp only [renL] at h
        cases h1 : renT f t with
        | none => rw [h1] at h; cases h
        | some t' =>
          cases h2 : renL f ts with
          | none => rw [h1, h2] at h; cases h
          | some ts' =>
            rw [h1, h2] at h
            simp only [Option.bind_some, Option.map_some, Option.some.injEq] at h
            subst h
            simp only [renL]
            rw [ih t (hm t List.mem_cons_self) t' h1, iht (fun u hu => hm u (List.mem_cons_of_mem _ hu)) ts' h2]
    cases h1 : renL f l with
    | none => rw [h1] at hu; cases hu
    | some us =>
      rw [h1] at hu
      simp only [Option.map_some, Option.some.injEq] at hu
      subst hu
      rw [renT, renT, if_neg h4, if_neg h4, key l (fun _ h => h) us h1]
theorem renT_id : ∀ t : VT, renT some t = some t := by
  refine VT.ind fun k n s r l ih => ?_
  have key : ∀ (l' : List VT), (∀ t ∈ l', t ∈ l) → renL some l' = some l' := by
    intro l'
    induction l' with
    | nil => intro _; rfl
    | cons t ts iht =>
      intro hm
      simp only [renL, ih t (hm t List.mem_cons_self), iht (fun u hu => hm u (List.mem_cons_of_mem _ hu))]
      rfl
  rw [renT, key l (fun _ h => h)]
  split
  · rename_i h; subst h; rfl
  · rfl
theorem renT_none {f : Int → Option Int} : ∀ (t u : VT), renT f t = some u → refsT t = [] → u = t := by
  refine VT.ind fun k n s r l ih u hu hr => ?_
  rw [renT] at hu
  split at hu
  · rename_i h4
    subst h4
    exact absurd hr (by show ¬ [r] = []; simp)
  · rename_i h4
    have e1 : refsT (.mk k n s r l) = refsL l := if_neg h4
    rw [e1] at hr
    have key : ∀ (l' : List VT), (∀ t ∈ l', t ∈ l) → refsL l' = [] → ∀ us, renL f l' = some us → us = l' := by
      intro l'
      induction l' with
      | nil =>
        intro _ _ us h
        simp only [renL, Option.some.injEq] at h
        exact h.symm
      | cons t ts iht =>
        intro hm hr us h
        have hr2 : refsT t = [] ∧ refsL ts = [] := List.append_eq_nil_iff.1 hr
        simp only [renL] at h
        cases h1 : renT f t with
        | none => rw [h1] at h; cases h
        | some t' =>
          cases h2 : renL f ts with
          | none => rw [h1, h2] at h; cases h
          | some ts' =>
            rw [h1, h2] at h
            simp only [Option.bind_some, Option.map_some, Option.some.injEq] at h
            subst h
            rw [ih t (hm t List.mem_cons_self) t' h1 hr2.1, iht (fun u hu => hm u (List.mem_cons_of_mem _ hu)) hr2.2 ts' h2]
    cases h1 : renL f l with
    | none => rw [h1] at hu; cases hu
    | some us =>
      rw [h1] at hu
      simp only [Option.map_some, Option.some.injEq] at hu
      subst hu
      rw [key l (fun _ h => h) hr us h1]
theorem lookF_mem : ∀ {fr tos : List Int} {r y : Int}, lookF fr tos r = some y → y ∈ tos ∧ r ∈ fr
  | [], _, _, _, h => by cases h
  | _ :: _, [], _, _, h => by cases h
  | a :: fr, b :: tos, r, y, h => by
    rw [lookF] at h
    split at h
    · rename_i e
      cases h
      exact ⟨List.mem_cons_self, by rw [e]; exact List.mem_cons_self⟩
    · obtain ⟨h1, h2⟩ := lookF_mem (fr := fr) (tos := tos) h
      exact ⟨List.mem_cons_of_mem _ h1, List.mem_cons_of_mem _ h2⟩
theorem lookF_inv : ∀ {fr tos : List Int}, tos.Nodup → ∀ {r y : Int}, lookF fr tos r = some y → lookF tos fr y = some r
  | [], _, _, _, _, h => by cases h
  | _ :: _, [], _, _, _, h => by cases h
  | a :: fr, b :: tos, hn, r, y, h => by
    rw [List.nodup_cons] at hn
    rw [lookF] at h
    split at h
    · rename_i e
      cases h
      rw [lookF, if_pos rfl, e]
    · have h1 := lookF_mem h
      rw [lookF, if_neg (fun e => hn.1 (by rw [e]; exact h1.1))]
      exact lookF_inv (fr := fr) (tos := tos) hn.2 h
theorem lookF_has : ∀ {fr tos : List Int}, fr.length ≤ tos.length → ∀ {r : Int}, r ∈ fr → ∃ y, lookF fr tos r = some y
  | [], _, _, _, h => absurd h List.not_mem_nil
  | _ :: _, [], hl, _, _ => by simp at hl
  | a :: fr, b :: tos, hl, r, h => by
    rw [lookF]
    by_cases e : a = r
    · exact ⟨b, if_pos e⟩
    · rw [if_neg e]
      rcases List.mem_cons.1 h with h | h
      · exact absurd h.symm e
      · exact lookF_has (fr := fr) (tos := tos) (by simpa using hl) h
theorem imgL_has {f : Int → Option Int} : ∀ {l : List Int}, (∀ r ∈ l, ∃ y, f r = some y) → ∃ us, imgL f l = some us
  | [], _ => ⟨[], rfl⟩
  | r :: l, h => by
    obtain ⟨y, hy⟩ := h r List.mem_cons_self
    obtain ⟨us, hu⟩ := imgL_has (l := l) fun x hx => h x (List.mem_cons_of_mem _ hx)
    exact ⟨y :: us, by rw [imgL, hy, hu]; rfl⟩
theorem imgL_mem {f : Int → Option Int} : ∀ {l us : List Int}, imgL f l = some us → ∀ y ∈ us, ∃ r, f r = some y
  | [], us, h, y, hy => by
    simp only [imgL, Option.some.injEq] at h
    subst h
    exact absurd hy List.not_mem_nil
  | r :: l, us, h, y, hy => by
    simp only [imgL] at h
    cases h1 : f r with
    | none => rw [h1] at h; cases h
    | some x =>
      cases h2 : imgL f l with
      | none => rw [h1, h2] at h; cases h
      | some xs =>
        rw [h1, h2] at h
        simp only [Option.bind_some, Option.map_some, Option.some.injEq] at h
        subst h
        rcases List.mem_cons.1 hy with rfl | hy
        · exact ⟨r, h1⟩
        · exact imgL_mem h2 y hy
theorem lookF_both {g : Int → Option Int} : ∀ {fr tos both : List Int}, imgL g tos = some both → ∀ {r y : Int}, lookF fr tos r = some y → lookF fr both r = g y
  | [], _, _, _, _, _, h => by cases h
  | _ :: _, [], _, _, _, _, h => by cases h
  | a :: fr, b :: tos, both, hb, r, y, h => by
    simp only [imgL] at hb
    cases h1 : g b with
    | none => rw [h1] at hb; cases hb
    | some x =>
      cases h2 : imgL g tos with
      | none => rw [h1, h2] at hb; cases hb
      | some xs =>
        rw [h1, h2] at hb
        simp only [Option.bind_some, Option.map_some, Option.some.injEq] at hb
        subst hb
        rw [lookF] at h ⊢
        split at h
        · rename_i e
          cases h
          rw [if_pos e, h1]
        · rename_i e
          rw [if_neg e]
          exact lookF_both (fr := fr) h2 h
theorem posAll_of {l : List Int} (h : ∀ x ∈ l, 1 ≤ x) : posAll l = true := by
  unfold posAll
  rw [List.all_eq_true]
  intro x hx
  exact decide_eq_true (h x hx)
theorem posAll_mem {l : List Int} (h : posAll l = true) : ∀ x ∈ l, 1 ≤ x := by
  unfold posAll at h
  rw [List.all_eq_true] at h
  intro x hx
  exact of_decide_eq_true (h x hx)
theorem lookF_at {fr tos : List Int} {r : Int} : ∀ {k : Nat}, k ≤ fr.length → (∀ q (hq : q < fr.length), q < k → fr[q] ≠ r) → lookF fr tos r = lookF (fr.drop k) (tos.drop k) r
  | 0, _, _ => by rw [List.drop_zero, List.drop_zero]
  | k + 1, hk, h => by
    rw [lookF_at (k := k) (by omega) (fun q hq h1 => h q hq (by omega))]
    rw [List.drop_eq_getElem_cons (show k < fr.length by omega)]
    by_cases ht : k < tos.length
    · rw [List.drop_eq_getElem_cons ht, lookF, if_neg (h k (by omega) (by omega))]
    · rw [List.drop_of_length_le (by omega : tos.length ≤ k), List.drop_of_length_le (by omega : tos.length ≤ k + 1)]
      cases fr.drop (k + 1) <;> rfl
theorem lookF_out {fr tos : List Int} {r : Int} {k : Nat} (hk : k ≤ fr.length) (h : ∀ q (hq : q < fr.length), q < k → fr[q] ≠ r) (ho : k = fr.length ∨ tos.length ≤ k) : lookF fr tos r = none := by
  rw [lookF_at hk h]
  rcases ho with ho | ho
  · rw [List.drop_of_length_le (by omega)]; rfl
  · rw [List.drop_of_length_le ho]
    cases fr.drop k <;> rfl
theorem lookF_hit {fr tos : List Int} {r : Int} {k : Nat} (hk : k < fr.length) (h : ∀ q (hq : q < fr.length), q < k → fr[q] ≠ r) (he : fr[k] = r) (ht : k < tos.length) : lookF fr tos r = some tos[k] := by
  rw [lookF_at (by omega) h, List.drop_eq_getElem_cons hk, List.drop_eq_getElem_cons ht, lookF, if_pos he]
/-- What image leaves. -/
def ImgPost (w : World) (res : Option (List Int)) (e : Ending) (W : World) : Prop :=
  Below w.heap.size w W ∧ match res with
    | none => e = .returned (.tuple #[.slice none 0 0, .bool false])
    | some us => ∃ v', e = .returned (.tuple #[v', .bool true]) ∧ W.ownsRow w.heap.size 24 1 v' us.length (i64s us)

set_option maxRecDepth 100000 in
set_option maxHeartbeats 8000000 in
theorem image_w (l fr tos : List Int) (LA FA TA : Option Addr) (lc fc tc B : Nat) (w : World) (hl : IntsAt w B LA l) (hfr : IntsAt w B FA fr) (hto : IntsAt w B TA tos) (hB : B ≤ w.heap.size) (hll : l.length ≤ 65536) (hfl : fr.length ≤ 65536) (_htl : tos.length ≤ 65536) :
    Calls Try.prog 55 #[.slice LA l.length lc, .slice FA fr.length fc, .slice TA tos.length tc] w (ImgPost w (imgL (lookF fr tos) l)) := by
  obtain ⟨i0, hi, hz0, hz1, hz2⟩ := info_parts infoR
  have HI := Lib.hid (And.intro hl (And.intro hfr (And.intro hto hB)))
  clear hl hfr hto hB
  go_enter Try.func55, Try.ntmps55
  go_wp2
  go_loopw [8, 9] (fun lv iv wr => ∃ (j : Nat) (us : List Int), j ≤ l.length ∧ us.length = j ∧ iv = .int .i64 (j : Int) ∧ imgL (lookF fr tos) (l.take j) = some us ∧ wr.ownsRow w.heap.size 24 1 lv us.length (i64s us) ∧ Below w.heap.size w wr) (fun _ iv _ => l.length - (intOf iv).toNat)
  case atStart => exact ⟨0, [], Nat.zero_le _, rfl, rfl, rfl, World.ownsRow_nil _ _ _ _, Below.refl _ _⟩
  case round =>
    obtain ⟨j, us, hj, hus, rfl, himg, hown, hB⟩ := hrel
    by_cases hlt : j < l.length
    · obtain ⟨gl, offl, rfl, hgl, hcl⟩ := HI.out.1 j hlt
      have cl := (World.cell?_of_block (w := w) (a := ⟨gl, offl + j, none⟩) (hB.block gl (Nat.lt_of_lt_of_le hgl HI.out.2.2.2))).trans hcl
      have HS := Lib.hid (imgL_step hlt himg)
      have HW := Lib.hid (And.intro hown (And.intro hB hus))
      clear himg hown hB hus hcl
      have hjI : (j : Int) < (l.length : Int) := by omega
      have hj0 : (0 : Int) ≤ (j : Int) := by omega
      generalize l[j] = r at *
      obtain ⟨lA, lc2, rfl⟩ := owns_slice HW.out.1
      go_wp2
      go_loopw [10] (fun kv wq => ∃ k : Nat, k ≤ fr.length ∧ kv = .int .i64 (k : Int) ∧ (∀ q (hq : q < fr.length), q < k → fr[q] ≠ r) ∧ wq.ownsRow w.heap.size 24 1 (.slice lA us.length lc2) us.length (i64s us) ∧ Below w.heap.size w wq) (fun kv _ => fr.length - (intOf kv).toNat)
      case atStart => exact ⟨0, Nat.zero_le _, rfl, fun q _ h => absurd h (Nat.not_lt_zero _), HW.out.1, HW.out.2.1⟩
      case round =>
        obtain ⟨k, hk, rfl, hno, hown, hB⟩ := hrel
        have HK := Lib.hid (And.intro hno (And.intro hown hB))
        have cl2 := (World.cell?_of_block (w := w) (a := ⟨gl, offl + j, none⟩) (hB.block gl (Nat.lt_of_lt_of_le hgl HI.out.2.2.2))).trans ((World.cell?_of_block (w := w) (a := ⟨gl, offl + j, none⟩) (HW.out.2.1.block gl (Nat.lt_of_lt_of_le hgl HI.out.2.2.2))).symm.trans cl)
        have HN := Lib.hid (fun nq => show (wr.drewN nq).ownsRow w.heap.size 24 1 (.slice lA us.length lc2) us.length (i64s us) ∧ Below w.heap.size w (wr.drewN nq) from ⟨owns_below hown (below_drewN (Below.refl _ _) nq), below_drewN hB nq⟩)
        have hk0 : (0 : Int) ≤ (k : Int) := by omega
        by_cases hlt2 : k < fr.length
        · have d1 : decide (k < fr.length) = true := decide_eq_true hlt2
          have d1' : decide ((k : Int) < (fr.length : Int)) = true := decide_eq_true (by omega)
          have hkI : (k : Int) < (fr.length : Int) := by omega
          obtain ⟨gf, offf, rfl, hgf, hcf⟩ := HI.out.2.1 k hlt2
          have cf := (World.cell?_of_block (w := w) (a := ⟨gf, offf + k, none⟩) (hB.block gf (Nat.lt_of_lt_of_le hgf HI.out.2.2.2))).trans hcf
          clear hno hown hB hcf cl
          by_cases e : fr[k] = r
          · have HV := Lib.hid (And.intro (lookF_hit (tos := tos) hlt2 HK.out.1 e) (fun ho => lookF_out (tos := tos) hk HK.out.1 (.inr ho)))
            generalize fr[k] = x at *
            have q1 : (x != r) = false := by rw [bne_eq_false_iff_eq]; exact e
            have n1 : ((k : Int) == (fr.length : Int)) = false := by rw [beq_eq_false_iff_ne]; omega
            have n1' : (k == fr.length) = false := by rw [beq_eq_false_iff_ne]; omega
            have HE := Lib.hid e
            clear e
            by_cases ht : k < tos.length
            · have d2 : decide (tos.length ≤ k) = false := decide_eq_false (by omega)
              have d2' : decide ((tos.length : Int) ≤ (k : Int)) = false := decide_eq_false (by omega)
              have hkT : (k : Int) < (tos.length : Int) := by omega
              obtain ⟨gt, offt, rfl, hgt, hct⟩ := HI.out.2.2.1 k ht
              have ct := (World.cell?_of_block (w := w) (a := ⟨gt, offt + k, none⟩) (HK.out.2.2.block gt (Nat.lt_of_lt_of_le hgt HI.out.2.2.2))).trans hct
              have HY := Lib.hid (HS.out.1 _ (HV.out.1 ht))
              clear hct
              generalize tos[k] = y at *
              go_wp2
              go_quiet (fail)
              go_wp2_with (at_builtin; refine wpList_append_own_at _ rfl (.tmp 44) (.tmp 49) 30 rfl w.heap.size 24 i0 (.int .i64 0) 1 8 Try.underlying30 hi hz0 hz1 hz2 rfl (by decide) _ _ _ rfl ((HN.out nq).1.alloc _) ⟨_, 0, none⟩ 1 1 [.int .i64 y] rfl rfl (one_cell _ _ (by simp)) (by simp [Value.oneCell']) (by have := HW.out.2.2; unfold maxLen; omega) (by have := HW.out.2.2; omega) (by have := (HN.out nq).2.size; simp at this ⊢; omega) ?_; intro v2 w2 h1 h2 h3 h4; clear h3; have HO := Lib.hid (And.intro h1 (((HN.out nq).2.alloc (HN.out nq).2.size _).grown h2 (by have := (HN.out nq).2.size; simp at this ⊢; omega) (fun q hq => ((HN.out nq).1.lt q hq).1))); clear h1 h2 h4)
              have HQ := Lib.hid (show w2.ownsRow w.heap.size 24 1 v2 (us ++ [y]).length (i64s (us ++ [y])) from by rw [List.length_append, List.length_singleton, i64s_app]; exact HO.out.1)
              go_roundw
              case rel => exact ⟨j + 1, us ++ [y], by omega, by have := HW.out.2.2; simp; omega, by go_num, HY.out, HQ.out, HO.out.2⟩
              case measure => simp [intOf]; omega
            · have d2 : decide (tos.length ≤ k) = true := decide_eq_true (by omega)
              have d2' : decide ((tos.length : Int) ≤ (k : Int)) = true := decide_eq_true (by omega)
              have HZ := Lib.hid (HS.out.2 (HV.out.2 (by omega)))
              go_wp2
              go_quiet (fail)
              go_wp2
              go_ret2
              rw [HZ.out]
              exact ⟨(HN.out nq).2, rfl⟩
          · have HE := Lib.hid (show ∀ q (hq : q < fr.length), q < k + 1 → fr[q] ≠ r from fun q hq h1 => by
              by_cases h2 : q = k
              · subst h2; exact e
              · exact HK.out.1 q hq (by omega))
            have q1 : (fr[k] != r) = true := by rw [bne_iff_ne]; exact e
            generalize fr[k] = x at *
            clear e
            go_wp2
            go_quiet (fail)
            go_wp2
            go_roundw
            case rel => exact ⟨k + 1, by omega, by go_num, HE.out, HN.out nq⟩
            case measure => simp [intOf]; omega
        · have d1 : decide (k < fr.length) = false := decide_eq_false hlt2
          have d1' : decide ((k : Int) < (fr.length : Int)) = false := decide_eq_false (by omega)
          have HZ := Lib.hid (HS.out.2 (lookF_out (tos := tos) hk hno (.inl (by omega))))
          clear hno hown hB cl
          obtain rfl : k = fr.length := by omega
          go_wp2
          go_quiet (fail)
          go_wp2
          go_ret2
          rw [HZ.out]
          exact ⟨(HN.out nq).2, rfl⟩
    · obtain rfl : j = l.length := by omega
      rw [List.take_length] at himg
      have HV := Lib.hid himg
      have HW := Lib.hid (And.intro hown hB)
      clear himg hown hB hus
      go_wp2
      go_ret2
      rw [HV.out]
      exact ⟨HW.out.2, _, rfl, HW.out.1⟩
end Go.Proofs.Ytckgmdlacaiacaa
