/-
  ValuePlaces: the walk.
-/
import Derived.Deep.RegionHeld3
import Derived.Deep.DeepCutAuto
import Derived.Test.YtckgmdlacaiacaaPlac0
namespace Go.Proofs.Ytckgmdlacaiacaa
open Go.RowKit Go.Shelf
attribute [local go_sem] Oper.semAt_some

set_option maxRecDepth 100000 in
set_option maxHeartbeats 16000000 in
theorem ValuePlaces_w {pp pp' : Nat → Prop} {m m' : Bool} (t u : VT) (v v' : Value) (ps : List Int) (PA : Option Addr) (pc : Nat) (w : World) (h : Lies w pp m t v) (h' : Lies w pp' m' u v') (hpp : ∀ b, pp b → b < w.heap.size) (hpp' : ∀ b, pp' b → b < w.heap.size) (hps : IntsAt w w.heap.size PA ps) (hPA : PA = none → pc = 0) (hpl : ps.length ≤ maxLen) (hpc : ps.length ≤ pc) (hpm : pc ≤ maxLen) :
    Calls Try.prog 5 #[v, v', .slice PA ps.length pc] w fun e w' => e = .returned (.bool true) ∧ Below w.heap.size w w' := by
  obtain ⟨A, cap, rfl⟩ := h.cells
  obtain ⟨A1, cap1, rfl⟩ := h'.cells
  have hx1 := (Below.refl w.heap.size w).alloc (Nat.le_refl _) (.cells #[.int .u8 (t.k : Int), .int .i64 t.n, .string t.s, .slice A t.l.length cap, .int .i64 t.r] 26)
  have hx2 := (Below.refl (w.alloc (.cells #[.int .u8 (t.k : Int), .int .i64 t.n, .string t.s, .slice A t.l.length cap, .int .i64 t.r] 26)).heap.size (w.alloc (.cells #[.int .u8 (t.k : Int), .int .i64 t.n, .string t.s, .slice A t.l.length cap, .int .i64 t.r] 26))).alloc (Nat.le_refl _) (.cells #[.int .u8 (u.k : Int), .int .i64 u.n, .string u.s, .slice A1 u.l.length cap1, .int .i64 u.r] 26)
  have hn1 := ((BoxL.new w h hpp).below hx2).up (M' := w.heap.size + 1 + 1) (by omega) (by simp)
  have hn2 := BoxL.new (w.alloc (.cells #[.int .u8 (t.k : Int), .int .i64 t.n, .string t.s, .slice A t.l.length cap, .int .i64 t.r] 26)) (h'.below hx1 hpp') (fun b hb => by have := hpp' b hb; simp; omega)
  rw [World.size_alloc] at hn2
  have HX0 := Lib.hid (And.intro hn1 hn2)
  have HB0 := Lib.hid (hx1.trans (hx2.mono (by simp)))
  have HI := Lib.hid (And.intro hps hPA)
  have HI2 := Lib.hid (And.intro hpl (And.intro hpc hpm))
  unfold maxLen at hpl
  clear h h' hpp hpp' hps hPA hx1 hx2 hn1 hn2 hpc hpm
  go_enter Try.func5, Try.ntmps5
  go_wp2_with fail
  refine (small_w pp m t _ 1200 41 40 _ HX0.out.1.lies HX0.out.1.small (by omega) (by omega) (by omega)).mono ?_
  rintro e w1 ⟨rfl, hb⟩
  have HX1 := Lib.hid (And.intro (HX0.out.1.below hb) (HX0.out.2.below hb))
  have HB1 := Lib.hid (HB0.out.trans (hb.mono (by simp; omega)))
  have hs1 := HB1.out.size
  clear hb HX0 HB0
  have e0 := HX1.out.2.box.e0
  have e1 := HX1.out.2.box.e1
  have e2 := HX1.out.2.box.e2
  have e3 := HX1.out.2.box.e3
  have e4 := HX1.out.2.box.e4
  obtain ⟨q, hq⟩ : ∃ q, t.sm 1200 41 = q := ⟨_, rfl⟩
  unfold smallV
  rw [hq]
  have Hq := Lib.hid hq
  clear hq
  cases q
  · rw [if_neg (by simp)]
    go_wp2_with fail
    refine (awake_w _).mono ?_
    rintro e w2 ⟨rfl, hb⟩
    have HB2 := Lib.hid (HB1.out.trans (hb.mono hs1))
    clear hb
    go_wp2
    go_ret
    exact ⟨rfl, HB2.out⟩
  have hpar := VT.sm_parts Hq.out
  rw [if_pos rfl]
  have q2 : decide ((t.parts : Int) < 0) = false := decide_eq_false (by omega)
  go_wp2_with fail
  refine (small_w pp' m' u _ 1200 41 40 _ HX1.out.2.lies HX1.out.2.small (by omega) (by omega) (by omega)).mono ?_
  rintro e w2 ⟨rfl, hb⟩
  have HX2 := Lib.hid (And.intro (HX1.out.1.below hb) (HX1.out.2.below hb))
  have HB2 := Lib.hid (HB1.out.trans (hb.mono hs1))
  have hs2 := HB2.out.size
  clear hb HX1 HB1 e0 e1 e2 e3 e4 hs1
  obtain ⟨q', hq'⟩ : ∃ q, u.sm 1200 41 = q := ⟨_, rfl⟩
  unfold smallV
  rw [hq']
  have Hq' := Lib.hid hq'
  clear hq'
  cases q'
  · rw [if_neg (by simp)]
    go_wp2_with fail
    refine (awake_w _).mono ?_
    rintro e w3 ⟨rfl, hb⟩
    have HB3 := Lib.hid (HB2.out.trans (hb.mono hs2))
    clear hb
    go_wp2
    go_ret
    exact ⟨rfl, HB3.out⟩
  have hpar' := VT.sm_parts Hq'.out
  rw [if_pos rfl]
  have q3 : decide ((u.parts : Int) < 0) = false := decide_eq_false (by omega)
  by_cases hbig : 600 < ps.length
  · have q1 : decide ((600 : Int) < (ps.length : Int)) = true := decide_eq_true (by omega)
    have q1' : decide (600 < ps.length) = true := decide_eq_true hbig
    go_wp2_with fail
    refine (awake_w _).mono ?_
    rintro e w3 ⟨rfl, hb⟩
    have HB3 := Lib.hid (HB2.out.trans (hb.mono hs2))
    clear hb
    go_wp2
    go_ret
    exact ⟨rfl, HB3.out⟩
  have q1 : decide ((600 : Int) < (ps.length : Int)) = false := decide_eq_false (by omega)
  have q1' : decide (600 < ps.length) = false := decide_eq_false hbig
  have hp6 : ps.length ≤ 600 := by omega
  clear hbig
  go_wp2_with fail
  have HKeep := Lib.hid (fun W (hW : Below w2.heap.size w2 W) => show W.cell? ⟨w.heap.size, 0, none⟩ = some (.int .u8 (t.k : Int)) ∧ W.cell? ⟨w.heap.size, 1, none⟩ = some (.int .i64 t.n) ∧ W.cell? ⟨w.heap.size, 2, none⟩ = some (.string t.s) ∧ W.cell? ⟨w.heap.size, 3, none⟩ = some (.slice A t.l.length cap) ∧ W.cell? ⟨w.heap.size, 4, none⟩ = some (.int .i64 t.r) ∧ W.cell? ⟨w.heap.size + 1, 0, none⟩ = some (.int .u8 (u.k : Int)) ∧ W.cell? ⟨w.heap.size + 1, 1, none⟩ = some (.int .i64 u.n) ∧ W.cell? ⟨w.heap.size + 1, 2, none⟩ = some (.string u.s) ∧ W.cell? ⟨w.heap.size + 1, 3, none⟩ = some (.slice A1 u.l.length cap1) ∧ W.cell? ⟨w.heap.size + 1, 4, none⟩ = some (.int .i64 u.r) from
    have X := (HX2.out.1.step hW HX2.out.1.top (Nat.le_trans HX2.out.1.top hW.size)).box
    have Y := (HX2.out.2.step hW HX2.out.2.top (Nat.le_trans HX2.out.2.top hW.size)).box
    ⟨X.e0, X.e1, X.e2, X.e3, X.e4, Y.e0, Y.e1, Y.e2, Y.e3, Y.e4⟩)
  have HL1 := Lib.hid (fun W (hW : Below w2.heap.size w2 W) => lent_w pp m t _ W (HX2.out.1.step hW HX2.out.1.top (Nat.le_trans HX2.out.1.top hW.size)).lies (HX2.out.1.step hW HX2.out.1.top (Nat.le_trans HX2.out.1.top hW.size)).small (by omega))
  have HL2 := Lib.hid (fun W (hW : Below w2.heap.size w2 W) => lent_w pp' m' u _ W (HX2.out.2.step hW HX2.out.2.top (Nat.le_trans HX2.out.2.top hW.size)).lies (HX2.out.2.step hW HX2.out.2.top (Nat.le_trans HX2.out.2.top hW.size)).small (by omega))
  go_cut [7, 8] (fun s7 s8 wx => ∃ p3 p4 B3 B4 A3 A4 cap3 cap4, s7 = .pointer (some ⟨B3, 0, none⟩) ∧ s8 = .pointer (some ⟨B4, 0, none⟩) ∧ Pl4 w t u pp pp' m m' A A1 cap cap1 p3 p4 B3 B4 A3 A4 cap3 cap4 wx.heap.size wx)
  case first =>
    refine wp_region_noPanic ?_
    refine wp_region_held_drew (S := (fun w' => w'.cell? ⟨w.heap.size, 0, none⟩ = some (.int .u8 (t.k : Int)) ∧ w'.cell? ⟨w.heap.size, 1, none⟩ = some (.int .i64 t.n) ∧ w'.cell? ⟨w.heap.size, 2, none⟩ = some (.string t.s) ∧ w'.cell? ⟨w.heap.size, 3, none⟩ = some (.slice A t.l.length cap) ∧ w'.cell? ⟨w.heap.size, 4, none⟩ = some (.int .i64 t.r) ∧ w'.cell? ⟨w.heap.size + 1, 0, none⟩ = some (.int .u8 (u.k : Int)) ∧ w'.cell? ⟨w.heap.size + 1, 1, none⟩ = some (.int .i64 u.n) ∧ w'.cell? ⟨w.heap.size + 1, 2, none⟩ = some (.string u.s) ∧ w'.cell? ⟨w.heap.size + 1, 3, none⟩ = some (.slice A1 u.l.length cap1) ∧ w'.cell? ⟨w.heap.size + 1, 4, none⟩ = some (.int .i64 u.r))) (by kernel_rfl) (HKeep.out _ (Below.refl _ _).drew) (fun hH0 => ?_)
    refine wpAnyH_take (i := 0) (oi := ⟨_, _, _, _, _, _⟩) (v := ?_) rfl (by kernel_rfl) (by kernel_rfl) (by kernel_rfl) (fun _ _ _ h => h) (Or.inl ⟨by rfl, ?_⟩) (by assumption) ?_
    rotate_left
    · (intro w hSw; (try dsimp only at hSw); go_simp; try (with_reducible rfl))
    (try simp only [Act.put, List.setIfInBounds_toArray, List.set_cons_zero, List.set_cons_succ])
    refine wpAnyH_take (i := 2) (oi := ⟨_, _, _, _, _, _⟩) (v := ?_) rfl (by kernel_rfl) (by kernel_rfl) (by kernel_rfl) (fun _ _ _ h => h) (Or.inl ⟨by rfl, ?_⟩) (by assumption) ?_
    rotate_left
    · (intro w hSw; (try dsimp only at hSw); go_simp; try (with_reducible rfl))
    (try simp only [Act.put, List.setIfInBounds_toArray, List.set_cons_zero, List.set_cons_succ])
    clear hH0
    have HR0 := Lib.hid (R3.start (t := t) (u := u) (Below.refl w2.heap.size w2).drew)
    generalize w2.drew = x0 at *
    refine wpAnyH_ready (rs := [1, 4, 5]) (by kernel_rfl) (by simp) ?_
    refine AllReadyH.cons (o := ⟨_, _, _, _, _, _⟩) rfl (fun K hK => ?_) ?_
    · go_simp
      go_at_call 20
      refine (HL1.out _ HR0.out.below).mono ?_
      rintro e x1 ⟨v3, rfl, hlin, hb⟩
      obtain ⟨A3, cap3, rfl⟩ := hlin.cells
      have HR1 := Lib.hid (HR0.out.call3 hlin hb)
      clear hlin hb HR0
      try (go_wp2_with fail)
      refine hK.out _ _ (HKeep.out _ HR1.out.below) (fun _ => ?_)
      clear hK K
      (try simp only [Act.put, List.setIfInBounds_toArray, List.set_cons_zero, List.set_cons_succ])
      refine wpAnyH_ready (rs := [3, 4, 5]) (by kernel_rfl) (by simp) ?_
      refine AllReadyH.cons (o := ⟨_, _, _, _, _, _⟩) rfl (fun K hK => ?_) ?_
      · go_simp
        go_at_call 20
        refine (HL2.out _ HR1.out.below).mono ?_
        rintro e x2 ⟨v4, rfl, hlin, hb⟩
        obtain ⟨A4, cap4, rfl⟩ := hlin.cells
        have HR2 := Lib.hid (HR1.out.call4 hlin hb)
        clear hlin hb HR1
        try (go_wp2_with fail)
        refine hK.out _ _ (HKeep.out _ HR2.out.below) (fun _ => ?_)
        clear hK K
        (try simp only [Act.put, List.setIfInBounds_toArray, List.set_cons_zero, List.set_cons_succ])
        refine wpAnyH_ready (rs := [4, 5]) (by kernel_rfl) (by simp) ?_
        refine AllReadyH.cons (o := ⟨_, _, _, _, _, _⟩) rfl (fun K hK => ?_) ?_
        · go_simp
          have HR3 := Lib.hid HR2.out.alloc7
          refine hK.out _ _ (HKeep.out _ HR3.out.below) (fun _ => ?_)
          clear hK K HR2
          (try simp only [Act.put, List.setIfInBounds_toArray, List.set_cons_zero, List.set_cons_succ])
          generalize x2.alloc (.cells #[.int .u8 0, .int .i64 0, .string ⟨#[]⟩, .slice none 0 0, .int .i64 0] 26) = x3 at *
          refine wpAnyH_ready (rs := [5]) (by kernel_rfl) (by simp) ?_
          refine AllReadyH.cons (o := ⟨_, _, _, _, _, _⟩) rfl (fun K hK => ?_) ?_
          · go_simp
            have HR4 := Lib.hid HR3.out.alloc8
            have HB8 := Lib.hid HR3.out.below.size
            refine hK.out _ _ (HKeep.out _ HR4.out.below) (fun _ => ?_)
            clear hK K HR3
            (try simp only [Act.put, List.setIfInBounds_toArray, List.set_cons_zero, List.set_cons_succ])
            generalize x3.alloc (.cells #[.int .u8 0, .int .i64 0, .string ⟨#[]⟩, .slice none 0 0, .int .i64 0] 26) = x4 at *
            have B7f := (HR4.out.z7 _ rfl).2
            have B8f := (HR4.out.z8 _ rfl).2
            have hb7 := (HR4.out.z7 _ rfl).1
            have hne := HR4.out.ne _ _ rfl rfl
            have HD := Lib.hid (HR4.out.done HX2.out.1 HX2.out.2 HB2.out)
            have HBs := Lib.hid (below_set5 HR4.out.below hb7 (.int .u8 (t.k : Int)) (.int .i64 t.n) (.string t.s) (.slice A3 t.l.length cap3) (.int .i64 t.r))
            have B8s := B8f.other5 (Ne.symm hne) (.int .u8 (t.k : Int)) (.int .i64 t.n) (.string t.s) (.slice A3 t.l.length cap3) (.int .i64 t.r)
            have y0 := B7f.e0
            have yz0 := B7f.froz 0
            have y1 := B7f.e1
            have yz1 := B7f.froz 1
            have y2 := B7f.e2
            have yz2 := B7f.froz 2
            have y3 := B7f.e3
            have yz3 := B7f.froz 3
            have y4 := B7f.e4
            have yz4 := B7f.froz 4
            clear HR4 B7f B8f hne hb7
            refine wpAnyH_ready (rs := [6]) (by kernel_rfl) (by simp) ?_
            refine AllReadyH.cons (o := ⟨_, _, _, _, _, _⟩) rfl (fun K hK => ?_) AllReadyH.nil
            go_simp
            refine hK.out _ _ (HKeep.out _ HBs.out) (fun _ => ?_)
            clear hK K y0 y1 y2 y3 y4 yz0 yz1 yz2 yz3 yz4
            (try simp only [Act.put, List.setIfInBounds_toArray, List.set_cons_zero, List.set_cons_succ])
            generalize hxs : (((((x4.setCell ⟨x2.heap.size, 0, none⟩ (.int .u8 (t.k : Int))).setCell ⟨x2.heap.size, 1, none⟩ (.int .i64 t.n)).setCell ⟨x2.heap.size, 2, none⟩ (.string t.s)).setCell ⟨x2.heap.size, 3, none⟩ (.slice A3 t.l.length cap3)).setCell ⟨x2.heap.size, 4, none⟩ (.int .i64 t.r)) = xs at *
            clear hxs
            have hb8 : w2.heap.size ≤ x3.heap.size := HB8.out
            have y0 := B8s.e0
            have yz0 := B8s.froz 0
            have y1 := B8s.e1
            have yz1 := B8s.froz 1
            have y2 := B8s.e2
            have yz2 := B8s.froz 2
            have y3 := B8s.e3
            have yz3 := B8s.froz 3
            have y4 := B8s.e4
            have yz4 := B8s.froz 4
            clear B8s
            refine wpAnyH_ready (rs := [7]) (by kernel_rfl) (by simp) ?_
            refine AllReadyH.cons (o := ⟨_, _, _, _, _, _⟩) rfl (fun K hK => ?_) AllReadyH.nil
            go_simp
            refine hK.out _ _ (HKeep.out _ (below_set5 HBs.out hb8 _ _ _ _ _)) (fun _ => ?_)
            clear hK K y0 y1 y2 y3 y4 yz0 yz1 yz2 yz3 yz4
            (try simp only [Act.put, List.setIfInBounds_toArray, List.set_cons_zero, List.set_cons_succ])
            refine wpAnyH_done (by kernel_rfl) ?_ _
            refine NoPanic.normal ?_
            go_wp2_with fail
            go_meet
            exact ⟨_, _, _, _, A3, A4, cap3, cap4, rfl, rfl, HD.out⟩
          exact AllReadyH.nil
        refine AllReadyH.cons (o := ⟨_, _, _, _, _, _⟩) rfl (fun K hK => ?_) ?_
        · go_simp
          have HR3 := Lib.hid HR2.out.alloc8
          have HB8 := Lib.hid HR2.out.below.size
          refine hK.out _ _ (HKeep.out _ HR3.out.below) (fun _ => ?_)
          clear hK K HR2
          (try simp only [Act.put, List.setIfInBounds_toArray, List.set_cons_zero, List.set_cons_succ])
          generalize x2.alloc (.cells #[.int .u8 0, .int .i64 0, .string ⟨#[]⟩, .slice none 0 0, .int .i64 0] 26) = x3 at *
          refine wpAnyH_ready (rs := [4]) (by kernel_rfl) (by simp) ?_
          refine AllReadyH.cons (o := ⟨_, _, _, _, _, _⟩) rfl (fun K hK => ?_) ?_
          · go_simp
            have HR4 := Lib.hid HR3.out.alloc7
            refine hK.out _ _ (HKeep.out _ HR4.out.below) (fun _ => ?_)
            clear hK K HR3
            (try simp only [Act.put, List.setIfInBounds_toArray, List.set_cons_zero, List.set_cons_succ])
            generalize x3.alloc (.cells #[.int .u8 0, .int .i64 0, .string ⟨#[]⟩, .slice none 0 0, .int .i64 0] 26) = x4 at *
            have B7f := (HR4.out.z7 _ rfl).2
            have B8f := (HR4.out.z8 _ rfl).2
            have hb7 := (HR4.out.z7 _ rfl).1
            have hne := HR4.out.ne _ _ rfl rfl
            have HD := Lib.hid (HR4.out.done HX2.out.1 HX2.out.2 HB2.out)
            have HBs := Lib.hid (below_set5 HR4.out.below hb7 (.int .u8 (t.k : Int)) (.int .i64 t.n) (.string t.s) (.slice A3 t.l.length cap3) (.int .i64 t.r))
            have B8s := B8f.other5 (Ne.symm hne) (.int .u8 (t.k : Int)) (.int .i64 t.n) (.string t.s) (.slice A3 t.l.length cap3) (.int .i64 t.r)
            have y0 := B7f.e0
            have yz0 := B7f.froz 0
            have y1 := B7f.e1
            have yz1 := B7f.froz 1
            have y2 := B7f.e2
            have yz2 := B7f.froz 2
            have y3 := B7f.e3
            have yz3 := B7f.froz 3
            have y4 := B7f.e4
            have yz4 := B7f.froz 4
            clear HR4 B7f B8f hne hb7
            refine wpAnyH_ready (rs := [6]) (by kernel_rfl) (by simp) ?_
            refine AllReadyH.cons (o := ⟨_, _, _, _, _, _⟩) rfl (fun K hK => ?_) AllReadyH.nil
            go_simp
            refine hK.out _ _ (HKeep.out _ HBs.out) (fun _ => ?_)
            clear hK K y0 y1 y2 y3 y4 yz0 yz1 yz2 yz3 yz4
            (try simp only [Act.put, List.setIfInBounds_toArray, List.set_cons_zero, List.set_cons_succ])
            generalize hxs : (((((x4.setCell ⟨x3.heap.size, 0, none⟩ (.int .u8 (t.k : Int))).setCell ⟨x3.heap.size, 1, none⟩ (.int .i64 t.n)).setCell ⟨x3.heap.size, 2, none⟩ (.string t.s)).setCell ⟨x3.heap.size, 3, none⟩ (.slice A3 t.l.length cap3)).setCell ⟨x3.heap.size, 4, none⟩ (.int .i64 t.r)) = xs at *
            clear hxs
            have hb8 : w2.heap.size ≤ x2.heap.size := HB8.out
            have y0 := B8s.e0
            have yz0 := B8s.froz 0
            have y1 := B8s.e1
            have yz1 := B8s.froz 1
            have y2 := B8s.e2
            have yz2 := B8s.froz 2
            have y3 := B8s.e3
            have yz3 := B8s.froz 3
            have y4 := B8s.e4
            have yz4 := B8s.froz 4
            clear B8s
            refine wpAnyH_ready (rs := [7]) (by kernel_rfl) (by simp) ?_
            refine AllReadyH.cons (o := ⟨_, _, _, _, _, _⟩) rfl (fun K hK => ?_) AllReadyH.nil
            go_simp
            refine hK.out _ _ (HKeep.out _ (below_set5 HBs.out hb8 _ _ _ _ _)) (fun _ => ?_)
            clear hK K y0 y1 y2 y3 y4 yz0 yz1 yz2 yz3 yz4
            (try simp only [Act.put, List.setIfInBounds_toArray, List.set_cons_zero, List.set_cons_succ])
            refine wpAnyH_done (by kernel_rfl) ?_ _
            refine NoPanic.normal ?_
            go_wp2_with fail
            go_meet
            exact ⟨_, _, _, _, A3, A4, cap3, cap4, rfl, rfl, HD.out⟩
          exact AllReadyH.nil
        exact AllReadyH.nil
      refine AllReadyH.cons (o := ⟨_, _, _, _, _, _⟩) rfl (fun K hK => ?_) ?_
      · go_simp
        have HR2 := Lib.hid HR1.out.alloc7
        refine hK.out _ _ (HKeep.out _ HR2.out.below) (fun _ => ?_)
        clear hK K HR1
        (try simp only [Act.put, List.setIfInBounds_toArray, List.set_cons_zero, List.set_cons_succ])
        generalize x1.alloc (.cells #[.int .u8 0, .int .i64 0, .string ⟨#[]⟩, .slice none 0 0, .int .i64 0] 26) = x2 at *
        refine wpAnyH_ready (rs := [3, 5]) (by kernel_rfl) (by simp) ?_
        refine AllReadyH.cons (o := ⟨_, _, _, _, _, _⟩) rfl (fun K hK => ?_) ?_
        · go_simp
          go_at_call 20
          refine (HL2.out _ HR2.out.below).mono ?_
          rintro e x3 ⟨v4, rfl, hlin, hb⟩
          obtain ⟨A4, cap4, rfl⟩ := hlin.cells
          have HR3 := Lib.hid (HR2.out.call4 hlin hb)
          clear hlin hb HR2
          try (go_wp2_with fail)
          refine hK.out _ _ (HKeep.out _ HR3.out.below) (fun _ => ?_)
          clear hK K
          (try simp only [Act.put, List.setIfInBounds_toArray, List.set_cons_zero, List.set_cons_succ])
          refine wpAnyH_ready (rs := [5]) (by kernel_rfl) (by simp) ?_
          refine AllReadyH.cons (o := ⟨_, _, _, _, _, _⟩) rfl (fun K hK => ?_) ?_
          · go_simp
            have HR4 := Lib.hid HR3.out.alloc8
            have HB8 := Lib.hid HR3.out.below.size
            refine hK.out _ _ (HKeep.out _ HR4.out.below) (fun _ => ?_)
            clear hK K HR3
            (try simp only [Act.put, List.setIfInBounds_toArray, List.set_cons_zero, List.set_cons_succ])
            generalize x3.alloc (.cells #[.int .u8 0, .int .i64 0, .string ⟨#[]⟩, .slice none 0 0, .int .i64 0] 26) = x4 at *
            have B7f := (HR4.out.z7 _ rfl).2
            have B8f := (HR4.out.z8 _ rfl).2
            have hb7 := (HR4.out.z7 _ rfl).1
            have hne := HR4.out.ne _ _ rfl rfl
            have HD := Lib.hid (HR4.out.done HX2.out.1 HX2.out.2 HB2.out)
            have HBs := Lib.hid (below_set5 HR4.out.below hb7 (.int .u8 (t.k : Int)) (.int .i64 t.n) (.string t.s) (.slice A3 t.l.length cap3) (.int .i64 t.r))
            have B8s := B8f.other5 (Ne.symm hne) (.int .u8 (t.k : Int)) (.int .i64 t.n) (.string t.s) (.slice A3 t.l.length cap3) (.int .i64 t.r)
            have y0 := B7f.e0
            have yz0 := B7f.froz 0
            have y1 := B7f.e1
            have yz1 := B7f.froz 1
            have y2 := B7f.e2
            have yz2 := B7f.froz 2
            have y3 := B7f.e3
            have yz3 := B7f.froz 3
            have y4 := B7f.e4
            have yz4 := B7f.froz 4
            clear HR4 B7f B8f hne hb7
            refine wpAnyH_ready (rs := [6]) (by kernel_rfl) (by simp) ?_
            refine AllReadyH.cons (o := ⟨_, _, _, _, _, _⟩) rfl (fun K hK => ?_) AllReadyH.nil
            go_simp
            refine hK.out _ _ (HKeep.out _ HBs.out) (fun _ => ?_)
            clear hK K y0 y1 y2 y3 y4 yz0 yz1 yz2 yz3 yz4
            (try simp only [Act.put, List.setIfInBounds_toArray, List.set_cons_zero, List.set_cons_succ])
            generalize hxs : (((((x4.setCell ⟨x1.heap.size, 0, none⟩ (.int .u8 (t.k : Int))).setCell ⟨x1.heap.size, 1, none⟩ (.int .i64 t.n)).setCell ⟨x1.heap.size, 2, none⟩ (.string t.s)).setCell ⟨x1.heap.size, 3, none⟩ (.slice A3 t.l.length cap3)).setCell ⟨x1.heap.size, 4, none⟩ (.int .i64 t.r)) = xs at *
            clear hxs
            have hb8 : w2.heap.size ≤ x3.heap.size := HB8.out
            have y0 := B8s.e0
            have yz0 := B8s.froz 0
            have y1 := B8s.e1
            have yz1 := B8s.froz 1
            have y2 := B8s.e2
            have yz2 := B8s.froz 2
            have y3 := B8s.e3
            have yz3 := B8s.froz 3
            have y4 := B8s.e4
            have yz4 := B8s.froz 4
            clear B8s
            refine wpAnyH_ready (rs := [7]) (by kernel_rfl) (by simp) ?_
            refine AllReadyH.cons (o := ⟨_, _, _, _, _, _⟩) rfl (fun K hK => ?_) AllReadyH.nil
            go_simp
            refine hK.out _ _ (HKeep.out _ (below_set5 HBs.out hb8 _ _ _ _ _)) (fun _ => ?_)
            clear hK K y0 y1 y2 y3 y4 yz0 yz1 yz2 yz3 yz4
            (try simp only [Act.put, List.setIfInBounds_toArray, List.set_cons_zero, List.set_cons_succ])
            refine wpAnyH_done (by kernel_rfl) ?_ _
            refine NoPanic.normal ?_
            go_wp2_with fail
            go_meet
            exact ⟨_, _, _, _, A3, A4, cap3, cap4, rfl, rfl, HD.out⟩
          exact AllReadyH.nil
        refine AllReadyH.cons (o := ⟨_, _, _, _, _, _⟩) rfl (fun K hK => ?_) ?_
        · go_simp
          have HR3 := Lib.hid HR2.out.alloc8
          have HB8 := Lib.hid HR2.out.below.size
          refine hK.out _ _ (HKeep.out _ HR3.out.below) (fun _ => ?_)
          clear hK K HR2
          (try simp only [Act.put, List.setIfInBounds_toArray, List.set_cons_zero, List.set_cons_succ])
          generalize x2.alloc (.cells #[.int .u8 0, .int .i64 0, .string ⟨#[]⟩, .slice none 0 0, .int .i64 0] 26) = x3 at *
          refine wpAnyH_ready (rs := [3]) (by kernel_rfl) (by simp) ?_
          refine AllReadyH.cons (o := ⟨_, _, _, _, _, _⟩) rfl (fun K hK => ?_) ?_
          · go_simp
            go_at_call 20
            refine (HL2.out _ HR3.out.below).mono ?_
            rintro e x4 ⟨v4, rfl, hlin, hb⟩
            obtain ⟨A4, cap4, rfl⟩ := hlin.cells
            have HR4 := Lib.hid (HR3.out.call4 hlin hb)
            clear hlin hb HR3
            try (go_wp2_with fail)
            refine hK.out _ _ (HKeep.out _ HR4.out.below) (fun _ => ?_)
            clear hK K
            (try simp only [Act.put, List.setIfInBounds_toArray, List.set_cons_zero, List.set_cons_succ])
            have B7f := (HR4.out.z7 _ rfl).2
            have B8f := (HR4.out.z8 _ rfl).2
            have hb7 := (HR4.out.z7 _ rfl).1
            have hne := HR4.out.ne _ _ rfl rfl
            have HD := Lib.hid (HR4.out.done HX2.out.1 HX2.out.2 HB2.out)
            have HBs := Lib.hid (below_set5 HR4.out.below hb7 (.int .u8 (t.k : Int)) (.int .i64 t.n) (.string t.s) (.slice A3 t.l.length cap3) (.int .i64 t.r))
            have B8s := B8f.other5 (Ne.symm hne) (.int .u8 (t.k : Int)) (.int .i64 t.n) (.string t.s) (.slice A3 t.l.length cap3) (.int .i64 t.r)
            have y0 := B7f.e0
            have yz0 := B7f.froz 0
            have y1 := B7f.e1
            have yz1 := B7f.froz 1
            have y2 := B7f.e2
            have yz2 := B7f.froz 2
            have y3 := B7f.e3
            have yz3 := B7f.froz 3
            have y4 := B7f.e4
            have yz4 := B7f.froz 4
            clear HR4 B7f B8f hne hb7
            refine wpAnyH_ready (rs := [6]) (by kernel_rfl) (by simp) ?_
            refine AllReadyH.cons (o := ⟨_, _, _, _, _, _⟩) rfl (fun K hK => ?_) AllReadyH.nil
            go_simp
            refine hK.out _ _ (HKeep.out _ HBs.out) (fun _ => ?_)
            clear hK K y0 y1 y2 y3 y4 yz0 yz1 yz2 yz3 yz4
            (try simp only [Act.put, List.setIfInBounds_toArray, List.set_cons_zero, List.set_cons_succ])
            generalize hxs : (((((x4.setCell ⟨x1.heap.size, 0, none⟩ (.int .u8 (t.k : Int))).setCell ⟨x1.heap.size, 1, none⟩ (.int .i64 t.n)).setCell ⟨x1.heap.size, 2, none⟩ (.string t.s)).setCell ⟨x1.heap.size, 3, none⟩ (.slice A3 t.l.length cap3)).setCell ⟨x1.heap.size, 4, none⟩ (.int .i64 t.r)) = xs at *
            clear hxs
            have hb8 : w2.heap.size ≤ x2.heap.size := HB8.out
            have y0 := B8s.e0
            have yz0 := B8s.froz 0
            have y1 := B8s.e1
            have yz1 := B8s.froz 1
            have y2 := B8s.e2
            have yz2 := B8s.froz 2
            have y3 := B8s.e3
            have yz3 := B8s.froz 3
            have y4 := B8s.e4
            have yz4 := B8s.froz 4
            clear B8s
            refine wpAnyH_ready (rs := [7]) (by kernel_rfl) (by simp) ?_
            refine AllReadyH.cons (o := ⟨_, _, _, _, _, _⟩) rfl (fun K hK => ?_) AllReadyH.nil
            go_simp
            refine hK.out _ _ (HKeep.out _ (below_set5 HBs.out hb8 _ _ _ _ _)) (fun _ => ?_)
            clear hK K y0 y1 y2 y3 y4 yz0 yz1 yz2 yz3 yz4
            (try simp only [Act.put, List.setIfInBounds_toArray, List.set_cons_zero, List.set_cons_succ])
            refine wpAnyH_done (by kernel_rfl) ?_ _
            refine NoPanic.normal ?_
            go_wp2_with fail
            go_meet
            exact ⟨_, _, _, _, A3, A4, cap3, cap4, rfl, rfl, HD.out⟩
          exact AllReadyH.nil
        exact AllReadyH.nil
      refine AllReadyH.cons (o := ⟨_, _, _, _, _, _⟩) rfl (fun K hK => ?_) ?_
      · go_simp
        have HR2 := Lib.hid HR1.out.alloc8
        have HB8 := Lib.hid HR1.out.below.size
        refine hK.out _ _ (HKeep.out _ HR2.out.below) (fun _ => ?_)
        clear hK K HR1
        (try simp only [Act.put, List.setIfInBounds_toArray, List.set_cons_zero, List.set_cons_succ])
        generalize x1.alloc (.cells #[.int .u8 0, .int .i64 0, .string ⟨#[]⟩, .slice none 0 0, .int .i64 0] 26) = x2 at *
        refine wpAnyH_ready (rs := [3, 4]) (by kernel_rfl) (by simp) ?_
        refine AllReadyH.cons (o := ⟨_, _, _, _, _, _⟩) rfl (fun K hK => ?_) ?_
        · go_simp
          go_at_call 20
          refine (HL2.out _ HR2.out.below).mono ?_
          rintro e x3 ⟨v4, rfl, hlin, hb⟩
          obtain ⟨A4, cap4, rfl⟩ := hlin.cells
          have HR3 := Lib.hid (HR2.out.call4 hlin hb)
          clear hlin hb HR2
          try (go_wp2_with fail)
          refine hK.out _ _ (HKeep.out _ HR3.out.below) (fun _ => ?_)
          clear hK K
          (try simp only [Act.put, List.setIfInBounds_toArray, List.set_cons_zero, List.set_cons_succ])
          refine wpAnyH_ready (rs := [4]) (by kernel_rfl) (by simp) ?_
          refine AllReadyH.cons (o := ⟨_, _, _, _, _, _⟩) rfl (fun K hK => ?_) ?_
          · go_simp
            have HR4 := Lib.hid HR3.out.alloc7
            refine hK.out _ _ (HKeep.out _ HR4.out.below) (fun _ => ?_)
            clear hK K HR3
            (try simp only [Act.put, List.setIfInBounds_toArray, List.set_cons_zero, List.set_cons_succ])
            generalize x3.alloc (.cells #[.int .u8 0, .int .i64 0, .string ⟨#[]⟩, .slice none 0 0, .int .i64 0] 26) = x4 at *
            have B7f := (HR4.out.z7 _ rfl).2
            have B8f := (HR4.out.z8 _ rfl).2
            have hb7 := (HR4.out.z7 _ rfl).1
            have hne := HR4.out.ne _ _ rfl rfl
            have HD := Lib.hid (HR4.out.done HX2.out.1 HX2.out.2 HB2.out)
            have HBs := Lib.hid (below_set5 HR4.out.below hb7 (.int .u8 (t.k : Int)) (.int .i64 t.n) (.string t.s) (.slice A3 t.l.length cap3) (.int .i64 t.r))
            have B8s := B8f.other5 (Ne.symm hne) (.int .u8 (t.k : Int)) (.int .i64 t.n) (.string t.s) (.slice A3 t.l.length cap3) (.int .i64 t.r)
            have y0 := B7f.e0
            have yz0 := B7f.froz 0
            have y1 := B7f.e1
            have yz1 := B7f.froz 1
            have y2 := B7f.e2
            have yz2 := B7f.froz 2
            have y3 := B7f.e3
            have yz3 := B7f.froz 3
            have y4 := B7f.e4
            have yz4 := B7f.froz 4
            clear HR4 B7f B8f hne hb7
            refine wpAnyH_ready (rs := [6]) (by kernel_rfl) (by simp) ?_
            refine AllReadyH.cons (o := ⟨_, _, _, _, _, _⟩) rfl (fun K hK => ?_) AllReadyH.nil
            go_simp
            refine hK.out _ _ (HKeep.out _ HBs.out) (fun _ => ?_)
            clear hK K y0 y1 y2 y3 y4 yz0 yz1 yz2 yz3 yz4
            (try simp only [Act.put, List.setIfInBounds_toArray, List.set_cons_zero, List.set_cons_succ])
            generalize hxs : (((((x4.setCell ⟨x3.heap.size, 0, none⟩ (.int .u8 (t.k : Int))).setCell ⟨x3.heap.size, 1, none⟩ (.int .i64 t.n)).setCell ⟨x3.heap.size, 2, none⟩ (.string t.s)).setCell ⟨x3.heap.size, 3, none⟩ (.slice A3 t.l.length cap3)).setCell ⟨x3.heap.size, 4, none⟩ (.int .i64 t.r)) = xs at *
            clear hxs
            have hb8 : w2.heap.size ≤ x1.heap.size := HB8.out
            have y0 := B8s.e0
            have yz0 := B8s.froz 0
            have y1 := B8s.e1
            have yz1 := B8s.froz 1
            have y2 := B8s.e2
            have yz2 := B8s.froz 2
            have y3 := B8s.e3
            have yz3 := B8s.froz 3
            have y4 := B8s.e4
            have yz4 := B8s.froz 4
            clear B8s
            refine wpAnyH_ready (rs := [7]) (by kernel_rfl) (by simp) ?_
            refine AllReadyH.cons (o := ⟨_, _, _, _, _, _⟩) rfl (fun K hK => ?_) AllReadyH.nil
            go_simp
            refine hK.out _ _ (HKeep.out _ (below_set5 HBs.out hb8 _ _ _ _ _)) (fun _ => ?_)
            clear hK K y0 y1 y2 y3 y4 yz0 yz1 yz2 yz3 yz4
            (try simp only [Act.put, List.setIfInBounds_toArray, List.set_cons_zero, List.set_cons_succ])
            refine wpAnyH_done (by kernel_rfl) ?_ _
            refine NoPanic.normal ?_
            go_wp2_with fail
            go_meet
            exact ⟨_, _, _, _, A3, A4, cap3, cap4, rfl, rfl, HD.out⟩
          exact AllReadyH.nil
        refine AllReadyH.cons (o := ⟨_, _, _, _, _, _⟩) rfl (fun K hK => ?_) ?_
        · go_simp
          have HR3 := Lib.hid HR2.out.alloc7
          refine hK.out _ _ (HKeep.out _ HR3.out.below) (fun _ => ?_)
          clear hK K HR2
          (try simp only [Act.put, List.setIfInBounds_toArray, List.set_cons_zero, List.set_cons_succ])
          generalize x2.alloc (.cells #[.int .u8 0, .int .i64 0, .string ⟨#[]⟩, .slice none 0 0, .int .i64 0] 26) = x3 at *
          refine wpAnyH_ready (rs := [3]) (by kernel_rfl) (by simp) ?_
          refine AllReadyH.cons (o := ⟨_, _, _, _, _, _⟩) rfl (fun K hK => ?_) ?_
          · go_simp
            go_at_call 20
            refine (HL2.out _ HR3.out.below).mono ?_
            rintro e x4 ⟨v4, rfl, hlin, hb⟩
            obtain ⟨A4, cap4, rfl⟩ := hlin.cells
            have HR4 := Lib.hid (HR3.out.call4 hlin hb)
            clear hlin hb HR3
            try (go_wp2_with fail)
            refine hK.out _ _ (HKeep.out _ HR4.out.below) (fun _ => ?_)
            clear hK K
            (try simp only [Act.put, List.setIfInBounds_toArray, List.set_cons_zero, List.set_cons_succ])
            have B7f := (HR4.out.z7 _ rfl).2
            have B8f := (HR4.out.z8 _ rfl).2
            have hb7 := (HR4.out.z7 _ rfl).1
            have hne := HR4.out.ne _ _ rfl rfl
            have HD := Lib.hid (HR4.out.done HX2.out.1 HX2.out.2 HB2.out)
            have HBs := Lib.hid (below_set5 HR4.out.below hb7 (.int .u8 (t.k : Int)) (.int .i64 t.n) (.string t.s) (.slice A3 t.l.length cap3) (.int .i64 t.r))
            have B8s := B8f.other5 (Ne.symm hne) (.int .u8 (t.k : Int)) (.int .i64 t.n) (.string t.s) (.slice A3 t.l.length cap3) (.int .i64 t.r)
            have y0 := B7f.e0
            have yz0 := B7f.froz 0
            have y1 := B7f.e1
            have yz1 := B7f.froz 1
            have y2 := B7f.e2
            have yz2 := B7f.froz 2
            have y3 := B7f.e3
            have yz3 := B7f.froz 3
            have y4 := B7f.e4
            have yz4 := B7f.froz 4
            clear HR4 B7f B8f hne hb7
            refine wpAnyH_ready (rs := [6]) (by kernel_rfl) (by simp) ?_
            refine AllReadyH.cons (o := ⟨_, _, _, _, _, _⟩) rfl (fun K hK => ?_) AllReadyH.nil
            go_simp
            refine hK.out _ _ (HKeep.out _ HBs.out) (fun _ => ?_)
            clear hK K y0 y1 y2 y3 y4 yz0 yz1 yz2 yz3 yz4
            (try simp only [Act.put, List.setIfInBounds_toArray, List.set_cons_zero, List.set_cons_succ])
            generalize hxs : (((((x4.setCell ⟨x2.heap.size, 0, none⟩ (.int .u8 (t.k : Int))).setCell ⟨x2.heap.size, 1, none⟩ (.int .i64 t.n)).setCell ⟨x2.heap.size, 2, none⟩ (.string t.s)).setCell ⟨x2.heap.size, 3, none⟩ (.slice A3 t.l.length cap3)).setCell ⟨x2.heap.size, 4, none⟩ (.int .i64 t.r)) = xs at *
            clear hxs
            have hb8 : w2.heap.size ≤ x1.heap.size := HB8.out
            have y0 := B8s.e0
            have yz0 := B8s.froz 0
            have y1 := B8s.e1
            have yz1 := B8s.froz 1
            have y2 := B8s.e2
            have yz2 := B8s.froz 2
            have y3 := B8s.e3
            have yz3 := B8s.froz 3
            have y4 := B8s.e4
            have yz4 := B8s.froz 4
            clear B8s
            refine wpAnyH_ready (rs := [7]) (by kernel_rfl) (by simp) ?_
            refine AllReadyH.cons (o := ⟨_, _, _, _, _, _⟩) rfl (fun K hK => ?_) AllReadyH.nil
            go_simp
            refine hK.out _ _ (HKeep.out _ (below_set5 HBs.out hb8 _ _ _ _ _)) (fun _ => ?_)
            clear hK K y0 y1 y2 y3 y4 yz0 yz1 yz2 yz3 yz4
            (try simp only [Act.put, List.setIfInBounds_toArray, List.set_cons_zero, List.set_cons_succ])
            refine wpAnyH_done (by kernel_rfl) ?_ _
            refine NoPanic.normal ?_
            go_wp2_with fail
            go_meet
            exact ⟨_, _, _, _, A3, A4, cap3, cap4, rfl, rfl, HD.out⟩
          exact AllReadyH.nil
        exact AllReadyH.nil
      exact AllReadyH.nil
    refine AllReadyH.cons (o := ⟨_, _, _, _, _, _⟩) rfl (fun K hK => ?_) ?_
    · go_simp
      have HR1 := Lib.hid HR0.out.alloc7
      refine hK.out _ _ (HKeep.out _ HR1.out.below) (fun _ => ?_)
      clear hK K HR0
      (try simp only [Act.put, List.setIfInBounds_toArray, List.set_cons_zero, List.set_cons_succ])
      generalize x0.alloc (.cells #[.int .u8 0, .int .i64 0, .string ⟨#[]⟩, .slice none 0 0, .int .i64 0] 26) = x1 at *
      refine wpAnyH_ready (rs := [1, 5]) (by kernel_rfl) (by simp) ?_
      refine AllReadyH.cons (o := ⟨_, _, _, _, _, _⟩) rfl (fun K hK => ?_) ?_
      · go_simp
        go_at_call 20
        refine (HL1.out _ HR1.out.below).mono ?_
        rintro e x2 ⟨v3, rfl, hlin, hb⟩
        obtain ⟨A3, cap3, rfl⟩ := hlin.cells
        have HR2 := Lib.hid (HR1.out.call3 hlin hb)
        clear hlin hb HR1
        try (go_wp2_with fail)
        refine hK.out _ _ (HKeep.out _ HR2.out.below) (fun _ => ?_)
        clear hK K
        (try simp only [Act.put, List.setIfInBounds_toArray, List.set_cons_zero, List.set_cons_succ])
        refine wpAnyH_ready (rs := [3, 5]) (by kernel_rfl) (by simp) ?_
        refine AllReadyH.cons (o := ⟨_, _, _, _, _, _⟩) rfl (fun K hK => ?_) ?_
        · go_simp
          go_at_call 20
          refine (HL2.out _ HR2.out.below).mono ?_
          rintro e x3 ⟨v4, rfl, hlin, hb⟩
          obtain ⟨A4, cap4, rfl⟩ := hlin.cells
          have HR3 := Lib.hid (HR2.out.call4 hlin hb)
          clear hlin hb HR2
          try (go_wp2_with fail)
          refine hK.out _ _ (HKeep.out _ HR3.out.below) (fun _ => ?_)
          clear hK K
          (try simp only [Act.put, List.setIfInBounds_toArray, List.set_cons_zero, List.set_cons_succ])
          refine wpAnyH_ready (rs := [5]) (by kernel_rfl) (by simp) ?_
          refine AllReadyH.cons (o := ⟨_, _, _, _, _, _⟩) rfl (fun K hK => ?_) ?_
          · go_simp
            have HR4 := Lib.hid HR3.out.alloc8
            have HB8 := Lib.hid HR3.out.below.size
            refine hK.out _ _ (HKeep.out _ HR4.out.below) (fun _ => ?_)
            clear hK K HR3
            (try simp only [Act.put, List.setIfInBounds_toArray, List.set_cons_zero, List.set_cons_succ])
            generalize x3.alloc (.cells #[.int .u8 0, .int .i64 0, .string ⟨#[]⟩, .slice none 0 0, .int .i64 0] 26) = x4 at *
            have B7f := (HR4.out.z7 _ rfl).2
            have B8f := (HR4.out.z8 _ rfl).2
            have hb7 := (HR4.out.z7 _ rfl).1
            have hne := HR4.out.ne _ _ rfl rfl
            have HD := Lib.hid (HR4.out.done HX2.out.1 HX2.out.2 HB2.out)
            have HBs := Lib.hid (below_set5 HR4.out.below hb7 (.int .u8 (t.k : Int)) (.int .i64 t.n) (.string t.s) (.slice A3 t.l.length cap3) (.int .i64 t.r))
            have B8s := B8f.other5 (Ne.symm hne) (.int .u8 (t.k : Int)) (.int .i64 t.n) (.string t.s) (.slice A3 t.l.length cap3) (.int .i64 t.r)
            have y0 := B7f.e0
            have yz0 := B7f.froz 0
            have y1 := B7f.e1
            have yz1 := B7f.froz 1
            have y2 := B7f.e2
            have yz2 := B7f.froz 2
            have y3 := B7f.e3
            have yz3 := B7f.froz 3
            have y4 := B7f.e4
            have yz4 := B7f.froz 4
            clear HR4 B7f B8f hne hb7
            refine wpAnyH_ready (rs := [6]) (by kernel_rfl) (by simp) ?_
            refine AllReadyH.cons (o := ⟨_, _, _, _, _, _⟩) rfl (fun K hK => ?_) AllReadyH.nil
            go_simp
            refine hK.out _ _ (HKeep.out _ HBs.out) (fun _ => ?_)
            clear hK K y0 y1 y2 y3 y4 yz0 yz1 yz2 yz3 yz4
            (try simp only [Act.put, List.setIfInBounds_toArray, List.set_cons_zero, List.set_cons_succ])
            generalize hxs : (((((x4.setCell ⟨x0.heap.size, 0, none⟩ (.int .u8 (t.k : Int))).setCell ⟨x0.heap.size, 1, none⟩ (.int .i64 t.n)).setCell ⟨x0.heap.size, 2, none⟩ (.string t.s)).setCell ⟨x0.heap.size, 3, none⟩ (.slice A3 t.l.length cap3)).setCell ⟨x0.heap.size, 4, none⟩ (.int .i64 t.r)) = xs at *
            clear hxs
            have hb8 : w2.heap.size ≤ x3.heap.size := HB8.out
            have y0 := B8s.e0
            have yz0 := B8s.froz 0
            have y1 := B8s.e1
            have yz1 := B8s.froz 1
            have y2 := B8s.e2
            have yz2 := B8s.froz 2
            have y3 := B8s.e3
            have yz3 := B8s.froz 3
            have y4 := B8s.e4
            have yz4 := B8s.froz 4
            clear B8s
            refine wpAnyH_ready (rs := [7]) (by kernel_rfl) (by simp) ?_
            refine AllReadyH.cons (o := ⟨_, _, _, _, _, _⟩) rfl (fun K hK => ?_) AllReadyH.nil
            go_simp
            refine hK.out _ _ (HKeep.out _ (below_set5 HBs.out hb8 _ _ _ _ _)) (fun _ => ?_)
            clear hK K y0 y1 y2 y3 y4 yz0 yz1 yz2 yz3 yz4
            (try simp only [Act.put, List.setIfInBounds_toArray, List.set_cons_zero, List.set_cons_succ])
            refine wpAnyH_done (by kernel_rfl) ?_ _
            refine NoPanic.normal ?_
            go_wp2_with fail
            go_meet
            exact ⟨_, _, _, _, A3, A4, cap3, cap4, rfl, rfl, HD.out⟩
          exact AllReadyH.nil
        refine AllReadyH.cons (o := ⟨_, _, _, _, _, _⟩) rfl (fun K hK => ?_) ?_
        · go_simp
          have HR3 := Lib.hid HR2.out.alloc8
          have HB8 := Lib.hid HR2.out.below.size
          refine hK.out _ _ (HKeep.out _ HR3.out.below) (fun _ => ?_)
          clear hK K HR2
          (try simp only [Act.put, List.setIfInBounds_toArray, List.set_cons_zero, List.set_cons_succ])
          generalize x2.alloc (.cells #[.int .u8 0, .int .i64 0, .string ⟨#[]⟩, .slice none 0 0, .int .i64 0] 26) = x3 at *
          refine wpAnyH_ready (rs := [3]) (by kernel_rfl) (by simp) ?_
          refine AllReadyH.cons (o := ⟨_, _, _, _, _, _⟩) rfl (fun K hK => ?_) ?_
          · go_simp
            go_at_call 20
            refine (HL2.out _ HR3.out.below).mono ?_
            rintro e x4 ⟨v4, rfl, hlin, hb⟩
            obtain ⟨A4, cap4, rfl⟩ := hlin.cells
            have HR4 := Lib.hid (HR3.out.call4 hlin hb)
            clear hlin hb HR3
            try (go_wp2_with fail)
            refine hK.out _ _ (HKeep.out _ HR4.out.below) (fun _ => ?_)
            clear hK K
            (try simp only [Act.put, List.setIfInBounds_toArray, List.set_cons_zero, List.set_cons_succ])
            have B7f := (HR4.out.z7 _ rfl).2
            have B8f := (HR4.out.z8 _ rfl).2
            have hb7 := (HR4.out.z7 _ rfl).1
            have hne := HR4.out.ne _ _ rfl rfl
            have HD := Lib.hid (HR4.out.done HX2.out.1 HX2.out.2 HB2.out)
            have HBs := Lib.hid (below_set5 HR4.out.below hb7 (.int .u8 (t.k : Int)) (.int .i64 t.n) (.string t.s) (.slice A3 t.l.length cap3) (.int .i64 t.r))
            have B8s := B8f.other5 (Ne.symm hne) (.int .u8 (t.k : Int)) (.int .i64 t.n) (.string t.s) (.slice A3 t.l.length cap3) (.int .i64 t.r)
            have y0 := B7f.e0
            have yz0 := B7f.froz 0
            have y1 := B7f.e1
            have yz1 := B7f.froz 1
            have y2 := B7f.e2
            have yz2 := B7f.froz 2
            have y3 := B7f.e3
            have yz3 := B7f.froz 3
            have y4 := B7f.e4
            have yz4 := B7f.froz 4
            clear HR4 B7f B8f hne hb7
            refine wpAnyH_ready (rs := [6]) (by kernel_rfl) (by simp) ?_
            refine AllReadyH.cons (o := ⟨_, _, _, _, _, _⟩) rfl (fun K hK => ?_) AllReadyH.nil
            go_simp
            refine hK.out _ _ (HKeep.out _ HBs.out) (fun _ => ?_)
            clear hK K y0 y1 y2 y3 y4 yz0 yz1 yz2 yz3 yz4
            (try simp only [Act.put, List.setIfInBounds_toArray, List.set_cons_zero, List.set_cons_succ])
            generalize hxs : (((((x4.setCell ⟨x0.heap.size, 0, none⟩ (.int .u8 (t.k : Int))).setCell ⟨x0.heap.size, 1, none⟩ (.int .i64 t.n)).setCell ⟨x0.heap.size, 2, none⟩ (.string t.s)).setCell ⟨x0.heap.size, 3, none⟩ (.slice A3 t.l.length cap3)).setCell ⟨x0.heap.size, 4, none⟩ (.int .i64 t.r)) = xs at *
            clear hxs
            have hb8 : w2.heap.size ≤ x2.heap.size := HB8.out
            have y0 := B8s.e0
            have yz0 := B8s.froz 0
            have y1 := B8s.e1
            have yz1 := B8s.froz 1
            have y2 := B8s.e2
            have yz2 := B8s.froz 2
            have y3 := B8s.e3
            have yz3 := B8s.froz 3
            have y4 := B8s.e4
            have yz4 := B8s.froz 4
            clear B8s
            refine wpAnyH_ready (rs := [7]) (by kernel_rfl) (by simp) ?_
            refine AllReadyH.cons (o := ⟨_, _, _, _, _, _⟩) rfl (fun K hK => ?_) AllReadyH.nil
            go_simp
            refine hK.out _ _ (HKeep.out _ (below_set5 HBs.out hb8 _ _ _ _ _)) (fun _ => ?_)
            clear hK K y0 y1 y2 y3 y4 yz0 yz1 yz2 yz3 yz4
            (try simp only [Act.put, List.setIfInBounds_toArray, List.set_cons_zero, List.set_cons_succ])
            refine wpAnyH_done (by kernel_rfl) ?_ _
            refine NoPanic.normal ?_
            go_wp2_with fail
            go_meet
            exact ⟨_, _, _, _, A3, A4, cap3, cap4, rfl, rfl, HD.out⟩
          exact AllReadyH.nil
        exact AllReadyH.nil
      refine AllReadyH.cons (o := ⟨_, _, _, _, _, _⟩) rfl (fun K hK => ?_) ?_
      · go_simp
        have HR2 := Lib.hid HR1.out.alloc8
        have HB8 := Lib.hid HR1.out.below.size
        refine hK.out _ _ (HKeep.out _ HR2.out.below) (fun _ => ?_)
        clear hK K HR1
        (try simp only [Act.put, List.setIfInBounds_toArray, List.set_cons_zero, List.set_cons_succ])
        generalize x1.alloc (.cells #[.int .u8 0, .int .i64 0, .string ⟨#[]⟩, .slice none 0 0, .int .i64 0] 26) = x2 at *
        refine wpAnyH_ready (rs := [1]) (by kernel_rfl) (by simp) ?_
        refine AllReadyH.cons (o := ⟨_, _, _, _, _, _⟩) rfl (fun K hK => ?_) ?_
        · go_simp
          go_at_call 20
          refine (HL1.out _ HR2.out.below).mono ?_
          rintro e x3 ⟨v3, rfl, hlin, hb⟩
          obtain ⟨A3, cap3, rfl⟩ := hlin.cells
          have HR3 := Lib.hid (HR2.out.call3 hlin hb)
          clear hlin hb HR2
          try (go_wp2_with fail)
          refine hK.out _ _ (HKeep.out _ HR3.out.below) (fun _ => ?_)
          clear hK K
          (try simp only [Act.put, List.setIfInBounds_toArray, List.set_cons_zero, List.set_cons_succ])
          refine wpAnyH_ready (rs := [3]) (by kernel_rfl) (by simp) ?_
          refine AllReadyH.cons (o := ⟨_, _, _, _, _, _⟩) rfl (fun K hK => ?_) ?_
          · go_simp
            go_at_call 20
            refine (HL2.out _ HR3.out.below).mono ?_
            rintro e x4 ⟨v4, rfl, hlin, hb⟩
            obtain ⟨A4, cap4, rfl⟩ := hlin.cells
            have HR4 := Lib.hid (HR3.out.call4 hlin hb)
            clear hlin hb HR3
            try (go_wp2_with fail)
            refine hK.out _ _ (HKeep.out _ HR4.out.below) (fun _ => ?_)
            clear hK K
            (try simp only [Act.put, List.setIfInBounds_toArray, List.set_cons_zero, List.set_cons_succ])
            have B7f := (HR4.out.z7 _ rfl).2
            have B8f := (HR4.out.z8 _ rfl).2
            have hb7 := (HR4.out.z7 _ rfl).1
            have hne := HR4.out.ne _ _ rfl rfl
            have HD := Lib.hid (HR4.out.done HX2.out.1 HX2.out.2 HB2.out)
            have HBs := Lib.hid (below_set5 HR4.out.below hb7 (.int .u8 (t.k : Int)) (.int .i64 t.n) (.string t.s) (.slice A3 t.l.length cap3) (.int .i64 t.r))
            have B8s := B8f.other5 (Ne.symm hne) (.int .u8 (t.k : Int)) (.int .i64 t.n) (.string t.s) (.slice A3 t.l.length cap3) (.int .i64 t.r)
            have y0 := B7f.e0
            have yz0 := B7f.froz 0
            have y1 := B7f.e1
            have yz1 := B7f.froz 1
            have y2 := B7f.e2
            have yz2 := B7f.froz 2
            have y3 := B7f.e3
            have yz3 := B7f.froz 3
            have y4 := B7f.e4
            have yz4 := B7f.froz 4
            clear HR4 B7f B8f hne hb7
            refine wpAnyH_ready (rs := [6]) (by kernel_rfl) (by simp) ?_
            refine AllReadyH.cons (o := ⟨_, _, _, _, _, _⟩) rfl (fun K hK => ?_) AllReadyH.nil
            go_simp
            refine hK.out _ _ (HKeep.out _ HBs.out) (fun _ => ?_)
            clear hK K y0 y1 y2 y3 y4 yz0 yz1 yz2 yz3 yz4
            (try simp only [Act.put, List.setIfInBounds_toArray, List.set_cons_zero, List.set_cons_succ])
            generalize hxs : (((((x4.setCell ⟨x0.heap.size, 0, none⟩ (.int .u8 (t.k : Int))).setCell ⟨x0.heap.size, 1, none⟩ (.int .i64 t.n)).setCell ⟨x0.heap.size, 2, none⟩ (.string t.s)).setCell ⟨x0.heap.size, 3, none⟩ (.slice A3 t.l.length cap3)).setCell ⟨x0.heap.size, 4, none⟩ (.int .i64 t.r)) = xs at *
            clear hxs
            have hb8 : w2.heap.size ≤ x1.heap.size := HB8.out
            have y0 := B8s.e0
            have yz0 := B8s.froz 0
            have y1 := B8s.e1
            have yz1 := B8s.froz 1
            have y2 := B8s.e2
            have yz2 := B8s.froz 2
            have y3 := B8s.e3
            have yz3 := B8s.froz 3
            have y4 := B8s.e4
            have yz4 := B8s.froz 4
            clear B8s
            refine wpAnyH_ready (rs := [7]) (by kernel_rfl) (by simp) ?_
            refine AllReadyH.cons (o := ⟨_, _, _, _, _, _⟩) rfl (fun K hK => ?_) AllReadyH.nil
            go_simp
            refine hK.out _ _ (HKeep.out _ (below_set5 HBs.out hb8 _ _ _ _ _)) (fun _ => ?_)
            clear hK K y0 y1 y2 y3 y4 yz0 yz1 yz2 yz3 yz4
            (try simp only [Act.put, List.setIfInBounds_toArray, List.set_cons_zero, List.set_cons_succ])
            refine wpAnyH_done (by kernel_rfl) ?_ _
            refine NoPanic.normal ?_
            go_wp2_with fail
            go_meet
            exact ⟨_, _, _, _, A3, A4, cap3, cap4, rfl, rfl, HD.out⟩
          exact AllReadyH.nil
        exact AllReadyH.nil
      exact AllReadyH.nil
    refine AllReadyH.cons (o := ⟨_, _, _, _, _, _⟩) rfl (fun K hK => ?_) ?_
    · go_simp
      have HR1 := Lib.hid HR0.out.alloc8
      have HB8 := Lib.hid HR0.out.below.size
      refine hK.out _ _ (HKeep.out _ HR1.out.below) (fun _ => ?_)
      clear hK K HR0
      (try simp only [Act.put, List.setIfInBounds_toArray, List.set_cons_zero, List.set_cons_succ])
      generalize x0.alloc (.cells #[.int .u8 0, .int .i64 0, .string ⟨#[]⟩, .slice none 0 0, .int .i64 0] 26) = x1 at *
      refine wpAnyH_ready (rs := [1, 4]) (by kernel_rfl) (by simp) ?_
      refine AllReadyH.cons (o := ⟨_, _, _, _, _, _⟩) rfl (fun K hK => ?_) ?_
      · go_simp
        go_at_call 20
        refine (HL1.out _ HR1.out.below).mono ?_
        rintro e x2 ⟨v3, rfl, hlin, hb⟩
        obtain ⟨A3, cap3, rfl⟩ := hlin.cells
        have HR2 := Lib.hid (HR1.out.call3 hlin hb)
        clear hlin hb HR1
        try (go_wp2_with fail)
        refine hK.out _ _ (HKeep.out _ HR2.out.below) (fun _ => ?_)
        clear hK K
        (try simp only [Act.put, List.setIfInBounds_toArray, List.set_cons_zero, List.set_cons_succ])
        refine wpAnyH_ready (rs := [3, 4]) (by kernel_rfl) (by simp) ?_
        refine AllReadyH.cons (o := ⟨_, _, _, _, _, _⟩) rfl (fun K hK => ?_) ?_
        · go_simp
          go_at_call 20
          refine (HL2.out _ HR2.out.below).mono ?_
          rintro e x3 ⟨v4, rfl, hlin, hb⟩
          obtain ⟨A4, cap4, rfl⟩ := hlin.cells
          have HR3 := Lib.hid (HR2.out.call4 hlin hb)
          clear hlin hb HR2
          try (go_wp2_with fail)
          refine hK.out _ _ (HKeep.out _ HR3.out.below) (fun _ => ?_)
          clear hK K
          (try simp only [Act.put, List.setIfInBounds_toArray, List.set_cons_zero, List.set_cons_succ])
          refine wpAnyH_ready (rs := [4]) (by kernel_rfl) (by simp) ?_
          refine AllReadyH.cons (o := ⟨_, _, _, _, _, _⟩) rfl (fun K hK => ?_) ?_
          · go_simp
            have HR4 := Lib.hid HR3.out.alloc7
            refine hK.out _ _ (HKeep.out _ HR4.out.below) (fun _ => ?_)
            clear hK K HR3
            (try simp only [Act.put, List.setIfInBounds_toArray, List.set_cons_zero, List.set_cons_succ])
            generalize x3.alloc (.cells #[.int .u8 0, .int .i64 0, .string ⟨#[]⟩, .slice none 0 0, .int .i64 0] 26) = x4 at *
            have B7f := (HR4.out.z7 _ rfl).2
            have B8f := (HR4.out.z8 _ rfl).2
            have hb7 := (HR4.out.z7 _ rfl).1
            have hne := HR4.out.ne _ _ rfl rfl
            have HD := Lib.hid (HR4.out.done HX2.out.1 HX2.out.2 HB2.out)
            have HBs := Lib.hid (below_set5 HR4.out.below hb7 (.int .u8 (t.k : Int)) (.int .i64 t.n) (.string t.s) (.slice A3 t.l.length cap3) (.int .i64 t.r))
            have B8s := B8f.other5 (Ne.symm hne) (.int .u8 (t.k : Int)) (.int .i64 t.n) (.string t.s) (.slice A3 t.l.length cap3) (.int .i64 t.r)
            have y0 := B7f.e0
            have yz0 := B7f.froz 0
            have y1 := B7f.e1
            have yz1 := B7f.froz 1
            have y2 := B7f.e2
            have yz2 := B7f.froz 2
            have y3 := B7f.e3
            have yz3 := B7f.froz 3
            have y4 := B7f.e4
            have yz4 := B7f.froz 4
            clear HR4 B7f B8f hne hb7
            refine wpAnyH_ready (rs := [6]) (by kernel_rfl) (by simp) ?_
            refine AllReadyH.cons (o := ⟨_, _, _, _, _, _⟩) rfl (fun K hK => ?_) AllReadyH.nil
            go_simp
            refine hK.out _ _ (HKeep.out _ HBs.out) (fun _ => ?_)
            clear hK K y0 y1 y2 y3 y4 yz0 yz1 yz2 yz3 yz4
            (try simp only [Act.put, List.setIfInBounds_toArray, List.set_cons_zero, List.set_cons_succ])
            generalize hxs : (((((x4.setCell ⟨x3.heap.size, 0, none⟩ (.int .u8 (t.k : Int))).setCell ⟨x3.heap.size, 1, none⟩ (.int .i64 t.n)).setCell ⟨x3.heap.size, 2, none⟩ (.string t.s)).setCell ⟨x3.heap.size, 3, none⟩ (.slice A3 t.l.length cap3)).setCell ⟨x3.heap.size, 4, none⟩ (.int .i64 t.r)) = xs at *
            clear hxs
            have hb8 : w2.heap.size ≤ x0.heap.size := HB8.out
            have y0 := B8s.e0
            have yz0 := B8s.froz 0
            have y1 := B8s.e1
            have yz1 := B8s.froz 1
            have y2 := B8s.e2
            have yz2 := B8s.froz 2
            have y3 := B8s.e3
            have yz3 := B8s.froz 3
            have y4 := B8s.e4
            have yz4 := B8s.froz 4
            clear B8s
            refine wpAnyH_ready (rs := [7]) (by kernel_rfl) (by simp) ?_
            refine AllReadyH.cons (o := ⟨_, _, _, _, _, _⟩) rfl (fun K hK => ?_) AllReadyH.nil
            go_simp
            refine hK.out _ _ (HKeep.out _ (below_set5 HBs.out hb8 _ _ _ _ _)) (fun _ => ?_)
            clear hK K y0 y1 y2 y3 y4 yz0 yz1 yz2 yz3 yz4
            (try simp only [Act.put, List.setIfInBounds_toArray, List.set_cons_zero, List.set_cons_succ])
            refine wpAnyH_done (by kernel_rfl) ?_ _
            refine NoPanic.normal ?_
            go_wp2_with fail
            go_meet
            exact ⟨_, _, _, _, A3, A4, cap3, cap4, rfl, rfl, HD.out⟩
          exact AllReadyH.nil
        refine AllReadyH.cons (o := ⟨_, _, _, _, _, _⟩) rfl (fun K hK => ?_) ?_
        · go_simp
          have HR3 := Lib.hid HR2.out.alloc7
          refine hK.out _ _ (HKeep.out _ HR3.out.below) (fun _ => ?_)
          clear hK K HR2
          (try simp only [Act.put, List.setIfInBounds_toArray, List.set_cons_zero, List.set_cons_succ])
          generalize x2.alloc (.cells #[.int .u8 0, .int .i64 0, .string ⟨#[]⟩, .slice none 0 0, .int .i64 0] 26) = x3 at *
          refine wpAnyH_ready (rs := [3]) (by kernel_rfl) (by simp) ?_
          refine AllReadyH.cons (o := ⟨_, _, _, _, _, _⟩) rfl (fun K hK => ?_) ?_
          · go_simp
            go_at_call 20
            refine (HL2.out _ HR3.out.below).mono ?_
            rintro e x4 ⟨v4, rfl, hlin, hb⟩
            obtain ⟨A4, cap4, rfl⟩ := hlin.cells
            have HR4 := Lib.hid (HR3.out.call4 hlin hb)
            clear hlin hb HR3
            try (go_wp2_with fail)
            refine hK.out _ _ (HKeep.out _ HR4.out.below) (fun _ => ?_)
            clear hK K
            (try simp only [Act.put, List.setIfInBounds_toArray, List.set_cons_zero, List.set_cons_succ])
            have B7f := (HR4.out.z7 _ rfl).2
            have B8f := (HR4.out.z8 _ rfl).2
            have hb7 := (HR4.out.z7 _ rfl).1
            have hne := HR4.out.ne _ _ rfl rfl
            have HD := Lib.hid (HR4.out.done HX2.out.1 HX2.out.2 HB2.out)
            have HBs := Lib.hid (below_set5 HR4.out.below hb7 (.int .u8 (t.k : Int)) (.int .i64 t.n) (.string t.s) (.slice A3 t.l.length cap3) (.int .i64 t.r))
            have B8s := B8f.other5 (Ne.symm hne) (.int .u8 (t.k : Int)) (.int .i64 t.n) (.string t.s) (.slice A3 t.l.length cap3) (.int .i64 t.r)
            have y0 := B7f.e0
            have yz0 := B7f.froz 0
            have y1 := B7f.e1
            have yz1 := B7f.froz 1
            have y2 := B7f.e2
            have yz2 := B7f.froz 2
            have y3 := B7f.e3
            have yz3 := B7f.froz 3
            have y4 := B7f.e4
            have yz4 := B7f.froz 4
            clear HR4 B7f B8f hne hb7
            refine wpAnyH_ready (rs := [6]) (by kernel_rfl) (by simp) ?_
            refine AllReadyH.cons (o := ⟨_, _, _, _, _, _⟩) rfl (fun K hK => ?_) AllReadyH.nil
            go_simp
            refine hK.out _ _ (HKeep.out _ HBs.out) (fun _ => ?_)
            clear hK K y0 y1 y2 y3 y4 yz0 yz1 yz2 yz3 yz4
            (try simp only [Act.put, List.setIfInBounds_toArray, List.set_cons_zero, List.set_cons_succ])
            generalize hxs : (((((x4.setCell ⟨x2.heap.size, 0, none⟩ (.int .u8 (t.k : Int))).setCell ⟨x2.heap.size, 1, none⟩ (.int .i64 t.n)).setCell ⟨x2.heap.size, 2, none⟩ (.string t.s)).setCell ⟨x2.heap.size, 3, none⟩ (.slice A3 t.l.length cap3)).setCell ⟨x2.heap.size, 4, none⟩ (.int .i64 t.r)) = xs at *
            clear hxs
            have hb8 : w2.heap.size ≤ x0.heap.size := HB8.out
            have y0 := B8s.e0
            have yz0 := B8s.froz 0
            have y1 := B8s.e1
            have yz1 := B8s.froz 1
            have y2 := B8s.e2
            have yz2 := B8s.froz 2
            have y3 := B8s.e3
            have yz3 := B8s.froz 3
            have y4 := B8s.e4
            have yz4 := B8s.froz 4
            clear B8s
            refine wpAnyH_ready (rs := [7]) (by kernel_rfl) (by simp) ?_
            refine AllReadyH.cons (o := ⟨_, _, _, _, _, _⟩) rfl (fun K hK => ?_) AllReadyH.nil
            go_simp
            refine hK.out _ _ (HKeep.out _ (below_set5 HBs.out hb8 _ _ _ _ _)) (fun _ => ?_)
            clear hK K y0 y1 y2 y3 y4 yz0 yz1 yz2 yz3 yz4
            (try simp only [Act.put, List.setIfInBounds_toArray, List.set_cons_zero, List.set_cons_succ])
            refine wpAnyH_done (by kernel_rfl) ?_ _
            refine NoPanic.normal ?_
            go_wp2_with fail
            go_meet
            exact ⟨_, _, _, _, A3, A4, cap3, cap4, rfl, rfl, HD.out⟩
          exact AllReadyH.nil
        exact AllReadyH.nil
      refine AllReadyH.cons (o := ⟨_, _, _, _, _, _⟩) rfl (fun K hK => ?_) ?_
      · go_simp
        have HR2 := Lib.hid HR1.out.alloc7
        refine hK.out _ _ (HKeep.out _ HR2.out.below) (fun _ => ?_)
        clear hK K HR1
        (try simp only [Act.put, List.setIfInBounds_toArray, List.set_cons_zero, List.set_cons_succ])
        generalize x1.alloc (.cells #[.int .u8 0, .int .i64 0, .string ⟨#[]⟩, .slice none 0 0, .int .i64 0] 26) = x2 at *
        refine wpAnyH_ready (rs := [1]) (by kernel_rfl) (by simp) ?_
        refine AllReadyH.cons (o := ⟨_, _, _, _, _, _⟩) rfl (fun K hK => ?_) ?_
        · go_simp
          go_at_call 20
          refine (HL1.out _ HR2.out.below).mono ?_
          rintro e x3 ⟨v3, rfl, hlin, hb⟩
          obtain ⟨A3, cap3, rfl⟩ := hlin.cells
          have HR3 := Lib.hid (HR2.out.call3 hlin hb)
          clear hlin hb HR2
          try (go_wp2_with fail)
          refine hK.out _ _ (HKeep.out _ HR3.out.below) (fun _ => ?_)
          clear hK K
          (try simp only [Act.put, List.setIfInBounds_toArray, List.set_cons_zero, List.set_cons_succ])
          refine wpAnyH_ready (rs := [3]) (by kernel_rfl) (by simp) ?_
          refine AllReadyH.cons (o := ⟨_, _, _, _, _, _⟩) rfl (fun K hK => ?_) ?_
          · go_simp
            go_at_call 20
            refine (HL2.out _ HR3.out.below).mono ?_
            rintro e x4 ⟨v4, rfl, hlin, hb⟩
            obtain ⟨A4, cap4, rfl⟩ := hlin.cells
            have HR4 := Lib.hid (HR3.out.call4 hlin hb)
            clear hlin hb HR3
            try (go_wp2_with fail)
            refine hK.out _ _ (HKeep.out _ HR4.out.below) (fun _ => ?_)
            clear hK K
            (try simp only [Act.put, List.setIfInBounds_toArray, List.set_cons_zero, List.set_cons_succ])
            have B7f := (HR4.out.z7 _ rfl).2
            have B8f := (HR4.out.z8 _ rfl).2
            have hb7 := (HR4.out.z7 _ rfl).1
            have hne := HR4.out.ne _ _ rfl rfl
            have HD := Lib.hid (HR4.out.done HX2.out.1 HX2.out.2 HB2.out)
            have HBs := Lib.hid (below_set5 HR4.out.below hb7 (.int .u8 (t.k : Int)) (.int .i64 t.n) (.string t.s) (.slice A3 t.l.length cap3) (.int .i64 t.r))
            have B8s := B8f.other5 (Ne.symm hne) (.int .u8 (t.k : Int)) (.int .i64 t.n) (.string t.s) (.slice A3 t.l.length cap3) (.int .i64 t.r)
            have y0 := B7f.e0
            have yz0 := B7f.froz 0
            have y1 := B7f.e1
            have yz1 := B7f.froz 1
            have y2 := B7f.e2
            have yz2 := B7f.froz 2
            have y3 := B7f.e3
            have yz3 := B7f.froz 3
            have y4 := B7f.e4
            have yz4 := B7f.froz 4
            clear HR4 B7f B8f hne hb7
            refine wpAnyH_ready (rs := [6]) (by kernel_rfl) (by simp) ?_
            refine AllReadyH.cons (o := ⟨_, _, _, _, _, _⟩) rfl (fun K hK => ?_) AllReadyH.nil
            go_simp
            refine hK.out _ _ (HKeep.out _ HBs.out) (fun _ => ?_)
            clear hK K y0 y1 y2 y3 y4 yz0 yz1 yz2 yz3 yz4
            (try simp only [Act.put, List.setIfInBounds_toArray, List.set_cons_zero, List.set_cons_succ])
            generalize hxs : (((((x4.setCell ⟨x1.heap.size, 0, none⟩ (.int .u8 (t.k : Int))).setCell ⟨x1.heap.size, 1, none⟩ (.int .i64 t.n)).setCell ⟨x1.heap.size, 2, none⟩ (.string t.s)).setCell ⟨x1.heap.size, 3, none⟩ (.slice A3 t.l.length cap3)).setCell ⟨x1.heap.size, 4, none⟩ (.int .i64 t.r)) = xs at *
            clear hxs
            have hb8 : w2.heap.size ≤ x0.heap.size := HB8.out
            have y0 := B8s.e0
            have yz0 := B8s.froz 0
            have y1 := B8s.e1
            have yz1 := B8s.froz 1
            have y2 := B8s.e2
            have yz2 := B8s.froz 2
            have y3 := B8s.e3
            have yz3 := B8s.froz 3
            have y4 := B8s.e4
            have yz4 := B8s.froz 4
            clear B8s
            refine wpAnyH_ready (rs := [7]) (by kernel_rfl) (by simp) ?_
            refine AllReadyH.cons (o := ⟨_, _, _, _, _, _⟩) rfl (fun K hK => ?_) AllReadyH.nil
            go_simp
            refine hK.out _ _ (HKeep.out _ (below_set5 HBs.out hb8 _ _ _ _ _)) (fun _ => ?_)
            clear hK K y0 y1 y2 y3 y4 yz0 yz1 yz2 yz3 yz4
            (try simp only [Act.put, List.setIfInBounds_toArray, List.set_cons_zero, List.set_cons_succ])
            refine wpAnyH_done (by kernel_rfl) ?_ _
            refine NoPanic.normal ?_
            go_wp2_with fail
            go_meet
            exact ⟨_, _, _, _, A3, A4, cap3, cap4, rfl, rfl, HD.out⟩
          exact AllReadyH.nil
        exact AllReadyH.nil
      exact AllReadyH.nil
    exact AllReadyH.nil
  case rest =>
    obtain ⟨p3, p4, B3, B4, A3, A4, cap3, cap4, rfl, rfl, hP⟩ := hcut
    obtain ⟨w3, rfl⟩ : ∃ w3, w3 = wc := ⟨_, rfl⟩
    have HP := Lib.hid hP
    clear hP HKeep HL1 HL2 HX2 HB2 q1 q1' q2 q3 hs2
    obtain ⟨i0, hi, hz0, hz1, hz2⟩ := info_parts infoI
    go_wp2_with (first
      | (at_builtin; refine wpList_append_ints rfl (.const (.slice none 0 0)) (.tmp 35) w3.heap.size rfl _ 0 [] rfl (World.ownsRow_nil _ _ _ _) PA ps pc w.heap.size rfl HI.out.2 (HI.out.1.below HP.out.below (Nat.le_refl _)) (by omega) (by first | omega | (simp; done)) ?_; intro v4 w4 h1 h2 h3; clear h3; rw [Nat.zero_add, List.nil_append] at h1; obtain ⟨Av4, cv4, rfl⟩ := owns_slice h1; have HP4 := Lib.hid (And.intro h1 (below_appI1 h2)); clear h1 h2)
      | (at_builtin; refine wpList_append_own_at _ rfl (.tmp 36) (.tmp 37) 44 rfl w3.heap.size 3 i0 (.int .i64 0) 1 8 Try.underlying44 hi hz0 hz1 hz2 rfl (by decide) _ _ _ rfl (HP4.out.1.alloc _) ⟨_, 0, none⟩ 1 1 [.int .i64 77] rfl rfl (one_cell _ _ (by simp)) (by simp [Value.oneCell']) (by unfold maxLen; omega) (by omega) (by have := HP4.out.2.size; simp at this ⊢; omega) ?_; intro v5 w5 h1 h2 _ h4; obtain ⟨gv5, cv5, rfl, hm⟩ := rowI_of h1; have HP5 := Lib.hid (And.intro hm (below_appI2 HP4.out.2 HP4.out.1 (Nat.le_refl _) h2)); clear h1 h2 h4 hm))
    have HQ5 := Lib.hid (HP.out.step HP5.out.2)
    have HR5 := Lib.hid HP5.out.1
    have h35 := HP5.out.2.size
    have hq5' : ps.length ≤ cv5 := by have := HR5.out.room; omega
    have hq5 : (ps.length : Int) ≤ (cv5 : Int) := by omega
    have hq6 : ps.length + 1 ≤ cv5 := HR5.out.room
    clear HP HP4 HP5 hi hz0 hz1 hz2
    have HCall := Lib.hid (fun W (hW : Below w5.heap.size w5 W) => show Calls Try.prog 31 #[.agg #[.int .u8 (t.k : Int), .int .i64 t.n, .string t.s, .slice A3 t.l.length cap3, .int .i64 t.r], .slice (some ⟨gv5, 0, none⟩) ps.length cv5] W (fun e W' => AnsT W (resT (atRes t ps).1) (atRes t ps).2 e W') from
      (At_w t _ ps _ cv5 W (HQ5.out.step hW).two.lies (HQ5.out.step hW).two.small ((HR5.out.ints.below hW (Nat.le_refl _)).mono hW.size) (by omega)).mono fun _ _ h => h.ans)
    have HRCall := Lib.hid (fun W (hP : Pl4 w t u pp pp' m m' A A1 cap cap1 p3 p4 B3 B4 A3 A4 cap3 cap4 w3.heap.size W) => show Calls Try.prog 32 #[.agg #[.int .u8 (t.k : Int), .int .i64 t.n, .string t.s, .slice A t.l.length cap, .int .i64 t.r], .slice PA ps.length pc] W (fun e W' => AnsP (fun _ => pp) m W (resT (atRes t ps).1) (atRes t ps).2 e W') from
      (rAt_w t _ ps PA pc W hP.one.lies hP.one.small ((HI.out.1.below hP.below (Nat.le_refl _)).mono hP.below.size) (by omega)).mono fun _ _ h => h.ans)
    have HMY := Lib.hid (atRes_may t ps)
    have HBase := Lib.hid (Below.refl w5.heap.size w5)
    have HVC := Lib.hid (fun W (hP : Pl4 w t u pp pp' m m' A A1 cap cap1 p3 p4 B3 B4 A3 A4 cap3 cap4 w3.heap.size W) (hR : RowI w3.heap.size w5.heap.size gv5 cv5 ps 77 W) (h5 : w5.heap.size ≤ W.heap.size) => show Calls Try.prog 33 #[.agg #[.int .u8 (t.k : Int), .int .i64 t.n, .string t.s, .slice A3 t.l.length cap3, .int .i64 t.r], .agg #[.int .u8 (u.k : Int), .int .i64 u.n, .string u.s, .slice A4 u.l.length cap4, .int .i64 u.r], .slice (some ⟨gv5, 0, none⟩) ps.length cv5] W (fun e W' => AnsT W (resT (withRes t u ps).1) (withRes t u ps).2 e W') from
      (With_w t u _ _ ps _ cv5 W hP.two.lies hP.twoU.lies hP.two.small hP.twoU.small (hR.ints.mono h5) (by omega)).mono fun _ _ h => h.ans)
    have HRWC := Lib.hid (fun W (hP : Pl4 w t u pp pp' m m' A A1 cap cap1 p3 p4 B3 B4 A3 A4 cap3 cap4 w3.heap.size W) => show Calls Try.prog 34 #[.agg #[.int .u8 (t.k : Int), .int .i64 t.n, .string t.s, .slice A t.l.length cap, .int .i64 t.r], .agg #[.int .u8 (u.k : Int), .int .i64 u.n, .string u.s, .slice A1 u.l.length cap1, .int .i64 u.r], .slice PA ps.length pc] W (fun e W' => AnsP (fun W' b => pp' b ∨ (W.heap.size ≤ b ∧ b < W'.heap.size)) false W (resT (withRes t u ps).1) (withRes t u ps).2 e W') from
      (rWith_w t u _ _ ps PA pc W hP.one.lies hP.oneU.lies hP.one.small hP.oneU.small ((HI.out.1.below hP.below (Nat.le_refl _)).mono hP.below.size) (by omega) HI2.out.2.1 HI2.out.2.2).mono fun _ _ h => h.ans)
    have HMW := Lib.hid (withRes_may t u ps)
    generalize resT (atRes t ps).1 = x at *
    generalize (atRes t ps).2 = n at *
    generalize resT (withRes t u ps).1 = y at *
    generalize (withRes t u ps).2 = k at *
    have HKeep := Lib.hid (fun W (hW : Below w5.heap.size w5 W) => show W.cell? ⟨B3, 0, none⟩ = some (.int .u8 (t.k : Int)) ∧ W.cell? ⟨B3, 1, none⟩ = some (.int .i64 t.n) ∧ W.cell? ⟨B3, 2, none⟩ = some (.string t.s) ∧ W.cell? ⟨B3, 3, none⟩ = some (.slice A3 t.l.length cap3) ∧ W.cell? ⟨B3, 4, none⟩ = some (.int .i64 t.r) from
      have X := (HQ5.out.step hW).two.box
      ⟨X.e0, X.e1, X.e2, X.e3, X.e4⟩)
    have HZ0 := Lib.hid (fun W (h : Below (w5.alloc (.cells #[.int .u8 0, .int .i64 0, .string ⟨#[]⟩, .slice none 0 0, .int .i64 0] 26)).drew.heap.size (w5.alloc (.cells #[.int .u8 0, .int .i64 0, .string ⟨#[]⟩, .slice none 0 0, .int .i64 0] 26)).drew W) => show Five W w5.heap.size (.int .u8 0) (.int .i64 0) (.string ⟨#[]⟩) (.slice none 0 0) (.int .i64 0) from
      (Five.new w5 (.int .u8 0) (.int .i64 0) (.string ⟨#[]⟩) (.slice none 0 0) (.int .i64 0)).drew.below h (by simp))
    go_cut [10, 11] (fun s10 s11 wx => ∃ B5 A5 cap5 F hi, s10 = .pointer (some ⟨B5, 0, none⟩) ∧ s11 = .int .i64 n ∧ LkP x B5 A5 cap5 F w5.heap.size hi wx ∧ Below w5.heap.size w5 wx)
    case first =>
      go_region_held3 (fun w' => w'.cell? ⟨B3, 0, none⟩ = some (.int .u8 (t.k : Int)) ∧ w'.cell? ⟨B3, 1, none⟩ = some (.int .i64 t.n) ∧ w'.cell? ⟨B3, 2, none⟩ = some (.string t.s) ∧ w'.cell? ⟨B3, 3, none⟩ = some (.slice A3 t.l.length cap3) ∧ w'.cell? ⟨B3, 4, none⟩ = some (.int .i64 t.r))
        (first | with_reducible exact HC8s.out _ _ _ _ _ | with_reducible exact HKeep.out _ (Below.refl _ _) | with_reducible exact HKeep.out _ (Below.refl _ _).drew | with_reducible exact HKeep.out _ ((Below.refl _ _).alloc (Nat.le_refl _) _).drew | with_reducible exact HC8.out _ (Below.refl _ _) | with_reducible exact HC8.out _ ((Below.refl _ _).alloc (Nat.le_refl _) _))
        (first | (go_at_call 31; refine (HCall.out _ (by first | exact HBase.out.trans ((Below.refl w5.heap.size w5).drew.mono HBase.out.size) | exact HBase.out.trans (((Below.refl w5.heap.size w5).alloc (Nat.le_refl _) _).drew.mono HBase.out.size))).mono ?_; rintro e w8 ⟨hb, A5, cap5, rfl, hF⟩; have HF8 := Lib.hid (And.intro hb hF); have HB8 := Lib.hid (show Below w5.heap.size w5 w8 from (by first | exact (Below.refl _ _).drew.trans (hb.mono (by simp)) | exact (((Below.refl w5.heap.size w5).alloc (Nat.le_refl _) _).drew).trans (hb.mono (by simp)))); have HC8 := Lib.hid (fun W (hW : Below w8.heap.size w8 W) => HKeep.out W (HB8.out.trans (hW.mono HB8.out.size))); (first | (have hb5 : Below (w5.alloc (.cells #[.int .u8 0, .int .i64 0, .string ⟨#[]⟩, .slice none 0 0, .int .i64 0] 26)).drew.heap.size (w5.alloc (.cells #[.int .u8 0, .int .i64 0, .string ⟨#[]⟩, .slice none 0 0, .int .i64 0] 26)).drew w8 := (by with_reducible exact hb); have b5 := HZ0.out w8 hb5; clear hb5; have y0 := b5.e0; have y1 := b5.e1; have y2 := b5.e2; have y3 := b5.e3; have y4 := b5.e4; have yz0 := b5.froz 0; have yz1 := b5.froz 1; have yz2 := b5.froz 2; have yz3 := b5.froz 3; have yz4 := b5.froz 4; have HB5 := Lib.hid b5; clear b5) | skip); have HC8s := Lib.hid (fun v0 v1 v2 v3 v4 => HKeep.out ((((((w8.setCell ⟨w5.heap.size, 0, none⟩ v0).setCell ⟨w5.heap.size, 1, none⟩ v1).setCell ⟨w5.heap.size, 2, none⟩ v2).setCell ⟨w5.heap.size, 3, none⟩ v3).setCell ⟨w5.heap.size, 4, none⟩ v4)) (below_set5 HB8.out (Nat.le_refl _) v0 v1 v2 v3 v4)); clear hb hF))
      · obtain ⟨F, hL⟩ := LkP.second HF8.out.2 HF8.out.1.size
        go_wp2_with fail
        go_meet
        exact ⟨_, A5, cap5, F, _, rfl, rfl, hL, HB8.out.alloc HB8.out.size _⟩
      · obtain ⟨F, hL⟩ := LkP.first HF8.out.2 HB5.out (by simp)
        go_wp2_with fail
        go_meet
        exact ⟨_, A5, cap5, F, _, rfl, rfl, hL, below_set5 HB8.out (Nat.le_refl _) _ _ _ _ _⟩
    case rest =>
      obtain ⟨B5, A5, cap5, F5, hi5, rfl, rfl, hL5, hB⟩ := hcut
      have HL5 := Lib.hid hL5
      have HQ6 := Lib.hid (HQ5.out.step hB)
      have HR6 := Lib.hid (HR5.out.step hB (Nat.le_refl _))
      replace HBase := Lib.hid hB
      clear hL5 hB HQ5 HR5 HKeep HZ0
      obtain ⟨w6, rfl⟩ : ∃ w6, w6 = wc := ⟨_, rfl⟩
      have ht5 := HL5.out.top
      go_wp2_with fail
      have HKeep := Lib.hid (fun W (hW : Below w6.heap.size w6 W) => show W.cell? ⟨B3, 0, none⟩ = some (.int .u8 (t.k : Int)) ∧ W.cell? ⟨B3, 1, none⟩ = some (.int .i64 t.n) ∧ W.cell? ⟨B3, 2, none⟩ = some (.string t.s) ∧ W.cell? ⟨B3, 3, none⟩ = some (.slice A3 t.l.length cap3) ∧ W.cell? ⟨B3, 4, none⟩ = some (.int .i64 t.r) from
        have X := (HQ6.out.step hW).two.box
        ⟨X.e0, X.e1, X.e2, X.e3, X.e4⟩)
      have HZ0 := Lib.hid (fun W (h : Below (w6.alloc (.cells #[.int .u8 0, .int .i64 0, .string ⟨#[]⟩, .slice none 0 0, .int .i64 0] 26)).drew.heap.size (w6.alloc (.cells #[.int .u8 0, .int .i64 0, .string ⟨#[]⟩, .slice none 0 0, .int .i64 0] 26)).drew W) => show Five W w6.heap.size (.int .u8 0) (.int .i64 0) (.string ⟨#[]⟩) (.slice none 0 0) (.int .i64 0) from
        (Five.new w6 (.int .u8 0) (.int .i64 0) (.string ⟨#[]⟩) (.slice none 0 0) (.int .i64 0)).drew.below h (by simp))
      go_cut [12, 13] (fun s10 s11 wx => ∃ B5 A5 cap5 F hi, s10 = .pointer (some ⟨B5, 0, none⟩) ∧ s11 = .int .i64 n ∧ LkP x B5 A5 cap5 F w6.heap.size hi wx ∧ Below w6.heap.size w6 wx)
      case first =>
        go_region_held3 (fun w' => w'.cell? ⟨B3, 0, none⟩ = some (.int .u8 (t.k : Int)) ∧ w'.cell? ⟨B3, 1, none⟩ = some (.int .i64 t.n) ∧ w'.cell? ⟨B3, 2, none⟩ = some (.string t.s) ∧ w'.cell? ⟨B3, 3, none⟩ = some (.slice A3 t.l.length cap3) ∧ w'.cell? ⟨B3, 4, none⟩ = some (.int .i64 t.r))
          (first | with_reducible exact HC8s.out _ _ _ _ _ | with_reducible exact HKeep.out _ (Below.refl _ _) | with_reducible exact HKeep.out _ (Below.refl _ _).drew | with_reducible exact HKeep.out _ ((Below.refl _ _).alloc (Nat.le_refl _) _).drew | with_reducible exact HC8.out _ (Below.refl _ _) | with_reducible exact HC8.out _ ((Below.refl _ _).alloc (Nat.le_refl _) _))
          (first | (go_at_call 31; refine (HCall.out _ (by first | exact HBase.out.trans ((Below.refl w6.heap.size w6).drew.mono HBase.out.size) | exact HBase.out.trans (((Below.refl w6.heap.size w6).alloc (Nat.le_refl _) _).drew.mono HBase.out.size))).mono ?_; rintro e w8 ⟨hb, A5, cap5, rfl, hF⟩; have HF8 := Lib.hid (And.intro hb hF); have HB8 := Lib.hid (show Below w6.heap.size w6 w8 from (by first | exact (Below.refl _ _).drew.trans (hb.mono (by simp)) | exact (((Below.refl w6.heap.size w6).alloc (Nat.le_refl _) _).drew).trans (hb.mono (by simp)))); have HC8 := Lib.hid (fun W (hW : Below w8.heap.size w8 W) => HKeep.out W (HB8.out.trans (hW.mono HB8.out.size))); (first | (have hb5 : Below (w6.alloc (.cells #[.int .u8 0, .int .i64 0, .string ⟨#[]⟩, .slice none 0 0, .int .i64 0] 26)).drew.heap.size (w6.alloc (.cells #[.int .u8 0, .int .i64 0, .string ⟨#[]⟩, .slice none 0 0, .int .i64 0] 26)).drew w8 := (by with_reducible exact hb); have b5 := HZ0.out w8 hb5; clear hb5; have y0 := b5.e0; have y1 := b5.e1; have y2 := b5.e2; have y3 := b5.e3; have y4 := b5.e4; have yz0 := b5.froz 0; have yz1 := b5.froz 1; have yz2 := b5.froz 2; have yz3 := b5.froz 3; have yz4 := b5.froz 4; have HB5 := Lib.hid b5; clear b5) | skip); have HC8s := Lib.hid (fun v0 v1 v2 v3 v4 => HKeep.out ((((((w8.setCell ⟨w6.heap.size, 0, none⟩ v0).setCell ⟨w6.heap.size, 1, none⟩ v1).setCell ⟨w6.heap.size, 2, none⟩ v2).setCell ⟨w6.heap.size, 3, none⟩ v3).setCell ⟨w6.heap.size, 4, none⟩ v4)) (below_set5 HB8.out (Nat.le_refl _) v0 v1 v2 v3 v4)); clear hb hF))
        · obtain ⟨F, hL⟩ := LkP.second HF8.out.2 HF8.out.1.size
          go_wp2_with fail
          go_meet
          exact ⟨_, A5, cap5, F, _, rfl, rfl, hL, HB8.out.alloc HB8.out.size _⟩
        · obtain ⟨F, hL⟩ := LkP.first HF8.out.2 HB5.out (by simp)
          go_wp2_with fail
          go_meet
          exact ⟨_, A5, cap5, F, _, rfl, rfl, hL, below_set5 HB8.out (Nat.le_refl _) _ _ _ _ _⟩
      case rest =>
        obtain ⟨B7, A7, cap7, F7, hi7, rfl, rfl, hL7, hB⟩ := hcut
        have HL7 := Lib.hid hL7
        have HL5' := Lib.hid (HL5.out.step hB)
        have h56 := HBase.out.size
        have HA7 := Lib.hid (show PlB w t u pp pp' m m' A A1 cap cap1 p3 p4 B3 B4 A3 A4 cap3 cap4 w3.heap.size w5.heap.size gv5 cv5 ps _ from ⟨HQ6.out.step hB, HR6.out.step hB h56, h35, Nat.le_trans h56 hB.size⟩)
        have h67 := hB.size
        have ht7 := hL7.top
        have b5lo := HL5.out.bx.1
        have b7lo := HL7.out.bx.1
        clear hL7 hB HQ6 HR6 HKeep HZ0 HCall HBase HL5
        obtain ⟨w7, rfl⟩ : ∃ w7, w7 = wc := ⟨_, rfl⟩
        have e0 := HA7.out.q.one.box.e0
        have e1 := HA7.out.q.one.box.e1
        have e2 := HA7.out.q.one.box.e2
        have e3 := HA7.out.q.one.box.e3
        have e4 := HA7.out.q.one.box.e4
        go_wp2_with fail
        refine (HRCall.out _ HA7.out.q).mono ?_
        rintro e w8 ⟨hb, A9, cap9, rfl, hF⟩
        have hppb : ∀ b, pp b → b < w8.heap.size := fun b hb' => Nat.lt_of_lt_of_le (HA7.out.q.one.small b hb') hb.size
        have HW := Lib.hid (BoxL.new w8 hF hppb)
        have hb2 := hb.alloc hb.size (.cells #[.int .u8 (x.k : Int), .int .i64 x.n, .string x.s, .slice A9 x.l.length cap9, .int .i64 x.r] 26)
        have HL5a := Lib.hid (HL5'.out.step hb2)
        have HL7a := Lib.hid (HL7.out.step hb2)
        have HA8 := Lib.hid (HA7.out.step (hb2.mono HA7.out.top))
        have h78 := hb.size
        have bwlo : w5.heap.size ≤ w8.heap.size := by omega
        clear hb hb2 hF hppb HL5' HL7 HA7 e0 e1 e2 e3 e4 HRCall
        have e0 := HL5a.out.box.e0
        have e1 := HL5a.out.box.e1
        have e2 := HL5a.out.box.e2
        have e3 := HL5a.out.box.e3
        have e4 := HL5a.out.box.e4
        have f0 := HL7a.out.box.e0
        have f1 := HL7a.out.box.e1
        have f2 := HL7a.out.box.e2
        have f3 := HL7a.out.box.e3
        have f4 := HL7a.out.box.e4
        have qn : (n == n) = true := beq_self_eq_true n
        have qn' : (n != n) = false := bne_self_eq_false n
        go_wp2_with fail
        refine (held_w x _ _ _ F5 _ HL5a.out.own HL5a.out.nodup HL5a.out.small HL7a.out.lies HW.out.lies (fun b hb => ⟨HL7a.out.small b hb, fun hm => by have h1 := (HL5a.out.mem b hm).2.1; have h2 := (HL7a.out.mem b hb).1; omega⟩) (fun b hb => ⟨HW.out.small b hb, fun hm => by have h1 := (HL5a.out.mem b hm).1; have h2 := HA8.out.q.one.low b hb; have h3 := HA8.out.mn; omega⟩) HMY.out).mono ?_
        rintro e w9 ⟨rfl, hc⟩
        have HA9 := Lib.hid (HA8.out.chg hc (fun g hg => (HL5a.out.mem g hg).1))
        have HX5 := Lib.hid (HL5a.out.box.chg hc (fun hm => (HL5a.out.mem _ hm).2.2 rfl))
        have HX7 := Lib.hid (HL7a.out.box.chg hc (fun hm => by have h1 := (HL5a.out.mem _ hm).2.1; have h2 := HL7a.out.bx.1; omega))
        have HXW := Lib.hid (HW.out.box.chg hc (fun hm => by have h1 := (HL5a.out.mem _ hm).2.1; have := HL5a.out.top; have := HL7a.out.bx; omega))
        have ne57 : B5 ≠ B7 := by have := HL5a.out.bx; have := HL7a.out.bx; omega
        have neW5 : w8.heap.size ≠ B5 := by have := HL5a.out.bx; have := HL7a.out.bx; omega
        have neW7 : w8.heap.size ≠ B7 := by have := HL7a.out.bx; omega
        clear hc e0 e1 e2 e3 e4 f0 f1 f2 f3 f4 HL5a HL7a HA8 HW qn qn' HMY
        generalize w8.heap.size = BW at *
        go_wp2_with fail
        have HKeep := Lib.hid (fun W (hW : Below w5.heap.size w9 W) => show W.cell? ⟨B3, 0, none⟩ = some (.int .u8 (t.k : Int)) ∧ W.cell? ⟨B3, 1, none⟩ = some (.int .i64 t.n) ∧ W.cell? ⟨B3, 2, none⟩ = some (.string t.s) ∧ W.cell? ⟨B3, 3, none⟩ = some (.slice A3 t.l.length cap3) ∧ W.cell? ⟨B3, 4, none⟩ = some (.int .i64 t.r) ∧ W.cell? ⟨B4, 0, none⟩ = some (.int .u8 (u.k : Int)) ∧ W.cell? ⟨B4, 1, none⟩ = some (.int .i64 u.n) ∧ W.cell? ⟨B4, 2, none⟩ = some (.string u.s) ∧ W.cell? ⟨B4, 3, none⟩ = some (.slice A4 u.l.length cap4) ∧ W.cell? ⟨B4, 4, none⟩ = some (.int .i64 u.r) from
          have X := (HA9.out.step hW).q.two.box
          have Y := (HA9.out.step hW).q.twoU.box
          ⟨X.e0, X.e1, X.e2, X.e3, X.e4, Y.e0, Y.e1, Y.e2, Y.e3, Y.e4⟩)
        have HV := Lib.hid (fun W (hW : Below w5.heap.size w9 W) => HVC.out W (HA9.out.step hW).q (HA9.out.step hW).r (HA9.out.step hW).top)
        go_cut [11] (fun s11 wx => ∃ A6 cap6 F hi, s11 = .int .i64 k ∧ LkQ y B5 A6 cap6 F w9.heap.size hi wx ∧ Below w5.heap.size w9 wx ∧ ∀ g, g < w9.heap.size → g ≠ B5 → wx.heap[g]? = w9.heap[g]?)
        case first =>
          go_region_held3 (fun w' => w'.cell? ⟨B3, 0, none⟩ = some (.int .u8 (t.k : Int)) ∧ w'.cell? ⟨B3, 1, none⟩ = some (.int .i64 t.n) ∧ w'.cell? ⟨B3, 2, none⟩ = some (.string t.s) ∧ w'.cell? ⟨B3, 3, none⟩ = some (.slice A3 t.l.length cap3) ∧ w'.cell? ⟨B3, 4, none⟩ = some (.int .i64 t.r) ∧ w'.cell? ⟨B4, 0, none⟩ = some (.int .u8 (u.k : Int)) ∧ w'.cell? ⟨B4, 1, none⟩ = some (.int .i64 u.n) ∧ w'.cell? ⟨B4, 2, none⟩ = some (.string u.s) ∧ w'.cell? ⟨B4, 3, none⟩ = some (.slice A4 u.l.length cap4) ∧ w'.cell? ⟨B4, 4, none⟩ = some (.int .i64 u.r))
            (first | with_reducible exact HC12s.out _ _ _ _ _ | with_reducible exact HKeep.out _ (Below.refl _ _) | with_reducible exact HKeep.out _ (Below.refl _ _).drew | with_reducible exact HC12.out)
            (first | (go_at_call 33; refine (HV.out _ (Below.refl _ _).drew).mono ?_; rintro e w12 ⟨hb, A6, cap6, rfl, hF⟩; have hbd := (Below.refl w9.heap.size w9).drew.trans (hb.mono (by simp)); have HB12 := Lib.hid hbd; have HC12 := Lib.hid (HKeep.out _ (hbd.mono HA9.out.top)); have b5 := HX5.out.below hbd HX5.out.lt; have y0 := b5.e0; have y1 := b5.e1; have y2 := b5.e2; have y3 := b5.e3; have y4 := b5.e4; have yz0 := b5.froz 0; have yz1 := b5.froz 1; have yz2 := b5.froz 2; have yz3 := b5.froz 3; have yz4 := b5.froz 4; have HB5 := Lib.hid b5; have HF := Lib.hid hF; have HC12s := Lib.hid (fun v0 v1 v2 v3 v4 => HKeep.out (((((w12.setCell ⟨B5, 0, none⟩ v0).setCell ⟨B5, 1, none⟩ v1).setCell ⟨B5, 2, none⟩ v2).setCell ⟨B5, 3, none⟩ v3).setCell ⟨B5, 4, none⟩ v4) (below_set5 (hbd.mono HA9.out.top) b5lo v0 v1 v2 v3 v4)); clear hb hF hbd b5))
          · obtain ⟨F, hL⟩ := LkQ.new HF.out HB5.out (by simpa using HX5.out.lt) (by simpa using HB12.out.size)
            go_wp2_with fail
            go_meet
            exact ⟨A6, cap6, F, _, rfl, hL, below_set5 (HB12.out.mono HA9.out.top) b5lo _ _ _ _ _, fun g hg hn => (heap_set5_other _ _ _ _ _ hn).trans (HB12.out.block g hg)⟩
        case rest =>
          obtain ⟨A10, cap10, F10, hi10, rfl, hL10, hB, hS⟩ := hcut
          have HL10 := Lib.hid hL10
          have HA10 := Lib.hid (HA9.out.step hB)
          have HX7' := Lib.hid (show Five _ B7 _ _ _ _ _ from ⟨(hS B7 HX7.out.lt (Ne.symm ne57)).trans HX7.out.row⟩)
          have HXW' := Lib.hid (show Five _ BW _ _ _ _ _ from ⟨(hS BW HXW.out.lt neW5).trans HXW.out.row⟩)
          have h910 := hL10.top
          have b5lt := HX5.out.lt
          have b7lt := HX7.out.lt
          have bwlt9 := HXW.out.lt
          clear hL10 hB hS HA9 HX5 HX7 HXW HKeep HV
          obtain ⟨w10, rfl⟩ : ∃ w10, w10 = wc := ⟨_, rfl⟩
          go_wp2_with fail
          have HKeep := Lib.hid (fun W (hW : Below w5.heap.size w10 W) => show W.cell? ⟨B3, 0, none⟩ = some (.int .u8 (t.k : Int)) ∧ W.cell? ⟨B3, 1, none⟩ = some (.int .i64 t.n) ∧ W.cell? ⟨B3, 2, none⟩ = some (.string t.s) ∧ W.cell? ⟨B3, 3, none⟩ = some (.slice A3 t.l.length cap3) ∧ W.cell? ⟨B3, 4, none⟩ = some (.int .i64 t.r) ∧ W.cell? ⟨B4, 0, none⟩ = some (.int .u8 (u.k : Int)) ∧ W.cell? ⟨B4, 1, none⟩ = some (.int .i64 u.n) ∧ W.cell? ⟨B4, 2, none⟩ = some (.string u.s) ∧ W.cell? ⟨B4, 3, none⟩ = some (.slice A4 u.l.length cap4) ∧ W.cell? ⟨B4, 4, none⟩ = some (.int .i64 u.r) from
            have X := (HA10.out.step hW).q.two.box
            have Y := (HA10.out.step hW).q.twoU.box
            ⟨X.e0, X.e1, X.e2, X.e3, X.e4, Y.e0, Y.e1, Y.e2, Y.e3, Y.e4⟩)
          have HV := Lib.hid (fun W (hW : Below w5.heap.size w10 W) => HVC.out W (HA10.out.step hW).q (HA10.out.step hW).r (HA10.out.step hW).top)
          go_cut [13] (fun s11 wx => ∃ A6 cap6 F hi, s11 = .int .i64 k ∧ LkQ y B7 A6 cap6 F w10.heap.size hi wx ∧ Below w5.heap.size w10 wx ∧ ∀ g, g < w10.heap.size → g ≠ B7 → wx.heap[g]? = w10.heap[g]?)
          case first =>
            go_region_held3 (fun w' => w'.cell? ⟨B3, 0, none⟩ = some (.int .u8 (t.k : Int)) ∧ w'.cell? ⟨B3, 1, none⟩ = some (.int .i64 t.n) ∧ w'.cell? ⟨B3, 2, none⟩ = some (.string t.s) ∧ w'.cell? ⟨B3, 3, none⟩ = some (.slice A3 t.l.length cap3) ∧ w'.cell? ⟨B3, 4, none⟩ = some (.int .i64 t.r) ∧ w'.cell? ⟨B4, 0, none⟩ = some (.int .u8 (u.k : Int)) ∧ w'.cell? ⟨B4, 1, none⟩ = some (.int .i64 u.n) ∧ w'.cell? ⟨B4, 2, none⟩ = some (.string u.s) ∧ w'.cell? ⟨B4, 3, none⟩ = some (.slice A4 u.l.length cap4) ∧ w'.cell? ⟨B4, 4, none⟩ = some (.int .i64 u.r))
              (first | with_reducible exact HC12s.out _ _ _ _ _ | with_reducible exact HKeep.out _ (Below.refl _ _) | with_reducible exact HKeep.out _ (Below.refl _ _).drew | with_reducible exact HC12.out)
              (first | (go_at_call 33; refine (HV.out _ (Below.refl _ _).drew).mono ?_; rintro e w12 ⟨hb, A6, cap6, rfl, hF⟩; have hbd := (Below.refl w10.heap.size w10).drew.trans (hb.mono (by simp)); have HB12 := Lib.hid hbd; have HC12 := Lib.hid (HKeep.out _ (hbd.mono HA10.out.top)); have b5 := HX7'.out.below hbd HX7'.out.lt; have y0 := b5.e0; have y1 := b5.e1; have y2 := b5.e2; have y3 := b5.e3; have y4 := b5.e4; have yz0 := b5.froz 0; have yz1 := b5.froz 1; have yz2 := b5.froz 2; have yz3 := b5.froz 3; have yz4 := b5.froz 4; have HB5 := Lib.hid b5; have HF := Lib.hid hF; have HC12s := Lib.hid (fun v0 v1 v2 v3 v4 => HKeep.out (((((w12.setCell ⟨B7, 0, none⟩ v0).setCell ⟨B7, 1, none⟩ v1).setCell ⟨B7, 2, none⟩ v2).setCell ⟨B7, 3, none⟩ v3).setCell ⟨B7, 4, none⟩ v4) (below_set5 (hbd.mono HA10.out.top) (Nat.le_trans h56 b7lo) v0 v1 v2 v3 v4)); clear hb hF hbd b5))
            · obtain ⟨F, hL⟩ := LkQ.new HF.out HB5.out (by simpa using HX7'.out.lt) (by simpa using HB12.out.size)
              go_wp2_with fail
              go_meet
              exact ⟨A6, cap6, F, _, rfl, hL, below_set5 (HB12.out.mono HA10.out.top) (Nat.le_trans h56 b7lo) _ _ _ _ _, fun g hg hn => (heap_set5_other _ _ _ _ _ hn).trans (HB12.out.block g hg)⟩
          case rest =>
            obtain ⟨A11, cap11, F11, hi11, rfl, hL11, hB, hS⟩ := hcut
            have HL11 := Lib.hid hL11
            have HA11 := Lib.hid (HA10.out.step hB)
            have HXW2 := Lib.hid (show Five _ BW _ _ _ _ _ from ⟨(hS BW HXW'.out.lt neW7).trans HXW'.out.row⟩)
            have HL10b := Lib.hid (HL10.out.same (fun g hg hh => hS g (Nat.lt_of_lt_of_le hg h910) (fun e => by subst e; rcases hh with e2 | e2 <;> omega)) (Nat.le_trans h910 hB.size))
            have h1011 := hB.size
            have b7lt2 := HX7'.out.lt
            have bwlt := HXW2.out.lt
            have ht11 := hL11.top
            clear hL11 hB hS HA10 HX7' HXW' HL10 HKeep HV
            obtain ⟨w11, rfl⟩ : ∃ w11, w11 = wc := ⟨_, rfl⟩
            have e0 := HA11.out.q.one.box.e0
            have e1 := HA11.out.q.one.box.e1
            have e2 := HA11.out.q.one.box.e2
            have e3 := HA11.out.q.one.box.e3
            have e4 := HA11.out.q.one.box.e4
            have f0 := HA11.out.q.oneU.box.e0
            have f1 := HA11.out.q.oneU.box.e1
            have f2 := HA11.out.q.oneU.box.e2
            have f3 := HA11.out.q.oneU.box.e3
            have f4 := HA11.out.q.oneU.box.e4
            go_wp2_with fail
            refine (HRWC.out _ HA11.out.q).mono ?_
            rintro e w12 ⟨hb, A9, cap9, rfl, hF⟩
            have hlw : BW < w11.heap.size := bwlt
            have z5 := HXW2.out.below hb hlw
            have z0 := z5.e0
            have z1 := z5.e1
            have z2 := z5.e2
            have z3 := z5.e3
            have z4 := z5.e4
            have zz0 := z5.froz 0
            have zz1 := z5.froz 1
            have zz2 := z5.froz 2
            have zz3 := z5.froz 3
            have zz4 := z5.froz 4
            have hF' : Lies w12 (fun b => pp' b ∨ (w11.heap.size ≤ b ∧ b < w12.heap.size)) false y _ := hF
            have hlo12 : w9.heap.size ≤ w10.heap.size := Nat.le_trans HL10b.out.le h910
            have HBW := Lib.hid (z5.set5 (.int .u8 (y.k : Int)) (.int .i64 y.n) (.string y.s) (.slice A9 y.l.length cap9) (.int .i64 y.r))
            have HLW := Lib.hid (Lies.same (W' := (((((w12.setCell ⟨BW, 0, none⟩ (.int .u8 (y.k : Int))).setCell ⟨BW, 1, none⟩ (.int .i64 y.n)).setCell ⟨BW, 2, none⟩ (.string y.s)).setCell ⟨BW, 3, none⟩ (.slice A9 y.l.length cap9)).setCell ⟨BW, 4, none⟩ (.int .i64 y.r))) (fun _ h => h) (fun b hb' => heap_set5_other _ _ _ _ _ (by
              rcases hb' with h | h
              · have h1 := HA11.out.q.oneU.low b h; have h2 := HA11.out.mn; omega
              · have := h.1; omega)) _ _ hF')
            have hS5 : ∀ g, g < w11.heap.size → g ≠ BW → (((((w12.setCell ⟨BW, 0, none⟩ (.int .u8 (y.k : Int))).setCell ⟨BW, 1, none⟩ (.int .i64 y.n)).setCell ⟨BW, 2, none⟩ (.string y.s)).setCell ⟨BW, 3, none⟩ (.slice A9 y.l.length cap9)).setCell ⟨BW, 4, none⟩ (.int .i64 y.r)).heap[g]? = w11.heap[g]? := fun g hg hn => (heap_set5_other _ _ _ _ _ hn).trans (hb.block g hg)
            have hbs : Below w5.heap.size w11 (((((w12.setCell ⟨BW, 0, none⟩ (.int .u8 (y.k : Int))).setCell ⟨BW, 1, none⟩ (.int .i64 y.n)).setCell ⟨BW, 2, none⟩ (.string y.s)).setCell ⟨BW, 3, none⟩ (.slice A9 y.l.length cap9)).setCell ⟨BW, 4, none⟩ (.int .i64 y.r)) := below_set5 (hb.mono HA11.out.top) bwlo _ _ _ _ _
            have HA12 := Lib.hid (HA11.out.step hbs)
            have HL10c := Lib.hid (HL10b.out.same (W' := (((((w12.setCell ⟨BW, 0, none⟩ (.int .u8 (y.k : Int))).setCell ⟨BW, 1, none⟩ (.int .i64 y.n)).setCell ⟨BW, 2, none⟩ (.string y.s)).setCell ⟨BW, 3, none⟩ (.slice A9 y.l.length cap9)).setCell ⟨BW, 4, none⟩ (.int .i64 y.r))) (fun g hg hh => hS5 g (by omega) (fun e => by subst e; rcases hh with e2 | e2 <;> omega)) (by have := hbs.size; omega))
            have HL11c := Lib.hid (HL11.out.same (W' := (((((w12.setCell ⟨BW, 0, none⟩ (.int .u8 (y.k : Int))).setCell ⟨BW, 1, none⟩ (.int .i64 y.n)).setCell ⟨BW, 2, none⟩ (.string y.s)).setCell ⟨BW, 3, none⟩ (.slice A9 y.l.length cap9)).setCell ⟨BW, 4, none⟩ (.int .i64 y.r))) (fun g hg hh => hS5 g (by omega) (fun e => by subst e; rcases hh with e2 | e2 <;> omega)) (by have := hbs.size; omega))
            have hsz12 : w12.heap.size = (((((w12.setCell ⟨BW, 0, none⟩ (.int .u8 (y.k : Int))).setCell ⟨BW, 1, none⟩ (.int .i64 y.n)).setCell ⟨BW, 2, none⟩ (.string y.s)).setCell ⟨BW, 3, none⟩ (.slice A9 y.l.length cap9)).setCell ⟨BW, 4, none⟩ (.int .i64 y.r)).heap.size := by simp
            have h1112 := hb.size
            clear hF hF' z5 hS5 hbs hb e0 e1 e2 e3 e4 f0 f1 f2 f3 f4 HL10b HL11 HXW2 HRWC HVC
            go_upto_region 13 with fail
            generalize (((((w12.setCell ⟨BW, 0, none⟩ (.int .u8 (y.k : Int))).setCell ⟨BW, 1, none⟩ (.int .i64 y.n)).setCell ⟨BW, 2, none⟩ (.string y.s)).setCell ⟨BW, 3, none⟩ (.slice A9 y.l.length cap9)).setCell ⟨BW, 4, none⟩ (.int .i64 y.r)) = w13 at *
            clear z0 z1 z2 z3 z4 zz0 zz1 zz2 zz3 zz4
            have e0 := HL10c.out.box.e0
            have e1 := HL10c.out.box.e1
            have e2 := HL10c.out.box.e2
            have e3 := HL10c.out.box.e3
            have e4 := HL10c.out.box.e4
            have f0 := HL11c.out.box.e0
            have f1 := HL11c.out.box.e1
            have f2 := HL11c.out.box.e2
            have f3 := HL11c.out.box.e3
            have f4 := HL11c.out.box.e4
            have g0 := HBW.out.e0
            have g1 := HBW.out.e1
            have g2 := HBW.out.e2
            have g3 := HBW.out.e3
            have g4 := HBW.out.e4
            have qn : (k == k) = true := beq_self_eq_true k
            have qn' : (k != k) = false := bne_self_eq_false k
            go_wp2_with fail
            refine (held_w y _ _ _ F10 _ HL10c.out.own HL10c.out.nodup HL10c.out.small HL11c.out.lies HLW.out (fun b hb => ⟨HL11c.out.small b hb, fun hm => by have h1 := (HL10c.out.mem b hm).2; have h2 := (HL11c.out.mem b hb).1; omega⟩) (fun b hb => ⟨by
              rcases hb with h | h
              · exact HA12.out.q.oneU.small b h
              · have := h.2; omega, fun hm => by
              have h1 := HL10c.out.mem b hm
              rcases hb with h | h
              · have h3 := HA12.out.q.oneU.low b h; have h2 := HA12.out.mn; omega
              · have := h.1; omega⟩) HMW.out).mono ?_
            rintro e w14 ⟨rfl, hc⟩
            have HA14 := Lib.hid (HA12.out.chg hc (fun g hg => by have h1 := (HL10c.out.mem g hg).1; omega))
            clear hc e0 e1 e2 e3 e4 f0 f1 f2 f3 f4 g0 g1 g2 g3 g4 qn qn' HL10c HL11c HLW HBW HA12 HA11 HMW
            have hlast : ps.length < ps.length + 1 := Nat.lt_succ_self _
            go_wp2
            go_loopw [16] (fun iv wr => ∃ j : Nat, j ≤ ps.length ∧ iv = .int .i64 (j : Int) ∧ PlB w t u pp pp' m m' A A1 cap cap1 p3 p4 B3 B4 A3 A4 cap3 cap4 w3.heap.size w5.heap.size gv5 cv5 ps wr) (fun iv _ => ps.length - (intOf iv).toNat)
            case atStart => exact ⟨0, Nat.zero_le _, rfl, HA14.out⟩
            case round =>
              obtain ⟨j, hj, rfl, hS⟩ := hrel
              clear HA14
              by_cases hlt : j < ps.length
              · obtain ⟨ga, offa, rfl, hga, hca⟩ := HI.out.1 j hlt
                have ca := (World.cell?_of_block (w := w) (a := ⟨ga, offa + j, none⟩) (hS.q.below.block ga hga)).trans hca
                have cx := hS.r.at_ hlt
                have HN := Lib.hid (fun nq => show PlB w t u pp pp' m m' A A1 cap cap1 p3 p4 B3 B4 A3 A4 cap3 cap4 w3.heap.size w5.heap.size gv5 cv5 ps (wr.drewN nq) from hS.step (below_drewN (Below.refl _ wr) nq))
                clear hS hca
                generalize ps[j] = xj at *
                have q1 : (xj != xj) = false := bne_self_eq_false xj
                have hjI : (j : Int) < (ps.length : Int) := by omega
                have hjI2 : (j : Int) < ((ps.length + 1 : Nat) : Int) := by omega
                have hj0 : (0 : Int) ≤ (j : Int) := by omega
                go_wp2
                go_quiet (fail)
                go_wp2
                go_roundw
                case rel => exact ⟨j + 1, by omega, by go_num, HN.out nq⟩
                case measure => simp [intOf]; omega
              · obtain rfl : j = ps.length := by omega
                have HN := Lib.hid hS
                have xm := hS.r.mark
                clear hS
                have e0 := HN.out.q.two.box.e0
                have e1 := HN.out.q.two.box.e1
                have e2 := HN.out.q.two.box.e2
                have e3 := HN.out.q.two.box.e3
                have e4 := HN.out.q.two.box.e4
                have f0 := HN.out.q.one.box.e0
                have f1 := HN.out.q.one.box.e1
                have f2 := HN.out.q.one.box.e2
                have f3 := HN.out.q.one.box.e3
                have f4 := HN.out.q.one.box.e4
                go_wp2_with fail
                refine (kept_w p3 pp m t _ _ _ HN.out.q.two.lies HN.out.q.one.lies HN.out.q.two.small HN.out.q.one.small).mono ?_
                rintro e wx ⟨rfl, hb⟩
                have HN2 := Lib.hid (HN.out.step (hb.mono HN.out.top))
                clear hb e0 e1 e2 e3 e4 f0 f1 f2 f3 f4 HN
                have e0 := HN2.out.q.twoU.box.e0
                have e1 := HN2.out.q.twoU.box.e1
                have e2 := HN2.out.q.twoU.box.e2
                have e3 := HN2.out.q.twoU.box.e3
                have e4 := HN2.out.q.twoU.box.e4
                have f0 := HN2.out.q.oneU.box.e0
                have f1 := HN2.out.q.oneU.box.e1
                have f2 := HN2.out.q.oneU.box.e2
                have f3 := HN2.out.q.oneU.box.e3
                have f4 := HN2.out.q.oneU.box.e4
                go_wp2_with fail
                refine (kept_w p4 pp' m' u _ _ _ HN2.out.q.twoU.lies HN2.out.q.oneU.lies HN2.out.q.twoU.small HN2.out.q.oneU.small).mono ?_
                rintro e wy ⟨rfl, hb⟩
                have HB := Lib.hid (HN2.out.step (hb.mono HN2.out.top)).q.below
                clear hb e0 e1 e2 e3 e4 f0 f1 f2 f3 f4 HN2
                go_wp2_with fail
                refine (awake_w _).mono ?_
                rintro e wz ⟨rfl, hb⟩
                have HB2 := Lib.hid (HB.out.trans (hb.mono HB.out.size))
                clear hb
                go_wp2
                go_ret
                exact ⟨rfl, HB2.out⟩
end Go.Proofs.Ytckgmdlacaiacaa
