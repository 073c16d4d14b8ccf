/-
  value.With.
-/
import Derived.Deep.Cut
import Derived.Test.YtckgmdlacaiacaaSpot
namespace Go.Proofs.Ytckgmdlacaiacaa
open Go.RowKit Go.Shelf
attribute [local go_sem] Oper.semAt_some

theorem atT_none {t s : VT} {ps : List Int} {j : Nat} (hj : j < ps.length) (h : atT t (ps.take j) = some s) (ho : ¬ (0 ≤ ps[j] ∧ ps[j] < s.l.length)) : atT t ps = none := by
  have e : ps = ps.take j ++ ps.drop j := (List.take_append_drop j ps).symm
  rw [e, atT_app, h]
  exact atT_out hj ho
theorem row_set {W : World} {b i : Nat} {c : Array Value} {u : VT} {A : Option Addr} {cap : Nat} (h : W.heap[b]? = some (.cells c 26 (0, 0))) (hi : i * 5 + 4 < c.size) :
    ∃ c', (((((W.setCell ⟨b, i * 5, none⟩ (.int .u8 (u.k : Int))).setCell ⟨b, i * 5 + 1, none⟩ (.int .i64 u.n)).setCell ⟨b, i * 5 + 2, none⟩ (.string u.s)).setCell ⟨b, i * 5 + 3, none⟩ (.slice A u.l.length cap)).setCell ⟨b, i * 5 + 4, none⟩ (.int .i64 u.r)).heap[b]? = some (.cells c' 26 (0, 0)) ∧ c'.size = c.size ∧ (∀ q, q ≠ i → rowOf c' q = rowOf c q) ∧ rowOf c' i = #[.int .u8 (u.k : Int), .int .i64 u.n, .string u.s, .slice A u.l.length cap, .int .i64 u.r] :=
  ⟨_, heap_setRow _ _ _ _ _ h, setRow_size _ _ _ _ _ _ _, fun _ hq => rowOf_other _ _ _ _ _ _ hq, rowOf_set _ _ _ _ _ hi⟩
theorem five_of_row {c : Array Value} {a0 a1 a2 a3 a4 : Value} (h : c.size = 5) (hr : rowOf c 0 = #[a0, a1, a2, a3, a4]) : c = #[a0, a1, a2, a3, a4] := by
  rw [← hr]
  apply Array.ext
  · rw [h]; rfl
  · intro i h1 h2
    rw [h] at h1
    unfold rowOf
    match i, h1 with
    | 0, _ => simp [h]
    | 1, _ => simp [h]
    | 2, _ => simp [h]
    | 3, _ => simp [h]
    | 4, _ => simp [h]
set_option maxRecDepth 100000 in
set_option maxHeartbeats 16000000 in
theorem With_w {pp pp' : Nat → Prop} {m m' : Bool} (t u : VT) (v v' : Value) (ps : List Int) (PA : Option Addr) (pc : Nat) (w : World) (h : Lies w pp m t v) (h' : Lies w pp' m' u v') (hpp : ∀ b, pp b → b < w.heap.size) (hpp' : ∀ b, pp' b → b < w.heap.size) (hps : IntsAt w w.heap.size PA ps) (hpl : ps.length ≤ 4294967295) :
    Calls Try.prog 33 #[v, v', .slice PA ps.length pc] w (ReadRes w (withRes t u ps)) := by
  obtain ⟨A, cap, rfl⟩ := h.cells
  obtain ⟨A1, cap1, rfl⟩ := h'.cells
  have HMt := Lib.hid (fun W hW => may_w t _ W (h.below (W' := W) hW hpp) (fun b hb => Nat.lt_of_lt_of_le (hpp b hb) (Below.size hW)))
  have HMu := Lib.hid (fun W hW => may_w u _ W (h'.below (W' := W) hW hpp') (fun b hb => Nat.lt_of_lt_of_le (hpp' b hb) (Below.size hW)))
  have HOt := Lib.hid (fun W (hW : Below w.heap.size w W) (hm : t.may = true) => own_w pp m t _ W (h.below (W' := W) hW hpp) (fun b hb => Nat.lt_of_lt_of_le (hpp b hb) (Below.size hW)) (by have := may_good hm; omega))
  have HOu := Lib.hid (fun W (hW : Below w.heap.size w W) (hm : u.may = true) => own_w pp' m' u _ W (h'.below (W' := W) hW hpp') (fun b hb => Nat.lt_of_lt_of_le (hpp' b hb) (Below.size hW)) (by have := may_good hm; omega))
  have HPS := Lib.hid hps
  have HR := Lib.hid (show withRes t u ps = if (t.may && u.may) = true then withOut t u ps (atT t ps) else (none, 2) from rfl)
  have X1 := (Five.new (w.alloc (.cells #[.int .u8 (t.k : Int), .int .i64 t.n, .string t.s, .slice A t.l.length cap, .int .i64 t.r] 26)) (.int .u8 (u.k : Int)) (.int .i64 u.n) (.string u.s) (.slice A1 u.l.length cap1) (.int .i64 u.r)).alloc (.cells #[.int .u8 0, .int .i64 0, .string ⟨#[]⟩, .slice none 0 0, .int .i64 0] 26)
  have X2 := Five.new ((w.alloc (.cells #[.int .u8 (t.k : Int), .int .i64 t.n, .string t.s, .slice A t.l.length cap, .int .i64 t.r] 26)).alloc (.cells #[.int .u8 (u.k : Int), .int .i64 u.n, .string u.s, .slice A1 u.l.length cap1, .int .i64 u.r] 26)) (.int .u8 0) (.int .i64 0) (.string ⟨#[]⟩) (.slice none 0 0) (.int .i64 0)
  have X0 := ((Five.new w (.int .u8 (t.k : Int)) (.int .i64 t.n) (.string t.s) (.slice A t.l.length cap) (.int .i64 t.r)).alloc (.cells #[.int .u8 (u.k : Int), .int .i64 u.n, .string u.s, .slice A1 u.l.length cap1, .int .i64 u.r] 26)).alloc (.cells #[.int .u8 0, .int .i64 0, .string ⟨#[]⟩, .slice none 0 0, .int .i64 0] 26)
  rw [World.size_alloc] at X1
  rw [World.size_alloc, World.size_alloc] at X2
  have hb0 := Lib.hid ((((Below.refl w.heap.size w).alloc (Nat.le_refl _) (.cells #[.int .u8 (t.k : Int), .int .i64 t.n, .string t.s, .slice A t.l.length cap, .int .i64 t.r] 26)).alloc (by simp) (.cells #[.int .u8 (u.k : Int), .int .i64 u.n, .string u.s, .slice A1 u.l.length cap1, .int .i64 u.r] 26)).alloc (by simp; omega) (.cells #[.int .u8 0, .int .i64 0, .string ⟨#[]⟩, .slice none 0 0, .int .i64 0] 26))
  have HX := Lib.hid (And.intro X0 (And.intro X1 X2))
  obtain ⟨q, hq⟩ : ∃ q, t.may = q := ⟨_, rfl⟩
  obtain ⟨q', hq'⟩ : ∃ q, u.may = q := ⟨_, rfl⟩
  rw [hq] at HMt HR
  rw [hq'] at HMu HR
  have Hq := Lib.hid (And.intro hq hq')
  generalize withRes t u ps = res at *
  clear h h' hpp hpp' hps X0 X1 X2 hq hq'
  go_enter Try.func33, Try.ntmps33
  go_wp2_with fail
  refine (HMt.out _ hb0.out).mono ?_
  rintro e w1 ⟨rfl, hb⟩
  have HB := Lib.hid (hb0.out.trans (hb.mono (by simp; omega)))
  have HY := Lib.hid (And.intro (HX.out.1.below hb HX.out.1.lt) (And.intro (HX.out.2.1.below hb HX.out.2.1.lt) (HX.out.2.2.below hb HX.out.2.2.lt)))
  clear hb HX hb0
  have hs1 := HB.out.size
  have e0 := HY.out.1.e0
  have e1 := HY.out.1.e1
  have e2 := HY.out.1.e2
  have e3 := HY.out.1.e3
  have e4 := HY.out.1.e4
  have f0 := HY.out.2.1.e0
  have f1 := HY.out.2.1.e1
  have f2 := HY.out.2.1.e2
  have f3 := HY.out.2.1.e3
  have f4 := HY.out.2.1.e4
  have g0 := HY.out.2.2.e0
  have g1 := HY.out.2.2.e1
  have g2 := HY.out.2.2.e2
  have g3 := HY.out.2.2.e3
  have g4 := HY.out.2.2.e4
  have z0 := HY.out.2.2.froz 0
  have z1 := HY.out.2.2.froz 1
  have z2 := HY.out.2.2.froz 2
  have z3 := HY.out.2.2.froz 3
  have z4 := HY.out.2.2.froz 4
  have hl2 := HY.out.2.2.lt
  cases q
  · have HV := Lib.hid (HR.out.trans (if_neg (by simp)))
    go_wp2
    refine ret_five2 (B := w.heap.size + 1 + 1) rfl (HY.out.2.2.set5 _ _ _ _ _) rfl rfl ?_
    rw [HV.out]
    exact ⟨below_set5 HB.out (by omega) _ _ _ _ _, rfl⟩
  go_wp2_with fail
  refine (HMu.out _ HB.out).mono ?_
  rintro e w2 ⟨rfl, hb⟩
  replace HB := Lib.hid (HB.out.trans (hb.mono hs1))
  replace HY := Lib.hid (And.intro (HY.out.1.below hb HY.out.1.lt) (And.intro (HY.out.2.1.below hb HY.out.2.1.lt) (HY.out.2.2.below hb HY.out.2.2.lt)))
  clear hb e0 e1 e2 e3 e4 f0 f1 f2 f3 f4 g0 g1 g2 g3 g4 z0 z1 z2 z3 z4 hs1 hl2
  have hs2 := HB.out.size
  have e0 := HY.out.1.e0
  have e1 := HY.out.1.e1
  have e2 := HY.out.1.e2
  have e3 := HY.out.1.e3
  have e4 := HY.out.1.e4
  have f0 := HY.out.2.1.e0
  have f1 := HY.out.2.1.e1
  have f2 := HY.out.2.1.e2
  have f3 := HY.out.2.1.e3
  have f4 := HY.out.2.1.e4
  have g0 := HY.out.2.2.e0
  have g1 := HY.out.2.2.e1
  have g2 := HY.out.2.2.e2
  have g3 := HY.out.2.2.e3
  have g4 := HY.out.2.2.e4
  have z0 := HY.out.2.2.froz 0
  have z1 := HY.out.2.2.froz 1
  have z2 := HY.out.2.2.froz 2
  have z3 := HY.out.2.2.froz 3
  have z4 := HY.out.2.2.froz 4
  have hl2 := HY.out.2.2.lt
  cases q'
  · have HV := Lib.hid (HR.out.trans (if_neg (by simp)))
    go_wp2
    refine ret_five2 (B := w.heap.size + 1 + 1) rfl (HY.out.2.2.set5 _ _ _ _ _) rfl rfl ?_
    rw [HV.out]
    exact ⟨below_set5 HB.out (by omega) _ _ _ _ _, rfl⟩
  replace HR := Lib.hid (HR.out.trans (if_pos (by rfl)))
  go_wp2_with fail
  refine (HOt.out _ HB.out Hq.out.1).mono ?_
  rintro e w3 ⟨v3, rfl, hF, hb⟩
  obtain ⟨A3, cap3, rfl⟩ := hF.cells
  obtain ⟨F, o1, o2, o3⟩ := hF
  have hb2 := hb.alloc hb.size (.cells #[.int .u8 (t.k : Int), .int .i64 t.n, .string t.s, .slice A3 t.l.length cap3, .int .i64 t.r] 26)
  have HSp := Lib.hid (Spot.start (lo := w2.heap.size) (BW := w3.heap.size) (t := t) (W := w3.alloc (.cells #[.int .u8 (t.k : Int), .int .i64 t.n, .string t.s, .slice A3 t.l.length cap3, .int .i64 t.r] 26)) (F := F) (heap_alloc_new w3 _) rfl (o1.below ((Below.refl w3.heap.size w3).alloc (Nat.le_refl _) _) (fun g hg => (o3 g hg).2)) (List.nodup_cons.2 ⟨fun hm => Nat.lt_irrefl _ (o3 _ hm).2, o2⟩) (fun g hg => by
    rcases List.mem_cons.1 hg with e | e
    · have := hb.size; rw [e]; simp; omega
    · have := o3 g e; simp; omega))
  have HB3 := Lib.hid (HB.out.trans (hb2.mono hs2))
  have HY3 := Lib.hid (And.intro (HY.out.2.1.below hb2 HY.out.2.1.lt) (HY.out.2.2.below hb2 HY.out.2.2.lt))
  have hs3 := hb2.size
  have hw23 : w2.heap.size ≤ w3.heap.size := hb.size
  clear hb hb2 o1 o2 o3 HY HB e0 e1 e2 e3 e4 f0 f1 f2 f3 f4 g0 g1 g2 g3 g4 z0 z1 z2 z3 z4
  go_wp2
  generalize hW3 : w3.alloc (.cells #[.int .u8 (t.k : Int), .int .i64 t.n, .string t.s, .slice A3 t.l.length cap3, .int .i64 t.r] 26) = W3 at *
  generalize w3.heap.size = BW at *
  clear hW3 w3
  go_loopw [9, 25] (fun sv iv wr => ∃ (j b i : Nat) (s : VT), j ≤ ps.length ∧ iv = .int .i64 (j : Int) ∧ sv = .pointer (some ⟨b, i * 5, none⟩) ∧ wr = W3 ∧ Spot w2.heap.size BW t (ps.take j) b i s W3) (fun _ iv _ => ps.length - (intOf iv).toNat)
  case atStart => exact ⟨0, BW, 0, t, Nat.zero_le _, rfl, rfl, rfl, by rw [List.take_zero]; exact HSp.out⟩
  case round =>
    obtain ⟨j, b, i, s, hj, rfl, rfl, rfl, hsp⟩ := hrel
    clear HSp
    obtain ⟨As, cs, hrow, hlc, hcm, hAs⟩ := hsp.cells
    obtain ⟨r0, r1, r2, r3, r4⟩ := hrow.get
    have HSp := Lib.hid (And.intro hsp hrow)
    have hl2 := HY3.out.2.lt
    have hcm9 : s.l.length ≤ 9223372036854775807 := by unfold maxLen at hcm; omega
    clear hsp hrow r0 r1 r2 r4
    by_cases hlt : j < ps.length
    · obtain ⟨gp, offp, rfl, hgp, hcp⟩ := HPS.out j hlt
      have cp := (World.cell?_of_block (w := w) (a := ⟨gp, offp + j, none⟩) (HB3.out.block gp hgp)).trans hcp
      clear hcp
      by_cases hin : 0 ≤ ps[j] ∧ ps[j] < s.l.length
      · obtain ⟨q, hq⟩ : ∃ q : Nat, ps[j] = (q : Int) := ⟨ps[j].toNat, by omega⟩
        have hq2 : q < s.l.length := by omega
        obtain ⟨gs, rfl⟩ := hAs (by omega)
        have HN := Lib.hid (show Spot w2.heap.size BW t (ps.take (j + 1)) gs q s.l[q] wr from by
          rw [take_get hlt, hq]
          exact HSp.out.1.step hq2 HSp.out.2)
        have d1 : decide ((q : Int) < 0) = false := decide_eq_false (by omega)
        have d2 : decide ((s.l.length : Int) ≤ (q : Int)) = false := decide_eq_false (by omega)
        have d2' : decide (s.l.length ≤ q) = false := decide_eq_false (by omega)
        rw [hq] at cp
        clear hin hq
        go_wp2
        go_roundw
        case rel => exact ⟨j + 1, gs, q, s.l[q], by omega, by go_num, rfl, trivial, HN.out⟩
        case measure => simp [intOf]; omega
      · have HV := Lib.hid (HR.out.trans (by rw [atT_none hlt HSp.out.1.1 hin]; rfl : _ = ((none, 22) : Option VT × Int)))
        have g0 := HY3.out.2.e0
        have g1 := HY3.out.2.e1
        have g2 := HY3.out.2.e2
        have g3 := HY3.out.2.e3
        have g4 := HY3.out.2.e4
        have z0 := HY3.out.2.froz 0
        have z1 := HY3.out.2.froz 1
        have z2 := HY3.out.2.froz 2
        have z3 := HY3.out.2.froz 3
        have z4 := HY3.out.2.froz 4
        generalize ps[j] = x at *
        by_cases hx : x < 0
        · have d1 : decide (x < 0) = true := decide_eq_true hx
          clear hin
          go_wp2
          refine ret_five2 (B := w.heap.size + 1 + 1) rfl (HY3.out.2.set5 _ _ _ _ _) rfl rfl ?_
          rw [HV.out]
          exact ⟨below_set5 HB3.out (by omega) _ _ _ _ _, rfl⟩
        · have d1 : decide (x < 0) = false := decide_eq_false hx
          have d2 : decide ((s.l.length : Int) ≤ x) = true := decide_eq_true (by omega)
          clear hin
          go_wp2
          refine ret_five2 (B := w.heap.size + 1 + 1) rfl (HY3.out.2.set5 _ _ _ _ _) rfl rfl ?_
          rw [HV.out]
          exact ⟨below_set5 HB3.out (by omega) _ _ _ _ _, rfl⟩
    · obtain rfl : j = ps.length := by omega
      rw [List.take_length] at HSp
      have hs3r := HB3.out.size
      have f0 := HY3.out.1.e0
      have f1 := HY3.out.1.e1
      have f2 := HY3.out.1.e2
      have f3 := HY3.out.1.e3
      have f4 := HY3.out.1.e4
      go_wp2_with fail
      refine (HOu.out _ HB3.out Hq.out.2).mono ?_
      rintro e w4 ⟨v4, rfl, hF, hb⟩
      obtain ⟨A4, cap4, rfl⟩ := hF.cells
      obtain ⟨Fx, o1, o2, o3⟩ := hF
      obtain ⟨⟨hat, c, Fs, h1, h2, h3, hn, hlo, hplug⟩, _⟩ := HSp.out
      have hbl := (hlo b List.mem_cons_self)
      have hrow4 : w4.heap[b]? = some (.cells c 26 (0, 0)) := (hb.block b hbl.2).trans h1
      obtain ⟨c', k1, k2, k3, k4⟩ := row_set (u := u) (A := A4) (cap := cap4) hrow4 h2
      have hbx : ∀ g ∈ Fx, g ≠ b := fun g hg => by have := (o3 g hg).1; omega
      obtain ⟨FF, ⟨cB, j1, j2, j3⟩, j4, j5⟩ := hplug (((((w4.setCell ⟨b, i * 5, none⟩ (.int .u8 (u.k : Int))).setCell ⟨b, i * 5 + 1, none⟩ (.int .i64 u.n)).setCell ⟨b, i * 5 + 2, none⟩ (.string u.s)).setCell ⟨b, i * 5 + 3, none⟩ (.slice A4 u.l.length cap4)).setCell ⟨b, i * 5 + 4, none⟩ (.int .i64 u.r)) u c' Fx k1 k2 k3 (fun g g1 g2 _ => (heap_setRow_other _ _ _ _ _ g2).trans (hb.block g g1)) (by simp; exact hb.size)
        (by rw [k4]; exact Own.same_all _ _ _ (fun g hg => heap_setRow_other _ _ _ _ _ (hbx g hg)) o1) o2 (fun g hg => ⟨.inr (o3 g hg).1, by have := (o3 g hg).2; simp; omega⟩)
      have hres : Five (((((w4.setCell ⟨b, i * 5, none⟩ (.int .u8 (u.k : Int))).setCell ⟨b, i * 5 + 1, none⟩ (.int .i64 u.n)).setCell ⟨b, i * 5 + 2, none⟩ (.string u.s)).setCell ⟨b, i * 5 + 3, none⟩ (.slice A4 u.l.length cap4)).setCell ⟨b, i * 5 + 4, none⟩ (.int .i64 u.r)) (w.heap.size + 1 + 1) (.int .u8 0) (.int .i64 0) (.string ⟨#[]⟩) (.slice none 0 0) (.int .i64 0) := ⟨(heap_setRow_other _ _ _ _ _ (by omega)).trans ((hb.block _ hl2).trans HY3.out.2.row)⟩
      have hBB : Below w.heap.size w (((((w4.setCell ⟨b, i * 5, none⟩ (.int .u8 (u.k : Int))).setCell ⟨b, i * 5 + 1, none⟩ (.int .i64 u.n)).setCell ⟨b, i * 5 + 2, none⟩ (.string u.s)).setCell ⟨b, i * 5 + 3, none⟩ (.slice A4 u.l.length cap4)).setCell ⟨b, i * 5 + 4, none⟩ (.int .i64 u.r)) := ((((((HB3.out.trans (hb.mono hs3r)).setCell (p := ⟨b, i * 5, none⟩) (by simp; omega) _).setCell (p := ⟨b, i * 5 + 1, none⟩) (by simp; omega) _).setCell (p := ⟨b, i * 5 + 2, none⟩) (by simp; omega) _).setCell (p := ⟨b, i * 5 + 3, none⟩) (by simp; omega) _).setCell (p := ⟨b, i * 5 + 4, none⟩) (by simp; omega) _)
      obtain ⟨⟨t0, y0⟩, ⟨t1, y1⟩, ⟨t2, y2⟩, ⟨t3, y3⟩, ⟨t4, y4⟩⟩ := row_there (i := i) hrow4 h2
      have zz0 := froz_there hrow4 (i * 5)
      have zz1 := froz_there hrow4 (i * 5 + 1)
      have zz2 := froz_there hrow4 (i * 5 + 2)
      have zz3 := froz_there hrow4 (i * 5 + 3)
      have zz4 := froz_there hrow4 (i * 5 + 4)
      rw [show atT t ps = some s from hat] at HR
      obtain ⟨AW, capW, hcw⟩ := j3.cells
      have HFin := Lib.hid (And.intro j1 (And.intro j2 (And.intro j3 (And.intro j4 (And.intro j5 (And.intro hres (And.intro hBB hcw)))))))
      clear hat h1 h3 hn hlo hplug k1 k2 k3 k4 hbx j1 j2 j3 j4 j5 hres hBB o1 o2 o3 hrow4 hb f0 f1 f2 f3 f4 HSp hcw hAs r3
      go_upto_region 13 with fail
      generalize (((((w4.setCell ⟨b, i * 5, none⟩ (.int .u8 (u.k : Int))).setCell ⟨b, i * 5 + 1, none⟩ (.int .i64 u.n)).setCell ⟨b, i * 5 + 2, none⟩ (.string u.s)).setCell ⟨b, i * 5 + 3, none⟩ (.slice A4 u.l.length cap4)).setCell ⟨b, i * 5 + 4, none⟩ (.int .i64 u.r)) = W5 at *
      clear y0 y1 y2 y3 y4 zz0 zz1 zz2 zz3 zz4
      have hcb := (cells_of_row (i := 0) HFin.out.1 (by rw [HFin.out.2.1]; exact (show 0 * 5 + 4 < 5 by decide)) (Value.agg.inj HFin.out.2.2.2.2.2.2.2)).get
      obtain ⟨e0, e1, e2, e3, e4⟩ := hcb
      have HLi := Lib.hid (show Lies W5 (· ∈ FF) false (setT u t ps) (.agg #[.int .u8 ((setT u t ps).k : Int), .int .i64 (setT u t ps).n, .string (setT u t ps).s, .slice AW (setT u t ps).l.length capW, .int .i64 (setT u t ps).r]) from by
        have := Own.lies _ _ _ HFin.out.2.2.1
        rwa [HFin.out.2.2.2.2.2.2.2] at this)
      have HM5 := Lib.hid (may_w (setT u t ps) _ W5 HLi.out (fun g hg => (HFin.out.2.2.2.2.1 g hg).2))
      have HBx := Lib.hid (Five.mk (W := W5) (B := BW) (c0 := .int .u8 ((setT u t ps).k : Int)) (c1 := .int .i64 (setT u t ps).n) (c2 := .string (setT u t ps).s) (c3 := .slice AW (setT u t ps).l.length capW) (c4 := .int .i64 (setT u t ps).r) (by
        rw [HFin.out.1]
        have h5 := HFin.out.2.1
        have h6 := Value.agg.inj HFin.out.2.2.2.2.2.2.2
        congr 2
        exact five_of_row h5 h6))
      have HOW := Lib.hid (show Own W5 (setT u t ps) (.agg #[.int .u8 ((setT u t ps).k : Int), .int .i64 (setT u t ps).n, .string (setT u t ps).s, .slice AW (setT u t ps).l.length capW, .int .i64 (setT u t ps).r]) FF from by
        rw [← HFin.out.2.2.2.2.2.2.2]; exact HFin.out.2.2.1)
      have HR5 := Lib.hid (show res = if (setT u t ps).may then (some (setT u t ps), 0) else (none, 4) from HR.out)
      have HFF := Lib.hid (And.intro HFin.out.2.2.2.1 HFin.out.2.2.2.2.1)
      have HX5 := Lib.hid HFin.out.2.2.2.2.2.1
      have HB5 := Lib.hid HFin.out.2.2.2.2.2.2.1
      clear HFin HLi
      generalize setT u t ps = x at *
      obtain ⟨qx, hqx⟩ : ∃ q, x.may = q := ⟨_, rfl⟩
      rw [hqx] at HM5 HR5
      clear hqx
      have hs5 := HB5.out.size
      go_wp2_with fail
      refine HM5.out.mono ?_
      rintro e w6 ⟨rfl, hb⟩
      have HX6 := Lib.hid (HX5.out.below hb HX5.out.lt)
      have HB6 := Lib.hid (HB5.out.trans (hb.mono hs5))
      have HBx6 := Lib.hid (HBx.out.below hb HBx.out.lt)
      have HO6 := Lib.hid (HOW.out.below hb (fun g hg => (HFF.out.2 g hg).2))
      have hs6 := hb.size
      clear hb e0 e1 e2 e3 e4
      have e0 := HBx6.out.e0
      have e1 := HBx6.out.e1
      have e2 := HBx6.out.e2
      have e3 := HBx6.out.e3
      have e4 := HBx6.out.e4
      have g0 := HX6.out.e0
      have g1 := HX6.out.e1
      have g2 := HX6.out.e2
      have g3 := HX6.out.e3
      have g4 := HX6.out.e4
      have z0 := HX6.out.froz 0
      have z1 := HX6.out.froz 1
      have z2 := HX6.out.froz 2
      have z3 := HX6.out.froz 3
      have z4 := HX6.out.froz 4
      have hx6 := HX6.out.lt
      cases qx
      · have HV := Lib.hid (HR5.out.trans (if_neg (by simp)))
        go_wp2
        refine ret_five2 (B := w.heap.size + 1 + 1) rfl (HX6.out.set5 _ _ _ _ _) rfl rfl ?_
        rw [HV.out]
        exact ⟨below_set5 HB6.out (by omega) _ _ _ _ _, rfl⟩
      · have HV := Lib.hid (HR5.out.trans (if_pos rfl))
        go_wp2
        refine ret_five2 (B := w.heap.size + 1 + 1) rfl (HX6.out.set5 _ _ _ _ _) rfl rfl ?_
        rw [HV.out]
        refine ⟨below_set5 HB6.out (by omega) _ _ _ _ _, _, rfl, FF, Own.same_all _ _ _ (fun g hg => heap_set5_other _ _ _ _ _ (by have := (HFF.out.2 g hg).1; omega)) HO6.out, HFF.out.1, fun g hg => ⟨by have := (HFF.out.2 g hg).1; omega, by have := (HFF.out.2 g hg).2; simp; omega⟩⟩
end Go.Proofs.Ytckgmdlacaiacaa
