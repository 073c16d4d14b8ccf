/-
  posternref02.Rename.
-/
import Derived.Test.YtckgmdlacaiacaaRRen
import Derived.Test.YtckgmdlacaiacaaRRead
namespace Go.Proofs.Ytckgmdlacaiacaa
open Go.RowKit Go.Shelf
attribute [local go_sem] Oper.semAt_some

set_option maxRecDepth 100000 in
set_option maxHeartbeats 8000000 in
theorem rRename_w {pp : Nat → Prop} {m : Bool} (t : VT) (v : Value) (fr to : List Int) (FA TA : Option Addr) (fc tc : Nat) (w : World) (h : Lies w pp m t v) (hpp : ∀ b, pp b → b < w.heap.size) (hfr : IntsAt w w.heap.size FA fr) (hto : IntsAt w w.heap.size TA to)
    (hfl : fr.length ≤ 4294967295) (_htl : to.length ≤ 4294967295) (ht64 : In64 to) :
    Calls Try.prog 48 #[v, .slice FA fr.length fc, .slice TA to.length tc] w (ReadN w (renRes t fr to)) := by
  obtain ⟨A, cap, rfl⟩ := h.cells
  have HM := Lib.hid (fun W hW => rmay_w t _ W (h.below (W' := W) hW hpp) (fun b hb => Nat.lt_of_lt_of_le (hpp b hb) (Below.size hW)))
  have HO := Lib.hid (fun W (hW : Below w.heap.size w W) (hmay : t.may = true) (hlen : fr.length = to.length) => rrenamed_w pp m fr to FA TA fc tc w.heap.size hlen hfl ht64 t _ W (h.below (W' := W) hW hpp) (fun b hb => Nat.lt_of_lt_of_le (hpp b hb) (Below.size hW)) (may_good hmay).1 (by have := may_good hmay; omega) (hfr.below hW (Nat.le_refl _)) (hto.below hW (Nat.le_refl _)) hW.size)
  have HI := Lib.hid (And.intro hfr hto)
  have X1 := Five.new (w.alloc (.cells #[.int .u8 (t.k : Int), .int .i64 t.n, .string t.s, .slice A t.l.length cap, .int .i64 t.r] 26)) (.int .u8 0) (.int .i64 0) (.string ⟨#[]⟩) (.slice none 0 0) (.int .i64 0)
  have X0 := (Five.new w (.int .u8 (t.k : Int)) (.int .i64 t.n) (.string t.s) (.slice A t.l.length cap) (.int .i64 t.r)).alloc (.cells #[.int .u8 0, .int .i64 0, .string ⟨#[]⟩, .slice none 0 0, .int .i64 0] 26)
  rw [World.size_alloc] at X1
  have hb0 := Lib.hid (((Below.refl w.heap.size w).alloc (Nat.le_refl _) (.cells #[.int .u8 (t.k : Int), .int .i64 t.n, .string t.s, .slice A t.l.length cap, .int .i64 t.r] 26)).alloc (by simp) (.cells #[.int .u8 0, .int .i64 0, .string ⟨#[]⟩, .slice none 0 0, .int .i64 0] 26))
  have HX := Lib.hid (And.intro X0 X1)
  have HR := Lib.hid (show renRes t fr to = if renOk t fr to = true then renOut (renT (lookF fr to) t) else (none, 2) from rfl)
  have HK := Lib.hid (show renOk t fr to = (t.may && (fr.length == to.length) && posAll fr && posAll to) from rfl)
  obtain ⟨q, hq⟩ : ∃ q, t.may = q := ⟨_, rfl⟩
  rw [hq] at HM HK
  have Hq := Lib.hid hq
  generalize renRes t fr to = res at *
  generalize renOk t fr to = ok at *
  clear h hpp hfr hto ht64 X0 X1 hq
  go_enter Try.func48, Try.ntmps48
  go_wp2_with fail
  refine (HM.out _ hb0.out).mono ?_
  rintro e w1 ⟨rfl, hb⟩
  have hB := hb0.out.trans (hb.mono (by simp; omega))
  have Y0 := HX.out.1.below hb (by simp; omega)
  have Y1 := HX.out.2.below hb (by simp)
  have HB := Lib.hid hB
  have HY := Lib.hid (And.intro Y0 Y1)
  have e0 := Y0.e0
  have e1 := Y0.e1
  have e2 := Y0.e2
  have e3 := Y0.e3
  have e4 := Y0.e4
  have f0 := Y1.e0
  have f1 := Y1.e1
  have f2 := Y1.e2
  have f3 := Y1.e3
  have f4 := Y1.e4
  have z0 := Y1.froz 0
  have z1 := Y1.froz 1
  have z2 := Y1.froz 2
  have z3 := Y1.froz 3
  have z4 := Y1.froz 4
  have hs1 := hB.size
  have hs2 := Y1.lt
  clear hb hB Y0 Y1 HX hb0
  have HBad := Lib.hid (fun e : ok = false => HR.out.trans (if_neg (by rw [e]; simp)))
  cases q
  · have hR := HBad.out (by rw [HK.out]; rfl)
    have HRR := Lib.hid hR
    clear hR
    go_wp2
    refine ret_five2 (B := w.heap.size + 1) rfl (HY.out.2.set5 _ _ _ _ _) rfl rfl ?_
    rw [HRR.out]
    exact ⟨below_set5 HB.out (by omega) _ _ _ _ _, rfl⟩
  by_cases hlen : fr.length = to.length
  case neg =>
    have p1 : ((fr.length : Int) != (to.length : Int)) = true := by rw [bne_iff_ne]; omega
    have p1' : (fr.length != to.length) = true := by rw [bne_iff_ne]; exact hlen
    have HRR := Lib.hid (HBad.out (by rw [HK.out, show (fr.length == to.length) = false by rw [beq_eq_false_iff_ne]; exact hlen]; rfl))
    have HL := Lib.hid hlen
    clear hlen
    go_wp2
    refine ret_five2 (B := w.heap.size + 1) rfl (HY.out.2.set5 _ _ _ _ _) rfl rfl ?_
    rw [HRR.out]
    exact ⟨below_set5 HB.out (by omega) _ _ _ _ _, rfl⟩
  have p1 : ((fr.length : Int) != (to.length : Int)) = false := by rw [bne_eq_false_iff_eq]; omega
  have p1' : (fr.length != to.length) = false := by rw [bne_eq_false_iff_eq]; exact hlen
  have HL := Lib.hid hlen
  clear hlen
  go_wp2
  go_loopw [8] (fun iv wr => ∃ j : Nat, j ≤ fr.length ∧ iv = .int .i64 (j : Int) ∧ wr = w1 ∧ posAll (fr.take j) = true ∧ posAll (to.take j) = true) (fun iv _ => fr.length - (intOf iv).toNat)
  case atStart => exact ⟨0, Nat.zero_le _, rfl, rfl, rfl, rfl⟩
  case round =>
    obtain ⟨j, hj, rfl, rfl, hp1, hp2⟩ := hrel
    by_cases hlt : j < fr.length
    · have hjt : j < to.length := by have := HL.out; omega
      obtain ⟨ga, offa, rfl, hga, hca⟩ := HI.out.1 j hlt
      obtain ⟨gb, offb, rfl, hgb, hcb⟩ := HI.out.2 j hjt
      have ca := (World.cell?_of_block (w := w) (a := ⟨ga, offa + j, none⟩) (HB.out.block ga hga)).trans hca
      have cb := (World.cell?_of_block (w := w) (a := ⟨gb, offb + j, none⟩) (HB.out.block gb hgb)).trans hcb
      have HJ := Lib.hid (And.intro (posAll_take hlt hp1) (posAll_take hjt hp2))
      clear hp1 hp2 hca hcb
      generalize fr[j] = x at *
      generalize to[j] = y at *
      by_cases hx : x < 1
      · have q1 : decide (x < 1) = true := decide_eq_true hx
        have HRR := Lib.hid (HBad.out (by rw [HK.out, HJ.out.1.2 hx, Bool.and_false, Bool.false_and]))
        go_wp2
        refine ret_five2 (B := w.heap.size + 1) rfl (HY.out.2.set5 _ _ _ _ _) rfl rfl ?_
        rw [HRR.out]
        exact ⟨below_set5 HB.out (by omega) _ _ _ _ _, rfl⟩
      · have q1 : decide (x < 1) = false := decide_eq_false hx
        by_cases hy : y < 1
        · have q2 : decide (y < 1) = true := decide_eq_true hy
          have HRR := Lib.hid (HBad.out (by rw [HK.out, HJ.out.2.2 hy, Bool.and_false]))
          go_wp2
          refine ret_five2 (B := w.heap.size + 1) rfl (HY.out.2.set5 _ _ _ _ _) rfl rfl ?_
          rw [HRR.out]
          exact ⟨below_set5 HB.out (by omega) _ _ _ _ _, rfl⟩
        · have q2 : decide (y < 1) = false := decide_eq_false hy
          go_wp2
          go_roundw
          case rel => exact ⟨j + 1, by omega, by go_num, trivial, HJ.out.1.1 (by omega), HJ.out.2.1 (by omega)⟩
          case measure => simp [intOf]; omega
    · obtain rfl : j = fr.length := by omega
      rw [List.take_length] at hp1
      rw [HL.out, List.take_length] at hp2
      have HRR := Lib.hid (HR.out.trans (if_pos (by rw [HK.out, hp1, hp2, show (fr.length == to.length) = true by rw [beq_iff_eq]; exact HL.out]; rfl)))
      clear hp1 hp2
      generalize renT (lookF fr to) t = rj at *
      go_wp2_with fail
      refine (HO.out _ HB.out Hq.out HL.out).mono ?_
      rintro e w2 ⟨hb, hres⟩
      have Y := HY.out.2.below hb hs2
      have HB2 := Lib.hid (HB.out.trans (hb.mono hs1))
      have hsb := hb.size
      clear e0 e1 e2 e3 e4 f0 f1 f2 f3 f4 z0 z1 z2 z3 z4 hb p1 p1'
      cases rj with
      | none =>
        obtain rfl := hres
        replace Y := Y.alloc (.cells #[.int .u8 0, .int .i64 0, .string ⟨#[]⟩, .slice none 0 0, .int .i64 0] 26)
        have HY2 := Lib.hid Y
        have f0 := Y.e0
        have f1 := Y.e1
        have f2 := Y.e2
        have f3 := Y.e3
        have f4 := Y.e4
        have z0 := Y.froz 0
        have z1 := Y.froz 1
        have z2 := Y.froz 2
        have z3 := Y.froz 3
        have z4 := Y.froz 4
        clear Y
        unfold zeroVal
        go_wp2
        refine ret_five2 (B := w.heap.size + 1) rfl (HY2.out.set5 _ _ _ _ _) rfl rfl ?_
        rw [HRR.out]
        exact ⟨below_set5 (HB2.out.alloc HB2.out.size _) (by omega) _ _ _ _ _, rfl⟩
      | some u =>
        obtain ⟨v', rfl, hF⟩ := hres
        obtain ⟨A2, cap2, rfl⟩ := hF.cells
        replace Y := Y.alloc (.cells #[.int .u8 (u.k : Int), .int .i64 u.n, .string u.s, .slice A2 u.l.length cap2, .int .i64 u.r] 26)
        have HY2 := Lib.hid Y
        have HF := Lib.hid (hF.alloc (.cells #[.int .u8 (u.k : Int), .int .i64 u.n, .string u.s, .slice A2 u.l.length cap2, .int .i64 u.r] 26))
        have f0 := Y.e0
        have f1 := Y.e1
        have f2 := Y.e2
        have f3 := Y.e3
        have f4 := Y.e4
        have z0 := Y.froz 0
        have z1 := Y.froz 1
        have z2 := Y.froz 2
        have z3 := Y.froz 3
        have z4 := Y.froz 4
        clear Y hF
        go_wp2
        refine ret_five2 (B := w.heap.size + 1) rfl (HY2.out.set5 _ _ _ _ _) rfl rfl ?_
        rw [HRR.out]
        refine ⟨below_set5 (HB2.out.alloc HB2.out.size _) (by omega) _ _ _ _ _, _, rfl, ?_⟩
        exact Lies.same (fun b hb => ⟨by omega, by simpa using hb.2⟩) (fun b hb => heap_set5_other _ _ _ _ _ (by omega)) _ _ HF.out
end Go.Proofs.Ytckgmdlacaiacaa
