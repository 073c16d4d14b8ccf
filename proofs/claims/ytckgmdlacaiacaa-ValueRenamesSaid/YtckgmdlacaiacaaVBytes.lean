/-
  ValueBytes: the walk.
-/
import Derived.Test.YtckgmdlacaiacaaRRead
namespace Go.Proofs.Ytckgmdlacaiacaa
open Go.RowKit Go.Shelf
attribute [local go_sem] Oper.semAt_some

theorem ReadN.ans {w W : World} {res : Option VT × Int} {e : Ending} (h : ReadN w res e W) : AnsM w (resT res.1) res.2 e W := by
  obtain ⟨hb, h⟩ := h
  obtain ⟨o, n⟩ := res
  cases o with
  | none =>
    obtain rfl := h
    exact ansN_none hb
  | some t =>
    obtain ⟨v, rfl, hF⟩ := h
    obtain ⟨A, cap, rfl⟩ := hF.cells
    exact ⟨hb, A, cap, rfl, hF⟩
theorem readRes_may (l : List UInt8) : (resT (readRes l).1).may = true := by
  unfold readRes
  split
  · exact zeroT_may
  · split
    · rename_i t h
      exact readT_may h
    · exact zeroT_may
/-- What Front holds. -/
def frT : Option (VT × List UInt8) → VT
  | none => .mk 0 0 ⟨#[]⟩ 0 []
  | some x => x.1
def frS : Option (VT × List UInt8) → ByteArray
  | none => ⟨#[]⟩
  | some x => strL x.2
def frE : Option (VT × List UInt8) → Int
  | none => 20
  | some _ => 0
theorem frT_may (l : List UInt8) : (frT (readT 16 512 l)).may = true := by
  cases h : readT 16 512 l with
  | none => exact zeroT_may
  | some x =>
    obtain ⟨t, r⟩ := x
    exact readT_may h
theorem front_ans {w W : World} {o : Option (VT × List UInt8)} {e : Ending} (h : FrontPost w o e W) : Below w.heap.size w W ∧ ∃ A cap, e = .returned (.tuple #[.agg #[.int .u8 ((frT o).k : Int), .int .i64 (frT o).n, .string (frT o).s, .slice A (frT o).l.length cap, .int .i64 (frT o).r], .string (frS o), .int .i64 (frE o)]) ∧
    LiesN w W (frT o) (.agg #[.int .u8 ((frT o).k : Int), .int .i64 (frT o).n, .string (frT o).s, .slice A (frT o).l.length cap, .int .i64 (frT o).r]) := by
  obtain ⟨hb, h⟩ := h
  cases o with
  | none => exact ⟨hb, none, 0, h, liesN_flat ⟨by decide, by decide, by decide, by decide, by decide⟩⟩
  | some x =>
    obtain ⟨t, r⟩ := x
    obtain ⟨v, rfl, hF⟩ := h
    obtain ⟨A, cap, rfl⟩ := hF.cells
    exact ⟨hb, A, cap, rfl, hF.from⟩
theorem frontN_ans {w W : World} {o : Option (VT × List UInt8)} {e : Ending} (h : FrontN w o e W) : Below w.heap.size w W ∧ ∃ A cap, e = .returned (.tuple #[.agg #[.int .u8 ((frT o).k : Int), .int .i64 (frT o).n, .string (frT o).s, .slice A (frT o).l.length cap, .int .i64 (frT o).r], .string (frS o), .int .i64 (frE o)]) ∧
    LiesN w W (frT o) (.agg #[.int .u8 ((frT o).k : Int), .int .i64 (frT o).n, .string (frT o).s, .slice A (frT o).l.length cap, .int .i64 (frT o).r]) := by
  obtain ⟨hb, h⟩ := h
  cases o with
  | none => exact ⟨hb, none, 0, h, liesN_flat ⟨by decide, by decide, by decide, by decide, by decide⟩⟩
  | some x =>
    obtain ⟨t, r⟩ := x
    obtain ⟨v, rfl, hF⟩ := h
    obtain ⟨A, cap, rfl⟩ := hF.cells
    exact ⟨hb, A, cap, rfl, hF⟩

set_option maxRecDepth 100000 in
set_option maxHeartbeats 8000000 in
theorem ValueBytes_w {pp : Nat → Prop} {m : Bool} (t : VT) (v : Value) (l : List UInt8) (w : World) (h : Lies w pp m t v) (hpp : ∀ b, pp b → b < w.heap.size) (hl : l.length ≤ maxLen) :
    Calls Try.prog 9 #[v, .string (strL l)] w fun e w' => e = .returned (.bool true) ∧ Below w.heap.size w w' := by
  obtain ⟨A, cap, rfl⟩ := h.cells
  have HX0 := Lib.hid (BoxT.new w h hpp)
  have HB0 := Lib.hid ((Below.refl w.heap.size w).alloc (Nat.le_refl _) (.cells #[.int .u8 (t.k : Int), .int .i64 t.n, .string t.s, .slice A t.l.length cap, .int .i64 t.r] 26))
  have hsz := strL_size l
  have hl2 : l.length ≤ 9223372036854775807 := by unfold maxLen at hl; omega
  have HLen := Lib.hid hl
  clear h hpp hl
  go_enter Try.func9, Try.ntmps9
  go_wp2_with fail
  refine (small_w pp m t _ 1200 41 40 _ HX0.out.lies HX0.out.small (by omega) (by omega) (by omega)).mono ?_
  rintro e w1 ⟨rfl, hb⟩
  have HX1 := Lib.hid (HX0.out.step hb)
  have HB1 := Lib.hid (HB0.out.trans (hb.mono (by simp)))
  have hs1 := HB1.out.size
  clear hb HX0 HB0
  have e0 := HX1.out.box.e0
  have e1 := HX1.out.box.e1
  have e2 := HX1.out.box.e2
  have e3 := HX1.out.box.e3
  have e4 := HX1.out.box.e4
  obtain ⟨q, hq⟩ : ∃ q, t.sm 1200 41 = q := ⟨_, rfl⟩
  unfold smallV
  rw [hq]
  have Hq := Lib.hid hq
  clear hq
  cases q
  · rw [if_neg (by simp)]
    go_wp2_with fail
    refine (awake_w _).mono ?_
    rintro e w2 ⟨rfl, hb⟩
    have HB2 := Lib.hid (HB1.out.trans (hb.mono hs1))
    clear hb
    go_wp2
    go_ret
    exact ⟨rfl, HB2.out⟩
  have hpar := VT.sm_parts Hq.out
  rw [if_pos rfl]
  have q2 : decide ((t.parts : Int) < 0) = false := decide_eq_false (by omega)
  by_cases hbig : 1048576 < l.length
  · have q1 : decide ((1048576 : Int) < (l.length : Int)) = true := decide_eq_true (by omega)
    have q1' : decide (1048576 < l.length) = true := decide_eq_true hbig
    go_wp2_with fail
    refine (awake_w _).mono ?_
    rintro e w2 ⟨rfl, hb⟩
    have HB2 := Lib.hid (HB1.out.trans (hb.mono hs1))
    clear hb
    go_wp2
    go_ret
    exact ⟨rfl, HB2.out⟩
  have q1 : decide ((1048576 : Int) < (l.length : Int)) = false := decide_eq_false (by omega)
  have q1' : decide (1048576 < l.length) = false := decide_eq_false hbig
  go_wp2_with fail
  refine (lent_w pp m t _ _ HX1.out.lies HX1.out.small (by omega)).mono ?_
  rintro e w2 ⟨v3, rfl, hlin, hb⟩
  obtain ⟨A3, cap3, rfl⟩ := hlin.cells
  have hsb := hb.size
  have hw1 := HX1.out.box.lt
  have HS := Lib.hid (Lk2.mk ((HX1.out.step hb).alloc (.cells #[.int .u8 (t.k : Int), .int .i64 t.n, .string t.s, .slice A3 t.l.length cap3, .int .i64 t.r] 26)) (BoxT.new w2 hlin (fun _ h => h.2)) ((HB1.out.trans (hb.mono hs1)).alloc (by omega) _) (by omega))
  clear e0 e1 e2 e3 e4
  clear hb HX1 HB1 hlin hs1
  obtain ⟨bs, bn, hbv⟩ : ∃ bs bn, bytesV t = .tuple #[.string bs, .int .i64 bn] := by
    unfold bytesV
    split
    · exact ⟨_, _, rfl⟩
    · exact ⟨_, _, rfl⟩
  have HBV := Lib.hid hbv
  clear hbv
  go_wp2_with fail
  refine (Bytes_w t _ _ HS.out.two.lies HS.out.two.small).mono ?_
  rintro e w3 ⟨rfl, hb⟩
  rw [HBV.out]
  have HS1 := Lib.hid (HS.out.step hb)
  clear hb HS
  generalize w2.heap.size = B3 at *
  generalize hp3 : (fun b => w1.heap.size ≤ b ∧ b < B3) = p3 at *
  clear hp3 hw1 hsb w1 w2
  have e0 := HS1.out.one.box.e0
  have e1 := HS1.out.one.box.e1
  have e2 := HS1.out.one.box.e2
  have e3 := HS1.out.one.box.e3
  have e4 := HS1.out.one.box.e4
  go_wp2_with fail
  refine (rWrite_w t _ _ HS1.out.one.lies HS1.out.one.small).mono ?_
  rintro e w4 ⟨rfl, hb⟩
  rw [HBV.out]
  have HS2 := Lib.hid (HS1.out.step hb)
  clear e0 e1 e2 e3 e4 hb HS1
  have e0 := HS2.out.one.box.e0
  have e1 := HS2.out.one.box.e1
  have e2 := HS2.out.one.box.e2
  have e3 := HS2.out.one.box.e3
  have e4 := HS2.out.one.box.e4
  have f0 := HS2.out.two.box.e0
  have f1 := HS2.out.two.box.e1
  have f2 := HS2.out.two.box.e2
  have f3 := HS2.out.two.box.e3
  have f4 := HS2.out.two.box.e4
  have qn : (bn == bn) = true := beq_self_eq_true bn
  have ql : (bs.toList == bs.toList) = true := beq_self_eq_true _
  go_wp2_with fail
  refine (kept_w p3 pp m t _ _ _ HS2.out.two.lies HS2.out.one.lies HS2.out.two.small HS2.out.one.small).mono ?_
  rintro e w5 ⟨rfl, hb⟩
  have HS3 := Lib.hid (HS2.out.step hb)
  clear e0 e1 e2 e3 e4 f0 f1 f2 f3 f4 hb HS2 qn ql
  have HRd := Lib.hid (fun W => show Calls Try.prog 51 #[.string (strL l)] W (fun e W' => AnsT W (resT (readRes l).1) (readRes l).2 e W') from (Read_w l W HLen.out).mono fun _ _ h => h.ans)
  have HRR := Lib.hid (fun W => show Calls Try.prog 52 #[.string (strL l)] W (fun e W' => AnsM W (resT (readRes l).1) (readRes l).2 e W') from (rRead_w l W HLen.out).mono fun _ _ h => h.ans)
  have HMY := Lib.hid (readRes_may l)
  generalize resT (readRes l).1 = u at *
  generalize (readRes l).2 = n at *
  have hbL := HS3.out.bLt
  have hs3 := HS3.out.below.size
  have hwB := HS3.out.lt
  have HB5 := Lib.hid HS3.out.below
  clear HS3
  go_wp2_with fail
  refine (HRd.out w5).mono ?_
  rintro e w6 ⟨hb, A5, cap5, rfl, hF⟩
  obtain ⟨F, hA⟩ := LkA.new (B3 := B3) hF hbL
  have HA6 := Lib.hid hA
  have HB6 := Lib.hid ((HB5.out.trans (hb.mono hs3)).alloc (Nat.le_trans hs3 hb.size) (.cells #[.int .u8 (u.k : Int), .int .i64 u.n, .string u.s, .slice A5 u.l.length cap5, .int .i64 u.r] 26))
  have hB5 : w6.heap.size < (w6.alloc (.cells #[.int .u8 (u.k : Int), .int .i64 u.n, .string u.s, .slice A5 u.l.length cap5, .int .i64 u.r] 26)).heap.size := by simp
  clear hb hF hA HB5
  go_wp2_with fail
  refine (HRd.out _).mono ?_
  rintro e w7 ⟨hb, A7, cap7, rfl, hF⟩
  have HA7 := Lib.hid ((HA6.out.step hb).alloc (.cells #[.int .u8 (u.k : Int), .int .i64 u.n, .string u.s, .slice A7 u.l.length cap7, .int .i64 u.r] 26))
  have HT7 := Lib.hid (BoxT.new w7 hF.from (fun _ h => h.2))
  have HB7 := Lib.hid ((HB6.out.trans (hb.mono HB6.out.size)).alloc (Nat.le_trans HB6.out.size hb.size) (.cells #[.int .u8 (u.k : Int), .int .i64 u.n, .string u.s, .slice A7 u.l.length cap7, .int .i64 u.r] 26))
  have hB57 := Nat.lt_of_lt_of_le hB5 hb.size
  clear hb hF HA6 HB6
  generalize (w6.alloc (.cells #[.int .u8 (u.k : Int), .int .i64 u.n, .string u.s, .slice A5 u.l.length cap5, .int .i64 u.r] 26)).heap.size = N5 at *
  generalize w6.heap.size = B5 at *
  clear w6
  go_wp2_with fail
  refine (HRR.out _).mono ?_
  rintro e w8 ⟨hb, A9, cap9, rfl, hF⟩
  have HA8 := Lib.hid ((HA7.out.step hb).alloc (.cells #[.int .u8 (u.k : Int), .int .i64 u.n, .string u.s, .slice A9 u.l.length cap9, .int .i64 u.r] 26))
  have HT8 := Lib.hid ((HT7.out.step hb).alloc (.cells #[.int .u8 (u.k : Int), .int .i64 u.n, .string u.s, .slice A9 u.l.length cap9, .int .i64 u.r] 26))
  have HW8 := Lib.hid (BoxT.new w8 hF (fun _ h => h.2))
  have HB8 := Lib.hid ((HB7.out.trans (hb.mono HB7.out.size)).alloc (Nat.le_trans HB7.out.size hb.size) (.cells #[.int .u8 (u.k : Int), .int .i64 u.n, .string u.s, .slice A9 u.l.length cap9, .int .i64 u.r] 26))
  have hB79 := HT7.out.box.lt
  clear hb hF HA7 HT7 HB7
  generalize (w7.alloc (.cells #[.int .u8 (u.k : Int), .int .i64 u.n, .string u.s, .slice A7 u.l.length cap7, .int .i64 u.r] 26)).heap.size = N7 at *
  generalize w7.heap.size = B7 at *
  clear w7
  have e0 := HA8.out.box.e0
  have e1 := HA8.out.box.e1
  have e2 := HA8.out.box.e2
  have e3 := HA8.out.box.e3
  have e4 := HA8.out.box.e4
  have f0 := HT8.out.box.e0
  have f1 := HT8.out.box.e1
  have f2 := HT8.out.box.e2
  have f3 := HT8.out.box.e3
  have f4 := HT8.out.box.e4
  have q3 : (n == n) = true := beq_self_eq_true n
  go_wp2_with fail
  refine (held_w u _ _ _ F _ HA8.out.own HA8.out.nodup HA8.out.small HT8.out.lies HW8.out.lies (fun b hb => ⟨HT8.out.small b hb, fun hm => Nat.lt_irrefl _ (Nat.lt_of_lt_of_le (HA8.out.mem b hm).2 (Nat.le_trans (Nat.le_of_lt hB5) hb.1))⟩) (fun b hb => ⟨HW8.out.small b hb, fun hm => Nat.lt_irrefl _ (Nat.lt_of_lt_of_le (Nat.lt_trans (HA8.out.mem b hm).2 hB57) (Nat.le_trans (Nat.le_of_lt hB79) hb.1))⟩) HMY.out).mono ?_
  rintro e w9 ⟨rfl, hc⟩
  have HB9 := Lib.hid (below_chg HB8.out hc HB8.out.size (fun g hg => by have := (HA8.out.mem g hg).1; omega))
  have hs9 := HB9.out.size
  clear hc e0 e1 e2 e3 e4 f0 f1 f2 f3 f4 HA8 HT8 HW8 HB8 q3
  have HFr := Lib.hid (fun W => (Front_w l W HLen.out).mono (fun _ _ h => front_ans h))
  have HFn := Lib.hid (fun W => (rFront_w l W HLen.out).mono (fun _ _ h => frontN_ans h))
  have HFY := Lib.hid (frT_may l)
  generalize readT 16 512 l = o at *
  generalize frT o = f at *
  generalize frS o = rs at *
  generalize frE o = fe at *
  clear HRd HRR HMY
  go_wp2_with fail
  refine (HFr.out w9).mono ?_
  rintro e w10 ⟨hb, A11, cap11, rfl, hF⟩
  have HT10 := Lib.hid (BoxT.new w10 hF (fun _ h => h.2))
  have HB10 := Lib.hid ((HB9.out.trans (hb.mono hs9)).alloc (Nat.le_trans hs9 hb.size) (.cells #[.int .u8 (f.k : Int), .int .i64 f.n, .string f.s, .slice A11 f.l.length cap11, .int .i64 f.r] 26))
  clear hb hF HB9
  go_wp2_with fail
  refine (HFn.out _).mono ?_
  rintro e w11 ⟨hb, A13, cap13, rfl, hF⟩
  have HT11 := Lib.hid ((HT10.out.step hb).alloc (.cells #[.int .u8 (f.k : Int), .int .i64 f.n, .string f.s, .slice A13 f.l.length cap13, .int .i64 f.r] 26))
  have HW11 := Lib.hid (BoxT.new w11 hF (fun _ h => h.2))
  have HB11 := Lib.hid ((HB10.out.trans (hb.mono HB10.out.size)).alloc (Nat.le_trans HB10.out.size hb.size) (.cells #[.int .u8 (f.k : Int), .int .i64 f.n, .string f.s, .slice A13 f.l.length cap13, .int .i64 f.r] 26))
  clear hb hF HT10 HB10
  generalize w10.heap.size = B10 at *
  have e0 := HT11.out.box.e0
  have e1 := HT11.out.box.e1
  have e2 := HT11.out.box.e2
  have e3 := HT11.out.box.e3
  have e4 := HT11.out.box.e4
  have q4 : (rs.toList == rs.toList) = true := beq_self_eq_true _
  have q5 : (fe == fe) = true := beq_self_eq_true _
  go_wp2_with fail
  refine (rSame_w f f _ _ _ HT11.out.lies HW11.out.lies HT11.out.small HW11.out.small).mono ?_
  rintro e w12 ⟨rfl, hb⟩
  rw [sameT_refl HFY.out]
  have HB12 := Lib.hid (HB11.out.trans (hb.mono HB11.out.size))
  clear hb e0 e1 e2 e3 e4 HT11 HW11 HB11
  go_wp2_with fail
  refine (awake_w _).mono ?_
  rintro e w13 ⟨rfl, hb⟩
  have HB13 := Lib.hid (HB12.out.trans (hb.mono HB12.out.size))
  clear hb
  go_wp2
  go_ret
  exact ⟨rfl, HB13.out⟩
end Go.Proofs.Ytckgmdlacaiacaa
