/-
  ValueBack: the walk.
-/
import Derived.Test.YtckgmdlacaiacaaBackM
import Derived.Test.YtckgmdlacaiacaaAll
namespace Go.Proofs.Ytckgmdlacaiacaa
open Go.RowKit Go.Shelf
attribute [local go_sem] Oper.semAt_some

set_option maxRecDepth 100000 in
set_option maxHeartbeats 16000000 in
theorem ValueBack_w {pp pp' : Nat → Prop} {m m' : Bool} (t u : VT) (v v' : Value) (l : List UInt8) (w : World) (h : Lies w pp m t v) (h' : Lies w pp' m' u v') (hpp : ∀ b, pp b → b < w.heap.size) (hpp' : ∀ b, pp' b → b < w.heap.size) (hl : l.length ≤ maxLen) :
    Calls Try.prog 13 #[v, v', .string (strL l)] w fun e w' => e = .returned (.bool true) ∧ Below w.heap.size w w' := by
  have hit := Lies.inN _ _ h
  have hiu := Lies.inN _ _ h'
  obtain ⟨A, cap, rfl⟩ := h.cells
  obtain ⟨A', cap', rfl⟩ := h'.cells
  have HX0 := Lib.hid ((BoxT.new w h hpp).alloc (.cells #[.int .u8 (u.k : Int), .int .i64 u.n, .string u.s, .slice A' u.l.length cap', .int .i64 u.r] 26))
  have hy0 := (BoxT.new (w.alloc (.cells #[.int .u8 (t.k : Int), .int .i64 t.n, .string t.s, .slice A t.l.length cap, .int .i64 t.r] 26)) (h'.below ((Below.refl w.heap.size w).alloc (Nat.le_refl _) _) hpp') (fun b hb => by have := hpp' b hb; simp; omega))
  rw [World.size_alloc] at hy0
  have HY0 := Lib.hid hy0
  clear hy0
  have HB0 := Lib.hid (((Below.refl w.heap.size w).alloc (Nat.le_refl _) (.cells #[.int .u8 (t.k : Int), .int .i64 t.n, .string t.s, .slice A t.l.length cap, .int .i64 t.r] 26)).alloc (by simp) (.cells #[.int .u8 (u.k : Int), .int .i64 u.n, .string u.s, .slice A' u.l.length cap', .int .i64 u.r] 26))
  have hsz := strL_size l
  have hl2 : l.length ≤ 9223372036854775807 := by unfold maxLen at hl; omega
  have HLen := Lib.hid hl
  have HIT := Lib.hid (And.intro hit hiu)
  clear h h' hpp hpp' hl hit hiu
  go_enter Try.func13, Try.ntmps13
  have e0 := HX0.out.box.e0
  have e1 := HX0.out.box.e1
  have e2 := HX0.out.box.e2
  have e3 := HX0.out.box.e3
  have e4 := HX0.out.box.e4
  have f0 := HY0.out.box.e0
  have f1 := HY0.out.box.e1
  have f2 := HY0.out.box.e2
  have f3 := HY0.out.box.e3
  have f4 := HY0.out.box.e4
  have HLT := Lib.hid (LiesL.two (W := (((w.alloc (.cells #[.int .u8 (t.k : Int), .int .i64 t.n, .string t.s, .slice A t.l.length cap, .int .i64 t.r] 26)).alloc (.cells #[.int .u8 (u.k : Int), .int .i64 u.n, .string u.s, .slice A' u.l.length cap', .int .i64 u.r] 26)).alloc (.cells #[.int .u8 (t.k : Int), .int .i64 t.n, .string t.s, .slice A t.l.length cap, .int .i64 t.r, .int .u8 (u.k : Int), .int .i64 u.n, .string u.s, .slice A' u.l.length cap', .int .i64 u.r] 26))) (b := w.heap.size + 1 + 1)
    (HX0.out.alloc _).lies (HY0.out.alloc _).lies (HX0.out.alloc _).small (HY0.out.alloc _).small (by
      have h := heap_alloc_new ((w.alloc (.cells #[.int .u8 (t.k : Int), .int .i64 t.n, .string t.s, .slice A t.l.length cap, .int .i64 t.r] 26)).alloc (.cells #[.int .u8 (u.k : Int), .int .i64 u.n, .string u.s, .slice A' u.l.length cap', .int .i64 u.r] 26)) (.cells #[.int .u8 (t.k : Int), .int .i64 t.n, .string t.s, .slice A t.l.length cap, .int .i64 t.r, .int .u8 (u.k : Int), .int .i64 u.n, .string u.s, .slice A' u.l.length cap', .int .i64 u.r] 26)
      simpa using h))
  go_wp2_with fail
  refine (smallAll_w _ _ [t, u] _ 2 _ HLT.out (fun b hb => hb) (by simp)).mono ?_
  rintro e w1 ⟨q, rfl, _, hb⟩
  have HX := Lib.hid ((HX0.out.alloc (.cells #[.int .u8 (t.k : Int), .int .i64 t.n, .string t.s, .slice A t.l.length cap, .int .i64 t.r, .int .u8 (u.k : Int), .int .i64 u.n, .string u.s, .slice A' u.l.length cap', .int .i64 u.r] 26)).step hb)
  have HY := Lib.hid ((HY0.out.alloc (.cells #[.int .u8 (t.k : Int), .int .i64 t.n, .string t.s, .slice A t.l.length cap, .int .i64 t.r, .int .u8 (u.k : Int), .int .i64 u.n, .string u.s, .slice A' u.l.length cap', .int .i64 u.r] 26)).step hb)
  have HB := Lib.hid ((HB0.out.alloc (by simp; omega) (.cells #[.int .u8 (t.k : Int), .int .i64 t.n, .string t.s, .slice A t.l.length cap, .int .i64 t.r, .int .u8 (u.k : Int), .int .i64 u.n, .string u.s, .slice A' u.l.length cap', .int .i64 u.r] 26)).trans (hb.mono (by simp; omega)))
  clear hb HLT HX0 HY0 HB0 e0 e1 e2 e3 e4 f0 f1 f2 f3 f4
  have e0 := HX.out.box.e0
  have f0 := HY.out.box.e0
  have e1 := HX.out.box.e1
  have f1 := HY.out.box.e1
  have e2 := HX.out.box.e2
  have f2 := HY.out.box.e2
  have e3 := HX.out.box.e3
  have f3 := HY.out.box.e3
  have e4 := HX.out.box.e4
  have f4 := HY.out.box.e4
  cases q
  · go_wp2_with fail
    refine (awake_w _).mono ?_
    rintro e w2 ⟨rfl, hb⟩
    have HB2 := Lib.hid (HB.out.trans (hb.mono HB.out.size))
    clear hb
    go_wp2
    go_ret
    exact ⟨rfl, HB2.out⟩
  by_cases hbig : 1048576 < l.length
  · have q1 : decide ((1048576 : Int) < (l.length : Int)) = true := decide_eq_true (by omega)
    have q1' : decide (1048576 < l.length) = true := decide_eq_true hbig
    go_wp2_with fail
    refine (awake_w _).mono ?_
    rintro e w2 ⟨rfl, hb⟩
    have HB2 := Lib.hid (HB.out.trans (hb.mono HB.out.size))
    clear hb
    go_wp2
    go_ret
    exact ⟨rfl, HB2.out⟩
  have q1 : decide ((1048576 : Int) < (l.length : Int)) = false := decide_eq_false (by omega)
  have q1' : decide (1048576 < l.length) = false := decide_eq_false hbig
  have HWays := Lib.hid (readRes_ways l)
  have HWays := Lib.hid (readRes_ways l)
  have HWays := Lib.hid (readRes_ways l)
  have HWays := Lib.hid (readRes_ways l)
  have HWays := Lib.hid (readRes_ways l)
  go_wp2_with fail
  refine (Bytes_w t _ _ HX.out.lies HX.out.small).mono ?_
  rintro e w2 ⟨rfl, hb⟩
  replace HX := Lib.hid (HX.out.step hb)
  replace HY := Lib.hid (HY.out.step hb)
  replace HB := Lib.hid (HB.out.trans (hb.mono HB.out.size))
  clear hb e0 e1 e2 e3 e4 f0 f1 f2 f3 f4
  have e0 := HX.out.box.e0
  have f0 := HY.out.box.e0
  have e1 := HX.out.box.e1
  have f1 := HY.out.box.e1
  have e2 := HX.out.box.e2
  have f2 := HY.out.box.e2
  have e3 := HX.out.box.e3
  have f3 := HY.out.box.e3
  have e4 := HX.out.box.e4
  have f4 := HY.out.box.e4
  by_cases ht : okB t = true
  case neg =>
    rw [bytesV_no (by simpa using ht)]
    clear ht
    go_wp2_with fail
    refine (Bytes_w u _ _ HY.out.lies HY.out.small).mono ?_
    rintro e w3 ⟨rfl, hb⟩
    obtain ⟨bs, bn, hbv⟩ : ∃ bs bn, bytesV u = .tuple #[.string bs, .int .i64 bn] := by
      unfold bytesV
      split
      · exact ⟨_, _, rfl⟩
      · exact ⟨_, _, rfl⟩
    rw [hbv]
    clear hbv
    replace HX := Lib.hid (HX.out.step hb)
    replace HY := Lib.hid (HY.out.step hb)
    replace HB := Lib.hid (HB.out.trans (hb.mono HB.out.size))
    clear hb e0 e1 e2 e3 e4 f0 f1 f2 f3 f4
    have e0 := HX.out.box.e0
    have f0 := HY.out.box.e0
    have e1 := HX.out.box.e1
    have f1 := HY.out.box.e1
    have e2 := HX.out.box.e2
    have f2 := HY.out.box.e2
    have e3 := HX.out.box.e3
    have f3 := HY.out.box.e3
    have e4 := HX.out.box.e4
    have f4 := HY.out.box.e4
    rcases HWays.out with ⟨x, hx1, hx2, hx3⟩ | hx1 | hx1
    · have HRd := Lib.hid (fun W => Read_w l W HLen.out)
      rw [hx1] at HRd
      have HBX := Lib.hid (bytesV_yes hx3)
      rw [hx2] at HBX
      go_wp2_with fail
      refine (HRd.out _).mono ?_
      rintro e W ⟨hb, v1, rfl, hF⟩
      obtain ⟨A1, cap1, rfl⟩ := hF.cells
      have HZ := Lib.hid (BoxT.new W hF.from (fun _ h => h.2))
      have HB2 := Lib.hid ((HB.out.trans (hb.mono HB.out.size)).alloc (Nat.le_trans HB.out.size hb.size) (.cells #[.int .u8 (x.k : Int), .int .i64 x.n, .string x.s, .slice A1 x.l.length cap1, .int .i64 x.r] 26))
      clear hb hF HB HRd HX HY e0 e1 e2 e3 e4 f0 f1 f2 f3 f4
      have e0 := HZ.out.box.e0
      have e1 := HZ.out.box.e1
      have e2 := HZ.out.box.e2
      have e3 := HZ.out.box.e3
      have e4 := HZ.out.box.e4
      go_wp2_with fail
      refine (Bytes_w x _ _ HZ.out.lies HZ.out.small).mono ?_
      rintro e W2 ⟨rfl, hb⟩
      rw [HBX.out]
      have HB3 := Lib.hid (HB2.out.trans (hb.mono HB2.out.size))
      clear hb HB2 e0 e1 e2 e3 e4 HZ
      have qs : ((strL l).toList == (strL l).toList) = true := beq_self_eq_true _
      go_wp2_with fail
      refine (awake_w _).mono ?_
      rintro e W3 ⟨rfl, hb⟩
      have HB4 := Lib.hid (HB3.out.trans (hb.mono HB3.out.size))
      clear hb
      go_wp2
      go_ret
      exact ⟨rfl, HB4.out⟩
    all_goals
      have HRd := Lib.hid (fun W => Read_w l W HLen.out)
      rw [hx1] at HRd
      go_wp2_with fail
      refine (HRd.out _).mono ?_
      rintro e W ⟨hb, rfl⟩
      have HB2 := Lib.hid ((HB.out.trans (hb.mono HB.out.size)).alloc (Nat.le_trans HB.out.size hb.size) (.cells #[.int .u8 0, .int .i64 0, .string ⟨#[]⟩, .slice none 0 0, .int .i64 0] 26))
      clear hb HB HRd HX HY e0 e1 e2 e3 e4 f0 f1 f2 f3 f4
      unfold zeroVal
      go_wp2_with fail
      refine (awake_w _).mono ?_
      rintro e W3 ⟨rfl, hb⟩
      have HB4 := Lib.hid (HB2.out.trans (hb.mono HB2.out.size))
      clear hb
      go_wp2
      go_ret
      exact ⟨rfl, HB4.out⟩
  rw [bytesV_yes ht]
  have HT := Lib.hid (And.intro ht (And.intro (bytes_len ht) (And.intro (sameT_refl (okB_iff.1 ht).1) (readRes_back ht HIT.out.1))))
  have HFA := Lib.hid (read_back (okB_iff.1 ht).1 HIT.out.1 (okB_iff.1 ht).2 l)
  have HSB := Lib.hid (fun h' => same_bytes ht HIT.out.1 h' HIT.out.2)
  have HLB := Lib.hid (fun h' => less_bytes ht HIT.out.1 h' HIT.out.2)
  have HOR := Lib.hid (fun h' => order_yes (u := u) ht h')
  have hcat : strL (bytesT t) ++ strL l = strL (bytesT t ++ l) := by
    apply ByteArray.ext
    simp [strL]
  have hbl : (strL (bytesT t)).size ≤ 132608 := by rw [strL_size]; exact HT.out.2.1
  go_wp2_with fail
  refine (Bytes_w u _ _ HY.out.lies HY.out.small).mono ?_
  rintro e w3 ⟨rfl, hb⟩
  obtain ⟨bs, bn, hbv, hby, hbno⟩ : ∃ bs bn, bytesV u = .tuple #[.string bs, .int .i64 bn] ∧ (okB u = true → bs = strL (bytesT u) ∧ bn = 0) ∧ (okB u = false → bn = 2) := by
    cases h : okB u
    · exact ⟨_, _, bytesV_no h, (fun h => by cases h), fun _ => rfl⟩
    · exact ⟨_, _, bytesV_yes h, fun _ => ⟨rfl, rfl⟩, (fun h => by cases h)⟩
  rw [hbv]
  have HBU := Lib.hid (And.intro hby hbno)
  clear hbv hby hbno ht
  replace HX := Lib.hid (HX.out.step hb)
  replace HY := Lib.hid (HY.out.step hb)
  replace HB := Lib.hid (HB.out.trans (hb.mono HB.out.size))
  clear hb e0 e1 e2 e3 e4 f0 f1 f2 f3 f4
  have e0 := HX.out.box.e0
  have f0 := HY.out.box.e0
  have e1 := HX.out.box.e1
  have f1 := HY.out.box.e1
  have e2 := HX.out.box.e2
  have f2 := HY.out.box.e2
  have e3 := HX.out.box.e3
  have f3 := HY.out.box.e3
  have e4 := HX.out.box.e4
  have f4 := HY.out.box.e4
  have HFr := Lib.hid (fun W => Front_w (bytesT t ++ l) W (by have := HT.out.2.1; have := HLen.out; unfold maxLen at *; rw [List.length_append]; omega))
  rw [HFA.out] at HFr
  have HRA := Lib.hid (fun W => Read_w (bytesT t) W (by have := HT.out.2.1; unfold maxLen; omega))
  rw [HT.out.2.2.2] at HRA
  clear HFA
  go_wp2_with fail
  refine (HFr.out _).mono ?_
  rintro e W ⟨hb, v1, rfl, hF⟩
  obtain ⟨A1, cap1, rfl⟩ := hF.cells
  have HZ := Lib.hid (BoxT.new W hF.from (fun _ h => h.2))
  replace HX := Lib.hid ((HX.out.step hb).alloc (.cells #[.int .u8 (t.k : Int), .int .i64 t.n, .string t.s, .slice A1 t.l.length cap1, .int .i64 t.r] 26))
  replace HY := Lib.hid ((HY.out.step hb).alloc (.cells #[.int .u8 (t.k : Int), .int .i64 t.n, .string t.s, .slice A1 t.l.length cap1, .int .i64 t.r] 26))
  replace HB := Lib.hid ((HB.out.trans (hb.mono HB.out.size)).alloc (Nat.le_trans HB.out.size hb.size) (.cells #[.int .u8 (t.k : Int), .int .i64 t.n, .string t.s, .slice A1 t.l.length cap1, .int .i64 t.r] 26))
  clear hb hF HFr hcat e0 e1 e2 e3 e4 f0 f1 f2 f3 f4
  go_wp2_with fail
  refine (HRA.out _).mono ?_
  rintro e W1 ⟨hb, v2, rfl, hF⟩
  obtain ⟨A2, cap2, rfl⟩ := hF.cells
  have HV := Lib.hid (BoxT.new W1 hF.from (fun _ h => h.2))
  replace HZ := Lib.hid ((HZ.out.step hb).alloc (.cells #[.int .u8 (t.k : Int), .int .i64 t.n, .string t.s, .slice A2 t.l.length cap2, .int .i64 t.r] 26))
  replace HX := Lib.hid ((HX.out.step hb).alloc (.cells #[.int .u8 (t.k : Int), .int .i64 t.n, .string t.s, .slice A2 t.l.length cap2, .int .i64 t.r] 26))
  replace HY := Lib.hid ((HY.out.step hb).alloc (.cells #[.int .u8 (t.k : Int), .int .i64 t.n, .string t.s, .slice A2 t.l.length cap2, .int .i64 t.r] 26))
  replace HB := Lib.hid ((HB.out.trans (hb.mono HB.out.size)).alloc (Nat.le_trans HB.out.size hb.size) (.cells #[.int .u8 (t.k : Int), .int .i64 t.n, .string t.s, .slice A2 t.l.length cap2, .int .i64 t.r] 26))
  clear hb hF HRA
  have e0 := HX.out.box.e0
  have f0 := HY.out.box.e0
  have e1 := HX.out.box.e1
  have f1 := HY.out.box.e1
  have e2 := HX.out.box.e2
  have f2 := HY.out.box.e2
  have e3 := HX.out.box.e3
  have f3 := HY.out.box.e3
  have e4 := HX.out.box.e4
  have f4 := HY.out.box.e4
  have g0 := HZ.out.box.e0
  have g1 := HZ.out.box.e1
  have g2 := HZ.out.box.e2
  have g3 := HZ.out.box.e3
  have g4 := HZ.out.box.e4
  have qs : ((strL l).toList != (strL l).toList) = false := bne_self_eq_false _
  go_wp2_with fail
  refine (vSame_w t t _ _ _ HZ.out.lies HX.out.lies HZ.out.small HX.out.small).mono ?_
  rintro e W2 ⟨rfl, hb⟩
  rw [HT.out.2.2.1]
  replace HV := Lib.hid (HV.out.step hb)
  replace HX := Lib.hid (HX.out.step hb)
  replace HY := Lib.hid (HY.out.step hb)
  replace HB := Lib.hid (HB.out.trans (hb.mono HB.out.size))
  clear hb e0 e1 e2 e3 e4 f0 f1 f2 f3 f4
  have e0 := HX.out.box.e0
  have f0 := HY.out.box.e0
  have e1 := HX.out.box.e1
  have f1 := HY.out.box.e1
  have e2 := HX.out.box.e2
  have f2 := HY.out.box.e2
  have e3 := HX.out.box.e3
  have f3 := HY.out.box.e3
  have e4 := HX.out.box.e4
  have f4 := HY.out.box.e4
  clear g0 g1 g2 g3 g4 qs HZ
  have g0 := HV.out.box.e0
  have g1 := HV.out.box.e1
  have g2 := HV.out.box.e2
  have g3 := HV.out.box.e3
  have g4 := HV.out.box.e4
  go_wp2_with fail
  refine (vSame_w t t _ _ _ HV.out.lies HX.out.lies HV.out.small HX.out.small).mono ?_
  rintro e W3 ⟨rfl, hb⟩
  rw [HT.out.2.2.1]
  replace HX := Lib.hid (HX.out.step hb)
  replace HY := Lib.hid (HY.out.step hb)
  replace HB := Lib.hid (HB.out.trans (hb.mono HB.out.size))
  clear hb e0 e1 e2 e3 e4 f0 f1 f2 f3 f4
  have e0 := HX.out.box.e0
  have f0 := HY.out.box.e0
  have e1 := HX.out.box.e1
  have f1 := HY.out.box.e1
  have e2 := HX.out.box.e2
  have f2 := HY.out.box.e2
  have e3 := HX.out.box.e3
  have f3 := HY.out.box.e3
  have e4 := HX.out.box.e4
  have f4 := HY.out.box.e4
  clear g0 g1 g2 g3 g4 HV
  by_cases hu : okB u = true
  case neg =>
    obtain rfl := HBU.out.2 (by simpa using hu)
    clear hu HSB HLB HOR
    rcases HWays.out with ⟨x, hx1, hx2, hx3⟩ | hx1 | hx1
    · have HRd := Lib.hid (fun W => Read_w l W HLen.out)
      rw [hx1] at HRd
      have HBX := Lib.hid (bytesV_yes hx3)
      rw [hx2] at HBX
      go_wp2_with fail
      refine (HRd.out _).mono ?_
      rintro e W ⟨hb, v1, rfl, hF⟩
      obtain ⟨A1, cap1, rfl⟩ := hF.cells
      have HZ := Lib.hid (BoxT.new W hF.from (fun _ h => h.2))
      have HB2 := Lib.hid ((HB.out.trans (hb.mono HB.out.size)).alloc (Nat.le_trans HB.out.size hb.size) (.cells #[.int .u8 (x.k : Int), .int .i64 x.n, .string x.s, .slice A1 x.l.length cap1, .int .i64 x.r] 26))
      clear hb hF HB HRd HX HY e0 e1 e2 e3 e4 f0 f1 f2 f3 f4
      have e0 := HZ.out.box.e0
      have e1 := HZ.out.box.e1
      have e2 := HZ.out.box.e2
      have e3 := HZ.out.box.e3
      have e4 := HZ.out.box.e4
      go_wp2_with fail
      refine (Bytes_w x _ _ HZ.out.lies HZ.out.small).mono ?_
      rintro e W2 ⟨rfl, hb⟩
      rw [HBX.out]
      have HB3 := Lib.hid (HB2.out.trans (hb.mono HB2.out.size))
      clear hb HB2 e0 e1 e2 e3 e4 HZ
      have qs : ((strL l).toList == (strL l).toList) = true := beq_self_eq_true _
      go_wp2_with fail
      refine (awake_w _).mono ?_
      rintro e W3 ⟨rfl, hb⟩
      have HB4 := Lib.hid (HB3.out.trans (hb.mono HB3.out.size))
      clear hb
      go_wp2
      go_ret
      exact ⟨rfl, HB4.out⟩
    all_goals
      have HRd := Lib.hid (fun W => Read_w l W HLen.out)
      rw [hx1] at HRd
      go_wp2_with fail
      refine (HRd.out _).mono ?_
      rintro e W ⟨hb, rfl⟩
      have HB2 := Lib.hid ((HB.out.trans (hb.mono HB.out.size)).alloc (Nat.le_trans HB.out.size hb.size) (.cells #[.int .u8 0, .int .i64 0, .string ⟨#[]⟩, .slice none 0 0, .int .i64 0] 26))
      clear hb HB HRd HX HY e0 e1 e2 e3 e4 f0 f1 f2 f3 f4
      unfold zeroVal
      go_wp2_with fail
      refine (awake_w _).mono ?_
      rintro e W3 ⟨rfl, hb⟩
      have HB4 := Lib.hid (HB2.out.trans (hb.mono HB2.out.size))
      clear hb
      go_wp2
      go_ret
      exact ⟨rfl, HB4.out⟩
  obtain ⟨rfl, rfl⟩ := HBU.out.1 hu
  go_wp2_with fail
  refine (vSame_w t u _ _ _ HX.out.lies HY.out.lies HX.out.small HY.out.small).mono ?_
  rintro e W4 ⟨rfl, hb⟩
  replace HX := Lib.hid (HX.out.step hb)
  replace HY := Lib.hid (HY.out.step hb)
  replace HB := Lib.hid (HB.out.trans (hb.mono HB.out.size))
  clear hb e0 e1 e2 e3 e4 f0 f1 f2 f3 f4
  have e0 := HX.out.box.e0
  have f0 := HY.out.box.e0
  have e1 := HX.out.box.e1
  have f1 := HY.out.box.e1
  have e2 := HX.out.box.e2
  have f2 := HY.out.box.e2
  have e3 := HX.out.box.e3
  have f3 := HY.out.box.e3
  have e4 := HX.out.box.e4
  have f4 := HY.out.box.e4
  have qb := HSB.out hu
  generalize sameT t u = z at *
  have qz : (z != z) = false := bne_self_eq_false _
  by_cases hk : t.k = u.k ∧ (t.k = 1 ∨ t.k = 4)
  case neg =>
    have HK := Lib.hid hk
    clear hk hu HSB HLB HOR
    by_cases k1 : t.k = u.k
    · have p1 : ((t.k : Int) == (u.k : Int)) = true := by rw [k1]; exact beq_self_eq_true _
      have p1' : (t.k == u.k) = true := by rw [k1]; exact beq_self_eq_true _
      have p2 : ((t.k : Int) == 1) = false := by rw [beq_eq_false_iff_ne]; intro h; exact HK.out ⟨k1, .inl (by omega)⟩
      have p2' : (t.k == 1) = false := by rw [beq_eq_false_iff_ne]; intro h; exact HK.out ⟨k1, .inl (by omega)⟩
      have p3 : ((t.k : Int) == 4) = false := by rw [beq_eq_false_iff_ne]; intro h; exact HK.out ⟨k1, .inr (by omega)⟩
      have p3' : (t.k == 4) = false := by rw [beq_eq_false_iff_ne]; intro h; exact HK.out ⟨k1, .inr (by omega)⟩
      have K1 := Lib.hid k1
      clear k1
      rcases HWays.out with ⟨x, hx1, hx2, hx3⟩ | hx1 | hx1
      · have HRd := Lib.hid (fun W => Read_w l W HLen.out)
        rw [hx1] at HRd
        have HBX := Lib.hid (bytesV_yes hx3)
        rw [hx2] at HBX
        go_wp2_with fail
        refine (HRd.out _).mono ?_
        rintro e W ⟨hb, v1, rfl, hF⟩
        obtain ⟨A1, cap1, rfl⟩ := hF.cells
        have HZ := Lib.hid (BoxT.new W hF.from (fun _ h => h.2))
        have HB2 := Lib.hid ((HB.out.trans (hb.mono HB.out.size)).alloc (Nat.le_trans HB.out.size hb.size) (.cells #[.int .u8 (x.k : Int), .int .i64 x.n, .string x.s, .slice A1 x.l.length cap1, .int .i64 x.r] 26))
        clear hb hF HB HRd HX HY e0 e1 e2 e3 e4 f0 f1 f2 f3 f4
        have e0 := HZ.out.box.e0
        have e1 := HZ.out.box.e1
        have e2 := HZ.out.box.e2
        have e3 := HZ.out.box.e3
        have e4 := HZ.out.box.e4
        go_wp2_with fail
        refine (Bytes_w x _ _ HZ.out.lies HZ.out.small).mono ?_
        rintro e W2 ⟨rfl, hb⟩
        rw [HBX.out]
        have HB3 := Lib.hid (HB2.out.trans (hb.mono HB2.out.size))
        clear hb HB2 e0 e1 e2 e3 e4 HZ
        have qs : ((strL l).toList == (strL l).toList) = true := beq_self_eq_true _
        go_wp2_with fail
        refine (awake_w _).mono ?_
        rintro e W3 ⟨rfl, hb⟩
        have HB4 := Lib.hid (HB3.out.trans (hb.mono HB3.out.size))
        clear hb
        go_wp2
        go_ret
        exact ⟨rfl, HB4.out⟩
      all_goals
        have HRd := Lib.hid (fun W => Read_w l W HLen.out)
        rw [hx1] at HRd
        go_wp2_with fail
        refine (HRd.out _).mono ?_
        rintro e W ⟨hb, rfl⟩
        have HB2 := Lib.hid ((HB.out.trans (hb.mono HB.out.size)).alloc (Nat.le_trans HB.out.size hb.size) (.cells #[.int .u8 0, .int .i64 0, .string ⟨#[]⟩, .slice none 0 0, .int .i64 0] 26))
        clear hb HB HRd HX HY e0 e1 e2 e3 e4 f0 f1 f2 f3 f4
        unfold zeroVal
        go_wp2_with fail
        refine (awake_w _).mono ?_
        rintro e W3 ⟨rfl, hb⟩
        have HB4 := Lib.hid (HB2.out.trans (hb.mono HB2.out.size))
        clear hb
        go_wp2
        go_ret
        exact ⟨rfl, HB4.out⟩
    · have p1 : ((t.k : Int) == (u.k : Int)) = false := by rw [beq_eq_false_iff_ne]; omega
      have p1' : (t.k == u.k) = false := by rw [beq_eq_false_iff_ne]; exact k1
      have K1 := Lib.hid k1
      clear k1
      rcases HWays.out with ⟨x, hx1, hx2, hx3⟩ | hx1 | hx1
      · have HRd := Lib.hid (fun W => Read_w l W HLen.out)
        rw [hx1] at HRd
        have HBX := Lib.hid (bytesV_yes hx3)
        rw [hx2] at HBX
        go_wp2_with fail
        refine (HRd.out _).mono ?_
        rintro e W ⟨hb, v1, rfl, hF⟩
        obtain ⟨A1, cap1, rfl⟩ := hF.cells
        have HZ := Lib.hid (BoxT.new W hF.from (fun _ h => h.2))
        have HB2 := Lib.hid ((HB.out.trans (hb.mono HB.out.size)).alloc (Nat.le_trans HB.out.size hb.size) (.cells #[.int .u8 (x.k : Int), .int .i64 x.n, .string x.s, .slice A1 x.l.length cap1, .int .i64 x.r] 26))
        clear hb hF HB HRd HX HY e0 e1 e2 e3 e4 f0 f1 f2 f3 f4
        have e0 := HZ.out.box.e0
        have e1 := HZ.out.box.e1
        have e2 := HZ.out.box.e2
        have e3 := HZ.out.box.e3
        have e4 := HZ.out.box.e4
        go_wp2_with fail
        refine (Bytes_w x _ _ HZ.out.lies HZ.out.small).mono ?_
        rintro e W2 ⟨rfl, hb⟩
        rw [HBX.out]
        have HB3 := Lib.hid (HB2.out.trans (hb.mono HB2.out.size))
        clear hb HB2 e0 e1 e2 e3 e4 HZ
        have qs : ((strL l).toList == (strL l).toList) = true := beq_self_eq_true _
        go_wp2_with fail
        refine (awake_w _).mono ?_
        rintro e W3 ⟨rfl, hb⟩
        have HB4 := Lib.hid (HB3.out.trans (hb.mono HB3.out.size))
        clear hb
        go_wp2
        go_ret
        exact ⟨rfl, HB4.out⟩
      all_goals
        have HRd := Lib.hid (fun W => Read_w l W HLen.out)
        rw [hx1] at HRd
        go_wp2_with fail
        refine (HRd.out _).mono ?_
        rintro e W ⟨hb, rfl⟩
        have HB2 := Lib.hid ((HB.out.trans (hb.mono HB.out.size)).alloc (Nat.le_trans HB.out.size hb.size) (.cells #[.int .u8 0, .int .i64 0, .string ⟨#[]⟩, .slice none 0 0, .int .i64 0] 26))
        clear hb HB HRd HX HY e0 e1 e2 e3 e4 f0 f1 f2 f3 f4
        unfold zeroVal
        go_wp2_with fail
        refine (awake_w _).mono ?_
        rintro e W3 ⟨rfl, hb⟩
        have HB4 := Lib.hid (HB2.out.trans (hb.mono HB2.out.size))
        clear hb
        go_wp2
        go_ret
        exact ⟨rfl, HB4.out⟩
  obtain ⟨k1, k2⟩ := hk
  have ql := HLB.out hu k1 k2
  have ho := HOR.out hu
  have HO := Lib.hid ho
  clear ho HSB HLB HOR hu
  generalize hz : decide (ordT t u < 0) = y at *
  have qy : (y != y) = false := bne_self_eq_false _
  have p1 : ((t.k : Int) == (u.k : Int)) = true := by rw [k1]; exact beq_self_eq_true _
  have p1' : (t.k == u.k) = true := by rw [k1]; exact beq_self_eq_true _
  have HZ2 := Lib.hid hz
  clear hz
  rcases k2 with k2 | k2
  · have p2 : ((t.k : Int) == 1) = true := by rw [k2]; rfl
    have p2' : (t.k == 1) = true := by rw [k2]; rfl
    have K2 := Lib.hid (And.intro k1 k2)
    clear k1 k2
    go_wp2_with fail
    refine (vOrder_w t u _ _ _ HX.out.lies HY.out.lies HX.out.small HY.out.small).mono ?_
    rintro e W5 ⟨rfl, hb⟩
    rw [HO.out]
    replace HX := Lib.hid (HX.out.step hb)
    replace HY := Lib.hid (HY.out.step hb)
    replace HB := Lib.hid (HB.out.trans (hb.mono HB.out.size))
    clear hb e0 e1 e2 e3 e4 f0 f1 f2 f3 f4
    have e0 := HX.out.box.e0
    have f0 := HY.out.box.e0
    have e1 := HX.out.box.e1
    have f1 := HY.out.box.e1
    have e2 := HX.out.box.e2
    have f2 := HY.out.box.e2
    have e3 := HX.out.box.e3
    have f3 := HY.out.box.e3
    have e4 := HX.out.box.e4
    have f4 := HY.out.box.e4
    have hz := HZ2.out
    rcases HWays.out with ⟨x, hx1, hx2, hx3⟩ | hx1 | hx1
    · have HRd := Lib.hid (fun W => Read_w l W HLen.out)
      rw [hx1] at HRd
      have HBX := Lib.hid (bytesV_yes hx3)
      rw [hx2] at HBX
      go_wp2_with fail
      refine (HRd.out _).mono ?_
      rintro e W ⟨hb, v1, rfl, hF⟩
      obtain ⟨A1, cap1, rfl⟩ := hF.cells
      have HZ := Lib.hid (BoxT.new W hF.from (fun _ h => h.2))
      have HB2 := Lib.hid ((HB.out.trans (hb.mono HB.out.size)).alloc (Nat.le_trans HB.out.size hb.size) (.cells #[.int .u8 (x.k : Int), .int .i64 x.n, .string x.s, .slice A1 x.l.length cap1, .int .i64 x.r] 26))
      clear hb hF HB HRd HX HY e0 e1 e2 e3 e4 f0 f1 f2 f3 f4
      have e0 := HZ.out.box.e0
      have e1 := HZ.out.box.e1
      have e2 := HZ.out.box.e2
      have e3 := HZ.out.box.e3
      have e4 := HZ.out.box.e4
      go_wp2_with fail
      refine (Bytes_w x _ _ HZ.out.lies HZ.out.small).mono ?_
      rintro e W2 ⟨rfl, hb⟩
      rw [HBX.out]
      have HB3 := Lib.hid (HB2.out.trans (hb.mono HB2.out.size))
      clear hb HB2 e0 e1 e2 e3 e4 HZ
      have qs : ((strL l).toList == (strL l).toList) = true := beq_self_eq_true _
      go_wp2_with fail
      refine (awake_w _).mono ?_
      rintro e W3 ⟨rfl, hb⟩
      have HB4 := Lib.hid (HB3.out.trans (hb.mono HB3.out.size))
      clear hb
      go_wp2
      go_ret
      exact ⟨rfl, HB4.out⟩
    all_goals
      have HRd := Lib.hid (fun W => Read_w l W HLen.out)
      rw [hx1] at HRd
      go_wp2_with fail
      refine (HRd.out _).mono ?_
      rintro e W ⟨hb, rfl⟩
      have HB2 := Lib.hid ((HB.out.trans (hb.mono HB.out.size)).alloc (Nat.le_trans HB.out.size hb.size) (.cells #[.int .u8 0, .int .i64 0, .string ⟨#[]⟩, .slice none 0 0, .int .i64 0] 26))
      clear hb HB HRd HX HY e0 e1 e2 e3 e4 f0 f1 f2 f3 f4
      unfold zeroVal
      go_wp2_with fail
      refine (awake_w _).mono ?_
      rintro e W3 ⟨rfl, hb⟩
      have HB4 := Lib.hid (HB2.out.trans (hb.mono HB2.out.size))
      clear hb
      go_wp2
      go_ret
      exact ⟨rfl, HB4.out⟩
  · have p2 : ((t.k : Int) == 1) = false := by rw [k2]; rfl
    have p2' : (t.k == 1) = false := by rw [k2]; rfl
    have p3 : ((t.k : Int) == 4) = true := by rw [k2]; rfl
    have p3' : (t.k == 4) = true := by rw [k2]; rfl
    have K2 := Lib.hid (And.intro k1 k2)
    clear k1 k2
    go_wp2_with fail
    refine (vOrder_w t u _ _ _ HX.out.lies HY.out.lies HX.out.small HY.out.small).mono ?_
    rintro e W5 ⟨rfl, hb⟩
    rw [HO.out]
    replace HX := Lib.hid (HX.out.step hb)
    replace HY := Lib.hid (HY.out.step hb)
    replace HB := Lib.hid (HB.out.trans (hb.mono HB.out.size))
    clear hb e0 e1 e2 e3 e4 f0 f1 f2 f3 f4
    have e0 := HX.out.box.e0
    have f0 := HY.out.box.e0
    have e1 := HX.out.box.e1
    have f1 := HY.out.box.e1
    have e2 := HX.out.box.e2
    have f2 := HY.out.box.e2
    have e3 := HX.out.box.e3
    have f3 := HY.out.box.e3
    have e4 := HX.out.box.e4
    have f4 := HY.out.box.e4
    have hz := HZ2.out
    rcases HWays.out with ⟨x, hx1, hx2, hx3⟩ | hx1 | hx1
    · have HRd := Lib.hid (fun W => Read_w l W HLen.out)
      rw [hx1] at HRd
      have HBX := Lib.hid (bytesV_yes hx3)
      rw [hx2] at HBX
      go_wp2_with fail
      refine (HRd.out _).mono ?_
      rintro e W ⟨hb, v1, rfl, hF⟩
      obtain ⟨A1, cap1, rfl⟩ := hF.cells
      have HZ := Lib.hid (BoxT.new W hF.from (fun _ h => h.2))
      have HB2 := Lib.hid ((HB.out.trans (hb.mono HB.out.size)).alloc (Nat.le_trans HB.out.size hb.size) (.cells #[.int .u8 (x.k : Int), .int .i64 x.n, .string x.s, .slice A1 x.l.length cap1, .int .i64 x.r] 26))
      clear hb hF HB HRd HX HY e0 e1 e2 e3 e4 f0 f1 f2 f3 f4
      have e0 := HZ.out.box.e0
      have e1 := HZ.out.box.e1
      have e2 := HZ.out.box.e2
      have e3 := HZ.out.box.e3
      have e4 := HZ.out.box.e4
      go_wp2_with fail
      refine (Bytes_w x _ _ HZ.out.lies HZ.out.small).mono ?_
      rintro e W2 ⟨rfl, hb⟩
      rw [HBX.out]
      have HB3 := Lib.hid (HB2.out.trans (hb.mono HB2.out.size))
      clear hb HB2 e0 e1 e2 e3 e4 HZ
      have qs : ((strL l).toList == (strL l).toList) = true := beq_self_eq_true _
      go_wp2_with fail
      refine (awake_w _).mono ?_
      rintro e W3 ⟨rfl, hb⟩
      have HB4 := Lib.hid (HB3.out.trans (hb.mono HB3.out.size))
      clear hb
      go_wp2
      go_ret
      exact ⟨rfl, HB4.out⟩
    all_goals
      have HRd := Lib.hid (fun W => Read_w l W HLen.out)
      rw [hx1] at HRd
      go_wp2_with fail
      refine (HRd.out _).mono ?_
      rintro e W ⟨hb, rfl⟩
      have HB2 := Lib.hid ((HB.out.trans (hb.mono HB.out.size)).alloc (Nat.le_trans HB.out.size hb.size) (.cells #[.int .u8 0, .int .i64 0, .string ⟨#[]⟩, .slice none 0 0, .int .i64 0] 26))
      clear hb HB HRd HX HY e0 e1 e2 e3 e4 f0 f1 f2 f3 f4
      unfold zeroVal
      go_wp2_with fail
      refine (awake_w _).mono ?_
      rintro e W3 ⟨rfl, hb⟩
      have HB4 := Lib.hid (HB2.out.trans (hb.mono HB2.out.size))
      clear hb
      go_wp2
      go_ret
      exact ⟨rfl, HB4.out⟩
end Go.Proofs.Ytckgmdlacaiacaa
