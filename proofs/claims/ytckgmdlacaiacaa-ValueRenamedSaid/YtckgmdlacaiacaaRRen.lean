/-
  posternref02.renamed.
-/
import Derived.Test.YtckgmdlacaiacaaRRen0
namespace Go.Proofs.Ytckgmdlacaiacaa
open Go.RowKit Go.Shelf
attribute [local go_sem] Oper.semAt_some

/-- What renamed leaves. -/
def RrPost (w : World) (res : Option VT) (e : Ending) (W : World) : Prop :=
  Below w.heap.size w W ∧ match res with
    | none => e = .returned (.tuple #[zeroVal, .bool false])
    | some u => ∃ v', e = .returned (.tuple #[v', .bool true]) ∧ LiesN w W u v'
theorem LiesN.alloc {w W : World} {t : VT} {v : Value} (h : LiesN w W t v) (o : Obj) : LiesN w (W.alloc o) t v :=
  Lies.same (fun b hb => ⟨hb.1, by rw [World.size_alloc]; omega⟩) (fun b hb => heap_alloc_old W o hb.2) t v h
theorem lookF_end {fr to : List Int} {j : Nat} (h : ¬ j < fr.length) (r : Int) : lookF (fr.drop j) (to.drop j) r = none := by
  rw [List.drop_of_length_le (by omega)]; rfl

theorem liesN_flat4 {w W : World} {n y : Int} {s : ByteArray} {l : List VT} {A : Option Addr} {cap : Nat} (h : l = []) (hb : Bnd 4 n s y l.length) (hc : cap ≤ maxLen) : LiesN w W (.mk 4 n s y l) (.agg #[.int .u8 4, .int .i64 n, .string s, .slice A l.length cap, .int .i64 y]) := by
  subst h
  exact ⟨A, cap, rfl, hb, Nat.zero_le _, hc, trivial, fun e => by cases e⟩
theorem Five.drewN {W : World} {B : Nat} {c0 c1 c2 c3 c4 : Value} (h : Five W B c0 c1 c2 c3 c4) (n : Nat) : Five (W.drewN n) B c0 c1 c2 c3 c4 := ⟨(heap_drewN W n B).trans h.row⟩
set_option maxRecDepth 100000 in
set_option maxHeartbeats 8000000 in
theorem rrenamed_w (p : Nat → Prop) (m : Bool) (fr to : List Int) (FA TA : Option Addr) (fc tc B : Nat) (hlen : fr.length = to.length) (hfl : fr.length ≤ 4294967295) (ht64 : In64 to) : ∀ (t : VT) (v : Value) (w : World), Lies w p m t v → (∀ b, p b → b < w.heap.size) → t.good = true → t.parts ≤ 4294967295 → IntsAt w B FA fr → IntsAt w B TA to → B ≤ w.heap.size →
    Calls Try.prog 77 #[v, .slice FA fr.length fc, .slice TA to.length tc] w (RrPost w (renT (lookF fr to) t)) := by
  refine VT.ind fun k n s r l ih v w h hpw hg hparts hfr hto hBw => ?_
  have hbnd := h.bnd
  obtain ⟨A, cap, rfl, ⟨hk, hn, hr, hs, hl⟩, hlc, hcm, hL, _⟩ := h
  have hpar : VT.parts (.mk k n s r l) = 1 + VT.partsL l := rfl
  have hplen := VT.partsL_len l
  obtain ⟨hprop, hgl⟩ := good_text hg
  have HPW := Lib.hid hpw
  have HL := Lib.hid hL
  have IH := Lib.hid ih
  have HBN := Lib.hid hbnd
  have HI := Lib.hid (And.intro hfr hto)
  have HG := Lib.hid (And.intro hprop (And.intro (goodL_mem hgl) hcm))
  have hlen9 : l.length ≤ 4294967294 := by omega
  have HPar := Lib.hid (show VT.partsL l ≤ 4294967294 by omega)
  have HLen := Lib.hid hlen
  have HT64 := Lib.hid ht64
  clear hL ih hpw hbnd hlc hcm hfr hto hg hprop hgl hparts hpar hplen hlen ht64
  have X0 := (((Five.new w (.int .u8 (k : Int)) (.int .i64 n) (.string s) (.slice A l.length cap) (.int .i64 r)).alloc (.cells #[.int .u8 0, .int .i64 0, .string ⟨#[]⟩, .slice none 0 0, .int .i64 0] 26)).alloc (.cells #[.int .u8 (k : Int), .int .i64 n, .string s, .slice A l.length cap, .int .i64 r] 26))
  have X1 := (Five.new (w.alloc (.cells #[.int .u8 (k : Int), .int .i64 n, .string s, .slice A l.length cap, .int .i64 r] 26)) (.int .u8 0) (.int .i64 0) (.string ⟨#[]⟩) (.slice none 0 0) (.int .i64 0)).alloc (.cells #[.int .u8 (k : Int), .int .i64 n, .string s, .slice A l.length cap, .int .i64 r] 26)
  have X2 := Five.new ((w.alloc (.cells #[.int .u8 (k : Int), .int .i64 n, .string s, .slice A l.length cap, .int .i64 r] 26)).alloc (.cells #[.int .u8 0, .int .i64 0, .string ⟨#[]⟩, .slice none 0 0, .int .i64 0] 26)) (.int .u8 (k : Int)) (.int .i64 n) (.string s) (.slice A l.length cap) (.int .i64 r)
  rw [World.size_alloc] at X1
  rw [World.size_alloc, World.size_alloc] at X2
  have hb0 := (((Below.refl w.heap.size w).alloc (Nat.le_refl _) (.cells #[.int .u8 (k : Int), .int .i64 n, .string s, .slice A l.length cap, .int .i64 r] 26)).alloc (by simp) (.cells #[.int .u8 0, .int .i64 0, .string ⟨#[]⟩, .slice none 0 0, .int .i64 0] 26)).alloc (by simp; omega) (.cells #[.int .u8 (k : Int), .int .i64 n, .string s, .slice A l.length cap, .int .i64 r] 26)
  have HX := Lib.hid (And.intro X0 (And.intro X1 (And.intro X2 hb0)))
  clear X0 X1 X2 hb0
  by_cases hk4 : k = 4
  · subst hk4
    have HRen := Lib.hid (show renT (lookF fr to) (.mk 4 n s r l) = (lookF fr to r).map (fun x => .mk 4 n s x l) by rw [renT, if_pos rfl])
    have hlz : l = [] := partsL_zero HG.out.1 (by decide)
    have HLZ := Lib.hid hlz
    clear hlz
    generalize renT (lookF fr to) (.mk 4 n s r l) = res at *
    go_enter Try.func77, Try.ntmps77
    have HX4 := Lib.hid (show lookF fr to r = lookF (fr.drop 0) (to.drop 0) r ∧ Five (((w.alloc (.cells #[.int .u8 4, .int .i64 n, .string s, .slice A l.length cap, .int .i64 r] 26)).alloc (.cells #[.int .u8 0, .int .i64 0, .string ⟨#[]⟩, .slice none 0 0, .int .i64 0] 26)).alloc (.cells #[.int .u8 4, .int .i64 n, .string s, .slice A l.length cap, .int .i64 r] 26)) w.heap.size (.int .u8 4) (.int .i64 n) (.string s) (.slice A l.length cap) (.int .i64 r) ∧ _ from ⟨rfl, HX.out⟩)
    clear HX
    go_wp2
    go_loopw [9] (fun iv wr => ∃ j : Nat, j ≤ fr.length ∧ iv = .int .i64 (j : Int) ∧ lookF fr to r = lookF (fr.drop j) (to.drop j) r ∧ Five wr w.heap.size (.int .u8 4) (.int .i64 n) (.string s) (.slice A l.length cap) (.int .i64 r) ∧ Five wr (w.heap.size + 1) (.int .u8 0) (.int .i64 0) (.string ⟨#[]⟩) (.slice none 0 0) (.int .i64 0) ∧ Five wr (w.heap.size + 1 + 1) (.int .u8 4) (.int .i64 n) (.string s) (.slice A l.length cap) (.int .i64 r) ∧ Below w.heap.size w wr) (fun iv _ => fr.length - (intOf iv).toNat)
    case atStart => exact ⟨0, Nat.zero_le _, rfl, HX4.out⟩
    case round =>
      obtain ⟨j, hj, rfl, hlook, hX, hY, hZ, hB⟩ := hrel
      have e4 := hX.e4
      by_cases hlt : j < fr.length
      · obtain ⟨ga, offa, rfl, hga, hca⟩ := HI.out.1 j hlt
        obtain ⟨gb, offb, rfl, hgb, hcb⟩ := HI.out.2 j (by have := HLen.out; omega)
        have ca := (World.cell?_of_block (w := w) (a := ⟨ga, offa + j, none⟩) (hB.block ga (by omega))).trans hca
        have cb := (World.cell?_of_block (w := w) (a := ⟨gb, offb + j, none⟩) (hB.block gb (by omega))).trans hcb
        have HLD := Lib.hid (hlook.trans (lookF_drop (fr := fr) (to := to) (j := j) hlt (by have := HLen.out; omega) r))
        have hjt : j < to.length := by have := HLen.out; omega
        have hx64 := HT64.out _ (List.getElem_mem hjt)
        have hjI : (j : Int) < (fr.length : Int) := by omega
        have hjI2 : (j : Int) < (to.length : Int) := by omega
        have hj0 : (0 : Int) ≤ (j : Int) := by omega
        have HJ := Lib.hid (And.intro hX (And.intro hY (And.intro hZ (And.intro hB hx64))))
        clear hlook hX hY hB hca hcb hx64 HX4
        generalize fr[j] = x at *
        generalize to[j] = y at *
        by_cases e : x = r
        · have q1 : (x == r) = true := by rw [beq_iff_eq]; exact e
          have HE := Lib.hid e
          clear e
          have o0 := hZ.e0
          have o1 := hZ.e1
          have o2 := hZ.e2
          have o3 := hZ.e3
          have o4 := hZ.e4
          have oz := hZ.froz 4
          have y0 := HJ.out.2.1.e0
          have y1 := HJ.out.2.1.e1
          have y2 := HJ.out.2.1.e2
          have y3 := HJ.out.2.1.e3
          have y4 := HJ.out.2.1.e4
          have yz0 := HJ.out.2.1.froz 0
          have yz1 := HJ.out.2.1.froz 1
          have yz2 := HJ.out.2.1.froz 2
          have yz3 := HJ.out.2.1.froz 3
          have yz4 := HJ.out.2.1.froz 4
          clear hZ
          go_wp2
          go_quiet (fail)
          go_wp2
          refine ret_five2 (B := w.heap.size + 1) rfl (((HJ.out.2.1.drewN nq).other (by simp) _).set5 _ _ _ _ _) rfl rfl ?_
          rw [HRen.out, HLD.out, if_pos HE.out]
          have hbn := HBN.out
          exact ⟨below_set5 ((below_drewN HJ.out.2.2.2.1 nq).setCell (p := ⟨w.heap.size + 1 + 1, 4, none⟩) (by simp; omega) _) (by omega) _ _ _ _ _, _, rfl, liesN_flat4 HLZ.out ⟨hbn.k, hbn.n, HJ.out.2.2.2.2, hbn.s, hbn.len⟩ HG.out.2.2⟩
        · have q1 : (x == r) = false := by rw [beq_eq_false_iff_ne]; exact e
          have HE := Lib.hid e
          clear e hZ
          go_wp2
          go_quiet (fail)
          go_wp2
          go_roundw
          case rel => exact ⟨j + 1, by omega, by go_num, HLD.out.trans (if_neg HE.out), HJ.out.1.drewN nq, HJ.out.2.1.drewN nq, HJ.out.2.2.1.drewN nq, below_drewN HJ.out.2.2.2.1 nq⟩
          case measure => simp [intOf]; omega
      · have HV := Lib.hid (HRen.out.trans (congrArg (Option.map _) (hlook.trans (lookF_end hlt r))))
        have HJ := Lib.hid (And.intro hY hB)
        have hyl := hY.lt
        have y0 := hY.e0
        have y1 := hY.e1
        have y2 := hY.e2
        have y3 := hY.e3
        have y4 := hY.e4
        have yz0 := hY.froz 0
        have yz1 := hY.froz 1
        have yz2 := hY.froz 2
        have yz3 := hY.froz 3
        have yz4 := hY.froz 4
        obtain rfl : j = fr.length := by omega
        clear hX hY hZ hB hlook e4
        go_wp2
        refine ret_five2 (B := w.heap.size + 1) rfl (HJ.out.1.set5 _ _ _ _ _) rfl rfl ?_
        rw [HV.out]
        exact ⟨below_set5 HJ.out.2 (by omega) _ _ _ _ _, rfl⟩
  · have q1 : ((k : Int) == 4) = false := by rw [beq_eq_false_iff_ne]; omega
    have q1' : (k == 4) = false := by rw [beq_eq_false_iff_ne]; exact hk4
    have HRen := Lib.hid (show renT (lookF fr to) (.mk k n s r l) = (renL (lookF fr to) l).map (fun l' => .mk k n s r l') by rw [renT, if_neg hk4])
    generalize renT (lookF fr to) (.mk k n s r l) = res at *
    obtain ⟨i0, hi, hz0, hz1, hz2⟩ := info_parts infoV
    have HST := Lib.hid (rrRun_start k n s r l.length A cap w)
    clear hk4 HX
    go_enter Try.func77, Try.ntmps77
    go_wp2
    go_loopw [10] (fun iv wr => ∃ (j : Nat) (us : List VT) (lv : Value), j ≤ l.length ∧ us.length = j ∧ iv = .int .i64 (j : Int) ∧ renL (lookF fr to) (l.take j) = some us ∧ RrRun k n s r l.length A cap w us lv wr) (fun iv _ => l.length - (intOf iv).toNat)
    case atStart => exact ⟨0, [], _, Nat.zero_le _, rfl, rfl, by rw [List.take_zero]; rfl, HST.out⟩
    case round =>
      obtain ⟨j, us, lv, hj, hus, rfl, hren, hrun⟩ := hrel
      clear HST
      have X3 := hrun.box.e3
      have hsz := hrun.below.size
      by_cases hlt : j < l.length
      · obtain ⟨b, off, A', cap', rfl, hbt, hrow, hLj⟩ := HL.out.elem j hlt
        obtain ⟨g0, g1, g2, g3, g4⟩ := (hrow.same (hrun.below.block b (HPW.out b hbt))).get
        obtain ⟨xs, hown, hrows⟩ := hrun.own
        obtain ⟨lA, lc, rfl⟩ := la_shape hown
        have HH := Lib.hid (IH.out l[j] (List.getElem_mem hlt) _ wr (hLj.below hrun.below HPW.out) (fun b hb => Nat.lt_of_lt_of_le (HPW.out b hb) hsz) (HG.out.2.1 _ (List.getElem_mem hlt)) (Nat.le_trans (VT.parts_le hlt) (by have := HPar.out; omega)) (HI.out.1.below hrun.below hBw) (HI.out.2.below hrun.below hBw) (by omega))
        have HRS := Lib.hid (renL_step hlt hren)
        have HR := Lib.hid (And.intro hrun (And.intro hown (And.intro hrows hus)))
        have hosz := hrun.out.lt
        clear hrun hrow hLj hown hrows hren hus
        generalize renT (lookF fr to) l[j] = rj at *
        go_wp2_with fail
        refine HH.out.mono ?_
        rintro e w1 ⟨hb, hres⟩
        cases rj with
        | none =>
          obtain rfl := hres
          have Y := (HR.out.1.res.below hb (by omega)).alloc (.cells #[.int .u8 0, .int .i64 0, .string ⟨#[]⟩, .slice none 0 0, .int .i64 0] 26)
          have HY := Lib.hid Y
          have HBW := Lib.hid ((HR.out.1.below.trans (hb.mono hsz)).alloc (Nat.le_trans hsz hb.size) (.cells #[.int .u8 0, .int .i64 0, .string ⟨#[]⟩, .slice none 0 0, .int .i64 0] 26))
          have HV := Lib.hid (HRen.out.trans (congrArg (Option.map _) (HRS.out.2 rfl)))
          have hyl := Y.lt
          have y0 := Y.e0
          have y1 := Y.e1
          have y2 := Y.e2
          have y3 := Y.e3
          have y4 := Y.e4
          have yz0 := Y.froz 0
          have yz1 := Y.froz 1
          have yz2 := Y.froz 2
          have yz3 := Y.froz 3
          have yz4 := Y.froz 4
          clear Y hb HH g0 g1 g2 g3 g4 X3
          unfold zeroVal
          go_wp2
          refine ret_five2 (B := w.heap.size + 1) rfl (HY.out.set5 _ _ _ _ _) rfl rfl ?_
          rw [HV.out]
          exact ⟨below_set5 HBW.out (by omega) _ _ _ _ _, rfl⟩
        | some u =>
          obtain ⟨v', rfl, hF⟩ := hres
          obtain ⟨A2, cap2, rfl⟩ := hF.cells
          have hb2 := hb.alloc hb.size (.cells #[.int .u8 (u.k : Int), .int .i64 u.n, .string u.s, .slice A2 u.l.length cap2, .int .i64 u.r] 26)
          have O := (HR.out.1.out.below hb (by omega)).alloc (.cells #[.int .u8 (u.k : Int), .int .i64 u.n, .string u.s, .slice A2 u.l.length cap2, .int .i64 u.r] 26)
          have HO := Lib.hid O
          have o3 := O.e3
          have HF := Lib.hid (And.intro (hF.alloc (.cells #[.int .u8 (u.k : Int), .int .i64 u.n, .string u.s, .slice A2 u.l.length cap2, .int .i64 u.r] 26)) hb2)
          have hus := HR.out.2.2.2
          have hs1 := hb.size
          clear O hb hb2 hF HH g0 g1 g2 g3 g4 X3
          subst hus
          go_wp2_with (at_builtin; refine wpList_append_own_at _ rfl (.tmp 60) (.tmp 62) 23 rfl (w.heap.size + 1 + 1 + 1) 26 i0 (.agg #[.int .u8 0, .int .i64 0, .string ⟨#[]⟩, .slice none 0 0, .int .i64 0]) 5 64 Try.underlying23 hi hz0 hz1 hz2 rfl (by decide) _ _ _ rfl ((owns_below HR.out.2.1 HF.out.2).alloc _) ⟨_, 0, none⟩ 1 1 [.int .u8 (u.k : Int), .int .i64 u.n, .string u.s, .slice A2 u.l.length cap2, .int .i64 u.r] rfl rfl (five_cell _ (by simp)) (by simp [Value.oneCell']) (by unfold maxLen; omega) (by omega) (by simp; omega) ?_; intro v2 w2 h1 h2 h3 h4; clear h3; obtain ⟨g2, cp2, rfl⟩ := owns_form h1 (by omega); have b5 := ro_box HR.out.1.out (by omega) HR.out.2.1 HF.out.2 h2; have m3 := b5.e3; have z3 := b5.froz 3; have mlt := b5.lt; have HK := Lib.hid (And.intro h1 (And.intro h2 h4)); clear b5 h1 h2 h4)
          have HN := Lib.hid (RrRun.step HR.out.1 HR.out.2.1 HR.out.2.2.1 HF.out.2 HF.out.1 HK.out.1 HK.out.2.1 HK.out.2.2)
          go_roundw
          case rel => exact ⟨us.length + 1, us ++ [u], _, by omega, by simp, by go_num, HRS.out.1 u rfl, HN.out⟩
          case measure => simp [intOf]; omega
      · obtain rfl : j = l.length := by omega
        obtain ⟨xs, hown, hrows⟩ := hrun.own
        obtain ⟨lA, lc, rfl⟩ := la_shape hown
        rw [List.take_length] at hren
        have HV := Lib.hid (HRen.out.trans (congrArg (Option.map _) hren))
        have HR := Lib.hid hrun
        have u0 := hrun.out.e0
        have u1 := hrun.out.e1
        have u2 := hrun.out.e2
        have u3 := hrun.out.e3
        have u4 := hrun.out.e4
        have y0 := hrun.res.e0
        have y1 := hrun.res.e1
        have y2 := hrun.res.e2
        have y3 := hrun.res.e3
        have y4 := hrun.res.e4
        have yz0 := hrun.res.froz 0
        have yz1 := hrun.res.froz 1
        have yz2 := hrun.res.froz 2
        have yz3 := hrun.res.froz 3
        have yz4 := hrun.res.froz 4
        have HU := Lib.hid hus
        clear hrun hown hrows hren hus
        go_wp2
        refine ret_five2 (B := w.heap.size + 1) rfl (HR.out.res.set5 _ _ _ _ _) rfl rfl ?_
        rw [HV.out]
        have hbn := HBN.out
        exact ⟨below_set5 HR.out.below (by omega) _ _ _ _ _, _, rfl, HR.out.done (by rw [HU.out]; exact hbn) _ _ _ _ _⟩
end Go.Proofs.Ytckgmdlacaiacaa
