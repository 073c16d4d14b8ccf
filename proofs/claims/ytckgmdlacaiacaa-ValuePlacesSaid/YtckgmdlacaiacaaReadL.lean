/-
  value.readList, value.read.
-/
import Derived.Test.YtckgmdlacaiacaaReadL0
namespace Go.Proofs.Ytckgmdlacaiacaa
open Go.RowKit Go.Shelf
attribute [local go_sem] Oper.semAt_some

theorem five_cell (w : World) {a b c d e : Value} {t : TypeId} {B : Nat} (hB : B = w.heap.size) : ∀ j u, ([a, b, c, d, e] : List Value)[j]? = some u → (w.alloc (.cells #[a, b, c, d, e] t)).cell? ((⟨B, 0, none⟩ : Addr).add j) = some u := by
  subst hB
  intro j u hu
  have h := heap_alloc_new w (.cells #[a, b, c, d, e] t)
  rcases j with _ | j
  · show (w.alloc (.cells #[a, b, c, d, e] t)).cell? ⟨w.heap.size, 0, none⟩ = some u
    simp only [World.cell?, h]
    simpa using hu
  rcases j with _ | j
  · show (w.alloc (.cells #[a, b, c, d, e] t)).cell? ⟨w.heap.size, 1, none⟩ = some u
    simp only [World.cell?, h]
    simpa using hu
  rcases j with _ | j
  · show (w.alloc (.cells #[a, b, c, d, e] t)).cell? ⟨w.heap.size, 2, none⟩ = some u
    simp only [World.cell?, h]
    simpa using hu
  rcases j with _ | j
  · show (w.alloc (.cells #[a, b, c, d, e] t)).cell? ⟨w.heap.size, 3, none⟩ = some u
    simp only [World.cell?, h]
    simpa using hu
  rcases j with _ | j
  · show (w.alloc (.cells #[a, b, c, d, e] t)).cell? ⟨w.heap.size, 4, none⟩ = some u
    simp only [World.cell?, h]
    simpa using hu
  simp at hu

set_option maxRecDepth 100000 in
set_option maxHeartbeats 8000000 in
theorem readList_w (cb nest : Nat)
    (HR : ∀ (left : Nat) s w, Left w cb s → s.length ≤ maxLen → left ≤ 512 → Calls Try.prog 81 #[.func (.func 80) #[] #[.pointer (some ⟨cb, 0, none⟩)], .int .i64 (left : Int), .int .i64 (nest : Int)] w (ReadPost w cb (readT nest left s)))
    (left : Nat) (s : List UInt8) (w : World) (h : Left w cb s) (hs : s.length ≤ maxLen) (hl1 : 1 ≤ left) (hleft : left ≤ 512) (hnest : nest ≤ 16) :
    Calls Try.prog 93 #[.func (.func 80) #[] #[.pointer (some ⟨cb, 0, none⟩)], .int .i64 (left : Int), .int .i64 (nest + 1 : Int)] w (ReadPost w cb (readBody (readT nest) left s)) := by
  have hcb := h.lt
  obtain ⟨i0, hi, hz0, hz1, hz2⟩ := info_parts infoV
  have X0 := Five.new w (.int .u8 0) (.int .i64 0) (.string ⟨#[]⟩) (.slice none 0 0) (.int .i64 0)
  have hne : w.heap.size ≠ cb := by omega
  have C0 : Chg [cb] w (w.alloc (.cells #[.int .u8 0, .int .i64 0, .string ⟨#[]⟩, .slice none 0 0, .int .i64 0] 26)) := Chg.of_below ((Below.refl _ w).alloc (Nat.le_refl _) _)
  have HC0 := Lib.hid C0
  have hL0 := h.alloc (.cells #[.int .u8 0, .int .i64 0, .string ⟨#[]⟩, .slice none 0 0, .int .i64 0] 26)
  have HX0 := Lib.hid X0
  have HRd := Lib.hid HR
  have HS := Lib.hid hs
  obtain ⟨R, hR⟩ : ∃ R, readBody (readT nest) left s = R := ⟨_, rfl⟩
  have q1 : decide ((nest : Int) + 1 < 1) = false := decide_eq_false (by omega)
  rw [hR]
  by_cases h1 : 2 ≤ s.length
  rotate_left
  · have hR2 := Lib.hid (show R = none by rw [← hR]; exact if_neg (fun e => h1 e.1))
    have H := Lib.hid (wide_no_w 2 s cb _ hL0 hs h1)
    have f0 := X0.e0
    have f1 := X0.e1
    have f2 := X0.e2
    have f3 := X0.e3
    have f4 := X0.e4
    clear h C0 hL0 X0 hR h1 HR
    go_enter Try.func93, Try.ntmps93
    go_wp2_with fail
    refine H.out.mono ?_
    rintro e w' ⟨rfl, rfl⟩
    go_wp2
    refine ret_five3 (B := w.heap.size) rfl HX0.out rfl rfl rfl ?_
    rw [hR2.out]
    exact ⟨HC0.out, rfl⟩
  have hx : numL (s.take 2) < 65536 := by
    have := numL_lt 2 (s.take 2) (by rw [List.length_take]; omega)
    omega
  have H := Lib.hid (wide_w 2 s cb _ hL0 (by decide) hs h1)
  have HR1 : Hid (R = if numL (s.take 2) ≤ left - 1 then (match readMany (readT nest) (numL (s.take 2)) (left - 1) (s.drop 2) with
      | none => none
      | some (l, r) => some (.mk 3 0 ⟨#[]⟩ 0 l, r)) else none) := by
    refine Lib.hid (hR.symm.trans ?_)
    by_cases h9 : numL (s.take 2) ≤ left - 1
    · rw [if_pos h9]
      exact if_pos ⟨h1, h9⟩
    · rw [if_neg h9]
      exact if_neg (fun e => h9 e.2)
  have HS1 := Lib.hid (show (s.drop 2).length ≤ maxLen by rw [List.length_drop]; omega)
  generalize numL (s.take 2) = n at *
  generalize s.drop 2 = s1 at *
  by_cases h2 : n ≤ left - 1
  rotate_left
  · have hR2 := Lib.hid (HR1.out.trans (if_neg h2))
    have q2 : decide ((left : Int) - 1 < (n : Int)) = true := decide_eq_true (by omega)
    clear h C0 hL0 X0 hR h1 HR
    go_enter Try.func93, Try.ntmps93
    go_wp2_with fail
    refine H.out.mono ?_
    rintro e w1 ⟨rfl, hL1, hC1⟩
    have X1 := HX0.out.chg1 hC1 hne
    have f0 := X1.e0
    have f1 := X1.e1
    have f2 := X1.e2
    have f3 := X1.e3
    have f4 := X1.e4
    have z0 := X1.froz
    have HX1 := Lib.hid X1
    have HC1 := Lib.hid (HC0.out.trans hC1)
    clear X1 hC1 hL1
    go_wp2
    refine ret_five3 (B := w.heap.size) rfl (HX1.out.set5 _ _ _ _ _) rfl rfl rfl ?_
    rw [hR2.out]
    exact ⟨chg_set5 HC1.out (Nat.le_refl _) _ _ _ _ _, rfl⟩
  have HR2 := Lib.hid (HR1.out.trans (if_pos h2))
  have q2 : decide ((left : Int) - 1 < (n : Int)) = false := decide_eq_false (by omega)
  clear h C0 hL0 X0 hR h1 HR HR1
  go_enter Try.func93, Try.ntmps93
  go_wp2_with fail
  refine H.out.mono ?_
  rintro e w1 ⟨rfl, hL1, hC1⟩
  have X1 := HX0.out.chg1 hC1 hne
  have f0 := X1.e0
  have f1 := X1.e1
  have f2 := X1.e2
  have f3 := X1.e3
  have f4 := X1.e4
  have z0 := X1.froz
  have hXB := X1.lt
  have HST : Hid (RdRun cb w [] s1 (.slice none 0 0) (w1.setCell ⟨w.heap.size, 0, none⟩ (.int .u8 3))) :=
    Lib.hid ⟨(HC0.out.trans hC1).set (a := ⟨w.heap.size, 0, none⟩) (.inr (Nat.le_refl _)) _, hL1.same (heap_set1_other _ (fun e => hne e.symm)), X1.set0 _, ⟨[], [], World.ownsRow_nil _ _ _ _, rfl, List.nodup_nil, fun _ h => absurd h List.not_mem_nil⟩, fun _ => rfl⟩
  clear X1 hC1 hL1 H HX0 HC0
  go_wp2
  go_loopw [7, 34] (fun pv iv wr => ∃ (ts : List VT) (sj : List UInt8) (lv : Value), ts.length ≤ n ∧ iv = .int .u64 (ts.length : Int) ∧ pv = .int .i64 ((1 + VT.partsL ts : Nat) : Int) ∧ VT.partsL ts ≤ left - 1 ∧ sj.length ≤ maxLen ∧
    readMany (readT nest) n (left - 1) s1 = behind ts (readMany (readT nest) (n - ts.length) (left - 1 - VT.partsL ts) sj) ∧ RdRun cb w ts sj lv wr) (fun _ iv _ => n - (intOf iv).toNat)
  case atStart => exact ⟨[], s1, .slice none 0 0, Nat.zero_le _, rfl, rfl, Nat.zero_le _, HS1.out, (behind_nil _).symm, HST.out⟩
  case round =>
    obtain ⟨ts, sj, lv, hj, rfl, rfl, hpt, hsj, heq, hrun⟩ := hrel
    obtain ⟨A0, c0, rfl⟩ := hrun.shape
    have HEQ := Lib.hid heq
    have HSJ := Lib.hid hsj
    clear HST f0 f1 f2 f3 f4 z0 heq hsj
    have f0 := hrun.box.e0
    have f1 := hrun.box.e1
    have f2 := hrun.box.e2
    have f3 := hrun.box.e3
    have f4 := hrun.box.e4
    have z0 := hrun.box.froz
    have hbx := hrun.box.lt
    have HRun := Lib.hid hrun
    by_cases hlt : ts.length < n
    · have HC := HRd.out (left - (1 + VT.partsL ts)) sj wr hrun.left HSJ.out (by omega)
      rw [show left - (1 + VT.partsL ts) = left - 1 - VT.partsL ts by omega, show ((left - 1 - VT.partsL ts : Nat) : Int) = (left : Int) - (1 + (VT.partsL ts : Int)) by omega] at HC
      have HC2 := Lib.hid HC
      have HPT := Lib.hid (fun t r => readT_parts nest (left - 1 - VT.partsL ts) sj t r)
      have HLN := Lib.hid (fun t r => readT_len nest (left - 1 - VT.partsL ts) sj t r)
      have HBF := Lib.hid (fun hf => behind_fail (f := readT nest) (n := n - ts.length - 1) (L := left - 1 - VT.partsL ts) (s := sj) (ts := ts) hf)
      have HBS := Lib.hid (fun t r hf => behind_step (f := readT nest) (n := n - ts.length - 1) (L := left - 1 - VT.partsL ts) (s := sj) (r := r) (ts := ts) (t := t) hf)
      obtain ⟨xs, G, o1, o2, o3, o4⟩ := hrun.own
      have HO := Lib.hid (And.intro o1 (And.intro o2 (And.intro o3 o4)))
      clear HC hrun o1 o2 o3 o4
      generalize hto : readT nest (left - 1 - VT.partsL ts) sj = o at *
      clear hto
      have HNone : Hid (o = none → R = none) := Lib.hid fun e => by rw [HR2.out, HEQ.out, show n - ts.length = n - ts.length - 1 + 1 by omega, HBF.out e]
      have hpa : ∀ t, VT.partsL (ts ++ [t]) = VT.partsL ts + t.parts := fun t => by
        rw [VT.partsL_append, show VT.partsL [t] = t.parts + 0 from rfl, Nat.add_zero]
      have HStep : Hid (∀ t r, o = some (t, r) → readMany (readT nest) n (left - 1) s1 = behind (ts ++ [t]) (readMany (readT nest) (n - (ts ++ [t]).length) (left - 1 - VT.partsL (ts ++ [t])) r)) := Lib.hid fun t r e => by
        rw [HEQ.out, show n - ts.length = n - ts.length - 1 + 1 by omega, HBS.out t r e, hpa, List.length_append, List.length_singleton, Nat.sub_sub n, Nat.sub_sub (left - 1)]
      have HPA := Lib.hid hpa
      clear hpa HBS HBF HEQ HR2
      have HCB := Lib.hid hcb
      go_wp2_with fail
      refine HC2.out.mono ?_
      rintro e w2 ⟨hC2, hres⟩
      have M := HRun.out.mid HCB.out HO.out.1 hC2
      have hsz2 := hC2.size
      have HM := Lib.hid (And.intro M hC2)
      have g0 := M.2.e0
      have g1 := M.2.e1
      have g2 := M.2.e2
      have g3 := M.2.e3
      have g4 := M.2.e4
      have y0 := M.2.froz
      have hb2 := M.2.lt
      clear M f0 f1 f2 f3 f4 z0 hC2 HC2
      cases o with
      | none =>
        obtain rfl := hres
        have hRn := Lib.hid (HNone.out rfl)
        unfold zeroVal
        go_wp2
        refine ret_five3 (B := w.heap.size) rfl ((HM.out.1.2.set5 _ _ _ _ _).alloc _) rfl rfl rfl ?_
        rw [hRn.out]
        exact ⟨(chg_set5 (HRun.out.chg.trans HM.out.2) (Nat.le_refl _) _ _ _ _ _).behind ((Below.refl _ _).alloc (Nat.le_refl _) _), rfl⟩
      | some x =>
        obtain ⟨t, r⟩ := x
        obtain ⟨hL3, v, rfl, hF⟩ := hres
        obtain ⟨A2, cap2, rfl⟩ := hF.cells
        have HLF := Lib.hid (And.intro hL3 hF)
        have hpn := HPT.out t r rfl
        have hln := Lib.hid (HLN.out t r rfl)
        have HS3 := Lib.hid (HStep.out t r rfl)
        clear hL3 hF HStep HNone HPT HLN
        go_wp2_with (at_builtin; refine wpList_append_own_at _ rfl (.tmp 51) (.tmp 53) 23 rfl (w.heap.size + 1) 26 i0 (.agg #[.int .u8 0, .int .i64 0, .string ⟨#[]⟩, .slice none 0 0, .int .i64 0]) 5 64 Try.underlying23 hi hz0 hz1 hz2 rfl (by decide) _ _ _ rfl ((HM.out.1.1.alloc _).alloc _) ⟨_, 0, none⟩ 1 1 [.int .u8 (t.k : Int), .int .i64 t.n, .string t.s, .slice A2 t.l.length cap2, .int .i64 t.r] rfl rfl (five_cell _ (by simp)) (by simp [Value.oneCell']) (by unfold maxLen; omega) (by omega) (by simp; omega) ?_; intro v3 w3 hown3 hgrow3 hnil3 hat3; have HX3 := Lib.hid (rd_box HM.out.1.2 HM.out.1.1 hgrow3); have HN := Lib.hid (HRun.out.step HCB.out HO.out.1 HO.out.2.1 HO.out.2.2.1 HO.out.2.2.2 HM.out.2 HLF.out.1 HLF.out.2 hown3 hgrow3 hat3); obtain ⟨g, cp, rfl⟩ := owns_form hown3 (by omega); have d3 := HX3.out.e3; have dz := HX3.out.froz 3; have hb3 := HX3.out.lt; clear hown3 hgrow3 hnil3 hat3)
        go_roundw
        case rel => exact ⟨ts ++ [t], r, _, by rw [List.length_append, List.length_singleton]; omega, by rw [List.length_append, List.length_singleton]; go_num, by rw [HPA.out]; go_num, by rw [HPA.out]; omega, by have := hln.out; have := HSJ.out; omega, HS3.out, HN.out⟩
        case measure => simp [intOf]; omega
    · obtain rfl : n = ts.length := by omega
      have hRs : Hid (R = some (.mk 3 0 ⟨#[]⟩ 0 ts, sj)) := by
        refine Lib.hid (HR2.out.trans ?_)
        rw [HEQ.out, Nat.sub_self]
        simp [readMany, behind]
      have HLe := Lib.hid hrun.left
      have HCh := Lib.hid hrun.chg
      have hpa : VT.parts (.mk 3 0 ⟨#[]⟩ 0 ts) = 1 + VT.partsL ts := rfl
      have HPa := Lib.hid hpa
      clear hpa hrun HEQ HR2
      go_wp2
      refine ret_five3 (B := w.heap.size) rfl (HRun.out.box.set5 _ _ _ _ _) rfl rfl rfl ?_
      rw [hRs.out]
      refine ⟨chg_set5 HCh.out (Nat.le_refl _) _ _ _ _ _, HLe.out.same (heap_set5_other _ _ _ _ _ (fun e => hne e.symm)), _, ?_, HRun.out.done _ _ _ _ _⟩
      rw [HPa.out]
      rfl
set_option maxRecDepth 100000 in
set_option maxHeartbeats 8000000 in
theorem readList0_w (cb left : Nat) (s : List UInt8) (w : World) (h : Left w cb s) (hs : s.length ≤ maxLen) (_hl1 : 1 ≤ left) (_hleft : left ≤ 512) :
    Calls Try.prog 93 #[.func (.func 80) #[] #[.pointer (some ⟨cb, 0, none⟩)], .int .i64 (left : Int), .int .i64 0] w (ReadPost w cb none) := by
  have hcb := h.lt
  have X0 := Five.new w (.int .u8 0) (.int .i64 0) (.string ⟨#[]⟩) (.slice none 0 0) (.int .i64 0)
  have hne : w.heap.size ≠ cb := by omega
  have C0 : Chg [cb] w (w.alloc (.cells #[.int .u8 0, .int .i64 0, .string ⟨#[]⟩, .slice none 0 0, .int .i64 0] 26)) := Chg.of_below ((Below.refl _ w).alloc (Nat.le_refl _) _)
  have HC0 := Lib.hid C0
  have hL0 := h.alloc (.cells #[.int .u8 0, .int .i64 0, .string ⟨#[]⟩, .slice none 0 0, .int .i64 0] 26)
  have HX0 := Lib.hid X0
  by_cases h1 : 2 ≤ s.length
  rotate_left
  · have H := Lib.hid (wide_no_w 2 s cb _ hL0 hs h1)
    have f0 := X0.e0
    have f1 := X0.e1
    have f2 := X0.e2
    have f3 := X0.e3
    have f4 := X0.e4
    clear h C0 hL0 X0 h1
    go_enter Try.func93, Try.ntmps93
    go_wp2_with fail
    refine H.out.mono ?_
    rintro e w' ⟨rfl, rfl⟩
    go_wp2
    refine ret_five3 (B := w.heap.size) rfl HX0.out rfl rfl rfl ?_
    exact ⟨HC0.out, rfl⟩
  · have hx : numL (s.take 2) < 65536 := by
      have := numL_lt 2 (s.take 2) (by rw [List.length_take]; omega)
      omega
    have H := Lib.hid (wide_w 2 s cb _ hL0 (by decide) hs h1)
    generalize numL (s.take 2) = n at *
    clear h C0 hL0 X0 h1
    go_enter Try.func93, Try.ntmps93
    go_wp2_with fail
    refine H.out.mono ?_
    rintro e w1 ⟨rfl, hL1, hC1⟩
    have X1 := HX0.out.chg1 hC1 hne
    have f0 := X1.e0
    have f1 := X1.e1
    have f2 := X1.e2
    have f3 := X1.e3
    have f4 := X1.e4
    have z0 := X1.froz
    have HX1 := Lib.hid X1
    have HC1 := Lib.hid (HC0.out.trans hC1)
    clear X1 hC1 hL1
    go_wp2
    refine ret_five3 (B := w.heap.size) rfl (HX1.out.set5 _ _ _ _ _) rfl rfl rfl ?_
    exact ⟨chg_set5 HC1.out (Nat.le_refl _) _ _ _ _ _, rfl⟩

theorem read_w (cb : Nat) : ∀ (nest : Nat), nest ≤ 16 → ∀ (left : Nat) (s : List UInt8) (w : World), Left w cb s → s.length ≤ maxLen → left ≤ 512 →
    Calls Try.prog 81 #[.func (.func 80) #[] #[.pointer (some ⟨cb, 0, none⟩)], .int .i64 (left : Int), .int .i64 (nest : Int)] w (ReadPost w cb (readT nest left s)) := by
  intro nest
  induction nest with
  | zero => exact fun _ left s w h hs hl => read_of_list cb 0 (fun _ _ => none) (fun left s w h hs h1 hl => readList0_w cb left s w h hs h1 hl) left s w h hs hl
  | succ nest ih => exact fun hn left s w h hs hl => read_of_list cb (nest + 1) (fun left => readBody (readT nest) left) (fun left s w h hs h1 hl => readList_w cb nest (ih (by omega)) left s w h hs h1 hl (by omega)) left s w h hs hl
end Go.Proofs.Ytckgmdlacaiacaa
