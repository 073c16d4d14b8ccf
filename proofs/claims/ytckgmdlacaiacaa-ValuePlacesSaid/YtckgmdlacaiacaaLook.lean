/-
  The document's answer: look, Parts, May, Deep.
-/
import Derived.Test.YtckgmdlacaiacaaOwn
import Derived.Lib.Bytes
namespace Go.Proofs.Ytckgmdlacaiacaa
open Go.RowKit Go.Shelf
attribute [local go_sem] Oper.semAt_some

/-- What look answers. -/
def lookV (t : VT) (room deep : Nat) : Value := if t.ok room deep then .int .i64 (t.parts : Int) else .int .i64 (-1)
def noLook : Value := .int .i64 (-1)
theorem lookV_eq (k : Nat) (n : Int) (s : ByteArray) (r : Int) (l : List VT) (left nest : Nat) :
    (left < 1 → lookV (.mk k n s r l) left nest = noLook) ∧
    (propN k n s r l.length = false ∨ (k = 3 ∧ (nest < 1 ∨ left ≤ l.length)) → lookV (.mk k n s r l) left nest = noLook) ∧
    (¬ left < 1 → propN k n s r l.length = true → k ≠ 3 → lookV (.mk k n s r l) left nest = .int .i64 1) ∧
    (¬ left < 1 → propN k n s r l.length = true → k = 3 → ¬ nest < 1 → lookV (.mk k n s r l) left nest = if VT.okL l (left - 1) (nest - 1) then .int .i64 ((1 + VT.partsL l : Nat) : Int) else noLook) := by
  have hg : VT.good (.mk k n s r l) = (propN k n s r l.length && VT.goodL l) := rfl
  have hp : VT.parts (.mk k n s r l) = 1 + VT.partsL l := rfl
  have hd : VT.deep (.mk k n s r l) = if k = 3 then 1 + VT.deepL l else 0 := rfl
  have hlen := VT.partsL_len l
  unfold lookV VT.ok VT.okL noLook
  rw [hg, hp, hd]
  refine ⟨fun h => ?_, fun h => ?_, fun h1 h2 h3 => ?_, fun h1 h2 h3 h4 => ?_⟩
  · rw [if_neg]
    simp only [Bool.and_eq_true, decide_eq_true_eq]
    omega
  · rw [if_neg]
    simp only [Bool.and_eq_true, decide_eq_true_eq]
    rcases h with h | ⟨rfl, h⟩
    · simp [h]
    · simp only [if_true]; omega
  · obtain rfl := partsL_zero h2 h3
    rw [if_pos]
    · rw [VT.partsL_nil]; rfl
    · have e0 : (if k = 3 then 1 + VT.deepL ([] : List VT) else 0) = 0 := if_neg h3
      have e1 : VT.partsL ([] : List VT) = 0 := rfl
      rw [e0, VT.goodL_nil, h2]
      simp only [Bool.and_eq_true, decide_eq_true_eq, e1]
      simp; omega
  · subst h3
    have e0 : (if 3 = 3 then 1 + VT.deepL l else 0) = 1 + VT.deepL l := if_pos rfl
    rw [e0, h2, Bool.true_and]
    have ep : decide (1 + VT.partsL l ≤ left) = decide (VT.partsL l ≤ left - 1) := decide_eq_decide.2 (by omega)
    have ed : decide (1 + VT.deepL l ≤ nest) = decide (VT.deepL l ≤ nest - 1) := decide_eq_decide.2 (by omega)
    rw [ep, ed]

theorem size_of_empty {s : ByteArray} (h : s.toList.isEmpty = true) : s.size = 0 := by
  rw [Lib.toList_data] at h
  have : s.data.toList = [] := by simpa using h
  have h2 := congrArg List.length this
  simpa using h2

set_option maxRecDepth 100000 in
set_option maxHeartbeats 8000000 in
theorem look_w (p : Nat → Prop) (m : Bool) : ∀ (t : VT) (v : Value) (left nest : Nat) (w : World), Lies w p m t v → (∀ b, p b → b < w.heap.size) → left ≤ 512 → nest ≤ 16 →
    Calls Try.prog 61 #[v, .int .i64 (left : Int), .int .i64 (nest : Int)] w fun e w' => e = .returned (lookV t left nest) ∧ Below w.heap.size w w' := by
  refine VT.ind fun k n s r l ih v left nest w h hpw hleft hnest => ?_
  obtain ⟨A, cap, rfl, ⟨hk, hn, hr, hs, hl⟩, _, _, hL, _⟩ := h
  have HPW := Lib.hid hpw
  have HL := Lib.hid hL
  have IH := Lib.hid ih
  have HV := Lib.hid (lookV_eq k n s r l left nest)
  generalize lookV (.mk k n s r l) left nest = sv at *
  clear hL ih hpw
  have hlen : l.length ≤ 9223372036854775807 := by unfold maxLen at hl; omega
  have hB0 := Lib.hid ((Below.refl w.heap.size w).alloc (Nat.le_refl _) (.cells #[.int .u8 (k : Int), .int .i64 n, .string s, .slice A l.length cap, .int .i64 r] 26))
  go_enter Try.func61, Try.ntmps61
  by_cases h1 : left < 1
  · have q1 : decide ((left : Int) < 1) = true := decide_eq_true (by omega)
    go_wp2
    go_ret
    exact ⟨by rw [HV.out.1 h1]; rfl, hB0.out⟩
  have q1 : decide ((left : Int) < 1) = false := decide_eq_false (by omega)
  have HV2 := Lib.hid HV.out.2
  clear HV
  have hk4 : k = 0 ∨ k = 1 ∨ k = 2 ∨ k = 3 ∨ k = 4 ∨ 5 ≤ k := by omega
  rcases hk4 with rfl | rfl | rfl | rfl | rfl | hk5
  · by_cases hn0 : n = 0
    case neg => have z : (n != 0) = true := by rw [bne_iff_ne]; exact hn0
                (go_wp2; go_ret; exact ⟨by rw [HV2.out.1 (.inl (by simp [propN, *]))]; rfl, hB0.out⟩)
    subst hn0
    by_cases hs0 : s.toList.isEmpty = true
    case neg => have hs0 : s.toList.isEmpty = false := by simpa using hs0
                (go_wp2; go_ret; exact ⟨by rw [HV2.out.1 (.inl (by simp [propN, *]))]; rfl, hB0.out⟩)
    by_cases hl0 : l.length = 0
    case neg => have z : 0 < l.length := by omega
                have z2 : ((l.length : Int) == 0) = false := by rw [beq_eq_false_iff_ne]; omega
                (go_wp2; go_ret; exact ⟨by rw [HV2.out.1 (.inl (by simp [propN, *]))]; rfl, hB0.out⟩)
    obtain rfl := List.length_eq_zero_iff.1 hl0
    by_cases hr0 : r = 0
    case neg => have z : (r != 0) = true := by rw [bne_iff_ne]; exact hr0
                (go_wp2; go_ret; exact ⟨by rw [HV2.out.1 (.inl (by simp [propN, *]))]; rfl, hB0.out⟩)
    subst hr0
    have z0 := size_of_empty hs0
    go_wp2
    go_ret
    exact ⟨by rw [HV2.out.2.1 h1 (by simp [propN, *]) (by omega)]; rfl, hB0.out⟩
  · by_cases hs0 : s.toList.isEmpty = true
    case neg => have hs0 : s.toList.isEmpty = false := by simpa using hs0
                (go_wp2; go_ret; exact ⟨by rw [HV2.out.1 (.inl (by simp [propN, *]))]; rfl, hB0.out⟩)
    by_cases hl0 : l.length = 0
    case neg => have z : 0 < l.length := by omega
                have z2 : ((l.length : Int) == 0) = false := by rw [beq_eq_false_iff_ne]; omega
                (go_wp2; go_ret; exact ⟨by rw [HV2.out.1 (.inl (by simp [propN, *]))]; rfl, hB0.out⟩)
    obtain rfl := List.length_eq_zero_iff.1 hl0
    by_cases hr0 : r = 0
    case neg => have z : (r != 0) = true := by rw [bne_iff_ne]; exact hr0
                (go_wp2; go_ret; exact ⟨by rw [HV2.out.1 (.inl (by simp [propN, *]))]; rfl, hB0.out⟩)
    subst hr0
    have z0 := size_of_empty hs0
    go_wp2
    go_ret
    exact ⟨by rw [HV2.out.2.1 h1 (by simp [propN, *]) (by omega)]; rfl, hB0.out⟩
  · by_cases hn0 : n = 0
    case neg => have z : (n != 0) = true := by rw [bne_iff_ne]; exact hn0
                (go_wp2; go_ret; exact ⟨by rw [HV2.out.1 (.inl (by simp [propN, *]))]; rfl, hB0.out⟩)
    subst hn0
    by_cases hl0 : l.length = 0
    case neg => have z : 0 < l.length := by omega
                have z2 : ((l.length : Int) == 0) = false := by rw [beq_eq_false_iff_ne]; omega
                (go_wp2; go_ret; exact ⟨by rw [HV2.out.1 (.inl (by simp [propN, *]))]; rfl, hB0.out⟩)
    obtain rfl := List.length_eq_zero_iff.1 hl0
    by_cases hr0 : r = 0
    case neg => have z : (r != 0) = true := by rw [bne_iff_ne]; exact hr0
                (go_wp2; go_ret; exact ⟨by rw [HV2.out.1 (.inl (by simp [propN, *]))]; rfl, hB0.out⟩)
    subst hr0
    by_cases hz0 : (s.size : Int) ≤ 256
    case neg => have z : decide ((256 : Int) < (s.size : Int)) = true := decide_eq_true (by omega)
                (go_wp2; go_ret; exact ⟨by rw [HV2.out.1 (.inl (by simp [propN, *]))]; rfl, hB0.out⟩)
    go_wp2
    go_ret
    exact ⟨by rw [HV2.out.2.1 h1 (by simp [propN, *]) (by omega)]; rfl, hB0.out⟩
  · rw [show ((3 : Nat) : Int) = (3 : Int) from rfl]
    by_cases hn0 : n = 0
    case neg => have z : (n != 0) = true := by rw [bne_iff_ne]; exact hn0
                (go_wp2; go_ret; exact ⟨by rw [HV2.out.1 (.inl (by simp [propN, *]))]; rfl, hB0.out⟩)
    subst hn0
    by_cases hs0 : s.toList.isEmpty = true
    case neg => have hs0 : s.toList.isEmpty = false := by simpa using hs0
                (go_wp2; go_ret; exact ⟨by rw [HV2.out.1 (.inl (by simp [propN, *]))]; rfl, hB0.out⟩)
    by_cases hr0 : r = 0
    case neg => have z : (r != 0) = true := by rw [bne_iff_ne]; exact hr0
                (go_wp2; go_ret; exact ⟨by rw [HV2.out.1 (.inl (by simp [propN, *]))]; rfl, hB0.out⟩)
    subst hr0
    have z0 := size_of_empty hs0
    have hprop : propN 3 0 s 0 l.length = true := by simp [propN, *]
    by_cases hn1 : nest < 1
    · have q2 : decide ((nest : Int) < 1) = true := decide_eq_true (by omega)
      go_wp2
      go_ret
      exact ⟨by rw [HV2.out.1 (.inr ⟨by first | rfl | trivial, .inl hn1⟩)]; rfl, hB0.out⟩
    have q2 : decide ((nest : Int) < 1) = false := decide_eq_false (by omega)
    by_cases hl1 : left ≤ l.length
    · have q3 : decide ((left : Int) ≤ (l.length : Int)) = true := decide_eq_true (by omega)
      go_wp2
      go_ret
      exact ⟨by rw [HV2.out.1 (.inr ⟨by first | rfl | trivial, .inr hl1⟩)]; rfl, hB0.out⟩
    have q3 : decide ((left : Int) ≤ (l.length : Int)) = false := decide_eq_false (by omega)
    have HV4 := Lib.hid (HV2.out.2.2 h1 hprop (by first | rfl | trivial) hn1)
    have X := Five.new w (.int .u8 ((3 : Nat) : Int)) (.int .i64 0) (.string s) (.slice A l.length cap) (.int .i64 0)
    have XX := Lib.hid X
    clear HV2 hprop X
    go_wp2
    go_loopw [7, 8] (fun pv iv wr => ∃ j : Nat, j ≤ l.length ∧ iv = .int .i64 (j : Int) ∧ pv = .int .i64 ((1 + VT.partsL (l.take j) : Nat) : Int) ∧ VT.okL (l.take j) (left - 1) (nest - 1) = true ∧ Below w.heap.size w wr ∧ Five wr w.heap.size (.int .u8 3) (.int .i64 0) (.string s) (.slice A l.length cap) (.int .i64 0)) (fun _ iv _ => l.length - (intOf iv).toNat)
    case atStart => exact ⟨0, Nat.zero_le _, rfl, rfl, by rw [List.take_zero]; unfold VT.okL; rw [VT.goodL_nil, VT.partsL_nil, VT.deepL_nil]; simp, hB0.out, XX.out⟩
    case round =>
      obtain ⟨j, hj, rfl, rfl, hok, hB, hX⟩ := hrel
      have hsz := hB.size
      have x3 := hX.e3
      by_cases hlt : j < l.length
      · obtain ⟨b, off, A', cap', rfl, hbt, hrow, hLj⟩ := HL.out.elem j hlt
        obtain ⟨g0, g1, g2, g3, g4⟩ := (hrow.same (hB.block b (HPW.out b hbt))).get
        clear hrow
        have HC := fun v => IH.out l[j] (List.getElem_mem hlt) v (left - (1 + VT.partsL (l.take j))) (nest - 1)
        obtain ⟨hp1, hp2, hp3, hp4⟩ := VT.size_step hlt hok
        have hL1 : ((left - (1 + VT.partsL (l.take j)) : Nat) : Int) = (left : Int) - ((1 + VT.partsL (l.take j) : Nat) : Int) := by omega
        have hL2 : ((nest - 1 : Nat) : Int) = (nest : Int) - 1 := by omega
        simp only [hL1, hL2] at HC
        have HH := (fun W (hW : Below w.heap.size w W) => HC _ W (hLj.below hW HPW.out) (fun b hb => Nat.lt_of_lt_of_le (HPW.out b hb) hW.size) (by omega) (by omega))
        generalize l[j].k = k' at g0 HH
        generalize l[j].n = n' at g1 HH
        generalize l[j].s = s' at g2 HH
        generalize l[j].l.length = len' at g3 HH
        generalize l[j].r = r' at g4 HH
        have HH := Lib.hid HH
        have hb : b < wr.heap.size := Nat.lt_of_lt_of_le (HPW.out b hbt) hsz
        have HOK := Lib.hid hok
        have HX := Lib.hid hX
        clear HC hLj hL1 hL2 hok hX
        generalize VT.partsL (l.take j) = P at *
        have HBr := Lib.hid hB
        clear hB
        by_cases hk : l[j].ok (left - (1 + P)) (nest - 1) = true
        · have HN := Lib.hid (hp3 hk)
          rw [lookV, if_pos hk] at HH
          clear hp3 hp4 hk
          generalize l[j].parts = p at *
          go_wp2_with fail
          refine (HH.out _ HBr.out).mono ?_
          rintro e w' ⟨rfl, hb2⟩
          have HB2 := Lib.hid (HBr.out.trans (hb2.mono hsz))
          have HX2 := Lib.hid (HX.out.below hb2 HX.out.lt)
          clear hb2 HBr
          go_wp2
          obtain ⟨n1, n2, n3⟩ := HN.out
          rw [w64 (by omega)]
          refine ⟨⟨j + 1, by omega, by go_num, congrArg (Value.int .i64) (by have := hp2.1; omega), n1, HB2.out, HX2.out⟩, by simp [intOf]; omega⟩
        · have HN := Lib.hid (hp4 (by simpa using hk))
          rw [lookV, if_neg hk] at HH
          clear hp3 hp4 hk
          go_wp2_with fail
          refine (HH.out _ HBr.out).mono ?_
          rintro e w' ⟨rfl, hb2⟩
          have HB2 := Lib.hid (HBr.out.trans (hb2.mono hsz))
          clear hb2 HBr
          go_wp2
          go_ret
          exact ⟨by rw [HV4.out, HN.out]; rfl, HB2.out⟩
      · obtain rfl : j = l.length := by omega
        rw [List.take_length] at hok
        have hok' := Lib.hid hok
        clear hok
        rw [List.take_length]
        go_wp2
        go_ret
        exact ⟨by rw [HV4.out, hok'.out]; rfl, hB⟩
  · by_cases hn0 : n = 0
    case neg => have z : (n != 0) = true := by rw [bne_iff_ne]; exact hn0
                (go_wp2; go_ret; exact ⟨by rw [HV2.out.1 (.inl (by simp [propN, *]))]; rfl, hB0.out⟩)
    subst hn0
    by_cases hs0 : s.toList.isEmpty = true
    case neg => have hs0 : s.toList.isEmpty = false := by simpa using hs0
                (go_wp2; go_ret; exact ⟨by rw [HV2.out.1 (.inl (by simp [propN, *]))]; rfl, hB0.out⟩)
    by_cases hl0 : l.length = 0
    case neg => have z : 0 < l.length := by omega
                have z2 : ((l.length : Int) == 0) = false := by rw [beq_eq_false_iff_ne]; omega
                (go_wp2; go_ret; exact ⟨by rw [HV2.out.1 (.inl (by simp [propN, *]))]; rfl, hB0.out⟩)
    obtain rfl := List.length_eq_zero_iff.1 hl0
    by_cases hq0 : 1 ≤ r
    case neg =>
                by_cases hr0 : r = 0
                · subst hr0; (go_wp2; go_ret; exact ⟨by rw [HV2.out.1 (.inl (by simp [propN, *]))]; rfl, hB0.out⟩)
                · have z : (r != 0) = true := by rw [bne_iff_ne]; exact hr0
                  have z2 : r < 1 := by omega
                  (go_wp2; go_ret; exact ⟨by rw [HV2.out.1 (.inl (by simp [propN, *]))]; rfl, hB0.out⟩)
    have z0 := size_of_empty hs0
    go_wp2
    go_ret
    exact ⟨by rw [HV2.out.2.1 h1 (by simp [propN, *]) (by omega)]; rfl, hB0.out⟩
  · have k1 : ((k : Int) != 1) = true := by rw [bne_iff_ne]; omega
    have k2 : ((k : Int) != 2) = true := by rw [bne_iff_ne]; omega
    have k3 : ((k : Int) != 3) = true := by rw [bne_iff_ne]; omega
    have k4 : ((k : Int) != 4) = true := by rw [bne_iff_ne]; omega
    have k5 : decide ((4 : Int) < (k : Int)) = true := decide_eq_true (by omega)
    have hpf := Lib.hid (propN_big n s r l.length hk5)
    by_cases hn0 : n = 0
    case neg => have z : (n != 0) = true := by rw [bne_iff_ne]; exact hn0
                (go_wp2; go_ret; exact ⟨by rw [HV2.out.1 (.inl (propN_big _ _ _ _ hk5))]; rfl, hB0.out⟩)
    subst hn0
    by_cases hs0 : s.toList.isEmpty = true
    case neg => have hs0 : s.toList.isEmpty = false := by simpa using hs0
                (go_wp2; go_ret; exact ⟨by rw [HV2.out.1 (.inl (propN_big _ _ _ _ hk5))]; rfl, hB0.out⟩)
    by_cases hl0 : l.length = 0
    case neg => have z : 0 < l.length := by omega
                have z2 : ((l.length : Int) == 0) = false := by rw [beq_eq_false_iff_ne]; omega
                (go_wp2; go_ret; exact ⟨by rw [HV2.out.1 (.inl (propN_big _ _ _ _ hk5))]; rfl, hB0.out⟩)
    obtain rfl := List.length_eq_zero_iff.1 hl0
    by_cases hr0 : r = 0
    case neg => have z : (r != 0) = true := by rw [bne_iff_ne]; exact hr0
                (go_wp2; go_ret; exact ⟨by rw [HV2.out.1 (.inl (propN_big _ _ _ _ hk5))]; rfl, hB0.out⟩)
    subst hr0
    go_wp2
    go_ret
    exact ⟨by rw [HV2.out.1 (.inl (propN_big _ _ _ _ hk5))]; rfl, hB0.out⟩
end Go.Proofs.Ytckgmdlacaiacaa
