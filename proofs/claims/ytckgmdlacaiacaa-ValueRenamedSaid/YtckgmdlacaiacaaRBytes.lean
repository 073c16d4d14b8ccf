/-
  posternref02.big, posternref02.bytes.
-/
import Derived.Laws.OwnMore
import Derived.Test.YtckgmdlacaiacaaLooks0
namespace Go.Proofs.Ytckgmdlacaiacaa
open Go.RowKit Go.Shelf
attribute [local go_sem] Oper.semAt_some

theorem BInv.more {base : Nat} {w0 W W' : World} {v0 v v' : Value} {l m : List UInt8} (h : BInv base w0 v0 l W v) (hown : W'.ownsRow base 5 1 v' (l.length + m.length) (u8s l ++ u8s m)) (hg : W.grownBy W' v.ownBlock) (hat : v'.ownBlock = v.ownBlock ∨ v'.ownBlock = some W.heap.size) :
    BInv base w0 v0 (l ++ m) W' v' := by
  refine h.trans ⟨by rw [List.length_append, u8s_app]; exact hown, hg, ?_, h.hi, fun k hk => h.own.lt k hk⟩
  rcases hat with hat | hat
  · exact .inl hat
  · exact .inr ⟨_, hat, Nat.le_refl _⟩
theorem BInv.behind {base : Nat} {w0 W W2 : World} {v0 v : Value} {l : List UInt8} (h : BInv base w0 v0 l W v) (hb : Below W.heap.size W W2) : BInv base w0 v0 l W2 v :=
  ⟨owns_below h.own hb, ⟨hb.os.trans h.gr.os, hb.tape.trans h.gr.tape, hb.output.trans h.gr.output, Nat.le_trans h.gr.size hb.size, fun i hi hne => (hb.block i (Nat.lt_of_lt_of_le hi h.gr.size)).trans (h.gr.block i hi hne)⟩, h.at_, h.lo, h.v0⟩
theorem BInv.lit (w : World) (base : Nat) (hb : base ≤ w.heap.size) (b : UInt8) (x : Value) (hx : u8s [b] = [x]) : BInv base w (.slice none 0 0) [b] (w.alloc (.cells #[x] 5)) (.slice (some ⟨w.heap.size, 0, none⟩) 1 1) :=
  ⟨⟨by rw [hx]; rfl, .inr ⟨w.heap.size, 1, #[x], rfl, hb, heap_alloc_new w _, Nat.le_refl _, by decide, rfl, by rw [hx]; rfl⟩⟩, ⟨rfl, rfl, rfl, by rw [World.size_alloc]; exact Nat.le_succ _, fun i hi _ => heap_alloc_old w _ hi⟩, .inr ⟨_, rfl, Nat.le_refl _⟩, hb, fun k hk => by simp [Value.ownBlock] at hk⟩
theorem BInv.below0 {w W : World} {l : List UInt8} {v : Value} {base : Nat} {w0 : World} (h : BInv base w0 (.slice none 0 0) l W v) (hb : Below w.heap.size w w0) : Below w.heap.size w W :=
  hb.grown h.gr hb.size (fun k hk => by simp [Value.ownBlock] at hk)

set_option maxRecDepth 100000 in
set_option maxHeartbeats 4000000 in
theorem big_w (x n : Nat) (w : World) (_hx : x < 18446744073709551616) (hn : n ≤ 8) (hn0 : 0 < n) :
    Calls Try.prog 91 #[.int .u64 (x : Int), .int .i64 (n : Int)] w fun e w' => ∃ g cap, e = .returned (.slice (some ⟨g, 0, none⟩) n cap) ∧ w'.ownsRow w.heap.size 5 1 (.slice (some ⟨g, 0, none⟩) n cap) n (u8s (wide x n)) ∧ Below w.heap.size w w' := by
  obtain ⟨i0, hi, hz0, hz1, hz2⟩ := info_parts infoB
  have HB := Lib.hid (show BInv w.heap.size w (.slice none 0 0) [] w (.slice none 0 0) from BInv.new (World.ownsRow_nil _ _ _ _) (Nat.le_refl _))
  go_enter Try.func91, Try.ntmps91
  go_wp2
  go_loopw [5, 6] (fun bv iv wr => ∃ (m : Nat) (pre : List UInt8), m ≤ n ∧ pre ++ wide x m = wide x n ∧ iv = .int .i64 ((m : Int) - 1) ∧ BInv w.heap.size w (.slice none 0 0) pre wr bv) (fun _ iv _ => (intOf iv + 1).toNat)
  case atStart => exact ⟨n, [], Nat.le_refl _, rfl, by go_num, HB.out⟩
  case round =>
    obtain ⟨m, pre, hm, he, rfl, hI⟩ := hrel
    have hlen : pre.length ≤ 8 := by
      have := congrArg List.length he
      simp only [List.length_append, wide_len] at this
      omega
    have HI := Lib.hid hI
    have HE := Lib.hid he
    clear hI he
    cases m with
    | zero =>
      have HR := Lib.hid (show pre = wide x n by have := HE.out; rwa [wide, List.append_nil] at this)
      have ho := HI.out.own
      rw [HR.out, wide_len] at ho
      obtain ⟨g, cap, rfl⟩ := owns_form ho hn0
      have HO := Lib.hid (And.intro ho (HI.out.below0 (Below.refl _ _)))
      clear ho
      go_wp2
      go_ret
      exact ⟨g, cap, rfl, HO.out.1, HO.out.2⟩
    | succ m =>
      have hlo := HI.out.hi
      go_wp2_with (at_builtin; refine wpList_append_own_at _ rfl (.tmp 13) (.tmp 19) 107 rfl w.heap.size 5 i0 (.int .u8 0) 1 1 Try.underlying107 hi hz0 hz1 hz2 rfl (by decide) _ _ _ rfl (HI.out.own.alloc _) ⟨_, 0, none⟩ 1 1 [_] rfl rfl (one_cell _ _ (by simp)) (by simp [Value.oneCell']) (by unfold maxLen; omega) (by omega) (by simp; omega) ?_; intro v2 w2 hown2 hgrow2 hnil2 hat2; clear hnil2)
      have HN := Lib.hid (HI.out.step (m := [UInt8.ofNat (x / 2 ^ (8 * m))]) hown2 hgrow2 hat2 (by rw [u8s, List.map_singleton, wide_byte]))
      clear hown2 hgrow2 hat2
      go_roundw
      case rel => exact ⟨m, pre ++ [UInt8.ofNat (x / 2 ^ (8 * m))], by omega, by rw [List.append_assoc]; exact HE.out, by go_num, HN.out⟩
      case measure => simp [intOf]

set_option maxRecDepth 100000 in
set_option maxHeartbeats 8000000 in
theorem rbytes_w (p : Nat → Prop) (m : Bool) : ∀ (t : VT) (tv : Value) (w : World), Lies w p m t tv → (∀ b, p b → b < w.heap.size) → (bytesT t).length ≤ 4294967280 →
    Calls Try.prog 79 #[tv] w fun e w' => ∃ g cap, e = .returned (.slice (some ⟨g, 0, none⟩) (bytesT t).length cap) ∧ w'.ownsRow w.heap.size 5 1 (.slice (some ⟨g, 0, none⟩) (bytesT t).length cap) (bytesT t).length (u8s (bytesT t)) ∧ Below w.heap.size w w' := by
  refine VT.ind fun k n s r l ih tv w h hpw hlen => ?_
  obtain ⟨i0, hi, hz0, hz1, hz2⟩ := info_parts infoB
  obtain ⟨A, cap, rfl, ⟨hk, hn, hr, hs, hl⟩, _, _, hL, _⟩ := h
  have hk4 : k = 0 ∨ k = 1 ∨ k = 2 ∨ k = 3 ∨ k = 4 ∨ 5 ≤ k := by omega
  have HL := Lib.hid hL
  have IH := Lib.hid ih
  have HLen := Lib.hid hlen
  have HPW := Lib.hid hpw
  clear hL ih hlen hpw
  have XX := Lib.hid (Five.new w (.int .u8 (k : Int)) (.int .i64 n) (.string s) (.slice A l.length cap) (.int .i64 r))
  have hw0 := (Below.refl w.heap.size w).alloc (Nat.le_refl _) (.cells #[.int .u8 (k : Int), .int .i64 n, .string s, .slice A l.length cap, .int .i64 r] 26)
  have HW0 := Lib.hid hw0
  have hi1 := BInv.lit (w.alloc (.cells #[.int .u8 (k : Int), .int .i64 n, .string s, .slice A l.length cap, .int .i64 r] 26)) (w.heap.size + 1) (by simp) (UInt8.ofNat k) (.int .u8 (k : Int)) (u8_one hk)
  rw [World.size_alloc] at hi1
  have HI1 := Lib.hid hi1
  have X1 := hi1.five XX.out (by simp [Value.ownBlock])
  have HX1 := Lib.hid X1
  -- the end, whatever the kind
  have HEnd := Lib.hid (fun (L : List UInt8) (v : Value) (W : World) (h : BInv (w.heap.size + 1) (w.alloc (.cells #[.int .u8 (k : Int), .int .i64 n, .string s, .slice A l.length cap, .int .i64 r] 26)) (.slice none 0 0) L W v) (he : L = bytesT (.mk k n s r l)) =>
    show ∃ g cap', v = .slice (some ⟨g, 0, none⟩) (bytesT (.mk k n s r l)).length cap' ∧ W.ownsRow w.heap.size 5 1 (.slice (some ⟨g, 0, none⟩) (bytesT (.mk k n s r l)).length cap') (bytesT (.mk k n s r l)).length (u8s (bytesT (.mk k n s r l))) ∧ Below w.heap.size w W from by
      subst he
      obtain ⟨g, c, rfl⟩ := owns_form h.own (bytesT_pos _)
      exact ⟨g, c, rfl, ownsRow_le h.own (Nat.le_succ _), h.below0 hw0⟩)
  have c0 := XX.out.e0
  have d0 := X1.e0
  clear hw0 hi1 X1
  go_enter Try.func79, Try.ntmps79
  rcases hk4 with rfl | rfl | rfl | rfl | rfl | hk5
  · go_wp2
    go_ret
    obtain ⟨g, c, h1, h2, h3⟩ := HEnd.out _ _ _ HI1.out rfl
    exact ⟨g, c, by rw [← h1]; rfl, h2, h3⟩
  · have e1 := HX1.out.e1
    go_wp2_with fail
    rw [xor_top n hn]
    refine (big_w (topN n) 8 _ (by unfold topN; omega) (by decide) (by decide)).mono ?_
    rintro e w3 ⟨g3, c3, rfl, hown3, hb⟩
    have H3 := Lib.hid (HI1.out.behind hb)
    have HO3 := Lib.hid hown3
    have hb3 := H3.out.hi
    clear hb hown3
    go_wp2_with (at_builtin; refine wpList_append_own_at _ rfl (.tmp 12) (.tmp 17) 107 rfl (w.heap.size + 1) 5 i0 (.int .u8 0) 1 1 Try.underlying107 hi hz0 hz1 hz2 rfl (by decide) _ _ _ rfl H3.out.own ⟨g3, 0, none⟩ 8 c3 (u8s (wide (topN n) 8)) rfl (by simp [u8s_len, wide_len]) (HO3.out.cells (g := g3) rfl) (by simp [u8s, Value.oneCell']) (by unfold maxLen; first | omega | (simp; done) | (simp; omega)) (by first | omega | (simp; done) | (simp; omega)) hb3 ?_; intro v4 w4 hown4 hgrow4 hnil4 hat4; have H4 := Lib.hid (H3.out.more (m := wide (topN n) 8) (by rw [wide_len]; exact hown4) hgrow4 hat4); clear hown4 hgrow4 hnil4 hat4)
    go_ret
    obtain ⟨g, c, h1, h2, h3⟩ := HEnd.out _ _ _ H4.out rfl
    exact ⟨g, c, by rw [← h1]; rfl, h2, h3⟩
  · have e1 := HX1.out.e2
    have hsl : s.size ≤ 4294967277 := by
      have h1 : (bytesT (.mk 2 n s r l)).length ≤ 4294967280 := HLen.out
      have h2 : (bytesT (.mk 2 n s r l)).length = s.size + 3 := by
        show (UInt8.ofNat 2 :: (wide s.size 2 ++ s.data.toList)).length = _
        have h3 : s.data.toList.length = s.size := by rw [Array.length_toList]; rfl
        rw [List.length_cons, List.length_append, wide_len, h3]
        omega
      omega
    go_wp2_with fail
    refine (big_w s.size 2 _ (by omega) (by decide) (by decide)).mono ?_
    rintro e w3 ⟨g3, c3, rfl, hown3, hb⟩
    have H3 := Lib.hid (HI1.out.behind hb)
    have HO3 := Lib.hid hown3
    have hb3 := H3.out.hi
    clear hb hown3
    go_wp2_with (at_builtin; refine wpList_append_own_at _ rfl (.tmp 21) (.tmp 26) 107 rfl (w.heap.size + 1) 5 i0 (.int .u8 0) 1 1 Try.underlying107 hi hz0 hz1 hz2 rfl (by decide) _ _ _ rfl H3.out.own ⟨g3, 0, none⟩ 2 c3 (u8s (wide s.size 2)) rfl (by simp [u8s_len, wide_len]) (HO3.out.cells (g := g3) rfl) (by simp [u8s, Value.oneCell']) (by unfold maxLen; first | omega | (simp; done) | (simp; omega)) (by first | omega | (simp; done) | (simp; omega)) hb3 ?_; intro v4 w4 hown4 hgrow4 hnil4 hat4; have H4 := Lib.hid (H3.out.more (m := wide s.size 2) (by rw [wide_len]; exact hown4) hgrow4 hat4); clear hown4 hgrow4 hnil4 hat4; have X4 := Lib.hid (H4.out.five XX.out (by simp [Value.ownBlock])); have e4 := X4.out.e2; have hb4 := H4.out.hi; refine RowKit.Hid.out ?_)
    have hl4 : ([UInt8.ofNat 2] ++ wide s.size 2).length = 3 := by simp [wide_len]
    clear d0 c0 e1
    refine Lib.hid ?_
    go_wp2_with (at_builtin; refine wpList_append_string_at _ rfl (.tmp 28) (.tmp 30) 107 9 rfl (w.heap.size + 1) 5 i0 Try.underlying107 Try.underlying9 hi hz0 hz1 hz2 _ _ _ rfl H4.out.own (by omega) s rfl (by unfold maxLen; omega) (by omega) hb4 ?_; intro v5 w5 hown5 hgrow5 hat5; have H5 := Lib.hid (H4.out.text hown5 hgrow5 hat5); clear hown5 hgrow5 hat5)
    go_ret
    obtain ⟨g, c, h1, h2, h3⟩ := HEnd.out _ _ _ H5.out (by rw [List.append_assoc]; rfl)
    exact ⟨g, c, by rw [← h1]; rfl, h2, h3⟩
  · have e1 := HX1.out.e3
    have hbl : (bytesL l).length ≤ 4294967277 := by
      have h1 : (bytesT (.mk 3 n s r l)).length ≤ 4294967280 := HLen.out
      have h2 : (bytesT (.mk 3 n s r l)).length = (bytesL l).length + 3 := by
        show (UInt8.ofNat 3 :: (wide l.length 2 ++ bytesL l)).length = _
        rw [List.length_cons, List.length_append, wide_len]
        omega
      omega
    have hll : l.length ≤ 4294967277 := by have := bytesL_len l; omega
    have HBL := Lib.hid hbl
    clear hbl
    go_wp2_with fail
    refine (big_w l.length 2 _ (by omega) (by decide) (by decide)).mono ?_
    rintro e w3 ⟨g3, c3, rfl, hown3, hb⟩
    have H3 := Lib.hid (HI1.out.behind hb)
    have HO3 := Lib.hid hown3
    have hb3 := H3.out.hi
    clear hb hown3
    go_wp2_with (at_builtin; refine wpList_append_own_at _ rfl (.tmp 34) (.tmp 39) 107 rfl (w.heap.size + 1) 5 i0 (.int .u8 0) 1 1 Try.underlying107 hi hz0 hz1 hz2 rfl (by decide) _ _ _ rfl H3.out.own ⟨g3, 0, none⟩ 2 c3 (u8s (wide l.length 2)) rfl (by simp [u8s_len, wide_len]) (HO3.out.cells (g := g3) rfl) (by simp [u8s, Value.oneCell']) (by unfold maxLen; first | omega | (simp; done) | (simp; omega)) (by first | omega | (simp; done) | (simp; omega)) hb3 ?_; intro v4 w4 hown4 hgrow4 hnil4 hat4; have H4 := Lib.hid (H3.out.more (m := wide l.length 2) (by rw [wide_len]; exact hown4) hgrow4 hat4); clear hown4 hgrow4 hnil4 hat4)
    clear d0 c0 e1
    go_loopw [3, 4] (fun ov iv wr => ∃ j : Nat, j ≤ l.length ∧ iv = .int .i64 (j : Int) ∧ BInv (w.heap.size + 1) (w.alloc (.cells #[.int .u8 ((3 : Nat) : Int), .int .i64 n, .string s, .slice A l.length cap, .int .i64 r] 26)) (.slice none 0 0) ([UInt8.ofNat 3] ++ wide l.length 2 ++ bytesL (l.take j)) wr ov) (fun _ iv _ => l.length - (intOf iv).toNat)
    case atStart => exact ⟨0, Nat.zero_le _, rfl, by rw [List.take_zero]; exact (List.append_nil _).symm ▸ H4.out⟩
    case round =>
      obtain ⟨j, hj, rfl, hI⟩ := hrel
      have hB := hI.below0 HW0.out
      have hsz := hB.size
      have hhi := hI.hi
      have X5 := hI.five XX.out (by simp [Value.ownBlock])
      have x3 := X5.e3
      obtain ⟨oA, oc, rfl⟩ := owns_slice hI.own
      by_cases hlt : j < l.length
      · obtain ⟨b, off, A', cap', rfl, hbt, hrow, hLj⟩ := HL.out.elem j hlt
        obtain ⟨g0, g1, g2, g3, g4⟩ := (hrow.same (hB.block b (HPW.out b hbt))).get
        have hle : ([UInt8.ofNat 3] ++ wide l.length 2 ++ bytesL (l.take j)).length + (bytesT l[j]).length ≤ 4294967280 := by
          have h1 := bytesL_take hlt
          have h2 : (bytesL l).length = (bytesL (l.take (j + 1))).length + (bytesL (l.drop (j + 1))).length := by
            rw [← List.length_append, ← bytesL_append, List.take_append_drop]
          rw [h1, List.length_append] at h2
          have h3 := HBL.out
          simp only [List.length_append, wide_len, List.length_singleton]
          omega
        have HH := Lib.hid (IH.out l[j] (List.getElem_mem hlt) _ wr (hLj.below hB HPW.out) (fun b hb => Nat.lt_of_lt_of_le (HPW.out b hb) hsz) (by omega))
        have hT := Lib.hid (bytesL_take hlt)
        have hpos := bytesT_pos l[j]
        have HI := Lib.hid hI
        clear hrow hLj hI hB X5
        generalize bytesT l[j] = bj at *
        generalize hpj : ([UInt8.ofNat 3] ++ wide l.length 2 ++ bytesL (l.take j)) = pj at *
        have HPJ := Lib.hid hpj
        clear hpj
        go_wp2_with fail
        refine HH.out.mono ?_
        rintro e w5 ⟨g5, c5, rfl, hown5, hb⟩
        have H5 := Lib.hid (HI.out.behind hb)
        have HO5 := Lib.hid hown5
        have hb5 := H5.out.hi
        clear hb hown5 g0 g1 g2 g3 g4 HH
        go_wp2_with (at_builtin; refine wpList_append_own_at _ rfl (.tmp 48) (.tmp 54) 107 rfl (w.heap.size + 1) 5 i0 (.int .u8 0) 1 1 Try.underlying107 hi hz0 hz1 hz2 rfl (by decide) _ _ _ rfl H5.out.own ⟨g5, 0, none⟩ bj.length c5 (u8s bj) rfl (by simp [u8s_len]) (HO5.out.cells (g := g5) rfl) (by simp [u8s, Value.oneCell']) (by unfold maxLen; omega) (by omega) hb5 ?_; intro v4 w4 hown4 hgrow4 hnil4 hat4; have H6 := Lib.hid (H5.out.more (m := bj) hown4 hgrow4 hat4); clear hown4 hgrow4 hnil4 hat4)
        go_roundw
        case rel => exact ⟨j + 1, by omega, by go_num, by rw [hT.out, ← List.append_assoc, HPJ.out]; exact H6.out⟩
        case measure => simp [intOf]; omega
      · obtain rfl : j = l.length := by omega
        rw [List.take_length] at hI ⊢
        have HI := Lib.hid hI
        clear hI hB X5
        go_wp2
        go_ret
        obtain ⟨g, c, h1, h2, h3⟩ := HEnd.out _ _ _ HI.out (by rw [List.append_assoc]; rfl)
        exact ⟨g, c, by rw [← h1]; rfl, h2, h3⟩
  · have e1 := HX1.out.e4
    go_wp2_with fail
    rw [IntKind.wrap_u64, show r % 18446744073709551616 = (((r % 18446744073709551616).toNat : Nat) : Int) by omega]
    refine (big_w (r % 18446744073709551616).toNat 4 _ (by omega) (by decide) (by decide)).mono ?_
    rintro e w3 ⟨g3, c3, rfl, hown3, hb⟩
    have H3 := Lib.hid (HI1.out.behind hb)
    have HO3 := Lib.hid hown3
    have hb3 := H3.out.hi
    clear hb hown3
    go_wp2_with (at_builtin; refine wpList_append_own_at _ rfl (.tmp 58) (.tmp 62) 107 rfl (w.heap.size + 1) 5 i0 (.int .u8 0) 1 1 Try.underlying107 hi hz0 hz1 hz2 rfl (by decide) _ _ _ rfl H3.out.own ⟨g3, 0, none⟩ 4 c3 (u8s (wide (r % 18446744073709551616).toNat 4)) rfl (by simp [u8s_len, wide_len]) (HO3.out.cells (g := g3) rfl) (by simp [u8s, Value.oneCell']) (by unfold maxLen; first | omega | (simp; done) | (simp; omega)) (by first | omega | (simp; done) | (simp; omega)) hb3 ?_; intro v4 w4 hown4 hgrow4 hnil4 hat4; have H4 := Lib.hid (H3.out.more (m := wide (r % 18446744073709551616).toNat 4) (by rw [wide_len]; exact hown4) hgrow4 hat4); clear hown4 hgrow4 hnil4 hat4)
    go_ret
    obtain ⟨g, c, h1, h2, h3⟩ := HEnd.out _ _ _ H4.out rfl
    exact ⟨g, c, by rw [← h1]; rfl, h2, h3⟩
  · have q1 : ((k : Int) == 1) = false := by rw [beq_eq_false_iff_ne]; omega
    have q2 : ((k : Int) == 2) = false := by rw [beq_eq_false_iff_ne]; omega
    have q3 : ((k : Int) == 3) = false := by rw [beq_eq_false_iff_ne]; omega
    have q4 : ((k : Int) == 4) = false := by rw [beq_eq_false_iff_ne]; omega
    go_wp2
    go_ret
    obtain ⟨g, c, h1, h2, h3⟩ := HEnd.out _ _ _ HI1.out (lay_big _ _ _ _ hk5).symm
    exact ⟨g, c, by rw [← h1]; rfl, h2, h3⟩
end Go.Proofs.Ytckgmdlacaiacaa
