/-
  lentAll, keptAll.
-/
import Derived.Test.YtckgmdlacaiacaaAll
namespace Go.Proofs.Ytckgmdlacaiacaa
open Go.RowKit Go.Shelf
attribute [local go_sem] Oper.semAt_some

/-- While lentAll copies. -/
structure LaRun (w : World) (l : List VT) (j : Nat) (lv : Value) (W : World) : Prop where
  below : Below w.heap.size w W
  own : ∃ xs, W.ownsRow w.heap.size 26 5 lv j xs ∧ ∀ q (_ : q < j) (hl : q < l.length), Lies W (fun b => w.heap.size ≤ b ∧ b < W.heap.size ∧ some b ≠ lv.ownBlock) true l[q] (.agg (rowOf xs.toArray q))
theorem LaRun.start (w : World) (l : List VT) (n : Nat) (hn : n ≤ maxLen) : LaRun w l 0 (.slice (some ⟨w.heap.size, 0, none⟩) 0 n) (w.alloc (.cells (zeroCells n) 26)) :=
  ⟨(Below.refl _ w).alloc (Nat.le_refl _) _, [], World.ownsRow_made w _ n (Nat.le_refl _) hn (zeroCells_size n), fun _ h => absurd h (Nat.not_lt_zero _)⟩
theorem la_shape {W : World} {base j : Nat} {lv : Value} {xs : List Value} (h : W.ownsRow base 26 5 lv j xs) : ∃ A c, lv = .slice A j c := by
  rcases h.2 with ⟨rfl, h0⟩ | ⟨g, cap, cur, rfl, _⟩
  · exact ⟨none, 0, by rw [h0]⟩
  · exact ⟨_, _, rfl⟩
theorem la_old {w W W2 W3 : World} {j : Nat} {lv : Value} {xs : List Value} {o : Obj} (hB : Below w.heap.size w W) (h1 : W.ownsRow w.heap.size 26 5 lv j xs) (hb : Below W.heap.size W W2) (hg : (W2.alloc o).grownBy W3 lv.ownBlock) :
    (∀ g, g < W2.heap.size → some g ≠ lv.ownBlock → W3.heap[g]? = W2.heap[g]?) ∧ W2.heap.size + 1 ≤ W3.heap.size ∧ Below w.heap.size w W3 := by
  have hsW := hB.size
  have hs2 := hb.size
  have hs3 := hg.size
  simp only [World.size_alloc] at hs3
  have hB2 := (hB.trans (hb.mono hsW)).alloc (o := o) (by omega)
  exact ⟨fun g g1 g2 => (hg.block g (by simp only [World.size_alloc]; omega) g2).trans (heap_alloc_old _ _ g1), hs3, hB2.grown hg (by simp only [World.size_alloc]; omega) (fun k hk => (h1.lt k hk).1)⟩
theorem LaRun.step {w W W2 W3 : World} {l : List VT} {j : Nat} {lv v2 : Value} {xs : List Value} {o : Obj} {A' : Option Addr} {cap' : Nat} (hj : j < l.length) (hB : Below w.heap.size w W)
    (h1 : W.ownsRow w.heap.size 26 5 lv j xs) (h2 : ∀ q (_ : q < j) (hl : q < l.length), Lies W (fun b => w.heap.size ≤ b ∧ b < W.heap.size ∧ some b ≠ lv.ownBlock) true l[q] (.agg (rowOf xs.toArray q)))
    (hb : Below W.heap.size W W2) (hf : LiesIn W W2 l[j] (.agg #[.int .u8 (l[j].k : Int), .int .i64 l[j].n, .string l[j].s, .slice A' l[j].l.length cap', .int .i64 l[j].r]))
    (hown : W3.ownsRow w.heap.size 26 5 v2 (j + 1) (xs ++ [.int .u8 (l[j].k : Int), .int .i64 l[j].n, .string l[j].s, .slice A' l[j].l.length cap', .int .i64 l[j].r]))
    (hg : (W2.alloc o).grownBy W3 lv.ownBlock) (hat : v2.ownBlock = lv.ownBlock ∨ v2.ownBlock = some (W2.alloc o).heap.size) : LaRun w l (j + 1) v2 W3 := by
  obtain ⟨old, hs3, hB3⟩ := la_old hB h1 hb hg
  have hsW := hB.size
  have hs2 := hb.size
  have hxl : xs.length = j * 5 := h1.1
  have nv : ∀ g, g < W2.heap.size → some g ≠ lv.ownBlock → some g ≠ v2.ownBlock := by
    intro g g1 g2
    rcases hat with hat | hat
    · rwa [hat]
    · rw [hat]
      simp only [World.size_alloc, ne_eq, Option.some.injEq]
      omega
  refine ⟨hB3, _, hown, fun q hq hl => ?_⟩
  by_cases e : q = j
  · subst e
    rw [rowOf_last hxl]
    refine Lies.same (W := W2) (p := fun b => W.heap.size ≤ b ∧ b < W2.heap.size) (fun g hg' => ?_) (fun g hg' => ?_) _ _ hf
    · have ne : some g ≠ lv.ownBlock := fun e => by have := (h1.lt _ e.symm).2; omega
      exact ⟨by omega, by omega, nv g hg'.2 ne⟩
    · exact old g hg'.2 (fun e => by have := (h1.lt _ e.symm).2; omega)
  · rw [rowOf_app (by omega)]
    refine Lies.same (W := W) (p := fun b => w.heap.size ≤ b ∧ b < W.heap.size ∧ some b ≠ lv.ownBlock) (fun g hg' => ⟨hg'.1, by omega, nv g (by omega) hg'.2.2⟩) (fun g hg' => (old g (by omega) hg'.2.2).trans (hb.block g hg'.2.1)) _ _ (h2 q (by omega) hl)
theorem LaRun.done {w W W2 W3 : World} {l : List VT} {lv v2 : Value} {xs : List Value} {o : Obj} (hB : Below w.heap.size w W)
    (h1 : W.ownsRow w.heap.size 26 5 lv l.length xs) (h2 : ∀ q (_ : q < l.length) (hl : q < l.length), Lies W (fun b => w.heap.size ≤ b ∧ b < W.heap.size ∧ some b ≠ lv.ownBlock) true l[q] (.agg (rowOf xs.toArray q)))
    (hb : Below W.heap.size W W2) (hown : W3.ownsRow w.heap.size 26 5 v2 (l.length + 1) (xs ++ [.int .u8 1, .int .i64 78, .string ⟨#[]⟩, .slice none 0 0, .int .i64 0]))
    (hg : (W2.alloc o).grownBy W3 lv.ownBlock) : ∃ g cap, v2 = .slice (some ⟨g, 0, none⟩) (l.length + 1) cap ∧ l.length + 1 ≤ cap ∧ cap ≤ maxLen ∧ LiesAll W3 (fun b => w.heap.size ≤ b ∧ b < W3.heap.size) l (some ⟨g, 0, none⟩) cap ∧ Below w.heap.size w W3 := by
  obtain ⟨old, hs3, hB3⟩ := la_old hB h1 hb hg
  have hsW := hB.size
  have hs2 := hb.size
  have hxl : xs.length = l.length * 5 := h1.1
  rcases hown.2 with ⟨_, h5⟩ | ⟨g, cap, cur, rfl, hbg, hg3, hnc, hcm, hcs, htake⟩
  · omega
  have hgl := (Array.getElem?_eq_some_iff.1 hg3).1
  refine ⟨g, cap, rfl, hnc, hcm, ⟨LiesL.of_get fun q hq => ⟨g, 0, rowOf cur q, rfl, ⟨hbg, hgl⟩, ?_, ?_⟩, ⟨g, 0, rfl, ⟨hbg, hgl⟩, ?_⟩, by omega, hcm⟩, hB3⟩
  · rw [Nat.zero_add, Nat.zero_add]
    exact cells_of_row hg3 (by omega) rfl
  · rw [rowOf_take htake (by omega), rowOf_app (by omega)]
    exact Lies.same (W := W) (p := fun b => w.heap.size ≤ b ∧ b < W.heap.size ∧ some b ≠ lv.ownBlock) (fun g hg' => ⟨hg'.1, by omega⟩) (fun g hg' => (old g (by omega) hg'.2.2).trans (hb.block g hg'.2.1)) _ _ (h2 q hq hq)
  · rw [Nat.zero_add]
    have e : rowOf cur l.length = mark78 := by rw [rowOf_take htake (by omega), rowOf_last hxl]; rfl
    have := cells_of_row (i := l.length) (v0 := .int .u8 1) (v1 := .int .i64 78) (v2 := .string ⟨#[]⟩) (v3 := .slice none 0 0) (v4 := .int .i64 0) hg3 (by omega) e
    exact this

set_option maxRecDepth 100000 in
set_option maxHeartbeats 8000000 in
theorem lentAll_w (p : Nat → Prop) (m : Bool) (l : List VT) (A : Option Addr) (cap : Nat) (w : World) (hL0 : LiesL w p m A 0 l) (hpw : ∀ b, p b → b < w.heap.size) (hl : l.length ≤ 65536) (hparts : ∀ t ∈ l, t.parts ≤ 65536) :
    Calls Try.prog 36 #[.slice A l.length cap] w fun e w' => ∃ A' cap', e = .returned (.slice A' l.length cap') ∧ LiesAll w' (fun b => w.heap.size ≤ b ∧ b < w'.heap.size) l A' cap' ∧ Below w.heap.size w w' := by
  have HPW := Lib.hid hpw
  have HL := Lib.hid hL0
  have HP := Lib.hid hparts
  clear hL0 hpw hparts
  obtain ⟨i0, hi, hz0, hz1, hz2⟩ := info_parts infoV
  have hmk : ∀ W : World, (Instr.makeSlice 23 (.int .i64 0) (.int .i64 ((l.length : Int) + 1))).run Try.prog W = .ok (.slice (some ⟨W.heap.size, 0, none⟩) 0 (l.length + 1)) (W.alloc (.cells (zeroCells (l.length + 1)) 26)) := fun W => run_make_values 0 (l.length + 1) (Nat.zero_le _) (by omega) W
  have hst := Lib.hid (LaRun.start w l (l.length + 1) (by unfold maxLen; omega))
  go_enter Try.func36, Try.ntmps36
  go_wp2
  clear hmk
  go_loopw [3, 4] (fun lv iv wr => ∃ j : Nat, j ≤ l.length ∧ iv = .int .i64 (j : Int) ∧ LaRun w l j lv wr) (fun _ iv _ => l.length - (intOf iv).toNat)
  case atStart => exact ⟨0, Nat.zero_le _, rfl, hst.out⟩
  case round =>
    obtain ⟨j, hj, rfl, hB, xs, hown, hrows⟩ := hrel
    clear hst
    have hsz := hB.size
    obtain ⟨lA, lc, rfl⟩ := la_shape hown
    have HR := Lib.hid (And.intro hB (And.intro hown hrows))
    by_cases hlt : j < l.length
    · obtain ⟨b, off, A', cap', rfl, hbt, hrow, hLj⟩ := HL.out.elem j hlt
      obtain ⟨g0, g1, g2, g3, g4⟩ := (hrow.same (hB.block b (HPW.out b hbt))).get
      have HH := Lib.hid (lent_w p m l[j] _ wr (hLj.below hB HPW.out) (fun b hb => Nat.lt_of_lt_of_le (HPW.out b hb) hsz) (Nat.le_trans (HP.out _ (List.getElem_mem hlt)) (by omega)))
      clear hrow hLj hB hown hrows
      go_wp2_with fail
      refine HH.out.mono ?_
      rintro e w1 ⟨v', rfl, hF, hb⟩
      obtain ⟨A2, cap2, rfl⟩ := hF.cells
      have HF := Lib.hid (And.intro hF hb)
      have hs1 := hb.size
      clear hF hb g0 g1 g2 g3 g4 HH
      go_wp2_with (at_builtin; refine wpList_append_own_at _ rfl (.tmp 16) (.tmp 22) 23 rfl w.heap.size 26 i0 (.agg #[.int .u8 0, .int .i64 0, .string ⟨#[]⟩, .slice none 0 0, .int .i64 0]) 5 64 Try.underlying23 hi hz0 hz1 hz2 rfl (by decide) _ _ _ rfl ((HR.out.2.1.kept (grownBy_of_below HF.out.2) (Classical.em _)).alloc _) ⟨_, 0, none⟩ 1 1 [.int .u8 (l[j].k : Int), .int .i64 l[j].n, .string l[j].s, .slice A2 l[j].l.length cap2, .int .i64 l[j].r] rfl rfl (news_five (Five.new _ _ _ _ _ _)) (by simp [Value.oneCell']) (by unfold maxLen; omega) (by omega) (by simp; omega) ?_; intro v2 w2 hown2 hgrow2 hnil2 hat2; clear hnil2)
      have HN := Lib.hid (LaRun.step hlt HR.out.1 HR.out.2.1 HR.out.2.2 HF.out.2 HF.out.1 hown2 hgrow2 hat2)
      clear hown2 hgrow2 hat2
      go_roundw
      case rel => exact ⟨j + 1, by omega, by go_num, HN.out⟩
      case measure => simp [intOf]; omega
    · obtain rfl : j = l.length := by omega
      clear hB hown hrows
      go_wp2_with fail
      refine (num_b 78 _ (by omega)).mono ?_
      rintro e w1 ⟨rfl, hb⟩
      have HF := Lib.hid hb
      have hs1 := hb.size
      clear hb
      go_wp2_with (at_builtin; refine wpList_append_own_at _ rfl (.tmp 24) (.tmp 26) 23 rfl w.heap.size 26 i0 (.agg #[.int .u8 0, .int .i64 0, .string ⟨#[]⟩, .slice none 0 0, .int .i64 0]) 5 64 Try.underlying23 hi hz0 hz1 hz2 rfl (by decide) _ _ _ rfl ((HR.out.2.1.kept (grownBy_of_below HF.out) (Classical.em _)).alloc _) ⟨_, 0, none⟩ 1 1 [.int .u8 1, .int .i64 78, .string ⟨#[]⟩, .slice none 0 0, .int .i64 0] rfl rfl (news_five (Five.new _ _ _ _ _ _)) (by simp [Value.oneCell']) (by unfold maxLen; omega) (by omega) (by simp; omega) ?_; intro v2 w2 hown2 hgrow2 hnil2 hat2; clear hnil2; obtain ⟨g, cp, rfl, hcp1, hcp2, hall, hbel⟩ := LaRun.done HR.out.1 HR.out.2.1 HR.out.2.2 HF.out hown2 hgrow2; have HN := Lib.hid (And.intro hall hbel); clear hown2 hgrow2 hat2 hall hbel; refine RowKit.Hid.out ?_)
      refine Lib.hid ?_
      unfold maxLen at hcp2
      go_wp2
      go_ret
      exact ⟨_, _, rfl, HN.out.1, HN.out.2⟩

set_option maxRecDepth 100000 in
set_option maxHeartbeats 8000000 in
theorem keptAll_w (p p' : Nat → Prop) (m : Bool) (l : List VT) (A1 A : Option Addr) (cap1 cap : Nat) (w : World) (ha : LiesAll w p l A1 cap1) (hL0 : LiesL w p' m A 0 l) (hpa : ∀ b, p b → b < w.heap.size) (hpw : ∀ b, p' b → b < w.heap.size) (hl : l.length ≤ 65536) :
    Calls Try.prog 44 #[.slice A1 l.length cap1, .slice A l.length cap] w fun e w' => e = .returned (.bool true) ∧ Below w.heap.size w w' := by
  have HPA := Lib.hid hpa
  have HPW := Lib.hid hpw
  have HL := Lib.hid hL0
  have HL1 := Lib.hid ha.lies
  have HM := Lib.hid ha.mark
  have hlt1 := ha.lt
  have hle1 := ha.le
  unfold maxLen at hle1
  have hB0 := Lib.hid (Below.refl w.heap.size w)
  clear hL0 hpw hpa ha
  go_enter Try.func44, Try.ntmps44
  go_wp2
  go_loopw [5] (fun iv wr => ∃ j : Nat, j ≤ l.length ∧ iv = .int .i64 (j : Int) ∧ Below w.heap.size w wr) (fun iv _ => l.length - (intOf iv).toNat)
  case atStart => exact ⟨0, Nat.zero_le _, rfl, hB0.out⟩
  case round =>
    obtain ⟨j, hj, rfl, hB⟩ := hrel
    have hsz := hB.size
    by_cases hlt : j < l.length
    · obtain ⟨b, off, A', cap', rfl, hbt, hrow, hLj⟩ := HL.out.elem j hlt
      obtain ⟨b1, off1, A1', cap1', rfl, hbt1, hrow1, hLj1⟩ := HL1.out.elem j hlt
      obtain ⟨g0, g1, g2, g3, g4⟩ := (hrow.same (hB.block b (HPW.out b hbt))).get
      obtain ⟨i0, i1, i2, i3, i4⟩ := (hrow1.same (hB.block b1 (HPA.out b1 hbt1))).get
      have HH := fun W (hW : Below w.heap.size w W) => kept_w p p' m l[j] _ _ W (hLj1.below hW HPA.out) (hLj.below hW HPW.out) (fun b hb => Nat.lt_of_lt_of_le (HPA.out b hb) hW.size) (fun b hb => Nat.lt_of_lt_of_le (HPW.out b hb) hW.size)
      have cK := fun d os => Calls.regrown_of (HH _ (hB.trans ((below_regrown wr d os).mono hsz)))
      have a0 := cell_regrown g0
      have a1 := cell_regrown g1
      have a2 := cell_regrown g2
      have a3 := cell_regrown g3
      have a4 := cell_regrown g4
      have c0 := cell_regrown i0
      have c1 := cell_regrown i1
      have c2 := cell_regrown i2
      have c3 := cell_regrown i3
      have c4 := cell_regrown i4
      have hI1 : (j : Int) < (l.length : Int) := by omega
      have hI0 : (0 : Int) ≤ (j : Int) := by omega
      have HBr := Lib.hid hB
      clear HH hrow hrow1 hLj hLj1 hB
      go_wp2
      refine wp_region_quiet_below (by kernel_rfl) (by kernel_rfl) ?_
      repeat (quiet_step (exact cK _ _))
      refine wpQuiet_nil ?_
      intro _ hw'
      obtain ⟨⟨dq, osq⟩, hw''⟩ := hw'
      subst hw''
      have HN := Lib.hid (below_regrown wr dq osq)
      clear cK a0 a1 a2 a3 a4 c0 c1 c2 c3 c4 g0 g1 g2 g3 g4 i0 i1 i2 i3 i4
      generalize «Sort».grow (redrawn wr dq) osq = W at *
      go_wp2
      go_roundw
      case rel => exact ⟨j + 1, by omega, by go_num, HBr.out.trans (HN.out.mono hsz)⟩
      case measure => simp [intOf]; omega
    · obtain rfl : j = l.length := by omega
      obtain ⟨b1, off1, rfl, hbt1, hrow⟩ := HM.out
      obtain ⟨g0, g1, g2, g3, g4⟩ := (hrow.same (hB.block b1 (HPA.out b1 hbt1))).get
      have HBr := Lib.hid hB
      clear hrow hB
      go_wp2
      go_ret
      exact ⟨rfl, HBr.out⟩
end Go.Proofs.Ytckgmdlacaiacaa
