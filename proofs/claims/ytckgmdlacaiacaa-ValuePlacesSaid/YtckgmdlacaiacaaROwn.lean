/-
  posternref02.Own.
-/
import Derived.Test.YtckgmdlacaiacaaOf
namespace Go.Proofs.Ytckgmdlacaiacaa
open Go.RowKit Go.Shelf
attribute [local go_sem] Oper.semAt_some

/-- A value in new memory, to be read. -/
def LiesN (w W : World) (t : VT) (v : Value) : Prop := Lies W (fun b => w.heap.size ≤ b ∧ b < W.heap.size) false t v
theorem LiesN.cells {w W : World} {t : VT} {v : Value} (h : LiesN w W t v) : ∃ A cap, v = .agg #[.int .u8 (t.k : Int), .int .i64 t.n, .string t.s, .slice A t.l.length cap, .int .i64 t.r] := Lies.cells h
/-- While the document's Own copies. -/
structure RoRun (k : Nat) (n : Int) (s : ByteArray) (r : Int) (l : List VT) (A : Option Addr) (cap : Nat) (w : World) (j : Nat) (lv : Value) (W : World) : Prop where
  below : Below w.heap.size w W
  box : Five W w.heap.size (.int .u8 (k : Int)) (.int .i64 n) (.string s) (.slice A l.length cap) (.int .i64 r)
  res : Five W (w.heap.size + 1) (.int .u8 0) (.int .i64 0) (.string ⟨#[]⟩) (.slice none 0 0) (.int .i64 0)
  out : Five W (w.heap.size + 1 + 1) (.int .u8 (k : Int)) (.int .i64 n) (.string s) lv (.int .i64 r)
  own : ∃ xs, W.ownsRow (w.heap.size + 1 + 1 + 1) 26 5 lv j xs ∧ ∀ q (_ : q < j) (hl : q < l.length), Lies W (fun b => w.heap.size + 1 + 1 + 1 ≤ b ∧ b < W.heap.size ∧ some b ≠ lv.ownBlock) false l[q] (.agg (rowOf xs.toArray q))
theorem roRun_start (k : Nat) (n : Int) (s : ByteArray) (r : Int) (l : List VT) (A : Option Addr) (cap : Nat) (w : World) : RoRun k n s r l A cap w 0 (.slice none 0 0)
    (((w.alloc (.cells #[.int .u8 (k : Int), .int .i64 n, .string s, .slice A l.length cap, .int .i64 r] 26)).alloc (.cells #[.int .u8 0, .int .i64 0, .string ⟨#[]⟩, .slice none 0 0, .int .i64 0] 26)).alloc (.cells #[.int .u8 (k : Int), .int .i64 n, .string s, .slice none 0 0, .int .i64 r] 26)) := by
  refine ⟨(((Below.refl _ w).alloc (Nat.le_refl _) _).alloc (by simp) _).alloc (by simp <;> omega) _, ((Five.new w _ _ _ _ _).alloc _).alloc _, ?_, ?_, [], World.ownsRow_nil _ _ _ _, fun q h => absurd h (Nat.not_lt_zero _)⟩
  · have := Five.new (w.alloc (.cells #[.int .u8 (k : Int), .int .i64 n, .string s, .slice A l.length cap, .int .i64 r] 26)) (.int .u8 0) (.int .i64 0) (.string ⟨#[]⟩) (.slice none 0 0) (.int .i64 0)
    rw [World.size_alloc] at this
    exact this.alloc _
  · have := Five.new ((w.alloc (.cells #[.int .u8 (k : Int), .int .i64 n, .string s, .slice A l.length cap, .int .i64 r] 26)).alloc (.cells #[.int .u8 0, .int .i64 0, .string ⟨#[]⟩, .slice none 0 0, .int .i64 0] 26)) (.int .u8 (k : Int)) (.int .i64 n) (.string s) (.slice none 0 0) (.int .i64 r)
    rw [World.size_alloc, World.size_alloc] at this
    exact this
theorem ro_old {w W W2 W3 : World} {base j : Nat} {lv : Value} {xs : List Value} {o : Obj} (hB : Below w.heap.size w W) (hbase : w.heap.size ≤ base) (h1 : W.ownsRow base 26 5 lv j xs) (hb : Below W.heap.size W W2) (hg : (W2.alloc o).grownBy W3 lv.ownBlock) :
    (∀ g, g < W2.heap.size → some g ≠ lv.ownBlock → W3.heap[g]? = W2.heap[g]?) ∧ W2.heap.size + 1 ≤ W3.heap.size ∧ Below w.heap.size w W3 := by
  have hsW := hB.size
  have hs2 := hb.size
  have hs3 := hg.size
  simp only [World.size_alloc] at hs3
  have hB2 := (hB.trans (hb.mono hsW)).alloc (o := o) (by omega)
  exact ⟨fun g g1 g2 => (hg.block g (by simp only [World.size_alloc]; omega) g2).trans (heap_alloc_old _ _ g1), hs3, hB2.grown hg (by simp only [World.size_alloc]; omega) (fun k hk => by have := (h1.lt k hk).1; omega)⟩
theorem ro_box {W W2 W3 : World} {base j B : Nat} {lv : Value} {xs : List Value} {o : Obj} {c0 c1 c2 c3 c4 : Value} (hX : Five W B c0 c1 c2 c3 c4) (hB : B < base) (h1 : W.ownsRow base 26 5 lv j xs) (hb : Below W.heap.size W W2) (hg : (W2.alloc o).grownBy W3 lv.ownBlock) : Five W3 B c0 c1 c2 c3 c4 := by
  have hs2 := hb.size
  have hl := hX.lt
  exact ⟨(hg.block B (by simp only [World.size_alloc]; omega) (fun e => by have := (h1.lt _ e.symm).1; omega)).trans ((heap_alloc_old _ _ (by omega)).trans ((hb.block B hl).trans hX.row))⟩
theorem RoRun.step {k : Nat} {n : Int} {s : ByteArray} {r : Int} {l : List VT} {A : Option Addr} {cap : Nat} {w W W2 W3 : World} {j : Nat} {lv v2 : Value} {o : Obj} {A' : Option Addr} {cap' : Nat} {xs : List Value} (h : RoRun k n s r l A cap w j lv W) (hj : j < l.length)
    (h1 : W.ownsRow (w.heap.size + 1 + 1 + 1) 26 5 lv j xs) (h2 : ∀ q (_ : q < j) (hl : q < l.length), Lies W (fun b => w.heap.size + 1 + 1 + 1 ≤ b ∧ b < W.heap.size ∧ some b ≠ lv.ownBlock) false l[q] (.agg (rowOf xs.toArray q)))
    (hb : Below W.heap.size W W2) (hf : LiesN W W2 l[j] (.agg #[.int .u8 (l[j].k : Int), .int .i64 l[j].n, .string l[j].s, .slice A' l[j].l.length cap', .int .i64 l[j].r]))
    (hown : W3.ownsRow (w.heap.size + 1 + 1 + 1) 26 5 v2 (j + 1) (xs ++ [.int .u8 (l[j].k : Int), .int .i64 l[j].n, .string l[j].s, .slice A' l[j].l.length cap', .int .i64 l[j].r]))
    (hg : (W2.alloc o).grownBy W3 lv.ownBlock) (hat : v2.ownBlock = lv.ownBlock ∨ v2.ownBlock = some (W2.alloc o).heap.size) : RoRun k n s r l A cap w (j + 1) v2 (W3.setCell ⟨w.heap.size + 1 + 1, 3, none⟩ v2) := by
  obtain ⟨old, hs3, hB3⟩ := ro_old h.below (by omega) h1 hb hg
  have hsW := h.below.size
  have hs2 := hb.size
  have hxl : xs.length = j * 5 := h1.1
  have nv : ∀ g, g < W2.heap.size → some g ≠ lv.ownBlock → some g ≠ v2.ownBlock := by
    intro g g1 g2
    rcases hat with hat | hat
    · rwa [hat]
    · rw [hat]
      simp only [World.size_alloc, ne_eq, Option.some.injEq]
      omega
  have X := ro_box h.box (by omega) h1 hb hg
  have R := ro_box h.res (by omega) h1 hb hg
  have O := ro_box h.out (by omega) h1 hb hg
  have hol := h.out.lt
  have hsz : (W3.setCell ⟨w.heap.size + 1 + 1, 3, none⟩ v2).heap.size = W3.heap.size := World.size_setCell _ _ _
  refine ⟨hB3.setCell (p := ⟨w.heap.size + 1 + 1, 3, none⟩) (by simp; omega) _, X.other (by simp; omega) _, R.other (by simp) _, O.set3 _, _, hown.kept (row := some (w.heap.size + 1 + 1)) ⟨rfl, rfl, rfl, by rw [hsz]; exact Nat.le_refl _, fun k _ hk => heap_setCell_other _ _ _ _ (fun e => hk (by rw [e]))⟩ (.inr fun e => by have := (hown.lt _ e).1; omega), fun q hq hl => ?_⟩
  rw [hsz]
  by_cases e : q = j
  · subst e
    rw [rowOf_last hxl]
    refine Lies.same (W := W2) (p := fun b => W.heap.size ≤ b ∧ b < W2.heap.size) (fun g hg' => ?_) (fun g hg' => ?_) _ _ hf
    · have ne : some g ≠ lv.ownBlock := fun e => by have := (h1.lt _ e.symm).2; omega
      exact ⟨by omega, by omega, nv g hg'.2 ne⟩
    · exact (heap_setCell_other _ _ _ _ (by simp; omega)).trans (old g hg'.2 (fun e => by have := (h1.lt _ e.symm).2; omega))
  · rw [rowOf_app (by omega)]
    refine Lies.same (W := W) (p := fun b => w.heap.size + 1 + 1 + 1 ≤ b ∧ b < W.heap.size ∧ some b ≠ lv.ownBlock) (fun g hg' => ⟨hg'.1, by omega, nv g (by omega) hg'.2.2⟩) (fun g hg' => (heap_setCell_other _ _ _ _ (by simp; omega)).trans ((old g (by omega) hg'.2.2).trans (hb.block g hg'.2.1))) _ _ (h2 q (by omega) hl)
theorem RoRun.done {k : Nat} {n : Int} {s : ByteArray} {r : Int} {l : List VT} {A : Option Addr} {cap : Nat} {w W : World} {lv : Value} (h : RoRun k n s r l A cap w l.length lv W) (hbn : Bnd k n s r l.length) (v0 v1 v2 v3 v4 : Value) :
    LiesN w (((((W.setCell ⟨w.heap.size + 1, 0, none⟩ v0).setCell ⟨w.heap.size + 1, 1, none⟩ v1).setCell ⟨w.heap.size + 1, 2, none⟩ v2).setCell ⟨w.heap.size + 1, 3, none⟩ v3).setCell ⟨w.heap.size + 1, 4, none⟩ v4) (.mk k n s r l) (.agg #[.int .u8 (k : Int), .int .i64 n, .string s, lv, .int .i64 r]) := by
  obtain ⟨xs, h1, h2⟩ := h.own
  have hsz : (((((W.setCell ⟨w.heap.size + 1, 0, none⟩ v0).setCell ⟨w.heap.size + 1, 1, none⟩ v1).setCell ⟨w.heap.size + 1, 2, none⟩ v2).setCell ⟨w.heap.size + 1, 3, none⟩ v3).setCell ⟨w.heap.size + 1, 4, none⟩ v4).heap.size = W.heap.size := by simp
  unfold LiesN
  rw [hsz]
  rcases h1.2 with ⟨rfl, h5⟩ | ⟨g, cp, cur, rfl, hbg, hg3, hnc, hcm, hcs, htake⟩
  · obtain rfl := List.eq_nil_of_length_eq_zero h5
    exact ⟨none, 0, rfl, hbn, Nat.le_refl _, Nat.zero_le _, trivial, fun e => by cases e⟩
  · have hgl := (Array.getElem?_eq_some_iff.1 hg3).1
    have hg4 := (heap_set5_other (W := W) (B := w.heap.size + 1) (g := g) v0 v1 v2 v3 v4 (by omega)).trans hg3
    refine ⟨_, cp, rfl, hbn, hnc, hcm, LiesL.of_get fun q hq => ⟨g, 0, rowOf cur q, rfl, ⟨by omega, hgl⟩, ?_, ?_⟩, fun e => by cases e⟩
    · rw [Nat.zero_add, Nat.zero_add]
      exact cells_of_row hg4 (by omega) rfl
    · rw [rowOf_take htake (by omega)]
      exact Lies.same (W := W) (p := fun b => w.heap.size + 1 + 1 + 1 ≤ b ∧ b < W.heap.size ∧ some b ≠ (Value.slice (some ⟨g, 0, none⟩) l.length cp).ownBlock) (fun g hg' => ⟨by omega, hg'.2.1⟩) (fun g hg' => heap_set5_other _ _ _ _ _ (by omega)) _ _ (h2 q hq hq)

set_option maxRecDepth 100000 in
set_option maxHeartbeats 8000000 in
theorem rOwn_w (p : Nat → Prop) (m : Bool) : ∀ (t : VT) (v : Value) (w : World), Lies w p m t v → (∀ b, p b → b < w.heap.size) → t.parts ≤ 4294967295 →
    Calls Try.prog 74 #[v] w fun e w' => ∃ v', e = .returned v' ∧ LiesN w w' t v' ∧ Below w.heap.size w w' := by
  refine VT.ind fun k n s r l ih v w h hpw hparts => ?_
  have hbnd := h.bnd
  obtain ⟨A, cap, rfl, ⟨hk, hn, hr, hs, hl⟩, hlc, hcm, hL, _⟩ := h
  have hpar : VT.parts (.mk k n s r l) = 1 + VT.partsL l := rfl
  have hlen := VT.partsL_len l
  have HPW := Lib.hid hpw
  have HL := Lib.hid hL
  have IH := Lib.hid ih
  have HBN := Lib.hid hbnd
  clear hL ih hpw hbnd hlc hcm
  have hlen9 : l.length ≤ 4294967294 := by omega
  obtain ⟨i0, hi, hz0, hz1, hz2⟩ := info_parts infoV
  have HPar := Lib.hid (show VT.partsL l ≤ 4294967294 by omega)
  have hst := Lib.hid (roRun_start k n s r l A cap w)
  clear hparts hpar hlen
  go_enter Try.func74, Try.ntmps74
  go_wp2
  go_loopw [4] (fun iv wr => ∃ (j : Nat) (lv : Value), j ≤ l.length ∧ iv = .int .i64 (j : Int) ∧ RoRun k n s r l A cap w j lv wr) (fun iv _ => l.length - (intOf iv).toNat)
  case atStart => exact ⟨0, _, Nat.zero_le _, rfl, hst.out⟩
  case round =>
    obtain ⟨j, lv, hj, rfl, hrun⟩ := hrel
    clear hst
    have X3 := hrun.box.e3
    have hsz := hrun.below.size
    by_cases hlt : j < l.length
    · obtain ⟨b, off, A', cap', rfl, hbt, hrow, hLj⟩ := HL.out.elem j hlt
      obtain ⟨g0, g1, g2, g3, g4⟩ := (hrow.same (hrun.below.block b (HPW.out b hbt))).get
      obtain ⟨xs, hown, hrows⟩ := hrun.own
      obtain ⟨lA, lc, rfl⟩ := la_shape hown
      have HH := Lib.hid (fun W (hW : Below w.heap.size w W) => IH.out l[j] (List.getElem_mem hlt) _ W (hLj.below hW HPW.out) (fun b hb => Nat.lt_of_lt_of_le (HPW.out b hb) hW.size) (Nat.le_trans (VT.parts_le hlt) (by have := HPar.out; omega)))
      have HR := Lib.hid (And.intro hrun (And.intro hown hrows))
      have O3 := hrun.out.e3
      have hosz := hrun.out.lt
      clear hrun hrow hLj hown hrows
      go_wp2
      go_region_law (first | (refine step_append_keep rfl (.tmp 15) (.tmp 22) 23 rfl (w.heap.size + 1 + 1 + 1) 26 i0 (.agg #[.int .u8 0, .int .i64 0, .string ⟨#[]⟩, .slice none 0 0, .int .i64 0]) 5 64 Try.underlying23 hi hz0 hz1 hz2 rfl (by decide) (.slice lA j lc) j xs (by simp [Act.eval]) ((owns_below HR.out.2.1 HF.out.2).alloc _) ⟨w'.heap.size, 0, none⟩ 1 1 [.int .u8 (l[j].k : Int), .int .i64 l[j].n, .string l[j].s, .slice A2 l[j].l.length cap2, .int .i64 l[j].r] (by simp [Act.eval]) rfl (news_five (Five.new _ _ _ _ _ _)) (by simp [Value.oneCell']) (by unfold maxLen; omega) (by omega) (by simp; omega) (by omega) ?_; intro v2 w2 h1 h2 h3 h4; obtain ⟨g2, cp2, rfl⟩ := owns_form h1 (by omega); have HK := Lib.hid (And.intro h1 (And.intro h2 (And.intro h3 h4))); have b5 := ro_box HR.out.1.out (by omega) HR.out.2.1 HF.out.2 h2; have m3 := b5.e3; have z3 := b5.froz 3; clear h1 h2 h3 h4 b5) | (go_simp; go_at_call 74; refine (HH.out _ (HR.out.1.below.drew)).mono ?_; rintro e w' ⟨v', rfl, hF, hb⟩; obtain ⟨A2, cap2, rfl⟩ := hF.cells; have hbd := ((Below.refl wr.heap.size wr).drew).trans hb; have O3' := (HR.out.1.out.below hbd hosz).e3; have O3a := fun o => ((HR.out.1.out.below hbd hosz).alloc o).e3; have hsw := hbd.size; have HF := Lib.hid (And.intro hF hbd); clear hF hb hbd))
      all_goals
        have HN := Lib.hid (RoRun.step HR.out.1 hlt HR.out.2.1 HR.out.2.2 HF.out.2 HF.out.1 HK.out.1 HK.out.2.1 (HK.out.2.2.2.imp (fun h => h.1) (fun h => h)))
        go_wp2
        go_roundw
        case rel => exact ⟨j + 1, _, by omega, by go_num, HN.out⟩
        case measure => simp [intOf]; omega
    · obtain rfl : j = l.length := by omega
      obtain ⟨xs, hown, hrows⟩ := hrun.own
      obtain ⟨lA, lc, rfl⟩ := la_shape hown
      have HR := Lib.hid hrun
      have u0 := hrun.out.e0
      have u1 := hrun.out.e1
      have u2 := hrun.out.e2
      have u3 := hrun.out.e3
      have u4 := hrun.out.e4
      have e0 := hrun.res.e0
      have e1 := hrun.res.e1
      have e2 := hrun.res.e2
      have e3 := hrun.res.e3
      have e4 := hrun.res.e4
      have f0 := hrun.res.froz 0
      have f1 := hrun.res.froz 1
      have f2 := hrun.res.froz 2
      have f3 := hrun.res.froz 3
      have f4 := hrun.res.froz 4
      clear hrun hown hrows
      go_wp2
      refine ret_five (B := w.heap.size + 1) rfl (HR.out.res.set5 _ _ _ _ _) rfl ?_
      exact ⟨_, rfl, HR.out.done HBN.out _ _ _ _ _, below_set5 HR.out.below (by omega) _ _ _ _ _⟩
end Go.Proofs.Ytckgmdlacaiacaa
