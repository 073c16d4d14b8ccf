/-
  posternref02.Own, its blocks its own.
-/
import Derived.Test.YtckgmdlacaiacaaRAt
namespace Go.Proofs.Ytckgmdlacaiacaa
open Go.RowKit Go.Shelf
attribute [local go_sem] Oper.semAt_some

/-- While the document's Own copies: the parts' blocks are their own. -/
structure RfRun (k : Nat) (n : Int) (s : ByteArray) (r : Int) (l : List VT) (A : Option Addr) (cap : Nat) (w : World) (j : Nat) (lv : Value) (W : World) : Prop where
  below : Below w.heap.size w W
  box : Five W w.heap.size (.int .u8 (k : Int)) (.int .i64 n) (.string s) (.slice A l.length cap) (.int .i64 r)
  res : Five W (w.heap.size + 1) (.int .u8 0) (.int .i64 0) (.string ⟨#[]⟩) (.slice none 0 0) (.int .i64 0)
  out : Five W (w.heap.size + 1 + 1) (.int .u8 (k : Int)) (.int .i64 n) (.string s) lv (.int .i64 r)
  own : ∃ xs G, W.ownsRow (w.heap.size + 1 + 1 + 1) 26 5 lv j xs ∧ OwnL W xs.toArray 0 (l.take j) G ∧ G.Nodup ∧ ∀ g ∈ G, w.heap.size + 1 + 1 + 1 ≤ g ∧ g < W.heap.size ∧ some g ≠ lv.ownBlock
  nil : j = 0 → lv = .slice none 0 0
theorem rfRun_start (k : Nat) (n : Int) (s : ByteArray) (r : Int) (l : List VT) (A : Option Addr) (cap : Nat) (w : World) : RfRun k n s r l A cap w 0 (.slice none 0 0)
    (((w.alloc (.cells #[.int .u8 (k : Int), .int .i64 n, .string s, .slice A l.length cap, .int .i64 r] 26)).alloc (.cells #[.int .u8 0, .int .i64 0, .string ⟨#[]⟩, .slice none 0 0, .int .i64 0] 26)).alloc (.cells #[.int .u8 (k : Int), .int .i64 n, .string s, .slice none 0 0, .int .i64 r] 26)) := by
  have h := roRun_start k n s r l A cap w
  exact ⟨h.below, h.box, h.res, h.out, ⟨[], [], World.ownsRow_nil _ _ _ _, rfl, List.nodup_nil, fun _ h => absurd h List.not_mem_nil⟩, fun _ => rfl⟩
theorem RfRun.step {k : Nat} {n : Int} {s : ByteArray} {r : Int} {l : List VT} {A : Option Addr} {cap : Nat} {w W W2 W3 : World} {j : Nat} {lv v2 : Value} {o : Obj} {A' : Option Addr} {cap' : Nat} {xs : List Value} {G : List Nat} (h : RfRun k n s r l A cap w j lv W) (hj : j < l.length)
    (h1 : W.ownsRow (w.heap.size + 1 + 1 + 1) 26 5 lv j xs) (h2 : OwnL W xs.toArray 0 (l.take j) G ∧ G.Nodup ∧ ∀ g ∈ G, w.heap.size + 1 + 1 + 1 ≤ g ∧ g < W.heap.size ∧ some g ≠ lv.ownBlock)
    (hb : Below W.heap.size W W2) (hf : Fresh W W2 l[j] (.agg #[.int .u8 (l[j].k : Int), .int .i64 l[j].n, .string l[j].s, .slice A' l[j].l.length cap', .int .i64 l[j].r]))
    (hown : W3.ownsRow (w.heap.size + 1 + 1 + 1) 26 5 v2 (j + 1) (xs ++ [.int .u8 (l[j].k : Int), .int .i64 l[j].n, .string l[j].s, .slice A' l[j].l.length cap', .int .i64 l[j].r]))
    (hg : (W2.alloc o).grownBy W3 lv.ownBlock) (hat : v2.ownBlock = lv.ownBlock ∨ v2.ownBlock = some (W2.alloc o).heap.size) : RfRun k n s r l A cap w (j + 1) v2 (W3.setCell ⟨w.heap.size + 1 + 1, 3, none⟩ v2) := by
  obtain ⟨F, f1, f2, f3⟩ := hf
  obtain ⟨h2, h3, h4⟩ := h2
  obtain ⟨old, hs3, hB3⟩ := ro_old h.below (by omega) h1 hb hg
  have hsW := h.below.size
  have hs2 := hb.size
  have hxl : xs.length = j * 5 := h1.1
  have X := ro_box h.box (by omega) h1 hb hg
  have R := ro_box h.res (by omega) h1 hb hg
  have O := ro_box h.out (by omega) h1 hb hg
  have hol := h.out.lt
  have hlj : (l.take j).length = j := by rw [List.length_take]; omega
  have hsz : (W3.setCell ⟨w.heap.size + 1 + 1, 3, none⟩ v2).heap.size = W3.heap.size := World.size_setCell _ _ _
  have nv : ∀ g, g < W2.heap.size → some g ≠ lv.ownBlock → some g ≠ v2.ownBlock := by
    intro g g1 g2
    rcases hat with hat | hat
    · rwa [hat]
    · rw [hat]
      simp only [World.size_alloc, ne_eq, Option.some.injEq]
      omega
  have old2 : ∀ g, g < W2.heap.size → g ≠ w.heap.size + 1 + 1 → some g ≠ lv.ownBlock → (W3.setCell ⟨w.heap.size + 1 + 1, 3, none⟩ v2).heap[g]? = W2.heap[g]? := fun g g1 g2 g3 => (heap_setCell_other _ _ _ _ g2).trans (old g g1 g3)
  refine ⟨hB3.setCell (p := ⟨w.heap.size + 1 + 1, 3, none⟩) (by simp; omega) _, X.other (by simp; omega) _, R.other (by simp) _, O.set3 _, ⟨_, G ++ F, hown.kept (row := some (w.heap.size + 1 + 1)) ⟨rfl, rfl, rfl, by rw [hsz]; exact Nat.le_refl _, fun k _ hk => heap_setCell_other _ _ _ _ (fun e => hk (by rw [e]))⟩ (.inr fun e => by have := (hown.lt _ e).1; omega), ?_, ?_, ?_⟩, fun e => by omega⟩
  · rw [take_get hj]
    refine OwnL.append (OwnL.same (W := W) (fun g hg' => ?_) (fun q _ hq => rowOf_app (by omega)) h2) ?_
    · obtain ⟨g1, g2, g3⟩ := h4 g hg'
      exact (old2 g (by omega) (by omega) g3).trans (hb.block g g2)
    · refine ⟨F, [], by simp, ?_, rfl⟩
      rw [Nat.zero_add, hlj, rowOf_last hxl]
      refine Own.same_all _ _ _ (fun g hg' => ?_) f1
      obtain ⟨g1, g2⟩ := f3 g hg'
      exact old2 g (by omega) (by omega) (fun e => by have := (h1.lt _ e.symm).2; omega)
  · refine List.nodup_append.2 ⟨h3, f2, fun a ha b hb e => ?_⟩
    have := (h4 a ha).2.1; have := (f3 b hb).1; omega
  · intro g hg'
    rw [hsz]
    rcases List.mem_append.1 hg' with hm | hm
    · obtain ⟨g1, g2, g3⟩ := h4 g hm
      exact ⟨g1, by omega, nv g (by omega) g3⟩
    · obtain ⟨g1, g2⟩ := f3 g hm
      exact ⟨by omega, by omega, nv g g2 (fun e => by have := (h1.lt _ e.symm).2; omega)⟩
theorem RfRun.done {k : Nat} {n : Int} {s : ByteArray} {r : Int} {l : List VT} {A : Option Addr} {cap : Nat} {w W : World} {lv : Value} (h : RfRun k n s r l A cap w l.length lv W) (hbn : Bnd k n s r l.length) (v0 v1 v2 v3 v4 : Value) :
    Fresh w (((((W.setCell ⟨w.heap.size + 1, 0, none⟩ v0).setCell ⟨w.heap.size + 1, 1, none⟩ v1).setCell ⟨w.heap.size + 1, 2, none⟩ v2).setCell ⟨w.heap.size + 1, 3, none⟩ v3).setCell ⟨w.heap.size + 1, 4, none⟩ v4) (.mk k n s r l) (.agg #[.int .u8 (k : Int), .int .i64 n, .string s, lv, .int .i64 r]) := by
  by_cases h0 : l = []
  · subst h0
    rw [h.nil rfl]
    exact fresh_flat hbn
  · obtain ⟨xs, G, h1, h2, h3, h4⟩ := h.own
    rw [List.take_length] at h2
    have hp : 0 < l.length := List.length_pos_iff.2 h0
    rcases h1.2 with ⟨_, h5⟩ | ⟨g, cp, cur, rfl, hbg, hg, hnc, hcm, hcs, htake⟩
    · omega
    · have hgl := (Array.getElem?_eq_some_iff.1 hg).1
      refine ⟨g :: G, ⟨hbn, .inr ⟨g, cp, cur, G, rfl, hp, hnc, hcm, (heap_set5_other _ _ _ _ _ (by omega)).trans hg, hcs, rfl, ?_⟩⟩, List.nodup_cons.2 ⟨fun hm => (h4 g hm).2.2 rfl, h3⟩, ?_⟩
      · exact OwnL.same (fun q hq => heap_set5_other _ _ _ _ _ (by have := (h4 q hq).1; omega)) (fun q _ hq => rowOf_take htake (by omega)) h2
      · intro q hq
        have hsz : (((((W.setCell ⟨w.heap.size + 1, 0, none⟩ v0).setCell ⟨w.heap.size + 1, 1, none⟩ v1).setCell ⟨w.heap.size + 1, 2, none⟩ v2).setCell ⟨w.heap.size + 1, 3, none⟩ v3).setCell ⟨w.heap.size + 1, 4, none⟩ v4).heap.size = W.heap.size := by simp
        rw [hsz]
        rcases List.mem_cons.1 hq with rfl | hq
        · omega
        · have := h4 q hq; omega

set_option maxRecDepth 100000 in
set_option maxHeartbeats 8000000 in
theorem rOwnF_w (p : Nat → Prop) (m : Bool) : ∀ (t : VT) (v : Value) (w : World), Lies w p m t v → (∀ b, p b → b < w.heap.size) → t.parts ≤ 4294967295 →
    Calls Try.prog 74 #[v] w fun e w' => ∃ v', e = .returned v' ∧ Fresh w w' t v' ∧ Below w.heap.size w w' := by
  refine VT.ind fun k n s r l ih v w h hpw hparts => ?_
  have hbnd := h.bnd
  obtain ⟨A, cap, rfl, ⟨hk, hn, hr, hs, hl⟩, hlc, hcm, hL, _⟩ := h
  have hpar : VT.parts (.mk k n s r l) = 1 + VT.partsL l := rfl
  have hlen := VT.partsL_len l
  have HPW := Lib.hid hpw
  have HL := Lib.hid hL
  have IH := Lib.hid ih
  have HBN := Lib.hid hbnd
  clear hL ih hpw hbnd hlc hcm
  have hlen9 : l.length ≤ 4294967294 := by omega
  obtain ⟨i0, hi, hz0, hz1, hz2⟩ := info_parts infoV
  have HPar := Lib.hid (show VT.partsL l ≤ 4294967294 by omega)
  have hst := Lib.hid (rfRun_start k n s r l A cap w)
  clear hparts hpar hlen
  go_enter Try.func74, Try.ntmps74
  go_wp2
  go_loopw [4] (fun iv wr => ∃ (j : Nat) (lv : Value), j ≤ l.length ∧ iv = .int .i64 (j : Int) ∧ RfRun k n s r l A cap w j lv wr) (fun iv _ => l.length - (intOf iv).toNat)
  case atStart => exact ⟨0, _, Nat.zero_le _, rfl, hst.out⟩
  case round =>
    obtain ⟨j, lv, hj, rfl, hrun⟩ := hrel
    clear hst
    have X3 := hrun.box.e3
    have hsz := hrun.below.size
    by_cases hlt : j < l.length
    · obtain ⟨b, off, A', cap', rfl, hbt, hrow, hLj⟩ := HL.out.elem j hlt
      obtain ⟨g0, g1, g2, g3, g4⟩ := (hrow.same (hrun.below.block b (HPW.out b hbt))).get
      obtain ⟨xs, G, hown, hrows⟩ := hrun.own
      obtain ⟨lA, lc, rfl⟩ := la_shape hown
      have HH := Lib.hid (fun W (hW : Below w.heap.size w W) => IH.out l[j] (List.getElem_mem hlt) _ W (hLj.below hW HPW.out) (fun b hb => Nat.lt_of_lt_of_le (HPW.out b hb) hW.size) (Nat.le_trans (VT.parts_le hlt) (by have := HPar.out; omega)))
      have HR := Lib.hid (And.intro hrun (And.intro hown hrows))
      have O3 := hrun.out.e3
      have hosz := hrun.out.lt
      clear hrun hrow hLj hown hrows
      go_wp2
      go_region_law (first | (refine step_append_keep rfl (.tmp 15) (.tmp 22) 23 rfl (w.heap.size + 1 + 1 + 1) 26 i0 (.agg #[.int .u8 0, .int .i64 0, .string ⟨#[]⟩, .slice none 0 0, .int .i64 0]) 5 64 Try.underlying23 hi hz0 hz1 hz2 rfl (by decide) (.slice lA j lc) j xs (by simp [Act.eval]) ((owns_below HR.out.2.1 HF.out.2).alloc _) ⟨w'.heap.size, 0, none⟩ 1 1 [.int .u8 (l[j].k : Int), .int .i64 l[j].n, .string l[j].s, .slice A2 l[j].l.length cap2, .int .i64 l[j].r] (by simp [Act.eval]) rfl (news_five (Five.new _ _ _ _ _ _)) (by simp [Value.oneCell']) (by unfold maxLen; omega) (by omega) (by simp; omega) (by omega) ?_; intro v2 w2 h1 h2 h3 h4; obtain ⟨g2, cp2, rfl⟩ := owns_form h1 (by omega); have HK := Lib.hid (And.intro h1 (And.intro h2 (And.intro h3 h4))); have b5 := ro_box HR.out.1.out (by omega) HR.out.2.1 HF.out.2 h2; have m3 := b5.e3; have z3 := b5.froz 3; clear h1 h2 h3 h4 b5) | (go_simp; go_at_call 74; refine (HH.out _ (HR.out.1.below.drew)).mono ?_; rintro e w' ⟨v', rfl, hF, hb⟩; obtain ⟨A2, cap2, rfl⟩ := hF.cells; have hbd := ((Below.refl wr.heap.size wr).drew).trans hb; have O3' := (HR.out.1.out.below hbd hosz).e3; have O3a := fun o => ((HR.out.1.out.below hbd hosz).alloc o).e3; have hsw := hbd.size; have HF := Lib.hid (And.intro hF hbd); clear hF hb hbd))
      all_goals
        have HN := Lib.hid (RfRun.step HR.out.1 hlt HR.out.2.1 HR.out.2.2 HF.out.2 HF.out.1 HK.out.1 HK.out.2.1 (HK.out.2.2.2.imp (fun h => h.1) (fun h => h)))
        go_wp2
        go_roundw
        case rel => exact ⟨j + 1, _, by omega, by go_num, HN.out⟩
        case measure => simp [intOf]; omega
    · obtain rfl : j = l.length := by omega
      obtain ⟨xs, G, hown, hrows⟩ := hrun.own
      obtain ⟨lA, lc, rfl⟩ := la_shape hown
      have HR := Lib.hid hrun
      have u0 := hrun.out.e0
      have u1 := hrun.out.e1
      have u2 := hrun.out.e2
      have u3 := hrun.out.e3
      have u4 := hrun.out.e4
      have e0 := hrun.res.e0
      have e1 := hrun.res.e1
      have e2 := hrun.res.e2
      have e3 := hrun.res.e3
      have e4 := hrun.res.e4
      have f0 := hrun.res.froz 0
      have f1 := hrun.res.froz 1
      have f2 := hrun.res.froz 2
      have f3 := hrun.res.froz 3
      have f4 := hrun.res.froz 4
      clear hrun hown hrows
      go_wp2
      refine ret_five (B := w.heap.size + 1) rfl (HR.out.res.set5 _ _ _ _ _) rfl ?_
      exact ⟨_, rfl, HR.out.done HBN.out _ _ _ _ _, below_set5 HR.out.below (by omega) _ _ _ _ _⟩
end Go.Proofs.Ytckgmdlacaiacaa
