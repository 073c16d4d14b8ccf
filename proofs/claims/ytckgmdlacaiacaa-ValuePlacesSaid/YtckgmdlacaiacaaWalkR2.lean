/-
  value.walk, as Refs goes over it; value.Refs.
-/
import Derived.Test.YtckgmdlacaiacaaWalkR
namespace Go.Proofs.Ytckgmdlacaiacaa
open Go.RowKit Go.Shelf
attribute [local go_sem] Oper.semAt_some

theorem refsL_le : ∀ l : List VT, (refsL l).length ≤ VT.partsL l
  | [] => Nat.le_refl _
  | t :: ts => by
    have h1 := refsT_len t
    have h2 := refsL_le ts
    show (refsT t ++ refsL ts).length ≤ t.parts + VT.partsL ts
    rw [List.length_append]
    omega
theorem infoI : (Try.prog.info? 3).map (fun i => (i.zero, i.size, i.bytes)) = some (some (.int .i64 0), 1, 8) := by kernel_rfl
/-- What a walk leaves. -/
structure WPost (base rb : Nat) (place : Value) (np : Nat) (ps : List Value) (ov : Value) (w : World) (R : List Int) (W : World) (ov' : Value) : Prop where
  inv : RInv base rb R W ov'
  at' : ov'.ownBlock = ov.ownBlock ∨ ∃ g, ov'.ownBlock = some g ∧ w.heap.size ≤ g
  os : W.os = w.os
  tape : W.tape = w.tape
  output : W.output = w.output
  size : w.heap.size ≤ W.heap.size
  same : ∀ q, q < w.heap.size → q ≠ rb → some q ≠ ov.ownBlock → some q ≠ place.ownBlock → W.heap[q]? = w.heap[q]?
  pl : W.ownsRow base 3 1 place np ps
/-- What a walk asks of where it begins. -/
structure WPre (base rb : Nat) (place : Value) (np : Nat) (ps : List Value) (w : World) (R : List Int) (ov : Value) : Prop where
  inv : RInv base rb R w ov
  lo : base ≤ w.heap.size
  pl : w.ownsRow base 3 1 place np ps
  pr : place.ownBlock ≠ some rb
  po : place.ownBlock = none ∨ place.ownBlock ≠ ov.ownBlock
theorem WPre.base {base rb : Nat} {place : Value} {np : Nat} {ps : List Value} {w : World} {R : List Int} {ov : Value} (h : WPre base rb place np ps w R ov) (b : Nat) (hb : b < base) : b ≠ rb ∧ some b ≠ ov.ownBlock ∧ some b ≠ place.ownBlock :=
  ⟨fun e => by have := h.inv.lo; omega, fun e => by have := (h.inv.own.lt b e.symm).1; omega, fun e => by have := (h.pl.lt b e.symm).1; omega⟩
theorem WPost.below {base rb : Nat} {place : Value} {np : Nat} {ps : List Value} {w W : World} {R R' : List Int} {ov ov' : Value} (h : WPost base rb place np ps ov w R' W ov') (hp : WPre base rb place np ps w R ov) : Below base w W :=
  ⟨h.os, h.tape, h.output, h.size, fun b hb => h.same b (by have := hp.lo; omega) (hp.base b hb).1 (hp.base b hb).2.1 (hp.base b hb).2.2⟩
/-- Ahead of the walk over the j-th part. -/
theorem walk_pre {base rb : Nat} {place v' : Value} {np : Nat} {ps : List Value} {w W Wa W2 : World} {R R' : List Int} {ov ovj : Value} {x : Value} (hp : WPre base rb place np ps w R ov) (h : WPost base rb place np ps ov w R' W ovj) (hb : Below W.heap.size W Wa)
    (h1 : W2.ownsRow base 3 1 v' (np + 1) (ps ++ [x])) (h2 : Wa.grownBy W2 place.ownBlock)
    (h4 : (v'.ownBlock = place.ownBlock ∧ ∀ W' : World, W'.ownsRow base 3 1 v' (np + 1) (ps ++ [x]) → W'.ownsRow base 3 1 place np ps) ∨ v'.ownBlock = some Wa.heap.size) :
    WPre base rb v' (np + 1) (ps ++ [x]) W2 R' ovj := by
  have hpb : place.ownBlock = none ∨ place.ownBlock ≠ ovj.ownBlock := by
    rcases h.at' with e | ⟨g, e, hg⟩
    · rw [e]; exact hp.po
    · rcases hpo : place.ownBlock with _ | q
      · exact .inl rfl
      · right
        rw [e]
        intro e2
        have := (hp.pl.lt q hpo).2
        cases e2
        omega
  have hI : RInv base rb R' W2 ovj := (h.inv.below hb).kept h2 (fun e => hp.pr e.symm) (by
    rcases hpb with e | e
    · rw [e]; exact Classical.em _
    · exact .inr (fun e2 => e e2.symm))
  refine ⟨hI, ?_, h1, ?_, ?_⟩
  · have := hp.lo; have := h.size; have := hb.size; have := h2.size; omega
  · rcases h4 with ⟨e, _⟩ | e
    · rw [e]; exact hp.pr
    · rw [e]
      intro e2
      have := h.inv.lt; have := hb.size
      cases e2
      omega
  · rcases h4 with ⟨e, _⟩ | e
    · rw [e]; exact hpb
    · right
      rw [e]
      intro e2
      have := (h.inv.own.lt _ e2.symm).2
      have := hb.size
      omega
theorem walk_box {base : Nat} {place : Value} {np : Nat} {ps : List Value} {W Wa W2 : World} {c0 c1 c2 c3 c4 : Value} (hpl : W.ownsRow base 3 1 place np ps) (h2 : Wa.grownBy W2 place.ownBlock) (hF : Five Wa W.heap.size c0 c1 c2 c3 c4) : Five W2 W.heap.size c0 c1 c2 c3 c4 :=
  ⟨(h2.block _ hF.lt (fun e => by have := (hpl.lt _ e.symm).2; omega)).trans hF.row⟩
theorem walk_low {base rb : Nat} {place : Value} {np : Nat} {ps : List Value} {w W Wa W2 : World} {R R' : List Int} {ov ovj : Value} (hp : WPre base rb place np ps w R ov) (h : WPost base rb place np ps ov w R' W ovj) (hb : Below W.heap.size W Wa) (h2 : Wa.grownBy W2 place.ownBlock) : Below base w W2 := by
  have s := h.size
  have s1 := hp.lo
  have hba : Below base w Wa := (h.below hp).trans (hb.mono (by omega))
  exact hba.grown h2 (by have := hb.size; omega) (fun k hk => (hp.pl.lt k hk).1)
/-- Behind it. -/
theorem walk_post {base rb : Nat} {place v' : Value} {np : Nat} {ps : List Value} {w W Wa W2 W3 : World} {R R' R3 : List Int} {ov ovj ov3 : Value} {x : Value} (hp : WPre base rb place np ps w R ov) (h : WPost base rb place np ps ov w R' W ovj) (hb : Below W.heap.size W Wa)
    (h1 : W2.ownsRow base 3 1 v' (np + 1) (ps ++ [x])) (h2 : Wa.grownBy W2 place.ownBlock) (h3 : W2.ownsRow base 3 1 place np ps)
    (h4 : (v'.ownBlock = place.ownBlock ∧ ∀ W' : World, W'.ownsRow base 3 1 v' (np + 1) (ps ++ [x]) → W'.ownsRow base 3 1 place np ps) ∨ v'.ownBlock = some Wa.heap.size)
    (h5 : WPost base rb v' (np + 1) (ps ++ [x]) ovj W2 R3 W3 ov3) : WPost base rb place np ps ov w R3 W3 ov3 := by
  have s1 := h.size
  have s2 := hb.size
  have s3 := h2.size
  have s5 := h5.size
  have hpb := walk_pre hp h hb h1 h2 h4
  refine ⟨h5.inv, ?_, h5.os.trans (h2.os.trans (hb.os.trans h.os)), h5.tape.trans (h2.tape.trans (hb.tape.trans h.tape)), h5.output.trans (h2.output.trans (hb.output.trans h.output)), by omega, fun q q1 q2 q3 q4 => ?_, ?_⟩
  · rcases h5.at' with e | ⟨g, e, hg⟩
    · rw [e]; exact h.at'
    · exact .inr ⟨g, e, by omega⟩
  · have hq5 : some q ≠ ovj.ownBlock := by
      rcases h.at' with e | ⟨g, e, hg⟩
      · rw [e]; exact q3
      · rw [e]; intro e2; cases e2; omega
    have hq6 : some q ≠ v'.ownBlock := by
      rcases h4 with ⟨e, _⟩ | e
      · rw [e]; exact q4
      · rw [e]; intro e2; cases e2; omega
    exact (h5.same q (by omega) q2 hq5 hq6).trans ((h2.block q (by omega) q4).trans ((hb.block q (by omega)).trans (h.same q q1 q2 q3 q4)))
  · rcases h4 with ⟨e, ht⟩ | e
    · exact ht _ h5.pl
    · refine ⟨h3.1, ?_⟩
      rcases h3.2 with hn | ⟨g, cap, cur, hv, k1, k2, k3⟩
      · exact .inl hn
      · have hgp : place.ownBlock = some g := by rw [hv]; rfl
        refine .inr ⟨g, cap, cur, hv, k1, ?_, k3⟩
        refine (h5.same g (Array.getElem?_eq_some_iff.1 k2).1 (fun e2 => hp.pr (by rw [hgp, e2])) ?_ ?_).trans k2
        · rcases hpb.po with hn | hn
          · rw [e] at hn; cases hn
          · intro e2
            rcases h.at' with e3 | ⟨g', e3, hg'⟩
            · rcases hp.po with hn2 | hn2
              · rw [hgp] at hn2; cases hn2
              · exact hn2 (by rw [hgp, e2, e3])
            · rw [e3] at e2
              have := (hp.pl.lt g hgp).2
              cases e2
              omega
        · rw [e]
          intro e2
          have := (hp.pl.lt g hgp).2
          cases e2
          omega

theorem owns_below {w W : World} {base : Nat} {e : TypeId} {size : Nat} {v : Value} {n : Nat} {xs : List Value} (h : w.ownsRow base e size v n xs) (hb : Below w.heap.size w W) : W.ownsRow base e size v n xs := h.kept (grownBy_of_below hb) (Classical.em _)
theorem one_cell_drew (w : World) (x : Value) {t : TypeId} {B : Nat} (hB : B = w.heap.size) : ∀ j u, ([x] : List Value)[j]? = some u → ((w.alloc (.cells #[x] t)).drew).cell? ((⟨B, 0, none⟩ : Addr).add j) = some u := one_cell w x hB
theorem goodL_get : ∀ {l : List VT} {j : Nat}, VT.goodL l = true → (h : j < l.length) → l[j].good = true
  | t :: ts, 0, hg, _ => by
    have hg' : (t.good && VT.goodL ts) = true := hg
    rw [Bool.and_eq_true] at hg'
    exact hg'.1
  | t :: ts, j + 1, hg, h => by
    have hg' : (t.good && VT.goodL ts) = true := hg
    rw [Bool.and_eq_true] at hg'
    exact goodL_get hg'.2 (by simpa using h)
theorem partsL_step {l : List VT} {j : Nat} (h : j < l.length) : VT.partsL (l.take j) + l[j].parts ≤ VT.partsL l := by
  have e : VT.partsL [l[j]] = l[j].parts + 0 := rfl
  have h1 : VT.partsL (l.take (j + 1)) = VT.partsL (l.take j) + l[j].parts := by rw [take_get h, VT.partsL_append, e]; omega
  have := VT.partsL_append (l.take (j + 1)) (l.drop (j + 1))
  rw [List.take_append_drop] at this
  omega
/-- What the closure leaves, as the walk's post. -/
theorem walk_first {base rb : Nat} {place : Value} {np : Nat} {ps : List Value} {w W W' : World} {R R' : List Int} {ov ov' : Value} (hp : WPre base rb place np ps w R ov) (hb : Below w.heap.size w W) (h1 : RInv base rb R' W' ov') (h2 : ov'.ownBlock = ov.ownBlock ∨ ∃ g, ov'.ownBlock = some g ∧ W.heap.size ≤ g)
    (h3 : W'.os = W.os) (h4 : W'.tape = W.tape) (h5 : W'.output = W.output) (h6 : W.heap.size ≤ W'.heap.size) (h7 : ∀ q, q < W.heap.size → q ≠ rb → some q ≠ ov.ownBlock → W'.heap[q]? = W.heap[q]?) : WPost base rb place np ps ov w R' W' ov' := by
  have s1 := hb.size
  refine ⟨h1, ?_, h3.trans hb.os, h4.trans hb.tape, h5.trans hb.output, by omega, fun q q1 q2 q3 _ => (h7 q (by omega) q2 q3).trans (hb.block q q1), ⟨hp.pl.1, ?_⟩⟩
  · rcases h2 with e | ⟨g, e, hg⟩
    · exact .inl e
    · exact .inr ⟨g, e, by omega⟩
  · rcases hp.pl.2 with hn | ⟨g, cap, cur, hv, k1, k2, k3⟩
    · exact .inl hn
    · have hgp : place.ownBlock = some g := by rw [hv]; rfl
      have hgl := (hp.pl.lt g hgp).2
      refine .inr ⟨g, cap, cur, hv, k1, ?_, k3⟩
      refine (h7 g (by omega) (fun e => hp.pr (by rw [hgp, e])) (fun e => ?_)).trans ((hb.block g hgl).trans k2)
      rcases hp.po with hn2 | hn2
      · rw [hgp] at hn2; cases hn2
      · exact hn2 (by rw [hgp, e])

set_option maxRecDepth 100000 in
set_option maxHeartbeats 8000000 in
theorem walkR_w (p : Nat → Prop) (m : Bool) (base rb : Nat) (hpb : ∀ b, p b → b < base) : ∀ (t : VT) (v : Value) (place : Value) (np : Nat) (ps : List Value) (R : List Int) (ov : Value) (w : World), Lies w p m t v → t.good = true → WPre base rb place np ps w R ov → np + t.parts ≤ 4294967295 → R.length + t.parts ≤ 4294967295 →
    Calls Try.prog 57 #[v, place, .func (.func 58) #[] #[.pointer (some ⟨rb, 0, none⟩)]] w fun e w' => e = .returned (.bool true) ∧ ∃ ov', WPost base rb place np ps ov w (R ++ refsT t) w' ov' := by
  refine VT.ind fun k n s r l ih v place np ps R ov w h hgood hpre hnp hR => ?_
  obtain ⟨A, cap, rfl, ⟨hk, hn, hr, hs, hl⟩, _, _, hL, _⟩ := h
  have hpar : VT.parts (.mk k n s r l) = 1 + VT.partsL l := rfl
  have hgd : VT.good (.mk k n s r l) = (propN k n s r l.length && VT.goodL l) := rfl
  rw [hgd, Bool.and_eq_true] at hgood
  have hrf : refsT (.mk k n s r l) = if k = 4 then [r] else refsL l := rfl
  have HR : Hid (R ++ refsT (.mk k n s r l) = (R ++ if k = 4 then [r] else []) ++ refsL l) := by
    refine Lib.hid ?_
    rw [hrf]
    by_cases e : k = 4
    · subst e
      obtain rfl := partsL_zero hgood.1 (by decide)
      rw [if_pos rfl, if_pos rfl, show refsL [] = [] from rfl, List.append_nil]
    · rw [if_neg e, if_neg e, List.append_nil]
  have HG := Lib.hid hgood.2
  have HPre := Lib.hid hpre
  have HL := Lib.hid hL
  have IH := Lib.hid ih
  have HN := Lib.hid (And.intro (show np + (1 + VT.partsL l) ≤ 4294967295 by rw [← hpar]; exact hnp) (show R.length + (1 + VT.partsL l) ≤ 4294967295 by rw [← hpar]; exact hR))
  have hll : l.length ≤ 4294967294 := by have := VT.partsL_len l; omega
  have hnp9 : np ≤ 4294967294 := by omega
  generalize R ++ refsT (.mk k n s r l) = RR at *
  have H1 := Lib.hid (fun W (hb : Below w.heap.size w W) => refs1_w place k n s r A l.length cap base rb R ov W hk (hpre.inv.below hb) (by have := hpre.lo; have := hb.size; omega) (by omega))
  clear hL ih hpar hgd hrf hgood hpre hnp hR
  obtain ⟨i0, hi, hz0, hz1, hz2⟩ := info_parts infoI
  have hB0 := Lib.hid ((Below.refl w.heap.size w).alloc (Nat.le_refl _) (.cells #[.int .u8 (k : Int), .int .i64 n, .string s, .slice A l.length cap, .int .i64 r] 26))
  have XX := Lib.hid (Five.new w (.int .u8 (k : Int)) (.int .i64 n) (.string s) (.slice A l.length cap) (.int .i64 r))
  go_enter Try.func57, Try.ntmps57
  go_wp2_with fail
  refine (H1.out _ hB0.out).mono ?_
  rintro e w1 ⟨rfl, ov1, hI, ha, ho, ht, hou, hsz, hsm⟩
  have hX := XX.out
  have hX1 : Five w1 w.heap.size (.int .u8 (k : Int)) (.int .i64 n) (.string s) (.slice A l.length cap) (.int .i64 r) :=
    ⟨(hsm _ hX.lt (fun e => by have := HPre.out.inv.lt; omega) (fun e => by have := (HPre.out.inv.own.lt _ e.symm).2; omega)).trans hX.row⟩
  have x3 := hX1.e3
  have HP1 := Lib.hid (walk_first HPre.out hB0.out hI ha ho ht hou hsz hsm)
  clear hI ha ho ht hou hsz hsm hX hX1
  go_wp2
  go_loopw [17] (fun iv wr => ∃ (j : Nat) (ovj : Value), j ≤ l.length ∧ iv = .int .i64 (j : Int) ∧ WPost base rb place np ps ov w ((R ++ if k = 4 then [r] else []) ++ refsL (l.take j)) wr ovj) (fun iv _ => l.length - (intOf iv).toNat)
  case atStart => exact ⟨0, ov1, Nat.zero_le _, rfl, by rw [List.take_zero, show refsL [] = [] from rfl, List.append_nil]; exact HP1.out⟩
  case round =>
    obtain ⟨j, ovj, hj, rfl, hP⟩ := hrel
    have HP := Lib.hid hP
    have hB := hP.below HPre.out
    clear hP HP1
    by_cases hlt : j < l.length
    · obtain ⟨b, off, A', cap', rfl, hbt, hrow, hLj⟩ := HL.out.elem j hlt
      obtain ⟨g0, g1, g2, g3, g4⟩ := (hrow.same (hB.block b (hpb b hbt))).get
      have hbr : b < wr.heap.size := by have := hpb b hbt; have := HPre.out.lo; have := hB.size; omega
      have HH := Lib.hid (fun v' W2 (hw : WPre base rb v' (np + 1) (ps ++ [.int .i64 (j : Int)]) W2 ((R ++ if k = 4 then [r] else []) ++ refsL (l.take j)) ovj) (hBW : Below base w W2) =>
        IH.out l[j] (List.getElem_mem hlt) _ v' (np + 1) (ps ++ [.int .i64 (j : Int)]) ((R ++ if k = 4 then [r] else []) ++ refsL (l.take j)) ovj W2 (hLj.below hBW hpb) (goodL_get HG.out hlt) hw (by have := VT.parts_le hlt; have := HN.out.1; omega)
          (by
            have h1 := refsL_le (l.take (j + 1))
            rw [refsL_take hlt, List.length_append] at h1
            have h2 : VT.partsL (l.take j) + l[j].parts ≤ VT.partsL l := partsL_step hlt
            have h3 := refsL_le (l.take j)
            have h4 : (if k = 4 then [r] else []).length ≤ 1 := by split <;> simp
            have := HN.out.2
            rw [List.length_append, List.length_append]
            omega))
      have HT := Lib.hid (refsL_take hlt)
      have HBB := Lib.hid hB
      clear hrow hLj hB
      generalize refsL (l.take j) = Rj at *
      have hlo : base ≤ wr.heap.size := by have := HPre.out.lo; have := HBB.out.size; omega
      go_wp2
      go_region_law (first | (refine step_append_keep rfl (.tmp 23) (.tmp 25) 44 rfl base 3 i0 (.int .i64 0) 1 8 Try.underlying44 hi hz0 hz1 hz2 rfl (by decide) place np ps (by simp [Act.eval]) (owns_below HP.out.pl (by first | exact (((Below.refl _ wr).alloc (Nat.le_refl _) _).alloc (by simp) _).drew | exact ((Below.refl _ wr).alloc (Nat.le_refl _) _).alloc (by simp) _ | exact ((Below.refl _ wr).alloc (Nat.le_refl _) _).drew.alloc (by simp) _)) ⟨wr.heap.size + 1, 0, none⟩ 1 1 [.int .i64 (j : Int)] (by simp [Act.eval]) rfl (by first | exact one_cell _ _ (by simp) | exact one_cell_drew _ _ (by simp)) (by simp [Value.oneCell']) (by unfold maxLen; omega) (by omega) (by simp; omega) (by omega) ?_; intro v' w2 h1 h2 h3 h4; have HK := Lib.hid (And.intro h1 (And.intro h2 (And.intro h3 h4))); have b5 := walk_box (c0 := .int .u8 (l[j].k : Int)) (c1 := .int .i64 l[j].n) (c2 := .string l[j].s) (c3 := .slice A' l[j].l.length cap') (c4 := .int .i64 l[j].r) HP.out.pl h2 (by first | exact ((Five.new wr (.int .u8 (l[j].k : Int)) (.int .i64 l[j].n) (.string l[j].s) (.slice A' l[j].l.length cap') (.int .i64 l[j].r)).alloc _).drew | exact (Five.new wr (.int .u8 (l[j].k : Int)) (.int .i64 l[j].n) (.string l[j].s) (.slice A' l[j].l.length cap') (.int .i64 l[j].r)).alloc _ | exact (Five.new wr (.int .u8 (l[j].k : Int)) (.int .i64 l[j].n) (.string l[j].s) (.slice A' l[j].l.length cap') (.int .i64 l[j].r)).drew.alloc _); have m0 := b5.e0; have m1 := b5.e1; have m2 := b5.e2; have m3 := b5.e3; have m4 := b5.e4; clear h1 h2 h3 h4 b5) | (go_simp; go_at_call 57; refine (HH.out v' w2 (walk_pre HPre.out HP.out (by first | exact (((Below.refl _ wr).alloc (Nat.le_refl _) _).alloc (by simp) _).drew | exact ((Below.refl _ wr).alloc (Nat.le_refl _) _).alloc (by simp) _ | exact ((Below.refl _ wr).alloc (Nat.le_refl _) _).drew.alloc (by simp) _) HK.out.1 HK.out.2.1 HK.out.2.2.2) (walk_low HPre.out HP.out (by first | exact (((Below.refl _ wr).alloc (Nat.le_refl _) _).alloc (by simp) _).drew | exact ((Below.refl _ wr).alloc (Nat.le_refl _) _).alloc (by simp) _ | exact ((Below.refl _ wr).alloc (Nat.le_refl _) _).drew.alloc (by simp) _) HK.out.2.1)).mono ?_; rintro e w3 ⟨rfl, ov3, hP3⟩; have HP3 := Lib.hid hP3; clear hP3))
      all_goals
        have HNx := Lib.hid (walk_post HPre.out HP.out (by first | exact (((Below.refl _ wr).alloc (Nat.le_refl _) _).alloc (by simp) _).drew | exact ((Below.refl _ wr).alloc (Nat.le_refl _) _).alloc (by simp) _ | exact ((Below.refl _ wr).alloc (Nat.le_refl _) _).drew.alloc (by simp) _) HK.out.1 HK.out.2.1 HK.out.2.2.1 HK.out.2.2.2 HP3.out)
        go_wp2
        go_roundw
        case rel => exact ⟨j + 1, ov3, by omega, by go_num, by rw [HT.out, ← List.append_assoc]; exact HNx.out⟩
        case measure => simp [intOf]; omega
    · obtain rfl : j = l.length := by omega
      rw [List.take_length] at HP
      go_wp2
      go_ret
      exact ⟨rfl, ovj, by rw [HR.out]; exact HP.out⟩
end Go.Proofs.Ytckgmdlacaiacaa
