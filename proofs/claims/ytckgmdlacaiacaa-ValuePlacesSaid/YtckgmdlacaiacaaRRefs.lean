/-
  The document's Refs.
-/
import Derived.Laws.AppendOwnNone
import Derived.Test.YtckgmdlacaiacaaRDeep
namespace Go.Proofs.Ytckgmdlacaiacaa
open Go.RowKit Go.Shelf
attribute [local go_sem] Oper.semAt_some

mutual
/-- The references, from left to right. -/
def refsT : VT → List Int
  | .mk k _ _ r l => if k = 4 then [r] else refsL l
def refsL : List VT → List Int
  | [] => []
  | t :: ts => refsT t ++ refsL ts
end
theorem refsL_append : ∀ (l m : List VT), refsL (l ++ m) = refsL l ++ refsL m
  | [], m => rfl
  | t :: ts, m => by
    show refsT t ++ refsL (ts ++ m) = (refsT t ++ refsL ts) ++ refsL m
    rw [refsL_append ts m, List.append_assoc]
theorem refsL_take {l : List VT} {j : Nat} (h : j < l.length) : refsL (l.take (j + 1)) = refsL (l.take j) ++ refsT l[j] := by
  rw [take_get h, refsL_append]
  show _ ++ (refsT l[j] ++ []) = _
  rw [List.append_nil]
theorem refsT_len : ∀ t : VT, (refsT t).length ≤ t.parts := by
  refine VT.ind fun k n s r l ih => ?_
  have key : ∀ (l' : List VT), (∀ t ∈ l', t ∈ l) → (refsL l').length ≤ VT.partsL l' := by
    intro l'
    induction l' with
    | nil => intro _; exact Nat.le_refl _
    | cons t ts iht =>
      intro hm
      have h1 := ih t (hm t List.mem_cons_self)
      have h2 := iht (fun u hu => hm u (List.mem_cons_of_mem _ hu))
      show (refsT t ++ refsL ts).length ≤ t.parts + VT.partsL ts
      rw [List.length_append]
      omega
  have := key l (fun _ h => h)
  show (if k = 4 then [r] else refsL l).length ≤ 1 + VT.partsL l
  split
  · simp
  · omega
theorem refsL_len (l : List VT) : (refsL l).length ≤ VT.partsL l + 1 := by
  have := refsT_len (.mk 3 0 ⟨#[]⟩ 0 l)
  have h1 : refsT (.mk 3 0 ⟨#[]⟩ 0 l) = refsL l := rfl
  have h2 : VT.parts (.mk 3 0 ⟨#[]⟩ 0 l) = 1 + VT.partsL l := rfl
  rw [h1, h2] at this
  omega
def i64s (xs : List Int) : List Value := xs.map (.int .i64 ·)
theorem i64s_len (xs : List Int) : (i64s xs).length = xs.length := by simp [i64s]
theorem i64s_app (xs ys : List Int) : i64s (xs ++ ys) = i64s xs ++ i64s ys := by simp [i64s]
theorem infoR : (Try.prog.info? 24).map (fun i => (i.zero, i.size, i.bytes)) = some (some (.int .i64 0), 1, 8) := by kernel_rfl
theorem below_grown {B : Nat} {w W W' : World} {row : Option Nat} (h : Below B w W) (hg : W.grownBy W' row) (hB : B ≤ W.heap.size) (hr : ∀ k, row = some k → B ≤ k) : Below B w W' := h.grown hg hB hr

theorem ownsRow_le {w : World} {base base' : Nat} {e : TypeId} {size : Nat} {v : Value} {n : Nat} {xs : List Value} (h : w.ownsRow base' e size v n xs) (hb : base ≤ base') : w.ownsRow base e size v n xs := by
  refine ⟨h.1, ?_⟩
  rcases h.2 with h | ⟨g, cap, cur, h1, h2, h3⟩
  · exact .inl h
  · exact .inr ⟨g, cap, cur, h1, Nat.le_trans hb h2, h3⟩
theorem refs_step {w W W3 : World} {e : TypeId} {v v3 : Value} {R R' S : List Int} {c0 c1 c2 c3 c4 : Value} (hB : Below w.heap.size w W) (hX : Five W w.heap.size c0 c1 c2 c3 c4) (ho : W.ownsRow (w.heap.size + 1) e 1 v R.length (i64s R))
    (h3 : W3.ownsRow (w.heap.size + 1) e 1 v3 (R.length + R'.length) (i64s R ++ i64s R')) (hg : W.grownBy W3 v.ownBlock) (hS : S = R ++ R') :
    W3.ownsRow (w.heap.size + 1) e 1 v3 S.length (i64s S) ∧ Below w.heap.size w W3 ∧ Five W3 w.heap.size c0 c1 c2 c3 c4 := by
  subst hS
  refine ⟨by rw [List.length_append, i64s_app]; exact h3, hB.grown hg hB.size (fun r hr => by have := (ho.lt r hr).1; omega), ⟨(hg.block _ hX.lt (fun e => by have := (ho.lt _ e.symm).1; omega)).trans hX.row⟩⟩

set_option maxRecDepth 100000 in
set_option maxHeartbeats 4000000 in
theorem rrefs_w (p : Nat → Prop) (m : Bool) : ∀ (t : VT) (v : Value) (w : World), Lies w p m t v → (∀ b, p b → b < w.heap.size) → t.parts ≤ 4294967295 →
    Calls Try.prog 24 #[v] w fun e w' => ∃ v', e = .returned v' ∧ w'.ownsRow w.heap.size 24 1 v' (refsT t).length (i64s (refsT t)) ∧ Below w.heap.size w w' := by
  refine VT.ind fun k n s r l ih v w h hpw hparts => ?_
  obtain ⟨A, cap, rfl, ⟨hk, hn, hr, hs, hl⟩, _, _, hL, _⟩ := h
  have hpar : VT.parts (.mk k n s r l) = 1 + VT.partsL l := rfl
  have hdp : refsT (.mk k n s r l) = if k = 4 then [r] else refsL l := rfl
  have hlen := VT.partsL_len l
  have HPW := Lib.hid hpw
  have HL := Lib.hid hL
  have IH := Lib.hid ih
  have HDP := Lib.hid hdp
  have HPar := Lib.hid (show VT.partsL l ≤ 4294967294 by omega)
  have hll : l.length ≤ 4294967294 := by omega
  generalize refsT (.mk k n s r l) = DP at *
  clear hL ih hpw hpar hdp hlen hparts
  obtain ⟨i0, hi, hz0, hz1, hz2⟩ := info_parts infoR
  have hB0 := Lib.hid ((Below.refl w.heap.size w).alloc (Nat.le_refl _) (.cells #[.int .u8 (k : Int), .int .i64 n, .string s, .slice A l.length cap, .int .i64 r] 26))
  have XX := Lib.hid (Five.new w (.int .u8 (k : Int)) (.int .i64 n) (.string s) (.slice A l.length cap) (.int .i64 r))
  go_enter Try.func24, Try.ntmps24
  by_cases hk4 : k = 4
  case pos =>
    subst hk4
    have HD2 := Lib.hid (HDP.out.trans (if_pos rfl))
    clear HDP
    go_wp2
    go_ret
    refine ⟨_, rfl, ?_, hB0.out.alloc (by simp) _⟩
    rw [HD2.out]
    have hl := World.ownsRow_lit (base := w.heap.size) (e := 24) (size := 1) (w.alloc (.cells #[.int .u8 ((4 : Nat) : Int), .int .i64 n, .string s, .slice A l.length cap, .int .i64 r] 26)) #[.int .i64 r] 1 (by simp) (by unfold maxLen; omega) rfl
    rw [World.size_alloc] at hl
    exact hl
  have q : ((k : Int) == 4) = false := by rw [beq_eq_false_iff_ne]; omega
  have HD2 := Lib.hid (HDP.out.trans (if_neg hk4))
  clear HDP
  go_wp2
  go_loopw [3, 4] (fun ov iv wr => ∃ j : Nat, j ≤ l.length ∧ iv = .int .i64 (j : Int) ∧ wr.ownsRow (w.heap.size + 1) 24 1 ov (refsL (l.take j)).length (i64s (refsL (l.take j))) ∧ Below w.heap.size w wr ∧ Five wr w.heap.size (.int .u8 (k : Int)) (.int .i64 n) (.string s) (.slice A l.length cap) (.int .i64 r)) (fun _ iv _ => l.length - (intOf iv).toNat)
  case atStart => exact ⟨0, Nat.zero_le _, rfl, World.ownsRow_nil _ _ _ _, hB0.out, XX.out⟩
  case round =>
    obtain ⟨j, hj, rfl, hown, hB, hX⟩ := hrel
    have hsz := hB.size
    have x3 := hX.e3
    have hXl := hX.lt
    by_cases hlt : j < l.length
    · obtain ⟨b, off, A', cap', rfl, hbt, hrow, hLj⟩ := HL.out.elem j hlt
      obtain ⟨g0, g1, g2, g3, g4⟩ := (hrow.same (hB.block b (HPW.out b hbt))).get
      have HH := Lib.hid (IH.out l[j] (List.getElem_mem hlt) _ wr (hLj.below hB HPW.out) (fun b hb => Nat.lt_of_lt_of_le (HPW.out b hb) hB.size) (Nat.le_trans (VT.parts_le hlt) (by have := HPar.out; omega)))
      have HT := Lib.hid (refsL_take hlt)
      have HBr := Lib.hid (And.intro hB (And.intro hX hown))
      have hb : b < wr.heap.size := Nat.lt_of_lt_of_le (HPW.out b hbt) hsz
      have hlb : (refsL (l.take j)).length + (refsT l[j]).length ≤ 4294967295 := by
        have h1 := refsL_len (l.take (j + 1))
        rw [refsL_take hlt, List.length_append] at h1
        have h2 : VT.partsL (l.take (j + 1)) ≤ VT.partsL l := by
          have := VT.partsL_append (l.take (j + 1)) (l.drop (j + 1))
          rw [List.take_append_drop] at this
          omega
        have := HPar.out
        omega
      clear hrow hLj hB hX hown
      generalize refsL (l.take j) = R at *
      generalize refsT l[j] = R' at *
      go_wp2_with fail
      refine HH.out.mono ?_
      rintro e w' ⟨v2, rfl, hown2, hb2⟩
      have HN := Lib.hid (And.intro (HBr.out.1.trans (hb2.mono hsz)) (HBr.out.2.1.below hb2 HBr.out.2.1.lt))
      have HO := Lib.hid (HBr.out.2.2.kept (grownBy_of_below hb2) (Classical.em _))
      have hsz2 := hb2.size
      clear hb2
      rcases hown2.2 with ⟨rfl, h0⟩ | ⟨g, cp, cur, rfl, hgb, hgr, hgc, hgm, hgs, hgt⟩
      · have hR0 : R' = [] := List.length_eq_zero_iff.1 h0
        subst hR0
        have HT2 := Lib.hid (HT.out.trans (List.append_nil R))
        clear hown2 h0
        go_wp2_with (at_builtin; refine wpList_append_own_none rfl (.tmp 18) (.tmp 24) 30 rfl (w.heap.size + 1) 24 i0 1 Try.underlying30 hi _ _ _ rfl HO.out rfl ?_)
        go_roundw
        case rel => exact ⟨j + 1, by omega, by go_num, by rw [HT2.out]; exact HO.out, HN.out.1, HN.out.2⟩
        case measure => simp [intOf]; omega
      · have HC := Lib.hid (hown2.cells (g := g) rfl)
        have HG := Lib.hid hgb
        clear hown2 hgr hgt
        go_wp2_with (at_builtin; refine wpList_append_own _ rfl (.tmp 18) (.tmp 24) 30 rfl (w.heap.size + 1) 24 i0 (.int .i64 0) 1 8 Try.underlying30 hi hz0 hz1 hz2 rfl (by decide) _ _ _ rfl HO.out ⟨g, 0, none⟩ R'.length cp (i64s R') rfl (by rw [i64s_len, Nat.mul_one]) HC.out (by intro u hu; obtain ⟨x, _, rfl⟩ := List.mem_map.1 hu; rfl) (by unfold maxLen; omega) (by omega) (by omega) ?_; intro v3 w3 hown3 hgrow3 hnil3; clear hnil3)
        have HN3 := Lib.hid (refs_step HN.out.1 HN.out.2 HO.out hown3 hgrow3 HT.out)
        clear hown3 hgrow3
        go_roundw
        case rel => exact ⟨j + 1, by omega, by go_num, HN3.out.1, HN3.out.2.1, HN3.out.2.2⟩
        case measure => simp [intOf]; omega
    · obtain rfl : j = l.length := by omega
      rw [List.take_length] at hown
      have HB := Lib.hid (And.intro hB hown)
      clear hB hX hown
      go_wp2
      go_ret
      exact ⟨_, rfl, by rw [HD2.out]; exact ownsRow_le HB.out.2 (by omega), HB.out.1⟩
end Go.Proofs.Ytckgmdlacaiacaa
