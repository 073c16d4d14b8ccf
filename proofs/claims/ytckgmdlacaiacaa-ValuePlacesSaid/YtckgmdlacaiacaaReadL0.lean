/-
  value.readList: what is gathered.
-/
import Derived.Test.YtckgmdlacaiacaaRead
namespace Go.Proofs.Ytckgmdlacaiacaa
open Go.RowKit Go.Shelf
attribute [local go_sem] Oper.semAt_some

theorem readMany_parts {f : Nat → List UInt8 → Option (VT × List UInt8)} (hf : ∀ L s t r, f L s = some (t, r) → t.parts ≤ L) : ∀ (n L : Nat) (s : List UInt8) (l : List VT) (r : List UInt8), readMany f n L s = some (l, r) → VT.partsL l ≤ L := by
  intro n
  induction n with
  | zero =>
    intro L s l r h
    simp only [readMany, Option.some.injEq, Prod.mk.injEq] at h
    rw [← h.1]
    exact Nat.zero_le _
  | succ n ih =>
    intro L s l r h
    rw [readMany] at h
    cases h1 : f L s with
    | none => rw [h1] at h; simp at h
    | some x =>
      obtain ⟨t, r1⟩ := x
      rw [h1] at h
      simp only at h
      cases h2 : readMany f n (L - t.parts) r1 with
      | none => rw [h2] at h; simp at h
      | some y =>
        obtain ⟨ts, r2⟩ := y
        rw [h2] at h
        simp only [Option.some.injEq, Prod.mk.injEq] at h
        have h3 := hf _ _ _ _ h1
        have h4 := ih _ _ _ _ h2
        rw [← h.1]
        show t.parts + VT.partsL ts ≤ L
        omega
theorem readK_parts {rl : List UInt8 → Option (VT × List UInt8)} {left : Nat} (hrl : ∀ s t r, 1 ≤ left → rl s = some (t, r) → t.parts ≤ left) {s : List UInt8} {t : VT} {r : List UInt8} (h : readK rl left s = some (t, r)) : t.parts ≤ left := by
  unfold readK at h
  split at h
  · rename_i h1
    have one : ∀ k n s r, VT.parts (.mk k n s r []) = 1 := fun _ _ _ _ => rfl
    split at h
    · simp only [Option.some.injEq, Prod.mk.injEq] at h
      rw [← h.1, one]; exact h1.2
    · split at h
      · simp only [Option.some.injEq, Prod.mk.injEq] at h
        rw [← h.1, one]; exact h1.2
      · simp at h
    · split at h
      · simp only [Option.some.injEq, Prod.mk.injEq] at h
        rw [← h.1, one]; exact h1.2
      · simp at h
    · exact hrl _ _ _ h1.2 h
    · split at h
      · simp only [Option.some.injEq, Prod.mk.injEq] at h
        rw [← h.1, one]; exact h1.2
      · simp at h
    · simp at h
  · simp at h
theorem readBody_parts {f : Nat → List UInt8 → Option (VT × List UInt8)} (hf : ∀ L s t r, f L s = some (t, r) → t.parts ≤ L) {left : Nat} (h1 : 1 ≤ left) {s : List UInt8} {t : VT} {r : List UInt8} (h : readBody f left s = some (t, r)) : t.parts ≤ left := by
  unfold readBody at h
  split at h
  · split at h
    · simp at h
    · rename_i l r2 h2
      simp only [Option.some.injEq, Prod.mk.injEq] at h
      have := readMany_parts hf _ _ _ _ _ h2
      rw [← h.1]
      show 1 + VT.partsL l ≤ left
      omega
  · simp at h
theorem readT_parts : ∀ (nest L : Nat) (s : List UInt8) (t : VT) (r : List UInt8), readT nest L s = some (t, r) → t.parts ≤ L := by
  intro nest
  induction nest with
  | zero => exact fun L s t r h => readK_parts (rl := fun _ => none) (fun _ _ _ _ h => by cases h) (show readK (fun _ => none) L s = some (t, r) from h)
  | succ nest ih => exact fun L s t r h => readK_parts (rl := readBody (readT nest) L) (fun _ _ _ h1 h => readBody_parts ih h1 h) (show readK (readBody (readT nest) L) L s = some (t, r) from h)

theorem readMany_len {f : Nat → List UInt8 → Option (VT × List UInt8)} (hf : ∀ L s t r, f L s = some (t, r) → r.length ≤ s.length) : ∀ (n L : Nat) (s : List UInt8) (l : List VT) (r : List UInt8), readMany f n L s = some (l, r) → r.length ≤ s.length := by
  intro n
  induction n with
  | zero =>
    intro L s l r h
    simp only [readMany, Option.some.injEq, Prod.mk.injEq] at h
    rw [h.2]
    exact Nat.le_refl _
  | succ n ih =>
    intro L s l r h
    rw [readMany] at h
    cases h1 : f L s with
    | none => rw [h1] at h; simp at h
    | some x =>
      obtain ⟨t, r1⟩ := x
      rw [h1] at h
      simp only at h
      cases h2 : readMany f n (L - t.parts) r1 with
      | none => rw [h2] at h; simp at h
      | some y =>
        obtain ⟨ts, r2⟩ := y
        rw [h2] at h
        simp only [Option.some.injEq, Prod.mk.injEq] at h
        have h3 := hf _ _ _ _ h1
        have h4 := ih _ _ _ _ h2
        rw [← h.2]
        omega
theorem readK_len {rl : List UInt8 → Option (VT × List UInt8)} {left : Nat} (hrl : ∀ s t r, rl s = some (t, r) → r.length ≤ s.length) {s : List UInt8} {t : VT} {r : List UInt8} (h : readK rl left s = some (t, r)) : r.length ≤ s.length := by
  unfold readK at h
  split at h
  · split at h
    · simp only [Option.some.injEq, Prod.mk.injEq] at h
      rw [← h.2]; simp
    · split at h
      · simp only [Option.some.injEq, Prod.mk.injEq] at h
        rw [← h.2]; simp
      · simp at h
    · split at h
      · simp only [Option.some.injEq, Prod.mk.injEq] at h
        rw [← h.2]; simp
      · simp at h
    · have := hrl _ _ _ h
      rw [List.length_drop] at this
      omega
    · split at h
      · simp only [Option.some.injEq, Prod.mk.injEq] at h
        rw [← h.2]; simp
      · simp at h
    · simp at h
  · simp at h
theorem readBody_len {f : Nat → List UInt8 → Option (VT × List UInt8)} (hf : ∀ L s t r, f L s = some (t, r) → r.length ≤ s.length) {left : Nat} {s : List UInt8} {t : VT} {r : List UInt8} (h : readBody f left s = some (t, r)) : r.length ≤ s.length := by
  unfold readBody at h
  split at h
  · split at h
    · simp at h
    · rename_i l r2 h2
      simp only [Option.some.injEq, Prod.mk.injEq] at h
      have := readMany_len hf _ _ _ _ _ h2
      rw [List.length_drop] at this
      rw [← h.2]
      omega
  · simp at h
theorem readT_len : ∀ (nest L : Nat) (s : List UInt8) (t : VT) (r : List UInt8), readT nest L s = some (t, r) → r.length ≤ s.length := by
  intro nest
  induction nest with
  | zero => exact fun L s t r h => readK_len (rl := fun _ => none) (fun _ _ _ h => by cases h) (show readK (fun _ => none) L s = some (t, r) from h)
  | succ nest ih => exact fun L s t r h => readK_len (rl := readBody (readT nest) L) (fun _ _ _ h => readBody_len ih h) (show readK (readBody (readT nest) L) L s = some (t, r) from h)

theorem getD_app {xs ys : List Value} {i : Nat} (h : i < xs.length) : (xs ++ ys).toArray.getD i .nilFunc = xs.toArray.getD i .nilFunc := by
  simp [Array.getD_eq_getD_getElem?, List.getElem?_append_left h]
theorem rowOf_app {xs ys : List Value} {q : Nat} (h : q * 5 + 4 < xs.length) : rowOf (xs ++ ys).toArray q = rowOf xs.toArray q := by
  unfold rowOf
  rw [getD_app (by omega), getD_app (by omega), getD_app (by omega), getD_app (by omega), getD_app (by omega)]
theorem rowOf_last {xs : List Value} {q : Nat} {a b c d e : Value} (h : xs.length = q * 5) : rowOf (xs ++ [a, b, c, d, e]).toArray q = #[a, b, c, d, e] := by
  unfold rowOf
  have k : ∀ i (_ : i < 5), (xs ++ [a, b, c, d, e]).toArray.getD (q * 5 + i) .nilFunc = [a, b, c, d, e].getD i .nilFunc := by
    intro i hi
    simp only [Array.getD_eq_getD_getElem?, List.getElem?_toArray, List.getD_eq_getElem?_getD]
    rw [List.getElem?_append_right (by omega), show q * 5 + i - xs.length = i by omega]
  have k0 := k 0 (by omega)
  rw [Nat.add_zero] at k0
  rw [k0, k 1 (by omega), k 2 (by omega), k 3 (by omega), k 4 (by omega)]
  rfl
theorem rowOf_take {c : Array Value} {xs : List Value} {n q : Nat} (h : c.toList.take (n * 5) = xs) (hq : q < n) : rowOf c q = rowOf xs.toArray q := by
  have k : ∀ i, i < n * 5 → c.getD i .nilFunc = xs.toArray.getD i .nilFunc := by
    intro i hi
    rw [← h]
    simp only [Array.getD_eq_getD_getElem?, List.getElem?_toArray]
    rw [List.getElem?_take_of_lt hi, Array.getElem?_toList]
  unfold rowOf
  rw [k _ (by omega), k _ (by omega), k _ (by omega), k _ (by omega), k _ (by omega)]
theorem grown_of_chg {cb : Nat} {w W : World} (h : Chg [cb] w W) : w.grownBy W (some cb) := ⟨h.os, h.tape, h.output, h.size, fun k hk hne => h.block k hk (by simpa using fun e => hne (by rw [e]))⟩

/-- While a list is read. -/
structure RdRun (cb : Nat) (w : World) (ts : List VT) (sj : List UInt8) (lv : Value) (W : World) : Prop where
  chg : Chg [cb] w W
  left : Left W cb sj
  box : Five W w.heap.size (.int .u8 3) (.int .i64 0) (.string ⟨#[]⟩) lv (.int .i64 0)
  own : ∃ xs G, W.ownsRow (w.heap.size + 1) 26 5 lv ts.length xs ∧ OwnL W xs.toArray 0 ts G ∧ G.Nodup ∧ ∀ g ∈ G, w.heap.size + 1 ≤ g ∧ g < W.heap.size ∧ some g ≠ lv.ownBlock
  nil : ts = [] → lv = .slice none 0 0
theorem RdRun.shape {cb : Nat} {w W : World} {ts : List VT} {sj : List UInt8} {lv : Value} (h : RdRun cb w ts sj lv W) : ∃ A c, lv = .slice A ts.length c := by
  obtain ⟨xs, G, hown, _⟩ := h.own
  rcases hown.2 with ⟨rfl, h0⟩ | ⟨g, cap, cur, rfl, _⟩
  · exact ⟨none, 0, by rw [h0]⟩
  · exact ⟨_, _, rfl⟩
/-- Behind the call that reads the next part: the row is there as it was. -/
theorem RdRun.mid {cb : Nat} {w W W2 : World} {ts : List VT} {sj : List UInt8} {lv : Value} {xs : List Value} (h : RdRun cb w ts sj lv W) (hcb : cb < w.heap.size) (hown : W.ownsRow (w.heap.size + 1) 26 5 lv ts.length xs) (hc : Chg [cb] W W2) :
    W2.ownsRow (w.heap.size + 1) 26 5 lv ts.length xs ∧ Five W2 w.heap.size (.int .u8 3) (.int .i64 0) (.string ⟨#[]⟩) lv (.int .i64 0) := by
  refine ⟨hown.kept (grown_of_chg hc) (.inr fun e => ?_), h.box.chg1 hc (by omega)⟩
  have := (hown.lt cb e).1
  omega
theorem RdRun.step {cb : Nat} {w W W2 W3 : World} {ts : List VT} {sj r : List UInt8} {lv v' : Value} {t : VT} {o1 o2 : Obj} {A' : Option Addr} {cap' : Nat} {xs : List Value} (h : RdRun cb w ts sj lv W) (hcb : cb < w.heap.size)
    {G : List Nat} (h1 : W.ownsRow (w.heap.size + 1) 26 5 lv ts.length xs) (h2 : OwnL W xs.toArray 0 ts G) (h3 : G.Nodup) (h4 : ∀ g ∈ G, w.heap.size + 1 ≤ g ∧ g < W.heap.size ∧ some g ≠ lv.ownBlock)
    (hc : Chg [cb] W W2) (hL : Left W2 cb r) (hF : Fresh W W2 t (.agg #[.int .u8 (t.k : Int), .int .i64 t.n, .string t.s, .slice A' t.l.length cap', .int .i64 t.r]))
    (hown : W3.ownsRow (w.heap.size + 1) 26 5 v' (ts.length + 1) (xs ++ [.int .u8 (t.k : Int), .int .i64 t.n, .string t.s, .slice A' t.l.length cap', .int .i64 t.r]))
    (hg : ((W2.alloc o1).alloc o2).grownBy W3 lv.ownBlock) (hat : v'.ownBlock = lv.ownBlock ∨ v'.ownBlock = some ((W2.alloc o1).alloc o2).heap.size) :
    RdRun cb w (ts ++ [t]) r v' (W3.setCell ⟨w.heap.size, 3, none⟩ v') := by
  obtain ⟨F, f1, f2, f3⟩ := hF
  have hsW := h.chg.size
  have hs2 := hc.size
  have hs3 := hg.size
  simp only [World.size_alloc] at hs3
  have hbx := h.box.lt
  have m := h.mid hcb h1 hc
  have old : ∀ g, g < W2.heap.size → g ≠ w.heap.size → some g ≠ lv.ownBlock → (W3.setCell ⟨w.heap.size, 3, none⟩ v').heap[g]? = W2.heap[g]? := fun g g1 g2 g3 =>
    (heap_setCell_other _ _ _ _ g2).trans ((hg.block g (by simp only [World.size_alloc]; omega) g3).trans ((heap_alloc_old _ _ (by simp only [World.size_alloc]; omega)).trans (heap_alloc_old _ _ g1)))
  have lvb : ∀ g, lv.ownBlock = some g → w.heap.size + 1 ≤ g ∧ g < W.heap.size := fun g e => h1.lt g e
  have hxl : xs.length = ts.length * 5 := h1.1
  have hsz4 : (W3.setCell ⟨w.heap.size, 3, none⟩ v').heap.size = W3.heap.size := World.size_setCell _ _ _
  have hcl := hL.lt
  have lvn : ∀ g, g < w.heap.size + 1 → some g ≠ lv.ownBlock := fun g hg e => by have := (lvb g e.symm).1; omega
  refine ⟨?_, ?_, ?_, ⟨xs ++ [.int .u8 (t.k : Int), .int .i64 t.n, .string t.s, .slice A' t.l.length cap', .int .i64 t.r], G ++ F, ?_, ?_, ?_, ?_⟩, fun e => by simp at e⟩
  · refine (((h.chg.trans hc).trans (Chg.of_below ((((Below.refl _ W2).alloc (Nat.le_refl _) o1).alloc (by simp) o2)))).grown hg (fun q hq => .inr (by have := (lvb q hq).1; omega))).set (.inr (Nat.le_refl _)) _
  · exact hL.same (old cb hcl (by omega) (lvn cb (by omega)))
  · have hr : W3.heap[w.heap.size]? = W2.heap[w.heap.size]? := (hg.block _ (by simp only [World.size_alloc]; omega) (lvn _ (by omega))).trans ((heap_alloc_old _ _ (by simp only [World.size_alloc]; omega)).trans (heap_alloc_old _ _ (by omega)))
    exact (Five.mk (hr.trans m.2.row)).set3 v'
  · rw [List.length_append, List.length_singleton]
    refine hown.kept (row := some w.heap.size) ⟨rfl, rfl, rfl, by rw [World.size_setCell]; exact Nat.le_refl _, fun k _ hk => heap_setCell_other _ _ _ _ (fun e => hk (by rw [e]))⟩ (.inr fun e => ?_)
    have := (hown.lt _ e).1
    omega
  · refine OwnL.append (OwnL.same (W := W) (fun g hg' => ?_) (fun q _ hq => rowOf_app (by omega)) h2) ?_
    · obtain ⟨g1, g2, g3⟩ := h4 g hg'
      exact (old g (by omega) (by omega) g3).trans (hc.block g g2 (by simp; omega))
    · refine ⟨F, [], by simp, ?_, rfl⟩
      rw [Nat.zero_add, rowOf_last hxl]
      refine Own.same_all _ _ _ (fun g hg' => ?_) f1
      obtain ⟨g1, g2⟩ := f3 g hg'
      exact old g (by omega) (by omega) (fun e => by have := (lvb g e.symm).2; omega)
  · refine List.nodup_append.2 ⟨h3, f2, fun a ha b hb e => ?_⟩
    have := (h4 a ha).2.1; have := (f3 b hb).1; omega
  · intro g hg'
    rw [hsz4]
    have nv : g < W2.heap.size → some g ≠ lv.ownBlock → some g ≠ v'.ownBlock := by
      intro g1 g2
      rcases hat with hat | hat
      · rwa [hat]
      · rw [hat]
        simp only [World.size_alloc, ne_eq, Option.some.injEq]
        omega
    rcases List.mem_append.1 hg' with hm | hm
    · obtain ⟨g1, g2, g3⟩ := h4 g hm
      exact ⟨g1, by omega, nv (by omega) g3⟩
    · obtain ⟨g1, g2⟩ := f3 g hm
      exact ⟨by omega, by omega, nv g2 (fun e => by have := (lvb g e.symm).2; omega)⟩
theorem rd_box {w W2 W3 : World} {lv : Value} {o1 o2 : Obj} {n size : Nat} {e : TypeId} {xs : List Value} {c0 c1 c2 c3 c4 : Value} (hx : Five W2 w.heap.size c0 c1 c2 c3 c4) (ho : W2.ownsRow (w.heap.size + 1) e size lv n xs) (hg : ((W2.alloc o1).alloc o2).grownBy W3 lv.ownBlock) : Five W3 w.heap.size c0 c1 c2 c3 c4 := by
  have hlt := hx.lt
  exact ⟨(hg.block _ (by simp only [World.size_alloc]; omega) (fun e => by have := (ho.lt _ e.symm).1; omega)).trans ((heap_alloc_old _ _ (by simp only [World.size_alloc]; omega)).trans ((heap_alloc_old _ _ hlt).trans hx.row))⟩
theorem RdRun.done {cb : Nat} {w W : World} {ts : List VT} {sj : List UInt8} {lv : Value} (h : RdRun cb w ts sj lv W) (v0 v1 v2 v3 v4 : Value) :
    Fresh w (((((W.setCell ⟨w.heap.size, 0, none⟩ v0).setCell ⟨w.heap.size, 1, none⟩ v1).setCell ⟨w.heap.size, 2, none⟩ v2).setCell ⟨w.heap.size, 3, none⟩ v3).setCell ⟨w.heap.size, 4, none⟩ v4) (.mk 3 0 ⟨#[]⟩ 0 ts)
      (.agg #[.int .u8 ((3 : Nat) : Int), .int .i64 0, .string ⟨#[]⟩, lv, .int .i64 0]) := by
  by_cases h0 : ts = []
  · rw [h.nil h0, h0]
    exact fresh_flat ⟨by decide, by decide, by decide, by decide, by decide⟩
  · obtain ⟨xs, G, h1, h2, h3, h4⟩ := h.own
    have hp : 0 < ts.length := List.length_pos_iff.2 h0
    rcases h1.2 with ⟨_, h5⟩ | ⟨g, cap, cur, rfl, hbg, hg, hnc, hcm, hcs, htake⟩
    · omega
    · have hgl := (Array.getElem?_eq_some_iff.1 hg).1
      refine ⟨g :: G, ⟨⟨by decide, by decide, by decide, by decide, by omega⟩, .inr ⟨g, cap, cur, G, rfl, hp, hnc, hcm, (heap_set5_other _ _ _ _ _ (by omega)).trans hg, hcs, rfl, ?_⟩⟩, List.nodup_cons.2 ⟨fun hm => (h4 g hm).2.2 rfl, h3⟩, ?_⟩
      · exact OwnL.same (fun q hq => heap_set5_other _ _ _ _ _ (by have := (h4 q hq).1; omega)) (fun q _ hq => rowOf_take htake (by omega)) h2
      · intro q hq
        have hsz : (((((W.setCell ⟨w.heap.size, 0, none⟩ v0).setCell ⟨w.heap.size, 1, none⟩ v1).setCell ⟨w.heap.size, 2, none⟩ v2).setCell ⟨w.heap.size, 3, none⟩ v3).setCell ⟨w.heap.size, 4, none⟩ v4).heap.size = W.heap.size := by simp
        rw [hsz]
        rcases List.mem_cons.1 hq with rfl | hq
        · omega
        · have := h4 q hq; omega
end Go.Proofs.Ytckgmdlacaiacaa
