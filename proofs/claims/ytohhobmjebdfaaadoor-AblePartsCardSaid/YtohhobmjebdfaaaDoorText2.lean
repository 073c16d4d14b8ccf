/-
  able.text, able.Text, whole; able.Read.
-/
import Derived.Test.YtohhobmjebdfaaaDoorText
namespace Go.Proofs.YtohhobmjebdfaaaDoor
open Go.RowKit Go.Shelf
attribute [local go_sem] Oper.semAt_some

theorem may_yes (a : Int) (w : World) (h0 : 0 ≤ a) (h1 : a ≤ 63) : Calls Tryd.prog 14 #[.int .u8 a] w fun e w' => e = .returned (.bool true) ∧ w = w' :=
  (may_w a w h0 (by omega)).mono fun _ _ h => ⟨by rw [h.1, decide_eq_true h1], h.2⟩
theorem may_no (a : Int) (w : World) (h0 : 64 ≤ a) (h1 : a ≤ 255) : Calls Tryd.prog 14 #[.int .u8 a] w fun e w' => e = .returned (.bool false) ∧ w = w' :=
  (may_w a w (by omega) h1).mono fun _ _ h => ⟨by rw [h.1, decide_eq_false (by omega)], h.2⟩
theorem text_w (a : Int) (w : World) (h0 : 0 ≤ a) (h1 : a ≤ 63) (hN : NamesAt w) :
    Calls Tryd.prog 40 #[.int .u8 a] w fun e W' => e = .returned (.string (textB a.toNat)) ∧ Below w.heap.size w W' := by
  by_cases h : a = 0
  · subst h
    go_enter Tryd.func40, Tryd.ntmps40
    go_wp2
    go_ret
    exact ⟨rfl, Below.refl _ _⟩
  · exact callsIn_wide.1 (text_in 4 (by decide) a w (by omega) h1 hN)

theorem Text_w (a : Int) (w : World) (h0 : 0 ≤ a) (h1 : a ≤ 255) (hN : NamesAt w) :
    Calls Tryd.prog 13 #[.int .u8 a] w fun e W' => e = .returned (.tuple #[.string (if a ≤ 63 then textB a.toNat else ⟨#[]⟩), .int .i64 (if a ≤ 63 then 0 else 2)]) ∧ Below w.heap.size w W' := by
  by_cases h : a ≤ 63
  · go_enter Tryd.func13, Tryd.ntmps13
    go_wp2_with fail
    refine (may_yes a _ h0 h).mono ?_
    rintro e w' ⟨rfl, rfl⟩
    go_wp2_with fail
    refine (text_w a _ h0 h hN).mono ?_
    rintro e w' ⟨rfl, hb⟩
    go_wp2
    go_ret2
    exact ⟨by simp, hb⟩
  · go_enter Tryd.func13, Tryd.ntmps13
    go_wp2_with fail
    refine (may_no a _ (by omega) h1).mono ?_
    rintro e w' ⟨rfl, rfl⟩
    go_wp2
    go_ret2
    exact ⟨by simp, Below.refl _ _⟩

theorem keepsOthers_below {W W' : World} (h : Below W.heap.size W W') : KeepsOthers W W' :=
  ⟨h.size, fun k _ hk _ => (h.block k (Array.getElem?_eq_some_iff.1 hk).1).trans hk⟩
theorem find_none (s : ByteArray) (l : List (Fin 64)) (h : ∀ b ∈ l, textB b.val ≠ s) : l.find? (fun b => decide (textB b.val = s)) = none :=
  List.find?_eq_none.2 fun b hb => by simpa using h b hb
theorem find_some (s : ByteArray) (q l : List (Fin 64)) (b : Fin 64) (h : ∀ c ∈ q, textB c.val ≠ s) (hb : textB b.val = s) (hp : q ++ [b] <+: l) : l.find? (fun b => decide (textB b.val = s)) = some b := by
  obtain ⟨r, rfl⟩ := hp
  rw [List.append_assoc, List.find?_append, find_none s q h]
  simp [hb]

theorem below_boxed {W W' : World} {B : Nat} {t : TypeId} {v : Value} (h : Below W.heap.size W W') (hb : Boxed W B t v) : Boxed W' B t v := (h.block B hb.lt).trans hb
/-- A round of Read has found the set. -/
def FoundAt (s : ByteArray) (B : Nat) (pre : List (Fin 64)) (W : World) : Prop :=
  ∃ q b, pre = q ++ [b] ∧ (∀ c ∈ q, textB (Fin.val c) ≠ s) ∧ textB (Fin.val b) = s ∧ Boxed W (B + 1) 22 (.int .u8 ((Fin.val b : Nat) : Int)) ∧ Boxed W (B + 2) 25 (.int .i64 0)
theorem foundAt_own (s : ByteArray) (B : Nat) : Own (FoundAt s B) := by
  rintro pre W W' row ⟨q, b, h1, h2, h3, h4, h5⟩ hg hr
  exact ⟨q, b, h1, h2, h3, boxed_own _ _ (fun _ : Unit => _) () W W' row h4 hg hr, boxed_own _ _ (fun _ : Unit => _) () W W' row h5 hg hr⟩
/-- A round of Read has found nothing so far. -/
def NotYet (s : ByteArray) (B : Nat) (pre : List (Fin 64)) (W : World) : Prop :=
  (∀ c ∈ pre, textB (Fin.val c) ≠ s) ∧ Boxed W B 9 (.string s) ∧ Boxed W (B + 1) 22 (.int .u8 0) ∧ Boxed W (B + 2) 25 (.int .i64 0)
theorem notYet_own (s : ByteArray) (B : Nat) : Own (NotYet s B) := by
  rintro pre W W' row ⟨h1, h2, h3, h4⟩ hg hr
  exact ⟨h1, boxed_own _ _ (fun _ : Unit => _) () W W' row h2 hg hr, boxed_own _ _ (fun _ : Unit => _) () W W' row h3 hg hr, boxed_own _ _ (fun _ : Unit => _) () W W' row h4 hg hr⟩

/-- The set whose text s is, if there is one. -/
def readN (s : ByteArray) : Option (Fin 64) := (withinL 63).find? (fun b => decide (textB b.val = s))

/-- What Read answers. -/
def readV (s : ByteArray) : Value := .tuple #[.int .u8 (((readN s).map (fun b => (b.val : Int))).getD 0), .int .i64 (if (readN s).isSome then 0 else 10)]
theorem read_hit {w W w' : World} {s : ByteArray} {pre : List (Fin 64)} {x : Fin 64} (hb : Below W.heap.size W w') (hB : Below w.heap.size w W) (hno : ∀ c ∈ pre, textB (Fin.val c) ≠ s) (heq : textB x.val = s)
    (d1 : Boxed w' (w.heap.size + 1) 22 (.int .u8 0)) (d2 : Boxed w' (w.heap.size + 2) 25 (.int .i64 0)) :
    KeepsOthers W ((w'.setCell ⟨w.heap.size + 1, 0, none⟩ (.int .u8 (x.val : Int))).setCell ⟨w.heap.size + 1 + 1, 0, none⟩ (.int .i64 0)) ∧
      (Code.ret = .ret ∧ FoundAt s w.heap.size (pre ++ [x]) ((w'.setCell ⟨w.heap.size + 1, 0, none⟩ (.int .u8 (x.val : Int))).setCell ⟨w.heap.size + 1 + 1, 0, none⟩ (.int .i64 0))) ∧
      Below w.heap.size w ((w'.setCell ⟨w.heap.size + 1, 0, none⟩ (.int .u8 (x.val : Int))).setCell ⟨w.heap.size + 1 + 1, 0, none⟩ (.int .i64 0)) :=
  ⟨((keepsOthers_below hb).trans (KeepsOthers.setCell _ _ _)).trans (KeepsOthers.setCell _ _ _),
    ⟨rfl, pre, x, rfl, hno, heq, (d1.set _).other (by omega) _, (d2.other (by omega) _).set _⟩,
    ((hB.trans (hb.mono hB.size)).setCell (p := ⟨w.heap.size + 1, 0, none⟩) (by simp) _).setCell (p := ⟨w.heap.size + 1 + 1, 0, none⟩) (by simp; omega) _⟩
theorem str_ne {t s : ByteArray} (h : ¬ t = s) : (t.toList == s.toList) = false := by
  rw [beq_eq_false_iff_ne, Lib.toList_data, Lib.toList_data]
  intro he
  exact h (ByteArray.ext (Array.toList_inj.1 he))
theorem lt_of_cell {W : World} {a : Addr} {v : Value} (h : W.cell? a = some v) : a.block < W.heap.size := by
  rcases Nat.lt_or_ge a.block W.heap.size with h0 | h0
  · exact h0
  · simp [World.cell?, Array.getElem?_eq_none h0] at h
theorem no_snoc {s : ByteArray} {pre : List (Fin 64)} {x : Fin 64} (hno : ∀ c ∈ pre, textB (Fin.val c) ≠ s) (heq : ¬ textB x.val = s) : ∀ c ∈ pre ++ [x], textB (Fin.val c) ≠ s := by
  intro c hc
  rcases List.mem_append.1 hc with h | h
  · exact hno c h
  · obtain rfl : c = x := by simpa using h
    exact heq
theorem read_miss {w W w' : World} {s : ByteArray} {pre : List (Fin 64)} {x : Fin 64} (hb : Below W.heap.size W w') (hB : Below w.heap.size w W) (hno : ∀ c ∈ pre, textB (Fin.val c) ≠ s) (heq : ¬ textB x.val = s) 
    (d0 : Boxed w' w.heap.size 9 (.string s)) (d1 : Boxed w' (w.heap.size + 1) 22 (.int .u8 0)) (d2 : Boxed w' (w.heap.size + 2) 25 (.int .i64 0)) :
    KeepsOthers W w' ∧ KeepsCell (w.heap.size + 3) W w' ∧ (NotYet s w.heap.size (pre ++ [x]) w' ∧ Below w.heap.size w w') :=
  ⟨keepsOthers_below hb, fun _ hv => (hb.cell (p := ⟨w.heap.size + 3, 0, none⟩) (lt_of_cell hv)).trans hv,
    ⟨no_snoc hno heq, d0, d1, d2⟩, hB.trans (hb.mono hB.size)⟩

set_option maxRecDepth 100000 in
set_option maxHeartbeats 4000000 in
theorem read_in (n : Nat) (hn : 4 ≤ n) (s : ByteArray) (w : World) (hN : NamesAt w) :
    CallsIn Fence.wide n Tryd.prog 34 #[.string s] w fun e W' => e = .returned (readV s) ∧ Below w.heap.size w W' := by
  have h1 : 1 ≤ n := by omega
  have hs0 := hN.size
  refine callsIn_of_wp_marks Tryd.func34 rfl trivial ?_ rfl
  simp only [Tryd.ntmps34, List.size_toArray, List.length_cons, List.length_nil, Nat.reduceAdd, Nat.reduceSub, Array.replicate_succ, Array.replicate_zero, List.push_toArray, List.append_toArray, List.nil_append, List.cons_append]
  gi_wp2_with (refine ⟨trivial, ?_⟩; gi_at_call 36; refine (callsIn_wide.2 (within_w 63 _ (by decide) (by decide))).mono ?_; rintro e w' ⟨rfl, rfl⟩)
  obtain ⟨W0, hW0⟩ : ∃ W0, ((((w.alloc (.cells #[.string s] 9)).alloc (.cells #[.int .u8 0] 22)).alloc (.cells #[.int .i64 0] 25)).alloc (.cells #[.int .u8 63] 22)) = W0 := ⟨_, rfl⟩
  have hs4 : W0.heap.size = w.heap.size + 4 := by rw [← hW0]; simp
  have hB0 : Below w.heap.size w W0 := by
    rw [← hW0]; exact ((((Below.refl _ w).alloc (Nat.le_refl _) _).alloc (by simp) _).alloc (by simp; omega) _).alloc (by simp; omega) _
  have b0 : Boxed W0 w.heap.size 9 (.string s) := by rw [← hW0]; exact (((Boxed.new w _ _).alloc _).alloc _).alloc _
  have b1 : Boxed W0 (w.heap.size + 1) 22 (.int .u8 0) := by rw [← hW0]; have := Boxed.new (w.alloc (.cells #[.string s] 9)) 22 (.int .u8 0); rw [World.size_alloc] at this; exact (this.alloc _).alloc _
  have b2 : Boxed W0 (w.heap.size + 2) 25 (.int .i64 0) := by rw [← hW0]; have := Boxed.new ((w.alloc (.cells #[.string s] 9)).alloc (.cells #[.int .u8 0] 22)) 25 (.int .i64 0); rw [World.size_alloc, World.size_alloc] at this; exact this.alloc _
  have b3 : Boxed W0 (w.heap.size + 3) 22 (.int .u8 63) := by rw [← hW0]; have := Boxed.new (((w.alloc (.cells #[.string s] 9)).alloc (.cells #[.int .u8 0] 22)).alloc (.cells #[.int .i64 0] 25)) 22 (.int .u8 63); rw [World.size_alloc, World.size_alloc, World.size_alloc] at this; exact this
  rw [hW0]
  clear hW0
  refine wpIn_rangeFunc_ownF (F := Fence.wide) rfl h1 (gf := 44) (lb := #[.pointer (some ⟨w.heap.size + 1 + 1 + 1, 0, none⟩)]) rfl trivial (enters_of Tryd.func44 (by kernel_rfl) rfl)
    (within_stops Fence.wide (n - 1) trivial trivial rfl (by omega) (w.heap.size + 3) 63 (by decide) _ (by omega) b3.cell) keepsCell_t (fun W l o o' _ h hc _ => keepsCell_b W l o o' h hc) (Below.refl _ _) (fun _ => rfl)
    (fun pre W => NotYet s w.heap.size pre W ∧ Below w.heap.size w W)
    (fun c pre W => (c = .ret ∧ FoundAt s w.heap.size pre W) ∧ Below w.heap.size w W)
    (OwnFrom.and (Own.from (notYet_own _ _) _) (ownFrom_below (Nat.le_refl _) (by omega)))
    (fun c => OwnFrom.and (OwnFrom.and (ownFrom_pure _ (fun _ => c = .ret)) (Own.from (foundAt_own _ _) _)) (ownFrom_below (Nat.le_refl _) (by omega)))
    ⟨⟨fun _ hc => absurd hc List.not_mem_nil, b0, b1, b2⟩, hB0⟩
    (fun x => { tmps := #[.string s, .pointer (some ⟨w.heap.size, 0, none⟩), .pointer (some ⟨w.heap.size + 1, 0, none⟩), .pointer (some ⟨w.heap.size + 1 + 1, 0, none⟩), .int .u8 (x.val : Int), .func (.func 44) #[] #[.pointer (some ⟨w.heap.size + 1 + 1 + 1, 0, none⟩)], .int .u8 (x.val : Int), undef, undef, undef, undef, undef], defers := [] }) ?assign ?body ?done ?stop
  case assign =>
    intro l x W K hK
    gi_wp2
    exact hK
  case body =>
    rintro l pre x W ⟨⟨hno, c0, c1, c2⟩, hB⟩ _
    have hNx := hN.below hB hs0
    have hd : 1 ≤ n - 1 - 1 := by omega
    have hmx : Tryd.prog.follows .mixedOrders = true := by kernel_rfl
    have hx := x.isLt
    have h0c := c0.cell
    have hl := c2.lt
    have H0 := text_w x.val W.drew (by omega) (by omega) (fun j => hNx j)
    have c0d : Boxed W.drew w.heap.size 9 (.string s) := c0
    have c1d : Boxed W.drew (w.heap.size + 1) 22 (.int .u8 0) := c1
    have c2d : Boxed W.drew (w.heap.size + 2) 25 (.int .i64 0) := c2
    rw [show ((x.val : Nat) : Int).toNat = x.val from rfl] at H0
    by_cases heq : textB x.val = s
    · rw [heq] at H0
      have HH := Lib.hid H0
      have Heq := Lib.hid heq
      have Hno := Lib.hid hno
      clear H0 heq hno
      gi_wp2
      gi_region_with_o (refine ⟨trivial, ?_⟩; gi_at_call 40; refine (CallsIn.inRound l (callsIn_wide.2 HH.out)).mono ?_; rintro e w' ⟨rfl, hb⟩; have d0 := below_boxed hb c0d; have d1 := below_boxed hb c1d; have d2 := below_boxed hb c2d; have e0 := d0.cell; have e1 := d1.cell; have e2 := d2.cell; have f1 := d1.frozen; have f2 := d2.frozen)
      all_goals gi_wp2
      all_goals exact read_hit (W := W) (((Below.refl W.heap.size W).drew).trans hb) hB Hno.out Heq.out d1 d2
    · have HH := Lib.hid H0
      have Heq := Lib.hid heq
      have Hno := Lib.hid hno
      generalize ht : textB x.val = t at *
      have Ht := Lib.hid ht
      clear ht
      have hts : (t.toList == s.toList) = false := str_ne heq
      clear H0 hno
      gi_wp2
      gi_region_with_o (refine ⟨trivial, ?_⟩; gi_at_call 40; refine (CallsIn.inRound l (callsIn_wide.2 HH.out)).mono ?_; rintro e w' ⟨rfl, hb⟩; have d0 := below_boxed hb c0d; have d1 := below_boxed hb c1d; have d2 := below_boxed hb c2d; have e0 := d0.cell)
      all_goals gi_wp2
      all_goals exact read_miss (W := W) (((Below.refl W.heap.size W).drew).trans hb) hB Hno.out (by rw [Ht.out]; exact Heq.out) d0 d1 d2
  case done =>
    rintro D ys W hD rfl ⟨⟨hno, c0, c1, c2⟩, hB⟩ hK
    have hr : readN s = none := find_none s _ hno
    have e1 := c1.cell
    have e2 := c2.cell
    have f1 := c1.frozen
    have f2 := c2.frozen
    have hsets := (KeepsOthers.setCell W ⟨w.heap.size + 1, 0, none⟩ (.int .u8 0)).trans (KeepsOthers.setCell _ ⟨w.heap.size + 1 + 1, 0, none⟩ (.int .i64 10))
    have hBs := (hB.setCell (p := ⟨w.heap.size + 1, 0, none⟩) (by simp) (.int .u8 0)).setCell (p := ⟨w.heap.size + 1 + 1, 0, none⟩) (by simp; omega) (.int .i64 10)
    have g1 := (c1.set (.int .u8 0)).other (B' := w.heap.size + 1 + 1) (by omega) (.int .i64 10)
    have g2 := (c2.other (B' := w.heap.size + 1) (by omega) (.int .u8 0)).set (.int .i64 10)
    gi_wp2
    have hK' := hsets.same D _ hK rfl
    refine ⟨by simp, .inl ⟨_, _, rfl, run_takeDeferred hK', ?_⟩⟩
    have hc5 := cell_kept g1.cell (grownBy_putObj' _ D (.deferred none)) (fun r e => by cases e; exact ⟨_, hK', rfl⟩)
    have hc6 := cell_kept g2.cell (grownBy_putObj' _ D (.deferred none)) (fun r e => by cases e; exact ⟨_, hK', rfl⟩)
    refine ⟨.tuple #[.int .u8 0, .int .i64 10], ?_, by unfold readV; rw [hr]; rfl, hBs.trans (belowK_b (w := w) (Nat.le_refl _) _ D _ _ (by omega) hK' rfl rfl)⟩
    simp [results, Tryd.f34, go_sem, hc5, hc6]
  case stop =>
    rintro D c pre W hD hp ⟨⟨rfl, q, b, rfl, hno, heq, c1, c2⟩, hB⟩ hK
    have hr : readN s = some b := find_some s q _ b hno heq hp
    gi_wp2
    refine ⟨by simp, .inl ⟨_, _, rfl, run_takeDeferred hK, ?_⟩⟩
    have hc5 := cell_kept c1.cell (grownBy_putObj' _ D (.deferred none)) (fun r e => by cases e; exact ⟨_, hK, rfl⟩)
    have hc6 := cell_kept c2.cell (grownBy_putObj' _ D (.deferred none)) (fun r e => by cases e; exact ⟨_, hK, rfl⟩)
    refine ⟨.tuple #[.int .u8 (b.val : Int), .int .i64 0], ?_, by unfold readV; rw [hr]; rfl, hB.trans (belowK_b (w := w) (Nat.le_refl _) W D _ _ (by omega) hK rfl rfl)⟩
    simp [results, Tryd.f34, go_sem, hc5, hc6]

theorem Read_w (s : ByteArray) (w : World) (hN : NamesAt w) :
    Calls Tryd.prog 34 #[.string s] w fun e W' => e = .returned (readV s) ∧ Below w.heap.size w W' := callsIn_wide.1 (read_in 4 (by decide) s w hN)
end Go.Proofs.YtohhobmjebdfaaaDoor
