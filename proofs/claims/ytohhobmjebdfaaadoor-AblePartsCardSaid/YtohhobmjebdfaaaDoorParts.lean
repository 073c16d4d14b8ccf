/-
  The walk of AbleParts: Within tells as many sets as 2 to the power of Count, each of them within; Join of what Each tells is the set.
-/
import Derived.Test.YtohhobmjebdfaaaDoorTab
import Derived.Test.YtohhobmjebdfaaaDoorPartsMath
namespace Go.Proofs.YtohhobmjebdfaaaDoor
open Go.RowKit Go.Shelf
attribute [local go_sem] Oper.semAt_some

/-- Between two rounds of the first loop. -/
structure PartOn (a b B C : Nat) (w : World) (pre : List (Fin 64)) (W : World) : Prop where
  good : GoodW a pre
  ba : Boxed W B 22 (.int .u8 (a : Int))
  bb : Boxed W (B + 1) 22 (.int .u8 (b : Int))
  br : Boxed W (B + 2) 4 (.bool false)
  bk : Boxed W C 3 (.int .i64 (pre.length : Int))
  bm : Boxed W (C + 1) 4 (.bool (metN b pre))
  bl : Boxed W (C + 2) 3 (.int .i64 (lastI pre))
  it : Boxed W (C + 3) 22 (.int .u8 (a : Int))
  ie : Boxed W (C + 4) 22 (.int .u8 (a : Int))
  below : Below B w W
theorem partOn_start {a b : Nat} {w wr : World} (h : Boxed wr w.heap.size 22 (.int .u8 (a : Int)) ∧ Boxed wr (w.heap.size + 1) 22 (.int .u8 (b : Int)) ∧ Boxed wr (w.heap.size + 2) 4 (.bool false) ∧ Below w.heap.size w wr) :
    PartOn a b w.heap.size wr.heap.size w [] (((((wr.alloc (.cells #[.int .i64 0] 3)).alloc (.cells #[.bool false] 4)).alloc (.cells #[.int .i64 (-1)] 3)).alloc (.cells #[.int .u8 (a : Int)] 22)).alloc (.cells #[.int .u8 (a : Int)] 22)) := by
  obtain ⟨h0, h1, h2, hB⟩ := h
  have hs := hB.size
  refine ⟨goodW_nil a, ((((h0.alloc _).alloc _).alloc _).alloc _).alloc _, ((((h1.alloc _).alloc _).alloc _).alloc _).alloc _, ((((h2.alloc _).alloc _).alloc _).alloc _).alloc _, ?_, ?_, ?_, ?_, ?_, ?_⟩
  · exact ((((Boxed.new wr _ _).alloc _).alloc _).alloc _).alloc _
  · have := Boxed.new (wr.alloc (.cells #[.int .i64 0] 3)) 4 (.bool false)
    simp only [World.size_alloc] at this
    exact ((this.alloc _).alloc _).alloc _
  · have := Boxed.new ((wr.alloc (.cells #[.int .i64 0] 3)).alloc (.cells #[.bool false] 4)) 3 (.int .i64 (-1))
    simp only [World.size_alloc] at this
    exact (this.alloc _).alloc _
  · have := Boxed.new (((wr.alloc (.cells #[.int .i64 0] 3)).alloc (.cells #[.bool false] 4)).alloc (.cells #[.int .i64 (-1)] 3)) 22 (.int .u8 (a : Int))
    simp only [World.size_alloc] at this
    exact this.alloc _
  · have := Boxed.new ((((wr.alloc (.cells #[.int .i64 0] 3)).alloc (.cells #[.bool false] 4)).alloc (.cells #[.int .i64 (-1)] 3)).alloc (.cells #[.int .u8 (a : Int)] 22)) 22 (.int .u8 (a : Int))
    simp only [World.size_alloc] at this
    exact this
  · exact ((((hB.alloc hs _).alloc (by simp; omega) _).alloc (by simp; omega) _).alloc (by simp; omega) _).alloc (by simp; omega) _
theorem partOn_own {a b B C : Nat} {w : World} {B' : Nat} (hw : w.heap.size = B) (hB : B ≤ B') : OwnFrom B' (PartOn a b B C w) := by
  rintro pre W W' row ⟨h0, h1, h2, h3, h4, h5, h6, h7, h8, h9⟩ hg hr
  exact ⟨h0, boxed_from h1 hg hr, boxed_from h2 hg hr, boxed_from h3 hg hr, boxed_from h4 hg hr, boxed_from h5 hg hr, boxed_from h6 hg hr, boxed_from h7 hg hr, boxed_from h8 hg hr, ownFrom_below (β := Unit) (by omega) hB () W W' row h9 hg hr⟩

theorem has_n (a b : Nat) (ha : a < 256) (hb : b < 256) (w : World) : Calls Tryd.prog 28 #[.int .u8 (a : Int), .int .u8 (b : Int)] w fun e w' => e = .returned (.bool (hasN a b)) ∧ w = w' :=
  (has_w (a : Int) (b : Int) w (by omega) (by omega) (by omega) (by omega)).mono fun _ _ h => ⟨by rw [h.1]; rfl, h.2⟩
theorem partOn_step {a b B C : Nat} {w W : World} {pre : List (Fin 64)} {x : Fin 64} (h : PartOn a b B C w pre W) (hg : GoodW a (pre ++ [x])) (_hw : w.heap.size = B := by rfl) (hBC : B + 2 < C := by omega) :
    KeepsOthers W (((W.setCell ⟨C + 1 + 1, 0, none⟩ (.int .i64 (val64 x : Int))).setCell ⟨C + 1, 0, none⟩ (.bool (metN b (pre ++ [x])))).setCell ⟨C, 0, none⟩ (.int .i64 ((pre.length : Int) + 1))) ∧
    KeepsCell (C + 3) W (((W.setCell ⟨C + 1 + 1, 0, none⟩ (.int .i64 (val64 x : Int))).setCell ⟨C + 1, 0, none⟩ (.bool (metN b (pre ++ [x])))).setCell ⟨C, 0, none⟩ (.int .i64 ((pre.length : Int) + 1))) ∧
    PartOn a b B C w (pre ++ [x]) (((W.setCell ⟨C + 1 + 1, 0, none⟩ (.int .i64 (val64 x : Int))).setCell ⟨C + 1, 0, none⟩ (.bool (metN b (pre ++ [x])))).setCell ⟨C, 0, none⟩ (.int .i64 ((pre.length : Int) + 1))) := by
  have o : ∀ {Bx : Nat} {t : TypeId} {v : Value}, Boxed W Bx t v → Bx ≠ C → Bx ≠ C + 1 → Bx ≠ C + 2 → Boxed (((W.setCell ⟨C + 1 + 1, 0, none⟩ (.int .i64 (val64 x : Int))).setCell ⟨C + 1, 0, none⟩ (.bool (metN b (pre ++ [x])))).setCell ⟨C, 0, none⟩ (.int .i64 ((pre.length : Int) + 1))) Bx t v :=
    fun hb h0 h1 h2 => ((hb.other (by omega) _).other (by omega) _).other (by omega) _
  refine ⟨((KeepsOthers.setCell _ _ _).trans (KeepsOthers.setCell _ _ _)).trans (KeepsOthers.setCell _ _ _), keepsCell_t (keepsCell_t (keeps_i (by omega)) (keeps_i (by omega))) (keeps_i (by omega)), hg, o h.ba (by omega) (by omega) (by omega), o h.bb (by omega) (by omega) (by omega), o h.br (by omega) (by omega) (by omega), ?_, ?_, ?_, o h.it (by omega) (by omega) (by omega), o h.ie (by omega) (by omega) (by omega), ?_⟩
  · rw [List.length_append]; exact ((h.bk.other (by omega) _).other (by omega) _).set _
  · exact ((h.bm.other (by omega) _).set _).other (by omega) _
  · rw [lastI_snoc]; exact ((h.bl.set _).other (by omega) _).other (by omega) _
  · exact ((h.below.setCell (p := ⟨C + 1 + 1, 0, none⟩) (by simp; omega) _).setCell (p := ⟨C + 1, 0, none⟩) (by simp; omega) _).setCell (p := ⟨C, 0, none⟩) (by simp; omega) _

theorem val6_facts' : ∀ x : Fin 6, val6 x < 64 ∧ placeN (val6 x) = x.val ∧ oneN (val6 x) = true := by decide +kernel
theorem val6_facts (x : Fin 6) : val6 x < 64 ∧ x.val < 6 ∧ placeN (val6 x) = x.val ∧ oneN (val6 x) = true := ⟨(val6_facts' x).1, x.isLt, (val6_facts' x).2⟩
theorem place_two (x : Fin 6) (w : World) : Calls Tryd.prog 11 #[.int .u8 (val6 x : Int)] w fun e w' => e = .returned (.tuple #[.int .i64 (x.val : Int), .int .i64 0]) ∧ w = w' :=
  (place_w (val6 x : Int) w (by omega) (by have := (val6_facts x).1; omega)).mono fun _ _ h => ⟨by rw [h.1, show ((val6 x : Nat) : Int).toNat = val6 x from rfl, (val6_facts x).2.2.1, (val6_facts x).2.2.2]; rfl, h.2⟩
theorem one_two (x : Fin 6) (w : World) : Calls Tryd.prog 16 #[.int .u8 (val6 x : Int)] w fun e w' => e = .returned (.bool true) ∧ w = w' :=
  (one_w (val6 x : Int) w (by omega) (by have := (val6_facts x).1; omega)).mono fun _ _ h => ⟨by rw [h.1, show ((val6 x : Nat) : Int).toNat = val6 x from rfl, (val6_facts x).2.2.2], h.2⟩
/-- Between two rounds of the second loop. -/
structure PartTwo (a b B C D E c : Nat) (w : World) (pre : List (Fin 6)) (W : World) : Prop where
  good : GoodE pre
  ba : Boxed W B 22 (.int .u8 (a : Int))
  bb : Boxed W (B + 1) 22 (.int .u8 (b : Int))
  br : Boxed W (B + 2) 4 (.bool false)
  bk : Boxed W C 3 (.int .i64 (pw c : Int))
  bm : Boxed W (C + 1) 4 (.bool (hasN a b))
  ie : Boxed W (C + 4) 22 (.int .u8 (a : Int))
  al : Boxed W E 22 (.int .u8 (allN pre : Int))
  bi : Boxed W (E + 1) 3 (.int .i64 (nextI pre))
  mark : W.heap[D]? = some (.deferred (some []))
  below : Below B w W
theorem partTwo_start {a b C D c : Nat} {w W : World} {pre : List (Fin 64)} (h : PartOn a b w.heap.size C w pre W) (hK : W.heap[D]? = some (.deferred (some []))) (hk : Boxed W C 3 (.int .i64 (pw c : Int))) (hm : Boxed W (C + 1) 4 (.bool (hasN a b))) :
    PartTwo a b w.heap.size C D W.heap.size c w [] ((W.alloc (.cells #[.int .u8 0] 22)).alloc (.cells #[.int .i64 0] 3)) := by
  have hs := h.below.size
  refine ⟨List.Pairwise.nil, (h.ba.alloc _).alloc _, (h.bb.alloc _).alloc _, (h.br.alloc _).alloc _, (hk.alloc _).alloc _, (hm.alloc _).alloc _, (h.ie.alloc _).alloc _, (Boxed.new W _ _).alloc _, ?_, ?_, (h.below.alloc hs _).alloc (by simp; omega) _⟩
  · have := Boxed.new (W.alloc (.cells #[.int .u8 0] 22)) 3 (.int .i64 0)
    simp only [World.size_alloc] at this
    exact this
  · have hD := (Array.getElem?_eq_some_iff.1 hK).1
    exact (heap_alloc_old _ _ _ (by simp; omega)).trans ((heap_alloc_old _ _ _ hD).trans hK)
theorem partTwo_own {a b B C D E c : Nat} {w : World} {B' : Nat} (hw : w.heap.size = B) (hB : B ≤ B') (hD : D < B') : OwnFrom B' (PartTwo a b B C D E c w) := by
  rintro pre W W' row ⟨h0, h1, h2, h3, h4, h5, h6, h7, h8, h9, h10⟩ hg hr
  exact ⟨h0, boxed_from h1 hg hr, boxed_from h2 hg hr, boxed_from h3 hg hr, boxed_from h4 hg hr, boxed_from h5 hg hr, boxed_from h6 hg hr, boxed_from h7 hg hr, boxed_from h8 hg hr,
    (hg.block D (Array.getElem?_eq_some_iff.1 h9).1 (fun e => by have := (hr D e.symm).1; omega)).trans h9, ownFrom_below (β := Unit) (by omega) hB () W W' row h10 hg hr⟩
theorem lies2' (w : World) (x y : Nat) : Lies (w.alloc (.cells #[.int .u8 (x : Int), .int .u8 (y : Int)] 22)) w.heap.size 0 [x, y] := by
  intro i hi
  have h := World.alloc_heap_new w (.cells #[.int .u8 (x : Int), .int .u8 (y : Int)] 22)
  obtain rfl | rfl : i = 0 ∨ i = 1 := by simp at hi; omega
  all_goals exact cell_in_row h rfl
/-- What a round of the second loop leaves. -/
def afterTwo (E all x : Nat) (p : Int) (all' : Nat) (W : World) : World :=
  (((W.alloc (.cells #[.int .u8 (all : Int), .int .u8 (x : Int)] 22)).alloc (.cells #[.int .u8 (all : Int), .int .u8 (x : Int)] 22)).setCell ⟨E, 0, none⟩ (.int .u8 (all' : Int))).setCell ⟨E + 1, 0, none⟩ (.int .i64 (p + 1))
theorem partTwo_step {a b B C D E c : Nat} {w W : World} {pre : List (Fin 6)} {x : Fin 6} (h : PartTwo a b B C D E c w pre W) (hg : GoodE (pre ++ [x])) (hw : w.heap.size = B := by rfl) (hBC : B + 2 < C := by omega) (hCE : C + 4 < E := by omega) (_hDE : D < E := by omega) :
    KeepsOthers W (afterTwo E (allN pre) (val6 x) (x.val : Int) (allN (pre ++ [x])) W) ∧ KeepsCell (C + 4) W (afterTwo E (allN pre) (val6 x) (x.val : Int) (allN (pre ++ [x])) W) ∧
    PartTwo a b B C D E c w (pre ++ [x]) (afterTwo E (allN pre) (val6 x) (x.val : Int) (allN (pre ++ [x])) W) := by
  have hs := h.below.size
  have hb2 : Below W.heap.size W ((W.alloc (.cells #[.int .u8 (allN pre : Int), .int .u8 (val6 x : Int)] 22)).alloc (.cells #[.int .u8 (allN pre : Int), .int .u8 (val6 x : Int)] 22)) := ((Below.refl _ _).alloc (Nat.le_refl _) _).alloc (by simp) _
  have o : ∀ {Bx : Nat} {t : TypeId} {v : Value}, Boxed W Bx t v → Bx ≠ E → Bx ≠ E + 1 → Boxed (afterTwo E (allN pre) (val6 x) (x.val : Int) (allN (pre ++ [x])) W) Bx t v :=
    fun hb h0 h1 => (((hb.alloc _).alloc _).other (by omega) _).other (by omega) _
  refine ⟨((keepsOthers_below hb2).trans (KeepsOthers.setCell _ _ _)).trans (KeepsOthers.setCell _ _ _), ?_, hg, o h.ba (by omega) (by omega), o h.bb (by omega) (by omega), o h.br (by omega) (by omega), o h.bk (by omega) (by omega), o h.bm (by omega) (by omega), o h.ie (by omega) (by omega), ?_, ?_, ?_, ?_⟩
  · exact keepsCell_t (keepsCell_t (fun _ hv => (hb2.cell (p := ⟨C + 4, 0, none⟩) (lt_of_cell hv)).trans hv) (keeps_i (by omega))) (keeps_i (by omega))
  · exact (((h.al.alloc _).alloc _).set _).other (by omega) _
  · rw [nextI_snoc]; exact (((h.bi.alloc _).alloc _).other (by omega) _).set _
  · exact (KeepsOthers.setCell _ ⟨E + 1, 0, none⟩ _).same D _ ((KeepsOthers.setCell _ ⟨E, 0, none⟩ _).same D _ ((hb2.block D (Array.getElem?_eq_some_iff.1 h.mark).1).trans h.mark) rfl) rfl
  · exact (((h.below.alloc (by omega) _).alloc (by simp; omega) _).setCell (p := ⟨E, 0, none⟩) (by simp; omega) _).setCell (p := ⟨E + 1, 0, none⟩) (by simp; omega) _
theorem meet_two {pre : List (Fin 6)} {x : Fin 6} (h : GoodE pre) (hx : nextI pre ≤ (x.val : Int)) (V : World) (cap : Nat) :
    Calls Tryd.prog 21 #[.slice (some ⟨V.heap.size, 0, none⟩) 2 cap] (V.alloc (.cells #[.int .u8 (allN pre : Int), .int .u8 (val6 x : Int)] 22)) fun e w' => e = .returned (.int .u8 0) ∧ V.alloc (.cells #[.int .u8 (allN pre : Int), .int .u8 (val6 x : Int)] 22) = w' :=
  (meet_w V.heap.size 0 cap [allN pre, val6 x] _ (lies2' V _ _) (by have := allN_lt pre; have := (val6_facts x).1; simp; omega) (by simp) (by simp)).mono fun _ _ g => ⟨by rw [g.1, show meetN [allN pre, val6 x] = 0 from meet_new h hx]; rfl, g.2⟩
theorem join_two (pre : List (Fin 6)) (x : Fin 6) (V : World) (cap bx : Nat) (hb : bx = V.heap.size) :
    Calls Tryd.prog 23 #[.slice (some ⟨bx, 0, none⟩) 2 cap] (V.alloc (.cells #[.int .u8 (allN pre : Int), .int .u8 (val6 x : Int)] 22)) fun e w' => e = .returned (.int .u8 (allN (pre ++ [x]) : Int)) ∧ V.alloc (.cells #[.int .u8 (allN pre : Int), .int .u8 (val6 x : Int)] 22) = w' := by
  subst hb
  exact (join_w V.heap.size 0 cap [allN pre, val6 x] _ (lies2' V _ _) (by have := allN_lt pre; have := (val6_facts x).1; simp; omega) (by simp) (by simp)).mono fun _ _ g => ⟨by rw [g.1, show joinN [allN pre, val6 x] % 64 = allN (pre ++ [x]) from join_new pre x], g.2⟩

/-- Q, but nothing at a panic: for a region that draws its order in a function that defers. -/
def noPanicQ (Q : Exit → Act → World → Prop) : Exit → Act → World → Prop
  | .panic _, _, _ => False
  | e, a, w => Q e a w
theorem wpIn_noPanic {F : Fence} {n : Nat} {P : Program} {c : Code} {Q : Exit → Act → World → Prop} {a : Act} {w : World} (h : c.wpIn F n P (noPanicQ Q) a w) : c.wpIn F n P Q a w := by
  refine wpIn_mono h ?_
  intro e a w h
  cases e <;> first | exact h | exact (h : False).elim
theorem parts_marks {n : Nat} {B D D2 : Nat} {w W : World} {tmps : Array Value} (h1 : W.heap[D]? = some (.deferred (some []))) (h2 : W.heap[D2]? = some (.deferred (some []))) (hne : D ≠ D2) (hr : Boxed W (B + 2) 4 (.bool true)) (hb : Below B w W) (hD : w.heap.size = B ∧ B ≤ D) (hD2 : B ≤ D2)
    (hs : tmps[4]? = some (.pointer (some ⟨B + 1 + 1, 0, none⟩)) := by rfl) :
    bodyPostM Fence.wide n Tryd.prog Tryd.f8 (fun e W' => e = .returned (.bool true) ∧ Below B w W') Exit.ret { tmps := tmps, defers := [{ target := .collected D2, args := #[] }, { target := .collected D, args := #[] }] } W := by
  have h1' : (W.putObj D2 (.deferred none)).heap[D]? = some (.deferred (some [])) := ((grownBy_putObj' W D2 (.deferred none)).block D (Array.getElem?_eq_some_iff.1 h1).1 (fun e => hne (by cases e; rfl))).trans h1
  refine ⟨by simp, .inl ⟨_, _, rfl, run_takeDeferred h2, ⟨by simp, .inl ⟨_, _, rfl, run_takeDeferred h1', ?_⟩⟩⟩⟩
  have c1 := cell_kept hr.cell (grownBy_putObj' _ D2 (.deferred none)) (fun r e => by cases e; exact ⟨_, h2, rfl⟩)
  have c2 := cell_kept c1 (grownBy_putObj' _ D (.deferred none)) (fun r e => by cases e; exact ⟨_, h1', rfl⟩)
  have hb2 : Below B w (W.putObj D2 (.deferred none)) := hb.trans (belowK_b (w := w) (by omega) W D2 _ _ (by omega) h2 rfl rfl)
  refine ⟨.bool true, ?_, rfl, hb2.trans (belowK_b (w := w) (by omega) _ D _ _ (by omega) h1' rfl rfl)⟩
  simp [results, Tryd.f8, go_sem, hs, c2]

theorem parts_last {a b B C D E c D2 n : Nat} {w V w' : World} {pre : List (Fin 6)} {tmps : Array Value} (h : PartTwo a b B C D E c w pre V) (h2 : V.heap[D2]? = some (.deferred (some []))) (hne : D ≠ D2) (hB : w.heap.size = B) (hD : B ≤ D) (hD2 : B ≤ D2)
    (hb : Below V.drew.heap.size V.drew w') (hr : Boxed w' (B + 2) 4 (.bool false)) (hs : tmps[4]? = some (.pointer (some ⟨B + 1 + 1, 0, none⟩)) := by rfl) :
    bodyPostM Fence.wide n Tryd.prog Tryd.f8 (fun e W' => e = .returned (.bool true) ∧ Below B w W') Exit.ret { tmps := tmps, defers := [{ target := .collected D2, args := #[] }, { target := .collected D, args := #[] }] } (w'.setCell ⟨B + 1 + 1, 0, none⟩ (.bool true)) := by
  have k1 : (w'.setCell ⟨B + 1 + 1, 0, none⟩ (.bool true)).heap[D]? = some (.deferred (some [])) := (KeepsOthers.setCell w' ⟨B + 1 + 1, 0, none⟩ (.bool true)).same D _ ((hb.block D (Array.getElem?_eq_some_iff.1 h.mark).1).trans h.mark) rfl
  have k2 : (w'.setCell ⟨B + 1 + 1, 0, none⟩ (.bool true)).heap[D2]? = some (.deferred (some [])) := (KeepsOthers.setCell w' ⟨B + 1 + 1, 0, none⟩ (.bool true)).same D2 _ ((hb.block D2 (Array.getElem?_eq_some_iff.1 h2).1).trans h2) rfl
  have hV : Below V.heap.size V w' := ((Below.refl V.heap.size V).drew).trans hb
  have hs2 := h.below.size
  exact parts_marks k1 k2 hne (hr.set _) ((h.below.trans (hV.mono (by omega))).setCell (p := ⟨B + 1 + 1, 0, none⟩) (by simp; omega) _) ⟨hB, hD⟩ hD2 hs

set_option maxRecDepth 100000 in
set_option maxHeartbeats 40000000 in
theorem parts_in (n : Nat) (hn : 4 ≤ n) (A B : Int) (a b : Nat) (hA : A % 64 = (a : Int)) (hB : B % 64 = (b : Int)) (ha : a < 64) (hb : b < 64) (bA : 0 ≤ A ∧ A ≤ 255) (bB : 0 ≤ B ∧ B ≤ 255) (w : World) (hN : NamesAt w) :
    CallsIn Fence.wide n Tryd.prog 8 #[.int .u8 A, .int .u8 B] w fun e W' => e = .returned (.bool true) ∧ Below w.heap.size w W' := by
  have h1 : 1 ≤ n := by omega
  have hs0 := hN.size
  have x0 : Boxed (((w.alloc (.cells #[.int .u8 A] 22)).alloc (.cells #[.int .u8 B] 22)).alloc (.cells #[.bool false] 4)) w.heap.size 22 (.int .u8 A) := ((Boxed.new w _ _).alloc _).alloc _
  have x1 : Boxed (((w.alloc (.cells #[.int .u8 A] 22)).alloc (.cells #[.int .u8 B] 22)).alloc (.cells #[.bool false] 4)) (w.heap.size + 1) 22 (.int .u8 B) := by have := Boxed.new (w.alloc (.cells #[.int .u8 A] 22)) 22 (.int .u8 B); simp only [World.size_alloc] at this; exact this.alloc _
  have x2 : Boxed (((w.alloc (.cells #[.int .u8 A] 22)).alloc (.cells #[.int .u8 B] 22)).alloc (.cells #[.bool false] 4)) (w.heap.size + 2) 4 (.bool false) := by have := Boxed.new ((w.alloc (.cells #[.int .u8 A] 22)).alloc (.cells #[.int .u8 B] 22)) 4 (.bool false); simp only [World.size_alloc] at this; exact this
  have hB0 : Below w.heap.size w (((w.alloc (.cells #[.int .u8 A] 22)).alloc (.cells #[.int .u8 B] 22)).alloc (.cells #[.bool false] 4)) := (((Below.refl _ w).alloc (Nat.le_refl _) _).alloc (by simp) _).alloc (by simp <;> omega) _
  have hN0 := hN.below hB0 hs0
  have X0 := Lib.hid x0
  have X1 := Lib.hid x1
  have X2 := Lib.hid x2
  have XB := Lib.hid hB0
  clear x0 x1 x2 hB0
  refine callsIn_of_wp_marks Tryd.func8 rfl trivial ?_ rfl
  simp only [Tryd.ntmps8, List.size_toArray, List.length_cons, List.length_nil, Nat.reduceAdd, Nat.reduceSub, Array.replicate_succ, Array.replicate_zero, List.push_toArray, List.append_toArray, List.nil_append, List.cons_append]
  gi_wp2_with (refine ⟨trivial, ?_⟩; gi_at_call 30; refine (callsIn_wide.2 (lives_w _ hN0)).mono ?_; rintro e w1 ⟨rfl, hb1⟩; have y0 := below_boxed hb1 X0.out; have y1 := below_boxed hb1 X1.out; have y2 := below_boxed hb1 X2.out; have c0 := y0.cell; have c1 := y1.cell; have f0 := y0.frozen; have f1 := y1.frozen)
  gi_region
  obtain ⟨W0, hW0⟩ : ∃ W0, ((w1.setCell ⟨w.heap.size, 0, none⟩ (.int .u8 (a : Int))).setCell ⟨w.heap.size + 1, 0, none⟩ (.int .u8 (b : Int))).drew = W0 := ⟨_, rfl⟩
  have hB1 : Below w.heap.size w w1 := XB.out.trans (hb1.mono (by simp; omega))
  have hB0 : Below w.heap.size w W0 := by rw [← hW0]; exact ((hB1.setCell (p := ⟨w.heap.size, 0, none⟩) (by simp) _).setCell (p := ⟨w.heap.size + 1, 0, none⟩) (by simp) _).drew
  have g0 : Boxed W0 w.heap.size 22 (.int .u8 (a : Int)) := by rw [← hW0]; exact (y0.set _).other (by omega) _
  have g1 : Boxed W0 (w.heap.size + 1) 22 (.int .u8 (b : Int)) := by rw [← hW0]; exact (y1.other (by omega) _).set _
  have g2 : Boxed W0 (w.heap.size + 2) 4 (.bool false) := by rw [← hW0]; exact (y2.other (by omega) _).other (by omega) _
  rw [hW0]
  clear hW0 X0 X1 X2 XB y0 y1 y2 c0 c1 f0 f1 hb1 hB1 hN0
  clear hA hB
  have e0 := g0.cell
  have hN0 := hN.below hB0 hs0
  gi_wp2
  have HP := Lib.hid pw_facts
  have hcnt : countN a ≤ 6 := countN_six ha
  have HC0 := fun W => count_w (a : Int) W (by omega) (by omega)
  rw [show (a : Int).toNat = a from rfl] at HC0
  obtain ⟨c, hc⟩ : ∃ c, countN a = c := ⟨_, rfl⟩
  rw [hc] at hcnt HC0
  have HCount := Lib.hid HC0
  have HC := Lib.hid hc
  have HG := Lib.hid (And.intro g0 (And.intro g1 (And.intro g2 hB0)))
  clear hc HC0 g0 g1 g2 hB0 hN0 bA bB
  gi_loopw [5, 6] (fun nv iv wr => ∃ k : Nat, k ≤ c ∧ iv = .int .i64 (k : Int) ∧ nv = .int .i64 (pw k : Int) ∧ wr = W0) (fun _ iv _ => c - (intOf iv).toNat)
  case atStart => exact ⟨0, Nat.zero_le _, rfl, rfl, rfl⟩
  case round =>
    obtain ⟨k, hk, rfl, rfl, rfl⟩ := hrel
    by_cases hlt : k < c
    · have hpw := HP.out k (by omega)
      have HS := Lib.hid (show pw (k + 1) = 2 * pw k from pw_succ k)
      generalize pw k = p at *
      have hL : decide ((k : Int) < (c : Int)) = true := decide_eq_true (by omega)
      have hL6 : decide ((k : Int) < 6) = true := decide_eq_true (by omega)
      gi_wp2
      refine ⟨trivial, ?_⟩
      refine (callsIn_wide.2 (HCount.out _)).mono ?_
      rintro e w' ⟨rfl, rfl⟩
      clear HCount HG HC HP
      gi_wp2
      exact ⟨⟨k + 1, by omega, by go_num, congrArg (Value.int .i64) (by have := HS.out; omega), trivial⟩, by simp [intOf]; omega⟩
    · obtain rfl : k = c := by omega
      have hL : decide ((k : Int) < (k : Int)) = false := decide_eq_false (by omega)
      have hnil := eql_func_nil
      have hsz := HG.out.2.2.1.lt
      have g0 := HG.out.1
      have u1 := (((g0.alloc (.cells #[.int .i64 0] 3)).alloc (.cells #[.bool false] 4)).alloc (.cells #[.int .i64 (-1)] 3)).cell
      have u2 := ((((g0.alloc (.cells #[.int .i64 0] 3)).alloc (.cells #[.bool false] 4)).alloc (.cells #[.int .i64 (-1)] 3)).alloc (.cells #[.int .u8 (a : Int)] 22)).cell
      clear g0
      gi_wp2
      refine ⟨trivial, ?_⟩
      refine (callsIn_wide.2 (HCount.out _)).mono ?_
      rintro e w' ⟨rfl, rfl⟩
      clear HCount HP
      gi_wp2
      refine ⟨trivial, ?_⟩
      refine (callsIn_wide.2 (within_n a a (Nat.mod_eq_of_lt ha) (by omega) _)).mono ?_
      rintro e w' ⟨rfl, rfl⟩
      gi_wp2
      refine ⟨trivial, ?_⟩
      refine (callsIn_wide.2 (each_w _ _)).mono ?_
      rintro e w' ⟨rfl, rfl⟩
      gi_wp2
      obtain ⟨W1, hW1⟩ : ∃ W1, (((((wr.alloc (.cells #[.int .i64 0] 3)).alloc (.cells #[.bool false] 4)).alloc (.cells #[.int .i64 (-1)] 3)).alloc (.cells #[.int .u8 (a : Int)] 22)).alloc (.cells #[.int .u8 (a : Int)] 22)) = W1 := ⟨_, rfl⟩
      have hR : PartOn a b w.heap.size wr.heap.size w [] W1 := by rw [← hW1]; exact partOn_start HG.out
      have hs1 : W1.heap.size = wr.heap.size + 5 := by rw [← hW1]; simp
      rw [hW1]
      clear hW1 u1 u2 e0
      have HW := Lib.hid hnil
      apply wpIn_rangeFunc_ownF (F := Fence.wide) rfl h1 (gf := 44) (lb := #[.pointer (some ⟨wr.heap.size + 1 + 1 + 1, 0, none⟩)]) rfl trivial (enters_of Tryd.func44 (by kernel_rfl) rfl)
        (within_stops64 (wr.heap.size + 3) a ha (n - 1) (by omega) _ (by omega) hR.it.cell) keepsCell_t (fun W l o o' _ h hc _ => keepsCell_b W l o o' h hc) (Below.refl _ _) (fun _ => rfl)
        (PartOn a b w.heap.size wr.heap.size w) (fun c pre _ => c = .ret ∧ ¬ GoodW a pre)
        (partOn_own rfl (by omega)) (fun c => ownFrom_pure _ _) hR _ ?assign ?body ?done ?stop
      case assign =>
        intro l x W K hK
        gi_wp2
        exact hK
      case body =>
        rintro l pre x W hP hlt
        clear hR hs1 HG HC HW hL
        have hx : val64 x < 64 := x.isLt
        have hd1 : 1 ≤ n - 1 - 1 := by omega
        have hlb := lastI_bound pre
        have e0 := hP.ba.cell
        have e1 := hP.bb.cell
        have e2 := hP.br.cell
        have f2 := hP.br.frozen
        have ek := hP.bk.cell
        have fk := hP.bk.frozen
        have em : W.cell? ⟨wr.heap.size + 1, 0, none⟩ = _ := hP.bm.cell
        have fm : W.frozen? ⟨wr.heap.size + 1, 0, none⟩ = false := hP.bm.frozen
        have el : W.cell? ⟨wr.heap.size + 1 + 1, 0, none⟩ = _ := hP.bl.cell
        have fl : W.frozen? ⟨wr.heap.size + 1 + 1, 0, none⟩ = false := hP.bl.frozen
        have HH := Lib.hid (fun W => has_n a (val64 x) (by omega) (by omega) W)
        by_cases hgood : lastI pre < (val64 x : Int) ∧ hasN a (val64 x) = true
        · have HS := Lib.hid (partOn_step (x := x) hP ((goodW_snoc hP.good).2 hgood))
          have hle : decide ((val64 x : Int) ≤ lastI pre) = false := decide_eq_false (by omega)
          have HH1 := Lib.hid (fun W => (HH.out W).mono fun e w' h => (show e = .returned (.bool true) ∧ W = w' from by rw [← hgood.2]; exact h))
          clear hP hgood HH
          have HM := Lib.hid (show metN b (pre ++ [x]) = (metN b pre || (val64 x == b)) from metN_snoc b pre x)
          generalize metN b (pre ++ [x]) = m' at *
          generalize metN b pre = m at *
          generalize lastI pre = li at *
          generalize val64 x = d at *
          cases m
          · by_cases hdb : d = b
            · subst hdb
              obtain rfl : m' = true := by rw [HM.out]; simp
              gi_wp2
              refine ⟨trivial, ?_⟩
              refine (CallsIn.inRound l (callsIn_wide.2 (HH1.out _))).mono ?_
              rintro e w' ⟨rfl, rfl⟩
              gi_wp2
              exact HS.out
            · obtain rfl : m' = false := by rw [HM.out]; simp [hdb]
              have hq : ((d : Int) == (b : Int)) = false := by rw [beq_eq_false_iff_ne]; omega
              clear hdb
              gi_wp2
              refine ⟨trivial, ?_⟩
              refine (CallsIn.inRound l (callsIn_wide.2 (HH1.out _))).mono ?_
              rintro e w' ⟨rfl, rfl⟩
              gi_wp2
              exact HS.out
          · obtain rfl : m' = true := by rw [HM.out]; rfl
            gi_wp2
            refine ⟨trivial, ?_⟩
            refine (CallsIn.inRound l (callsIn_wide.2 (HH1.out _))).mono ?_
            rintro e w' ⟨rfl, rfl⟩
            gi_wp2
            exact HS.out
        · have Hng := Lib.hid (fun h => hgood ((goodW_snoc (x := x) hP.good).1 h))
          clear hP
          by_cases hl : lastI pre < (val64 x : Int)
          · have hle : decide ((val64 x : Int) ≤ lastI pre) = false := decide_eq_false (by omega)
            have hf : hasN a (val64 x) = false := by cases hh : hasN a (val64 x) with
              | false => rfl
              | true => exact absurd ⟨hl, hh⟩ hgood
            have HH1 := Lib.hid (fun W => (HH.out W).mono fun e w' h => (show e = .returned (.bool false) ∧ W = w' from by rw [← hf]; exact h))
            clear hgood HH hf
            generalize metN b pre = m at *
            generalize lastI pre = li at *
            generalize val64 x = d at *
            gi_wp2
            refine ⟨trivial, ?_⟩
            refine (CallsIn.inRound l (callsIn_wide.2 (HH1.out _))).mono ?_
            rintro e w' ⟨rfl, rfl⟩
            gi_wp2
            exact ⟨KeepsOthers.setCell _ _ _, rfl, Hng.out⟩
          · have hle : decide ((val64 x : Int) ≤ lastI pre) = true := decide_eq_true (by omega)
            clear hgood HH hl
            generalize metN b pre = m at *
            generalize lastI pre = li at *
            generalize val64 x = d at *
            gi_wp2
            refine ⟨trivial, ?_⟩
            gi_wp2
            exact ⟨KeepsOthers.setCell _ _ _, rfl, Hng.out⟩
      case done =>
        rintro D ys W hD hys hP hK
        have hgd := hP.good
        have hkk := hP.bk
        have hmm := hP.bm
        rw [hys, within_len ha, HC.out] at hkk
        rw [hys, met_within ha hb] at hmm
        clear hys
        clear hR HG HW hL
        have HT := Lib.hid hP
        have hsD := (Array.getElem?_eq_some_iff.1 hK).1
        have HK := Lib.hid hK
        have HKM := Lib.hid (And.intro hkk hmm)
        clear hkk hmm hgd hP
        gi_wp2
        obtain ⟨W2, hW2⟩ : ∃ W2, (W.alloc (.cells #[.int .u8 0] 22)).alloc (.cells #[.int .i64 0] 3) = W2 := ⟨_, rfl⟩
        have hR2 : PartTwo a b w.heap.size wr.heap.size D W.heap.size k w [] W2 := by rw [← hW2]; exact partTwo_start HT.out HK.out HKM.out.1 HKM.out.2
        have hs2 : W2.heap.size = W.heap.size + 2 := by rw [← hW2]; simp
        rw [hW2]
        clear hW2 hK
        apply wpIn_rangeFunc_ownF (F := Fence.wide) rfl h1 (gf := 46) (lb := #[.pointer (some ⟨wr.heap.size + 1 + 1 + 1 + 1, 0, none⟩)]) rfl trivial (enters_of Tryd.func46 (by kernel_rfl) rfl)
          (each_stops6 (wr.heap.size + 4) a (by omega) (n - 1) (by omega) _ (by have := HT.out.ie.lt; omega) hR2.ie.cell) keepsCell_t (fun W l o o' _ h hc _ => keepsCell_b W l o o' h hc) (Below.refl _ _) (fun _ => rfl)
          (PartTwo a b w.heap.size wr.heap.size D W.heap.size k w) (fun c pre _ => c = .ret ∧ ¬ GoodE pre)
          (partTwo_own rfl (by have := HT.out.below.size; omega) (by omega)) (fun c => ownFrom_pure _ _) hR2 _ ?assign2 ?body2 ?done2 ?stop2
        case assign2 =>
          intro l x W K hK
          gi_wp2
          exact hK
        case body2 =>
          rintro l pre x V hP hlt
          clear hR2 hs2 HC HK
          have hd1 : 1 ≤ n - 1 - 1 := by omega
          have hCE : wr.heap.size + 4 < W.heap.size := HT.out.ie.lt
          have hnb := nextI_bound pre
          have hal := allN_lt pre
          obtain ⟨hv, hv2, hvp, hvo⟩ := val6_facts x
          have e2 := hP.br.cell
          have f2 := hP.br.frozen
          have ea := hP.al.cell
          have fa := hP.al.frozen
          have ei := hP.bi.cell
          have fi := hP.bi.frozen
          have HPl := Lib.hid (fun V => place_two x V)
          have HOn := Lib.hid (fun V => one_two x V)
          by_cases hgood : nextI pre ≤ (x.val : Int)
          · have HS := Lib.hid (partTwo_step hP ((goodE_snoc hP.good).2 hgood))
            have HM := Lib.hid (fun V => meet_two hP.good hgood V)
            have HJ := Lib.hid (fun V => join_two pre x V)
            have hlt2 : decide ((x.val : Int) < nextI pre) = false := decide_eq_false (by omega)
            have fa2 := ((hP.al.alloc (.cells #[.int .u8 (allN pre : Int), .int .u8 (val6 x : Int)] 22)).alloc (.cells #[.int .u8 (allN pre : Int), .int .u8 (val6 x : Int)] 22)).frozen
            have fi2 := ((hP.bi.alloc (.cells #[.int .u8 (allN pre : Int), .int .u8 (val6 x : Int)] 22)).alloc (.cells #[.int .u8 (allN pre : Int), .int .u8 (val6 x : Int)] 22)).frozen
            have u1 := (hP.al.alloc (.cells #[.int .u8 (allN pre : Int), .int .u8 (val6 x : Int)] 22)).cell
            have u2 := ((hP.al.alloc (.cells #[.int .u8 (allN pre : Int), .int .u8 (val6 x : Int)] 22)).alloc (.cells #[.int .u8 (allN pre : Int), .int .u8 (val6 x : Int)] 22)).cell
            have u3 := ((hP.bi.alloc (.cells #[.int .u8 (allN pre : Int), .int .u8 (val6 x : Int)] 22)).alloc (.cells #[.int .u8 (allN pre : Int), .int .u8 (val6 x : Int)] 22)).cell
            have hVE : W.heap.size + 1 < V.heap.size := hP.bi.lt
            clear hP hgood HT HKM
            unfold afterTwo at HS
            have HO := Lib.hid (And.intro ea (And.intro ei hCE))
            generalize allN (pre ++ [x]) = all' at *
            generalize allN pre = al at *
            generalize nextI pre = ni at *
            generalize val6 x = d at *
            generalize x.val = p at *
            gi_wp2
            refine ⟨trivial, ?_⟩
            refine (CallsIn.inRound l (callsIn_wide.2 (HPl.out _))).mono ?_
            rintro e w' ⟨rfl, rfl⟩
            gi_wp2
            refine ⟨trivial, ?_⟩
            refine (CallsIn.inRound l (callsIn_wide.2 (HOn.out _))).mono ?_
            rintro e w' ⟨rfl, rfl⟩
            gi_wp2
            refine ⟨trivial, ?_⟩
            refine (CallsIn.inRound l (callsIn_wide.2 (HM.out _ _))).mono ?_
            rintro e w' ⟨rfl, rfl⟩
            gi_wp2
            refine ⟨trivial, ?_⟩
            refine (CallsIn.inRound l (callsIn_wide.2 (HJ.out (V.alloc (.cells #[.int .u8 (al : Int), .int .u8 (d : Int)] 22)) _ _ (by rw [World.size_alloc])))).mono ?_
            rintro e w' ⟨rfl, rfl⟩
            gi_wp2
            exact HS.out
          · have Hng := Lib.hid (fun h => hgood ((goodE_snoc (x := x) hP.good).1 h))
            have hlt2 : decide ((x.val : Int) < nextI pre) = true := decide_eq_true (by omega)
            clear hP hgood HT HKM
            generalize allN pre = al at *
            generalize nextI pre = ni at *
            generalize val6 x = d at *
            generalize x.val = p at *
            gi_wp2
            refine ⟨trivial, ?_⟩
            refine (CallsIn.inRound l (callsIn_wide.2 (HPl.out _))).mono ?_
            rintro e w' ⟨rfl, rfl⟩
            gi_wp2
            refine ⟨trivial, ?_⟩
            refine (CallsIn.inRound l (callsIn_wide.2 (HOn.out _))).mono ?_
            rintro e w' ⟨rfl, rfl⟩
            gi_wp2
            refine ⟨trivial, ?_⟩
            gi_wp2
            exact ⟨KeepsOthers.setCell _ _ _, rfl, Hng.out⟩
        case done2 =>
          rintro D2 ys V hD2 hys hP hK2
          have hcal := hP.al
          rw [hys, each_all ha] at hcal
          clear hys hR2 HC HKM HK
          have hNV := hN.below hP.below hs0
          have hDV := (Array.getElem?_eq_some_iff.1 hP.mark).1
          have hWV : W.heap.size + 1 < V.heap.size := hP.bi.lt
          have hw0 := HT.out.below.size
          have hDW := hsD
          have hne : D ≠ D2 := by omega
          have hBD : w.heap.size ≤ D := by omega
          have hBD2 : w.heap.size ≤ D2 := by omega
          clear hs2 hs1
          have hmx : Tryd.prog.follows .mixedOrders = true := by kernel_rfl
          have HL := lives_w V.drew (fun j => hNV j)
          have HH := has_n a b (by omega) (by omega) V.drew
          have c2d : Boxed V.drew (w.heap.size + 2) 4 (.bool false) := hP.br
          have ea := hP.ba.cell
          have eb := hP.bb.cell
          have ek := hP.bk.cell
          have em : V.cell? ⟨wr.heap.size + 1, 0, none⟩ = _ := hP.bm.cell
          have eal := hcal.cell
          have HP := Lib.hid hP
          have HHH := Lib.hid HH
          have HLL := Lib.hid HL
          have HK2 := Lib.hid hK2
          have hqq := beq_self_eq_true (hasN a b)
          clear hP hK2 HL HH hcal
          generalize hasN a b = h at *
          gi_wp2
          refine wpIn_noPanic ?_
          gi_region_with_o (first | (refine ⟨trivial, ?_⟩; gi_at_call 28; refine (callsIn_wide.2 HHH.out).mono ?_; rintro e w' ⟨rfl, rfl⟩) | (refine ⟨trivial, ?_⟩; gi_at_call 30; refine (callsIn_wide.2 HLL.out).mono ?_; rintro e w' ⟨rfl, hbl⟩; have d2 := below_boxed hbl c2d; have g2 := d2.cell; have q2 := d2.frozen))
          all_goals simp only [noPanicQ]
          all_goals gi_wp2
          all_goals exact parts_last HP.out HK2.out hne rfl hBD hBD2 hbl d2
        case stop2 =>
          rintro D2 c pre V hD2 hp ⟨_, hno⟩ _
          exact absurd (goodE_prefix hp (goodE_each ha)) hno
      case stop =>
        rintro D c pre W hD hp ⟨_, hno⟩ _
        exact absurd (goodW_prefix hp (goodW_within ha)) hno
end Go.Proofs.YtohhobmjebdfaaaDoor
