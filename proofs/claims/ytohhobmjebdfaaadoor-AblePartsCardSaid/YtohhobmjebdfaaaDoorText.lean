/-
  able.text, able.Text: the text of a set, out of the names of its abilities.
-/
import Derived.Test.YtohhobmjebdfaaaDoorWithin
namespace Go.Proofs.YtohhobmjebdfaaaDoor
open Go.RowKit Go.Shelf
attribute [local go_sem] Oper.semAt_some

theorem cell_of_box_l {W : World} {B : Nat} {v : Value} {t : TypeId} (h : W.heap[B]? = some (.cells #[v] t (0, 0))) : W.cell? ⟨B, 0, none⟩ = some v ∧ W.frozen? ⟨B, 0, none⟩ = false := by
  constructor <;> simp [World.cell?, World.frozen?, h]
theorem cell_new_l (W : World) (v : Value) (t : TypeId) : (W.alloc (.cells #[v] t)).cell? ⟨W.heap.size, 0, none⟩ = some v ∧ (W.alloc (.cells #[v] t)).frozen? ⟨W.heap.size, 0, none⟩ = false :=
  cell_of_box_l (World.alloc_heap_new W _)
theorem cell_alloc_l {W : World} {a : Addr} {v : Value} (o : Obj) (h : W.cell? a = some v) : (W.alloc o).cell? a = some v := cell_kept h (World.grownBy_alloc W o none) (fun r e => by cases e)
theorem frozen_alloc_l {W : World} {a : Addr} {v : Value} (o : Obj) (h : W.cell? a = some v) (hf : W.frozen? a = false) : (W.alloc o).frozen? a = false := (frozen_kept h (World.grownBy_alloc W o none) (fun r e => by cases e)).trans hf

/-- The names of the six, in their order. -/
def nameB : Fin 6 → ByteArray
  | 0 => ⟨#[103, 101, 116]⟩
  | 1 => ⟨#[112, 117, 116]⟩
  | 2 => ⟨#[116, 97, 107, 101]⟩
  | 3 => ⟨#[103, 105, 118, 101]⟩
  | 4 => ⟨#[97, 115, 107]⟩
  | 5 => ⟨#[99, 117, 116]⟩
/-- The variable able.names holds them. -/
def NamesAt (w : World) : Prop := ∀ j : Fin 6, w.cell? ⟨0, j.val, none⟩ = some (.string (nameB j))
theorem NamesAt.below {n₀ : Nat} {w w' : World} (h : NamesAt w) (hb : Below n₀ w w') (h0 : 0 < n₀) : NamesAt w' := fun j => (hb.cell (p := ⟨0, j.val, none⟩) h0).trans (h j)
theorem NamesAt.size {w : World} (h : NamesAt w) : 0 < w.heap.size := by
  have := h 0
  rcases Nat.eq_zero_or_pos w.heap.size with h0 | h0
  · simp [World.cell?, Array.getElem?_eq_none (show w.heap.size ≤ 0 by omega)] at this
  · exact h0

def joinB (s : ByteArray) (j : Fin 6) : ByteArray := (if s.data.toList.isEmpty then s else s ++ ⟨#[43]⟩) ++ nameB j
def namesTo (l : List (Fin 6)) : ByteArray := l.foldl joinB ⟨#[]⟩
theorem namesTo_snoc (l : List (Fin 6)) (j : Fin 6) : namesTo (l ++ [j]) = joinB (namesTo l) j := by simp [namesTo]
theorem nameB_size (j : Fin 6) : (nameB j).size ≤ 4 := by revert j; decide
theorem namesTo_size (l : List (Fin 6)) : (namesTo l).size ≤ 5 * l.length := by
  have : ∀ (l : List (Fin 6)) (s : ByteArray), (l.foldl joinB s).size ≤ s.size + 5 * l.length := by
    intro l
    induction l with
    | nil => intro s; simp
    | cons j l ih =>
      intro s
      have h1 := ih (joinB s j)
      have h2 := nameB_size j
      have h3 : (joinB s j).size ≤ s.size + 5 := by
        unfold joinB
        have hp : (ByteArray.mk #[43]).size = 1 := rfl
        split
        · rw [ByteArray.size_append]; omega
        · rw [ByteArray.size_append, ByteArray.size_append, hp]; omega
      simp only [List.foldl_cons, List.length_cons]
      omega
  have := this l ⟨#[]⟩
  have h0 : (ByteArray.mk #[]).size = 0 := rfl
  unfold namesTo
  omega
def textB (a : Nat) : ByteArray := if a = 0 then ⟨#[45]⟩ else namesTo (eachL a)

theorem zeros_c (k v : Int) (w : World) (h0 : 0 ≤ k) (h1 : k ≤ 255) (h : ((Lib.trailingZeros8 k.toNat : Nat) : Int) = v) :
    Calls Tryd.prog 38 #[.int .u8 k] w fun e w' => e = .returned (.int .i64 v) ∧ w = w' :=
  (zeros_w k w h0 h1).mono fun _ _ ⟨a, b⟩ => ⟨by rw [a, h], b⟩

/-- How a round of text ends: its box written once, or twice. -/
theorem text_once {w W : World} {t : TypeId} {v : Value} {s s' : ByteArray} (hbx : Boxed W w.heap.size t v) (hB : Below w.heap.size w W) (hs : s = s') :
    KeepsOthers W (W.setCell ⟨w.heap.size, 0, none⟩ (.string s')).drew ∧ KeepsCell (w.heap.size + 1) W (W.setCell ⟨w.heap.size, 0, none⟩ (.string s')).drew ∧
      (Boxed (W.setCell ⟨w.heap.size, 0, none⟩ (.string s')).drew w.heap.size t (.string s) ∧ Below w.heap.size w (W.setCell ⟨w.heap.size, 0, none⟩ (.string s')).drew) :=
  ⟨(KeepsOthers.setCell _ _ _).trans (KeepsOthers.drew _), fun _ hv => (World.cell?_setCell_other _ ⟨w.heap.size, 0, none⟩ ⟨w.heap.size + 1, 0, none⟩ _ (by simp)).trans hv, by rw [hs]; exact hbx.set _, (hB.setCell (p := ⟨w.heap.size, 0, none⟩) (Nat.le_refl _) _).drew⟩
theorem text_twice {w W : World} {t : TypeId} {v u : Value} {s s' : ByteArray} (hbx : Boxed W w.heap.size t v) (hB : Below w.heap.size w W) (hs : s = s') :
    KeepsOthers W ((W.setCell ⟨w.heap.size, 0, none⟩ u).setCell ⟨w.heap.size, 0, none⟩ (.string s')).drew ∧ KeepsCell (w.heap.size + 1) W ((W.setCell ⟨w.heap.size, 0, none⟩ u).setCell ⟨w.heap.size, 0, none⟩ (.string s')).drew ∧
      (Boxed ((W.setCell ⟨w.heap.size, 0, none⟩ u).setCell ⟨w.heap.size, 0, none⟩ (.string s')).drew w.heap.size t (.string s) ∧ Below w.heap.size w ((W.setCell ⟨w.heap.size, 0, none⟩ u).setCell ⟨w.heap.size, 0, none⟩ (.string s')).drew) :=
  ⟨((KeepsOthers.setCell _ _ _).trans (KeepsOthers.setCell _ _ _)).trans (KeepsOthers.drew _), fun _ hv => (World.cell?_setCell_other _ ⟨w.heap.size, 0, none⟩ ⟨w.heap.size + 1, 0, none⟩ _ (by simp)).trans ((World.cell?_setCell_other _ ⟨w.heap.size, 0, none⟩ ⟨w.heap.size + 1, 0, none⟩ _ (by simp)).trans hv), by rw [hs]; exact (hbx.set u).set _,
    ((hB.setCell (p := ⟨w.heap.size, 0, none⟩) (Nat.le_refl _) _).setCell (p := ⟨w.heap.size, 0, none⟩) (Nat.le_refl _) _).drew⟩

set_option maxRecDepth 100000 in
set_option maxHeartbeats 4000000 in
theorem text_in (n : Nat) (hn : 4 ≤ n) (a : Int) (w : World) (ha0 : 1 ≤ a) (ha1 : a ≤ 63) (hN : NamesAt w) :
    CallsIn Fence.wide n Tryd.prog 40 #[.int .u8 a] w fun e W' => e = .returned (.string (textB a.toNat)) ∧ Below w.heap.size w W' := by
  have h1 : 1 ≤ n := by omega
  have hs0 := hN.size
  refine callsIn_of_wp_marks Tryd.func40 rfl trivial ?_ rfl
  simp only [Tryd.ntmps40, List.size_toArray, List.length_cons, List.length_nil, Nat.reduceAdd, Nat.reduceSub, Array.replicate_succ, Array.replicate_zero, List.push_toArray, List.append_toArray, List.nil_append, List.cons_append]
  gi_wp2_with (refine ⟨trivial, ?_⟩; gi_at_call 37; refine (callsIn_wide.2 (each_w _ _)).mono ?_; rintro e w' ⟨rfl, rfl⟩)
  have hB0 : Below w.heap.size w ((w.alloc (.cells #[.string ⟨#[]⟩] 9)).alloc (.cells #[.int .u8 a] 22)) := ((Below.refl _ w).alloc (Nat.le_refl _) _).alloc (by simp) _
  obtain ⟨m, rfl⟩ := Int.eq_ofNat_of_zero_le (show 0 ≤ a by omega)
  have hb := cell_new_l (w.alloc (.cells #[.string ⟨#[]⟩] 9)) (.int .u8 (m : Int)) 22
  rw [World.size_alloc] at hb
  refine wpIn_rangeFunc_ownF (F := Fence.wide) rfl h1 (gf := 46) (lb := #[.pointer (some ⟨w.heap.size + 1, 0, none⟩)]) rfl trivial (enters_of Tryd.func46 (by kernel_rfl) rfl)
    (each_stops Fence.wide (n - 1) trivial rfl (by omega) (w.heap.size + 1) m (by omega) _ (by simp) hb.1) keepsCell_t (fun W l o o' _ h hc _ => keepsCell_b W l o o' h hc) (Below.refl _ _) (fun _ => rfl)
    (fun pre W => Boxed W w.heap.size 9 (.string (namesTo pre)) ∧ Below w.heap.size w W)
    (fun _ _ _ => False)
    (OwnFrom.and (Own.from (boxed_own _ _ _) _) (ownFrom_below (Nat.le_refl _) (by simp; omega)))
    (fun _ _ _ _ _ hs _ _ => hs)
    ⟨(Boxed.new w _ _).alloc _, hB0⟩
    (fun x => { tmps := #[.int .u8 (m : Int), undef, .string ⟨#[]⟩, .pointer (some ⟨w.heap.size, 0, none⟩), .int .u8 ((2 ^ x.val : Nat) : Int), .int .u8 (m : Int), .bool false, .int .u8 (m : Int), .func (.func 46) #[] #[.pointer (some ⟨w.heap.size + 1, 0, none⟩)], .int .u8 ((2 ^ x.val : Nat) : Int), undef, undef, undef, undef, undef, undef, undef, undef, undef, undef, undef], defers := [] }) ?assign ?body ?done ?stop
  case assign =>
    intro l x W K hK
    gi_wp2
    exact hK
  case body =>
    rintro l pre x W ⟨hbx, hB⟩ _
    have hc := hbx.cell
    have hf := hbx.frozen
    have hNx := (hN.below hB hs0) x
    have hsn := Lib.hid (namesTo_snoc pre x)
    have hsz : (namesTo pre).size ≤ 30 := by have := namesTo_size pre; omega
    have hd : 1 ≤ n - 1 - 1 := by omega
    have hmx : Tryd.prog.follows .mixedOrders = true := by kernel_rfl
    generalize namesTo pre = s at *
    by_cases he : s.data.toList.isEmpty = true
    · have hj : Hid (joinB s x = s ++ nameB x) := Lib.hid (by simp only [joinB, he, if_true])
      have he' : s.toList.isEmpty = true := by rw [Lib.toList_data]; exact he
      clear he
      obtain ⟨x, hx⟩ := x
      obtain rfl | rfl | rfl | rfl | rfl | rfl : x = 0 ∨ x = 1 ∨ x = 2 ∨ x = 3 ∨ x = 4 ∨ x = 5 := by omega
      · simp [nameB] at hNx
        gi_wp2
        gi_region_with_o (refine ⟨trivial, ?_⟩; gi_at_call 38; refine (CallsIn.inRound l (callsIn_wide.2 (zeros_c 1 0 _ (by decide) (by decide) (by decide)))).mono ?_; rintro e w' ⟨rfl, rfl⟩)
        all_goals gi_wp2
        all_goals (try go_bits)
        all_goals exact text_once hbx hB (hsn.out.trans hj.out)
      · simp [nameB] at hNx
        gi_wp2
        gi_region_with_o (refine ⟨trivial, ?_⟩; gi_at_call 38; refine (CallsIn.inRound l (callsIn_wide.2 (zeros_c 2 1 _ (by decide) (by decide) (by decide)))).mono ?_; rintro e w' ⟨rfl, rfl⟩)
        all_goals gi_wp2
        all_goals (try go_bits)
        all_goals exact text_once hbx hB (hsn.out.trans hj.out)
      · simp [nameB] at hNx
        gi_wp2
        gi_region_with_o (refine ⟨trivial, ?_⟩; gi_at_call 38; refine (CallsIn.inRound l (callsIn_wide.2 (zeros_c 4 2 _ (by decide) (by decide) (by decide)))).mono ?_; rintro e w' ⟨rfl, rfl⟩)
        all_goals gi_wp2
        all_goals (try go_bits)
        all_goals exact text_once hbx hB (hsn.out.trans hj.out)
      · simp [nameB] at hNx
        gi_wp2
        gi_region_with_o (refine ⟨trivial, ?_⟩; gi_at_call 38; refine (CallsIn.inRound l (callsIn_wide.2 (zeros_c 8 3 _ (by decide) (by decide) (by decide)))).mono ?_; rintro e w' ⟨rfl, rfl⟩)
        all_goals gi_wp2
        all_goals (try go_bits)
        all_goals exact text_once hbx hB (hsn.out.trans hj.out)
      · simp [nameB] at hNx
        gi_wp2
        gi_region_with_o (refine ⟨trivial, ?_⟩; gi_at_call 38; refine (CallsIn.inRound l (callsIn_wide.2 (zeros_c 16 4 _ (by decide) (by decide) (by decide)))).mono ?_; rintro e w' ⟨rfl, rfl⟩)
        all_goals gi_wp2
        all_goals (try go_bits)
        all_goals exact text_once hbx hB (hsn.out.trans hj.out)
      · simp [nameB] at hNx
        gi_wp2
        gi_region_with_o (refine ⟨trivial, ?_⟩; gi_at_call 38; refine (CallsIn.inRound l (callsIn_wide.2 (zeros_c 32 5 _ (by decide) (by decide) (by decide)))).mono ?_; rintro e w' ⟨rfl, rfl⟩)
        all_goals gi_wp2
        all_goals (try go_bits)
        all_goals exact text_once hbx hB (hsn.out.trans hj.out)
    · have hj : Hid (joinB s x = s ++ ⟨#[43]⟩ ++ nameB x) := Lib.hid (by simp only [joinB, he, if_false, Bool.false_eq_true])
      have he' : s.toList.isEmpty = false := by rw [Lib.toList_data]; simpa using he
      clear he
      obtain ⟨x, hx⟩ := x
      obtain rfl | rfl | rfl | rfl | rfl | rfl : x = 0 ∨ x = 1 ∨ x = 2 ∨ x = 3 ∨ x = 4 ∨ x = 5 := by omega
      · simp [nameB] at hNx
        gi_wp2
        gi_region_with_o (refine ⟨trivial, ?_⟩; gi_at_call 38; refine (CallsIn.inRound l (callsIn_wide.2 (zeros_c 1 0 _ (by decide) (by decide) (by decide)))).mono ?_; rintro e w' ⟨rfl, rfl⟩)
        all_goals gi_wp2
        all_goals (try go_bits)
        all_goals exact text_twice hbx hB (hsn.out.trans hj.out)
      · simp [nameB] at hNx
        gi_wp2
        gi_region_with_o (refine ⟨trivial, ?_⟩; gi_at_call 38; refine (CallsIn.inRound l (callsIn_wide.2 (zeros_c 2 1 _ (by decide) (by decide) (by decide)))).mono ?_; rintro e w' ⟨rfl, rfl⟩)
        all_goals gi_wp2
        all_goals (try go_bits)
        all_goals exact text_twice hbx hB (hsn.out.trans hj.out)
      · simp [nameB] at hNx
        gi_wp2
        gi_region_with_o (refine ⟨trivial, ?_⟩; gi_at_call 38; refine (CallsIn.inRound l (callsIn_wide.2 (zeros_c 4 2 _ (by decide) (by decide) (by decide)))).mono ?_; rintro e w' ⟨rfl, rfl⟩)
        all_goals gi_wp2
        all_goals (try go_bits)
        all_goals exact text_twice hbx hB (hsn.out.trans hj.out)
      · simp [nameB] at hNx
        gi_wp2
        gi_region_with_o (refine ⟨trivial, ?_⟩; gi_at_call 38; refine (CallsIn.inRound l (callsIn_wide.2 (zeros_c 8 3 _ (by decide) (by decide) (by decide)))).mono ?_; rintro e w' ⟨rfl, rfl⟩)
        all_goals gi_wp2
        all_goals (try go_bits)
        all_goals exact text_twice hbx hB (hsn.out.trans hj.out)
      · simp [nameB] at hNx
        gi_wp2
        gi_region_with_o (refine ⟨trivial, ?_⟩; gi_at_call 38; refine (CallsIn.inRound l (callsIn_wide.2 (zeros_c 16 4 _ (by decide) (by decide) (by decide)))).mono ?_; rintro e w' ⟨rfl, rfl⟩)
        all_goals gi_wp2
        all_goals (try go_bits)
        all_goals exact text_twice hbx hB (hsn.out.trans hj.out)
      · simp [nameB] at hNx
        gi_wp2
        gi_region_with_o (refine ⟨trivial, ?_⟩; gi_at_call 38; refine (CallsIn.inRound l (callsIn_wide.2 (zeros_c 32 5 _ (by decide) (by decide) (by decide)))).mono ?_; rintro e w' ⟨rfl, rfl⟩)
        all_goals gi_wp2
        all_goals (try go_bits)
        all_goals exact text_twice hbx hB (hsn.out.trans hj.out)
  case done =>
    rintro D ys W hD rfl ⟨hbx, hB⟩ hK
    have hc := hbx.cell
    gi_wp2
    refine ⟨by simp, .inl ⟨_, _, rfl, run_takeDeferred hK, ?_⟩⟩
    exact ⟨_, results_tmp rfl _ _ _, by simp [textB]; omega, hB.trans (belowK_b (w := w) (Nat.le_refl _) W D _ _ (by simp at hD; omega) hK rfl rfl)⟩
  case stop =>
    rintro D c pre W _ _ h _
    exact h.elim
end Go.Proofs.YtohhobmjebdfaaaDoor
