/-
  ValueLooks: what its walk keeps.
-/
import Derived.Deep.RegionHeld3
import Derived.Test.YtckgmdlacaiacaaAwk
import Derived.Test.YtckgmdlacaiacaaKept
import Derived.Test.YtckgmdlacaiacaaRDeep
import Derived.Test.YtckgmdlacaiacaaRRefs
namespace Go.Proofs.Ytckgmdlacaiacaa
open Go.RowKit Go.Shelf
attribute [local go_sem] Oper.semAt_some

namespace VT
theorem hgt_deep : ∀ t : VT, t.good = true → t.hgt ≤ t.deep + 1 := by
  refine VT.ind fun k n s r l ih hg => ?_
  obtain ⟨hp, hl⟩ := good_text hg
  have key : ∀ (l' : List VT), (∀ t ∈ l', t ∈ l) → hgtL l' ≤ deepL l' + 1 := by
    intro l'
    induction l' with
    | nil => intro _; exact Nat.zero_le _
    | cons t ts iht =>
      intro hm
      have h1 := ih t (hm t List.mem_cons_self) (goodL_mem hl t (hm t List.mem_cons_self))
      have h2 := iht (fun u hu => hm u (List.mem_cons_of_mem _ hu))
      show max (hgt t) (hgtL ts) ≤ max (deep t) (deepL ts) + 1
      omega
  have h := key l (fun _ h => h)
  have e1 : hgt (.mk k n s r l) = 1 + hgtL l := rfl
  have e2 : deep (.mk k n s r l) = if k = 3 then 1 + deepL l else 0 := rfl
  rw [e1, e2]
  by_cases hk : k = 3
  · rw [if_pos hk]; omega
  · obtain rfl := partsL_zero hp hk
    have e3 : hgtL [] = 0 := rfl
    rw [if_neg hk, e3]
    omega
theorem may_sm {t : VT} (h : t.may = true) : t.sm 1200 41 = true := by
  have h1 := may_good h
  have h2 := hgt_deep t h1.1
  have h3 : t.deep ≤ 16 := by
    unfold VT.may VT.ok at h
    simp only [Bool.and_eq_true, decide_eq_true_eq] at h
    exact h.2
  unfold sm
  simp only [Bool.and_eq_true, decide_eq_true_eq]
  exact ⟨by omega, by omega⟩
theorem sm_parts {t : VT} {L N : Nat} (h : t.sm L N = true) : t.parts ≤ L := by
  unfold sm at h
  simp only [Bool.and_eq_true, decide_eq_true_eq] at h
  exact h.1
end VT
/-- A value in a box of five cells, which lies somewhere. -/
structure BoxT (p : Nat → Prop) (m : Bool) (B : Nat) (t : VT) (A : Option Addr) (cap : Nat) (W : World) : Prop where
  box : Five W B (.int .u8 (t.k : Int)) (.int .i64 t.n) (.string t.s) (.slice A t.l.length cap) (.int .i64 t.r)
  lies : Lies W p m t (.agg #[.int .u8 (t.k : Int), .int .i64 t.n, .string t.s, .slice A t.l.length cap, .int .i64 t.r])
  low : ∀ b, p b → b < B
namespace BoxT
variable {p : Nat → Prop} {m : Bool} {B : Nat} {t : VT} {A : Option Addr} {cap : Nat} {W W' : World}
theorem step (h : BoxT p m B t A cap W) (hb : Below W.heap.size W W') : BoxT p m B t A cap W' :=
  ⟨h.box.below hb h.box.lt, h.lies.below hb (fun _ hb => Nat.lt_trans (h.low _ hb) h.box.lt), h.low⟩
theorem alloc (h : BoxT p m B t A cap W) (o : Obj) : BoxT p m B t A cap (W.alloc o) := h.step ((Below.refl _ W).alloc (Nat.le_refl _) o)
theorem small (h : BoxT p m B t A cap W) : ∀ b, p b → b < W.heap.size := fun _ hb => Nat.lt_trans (h.low _ hb) h.box.lt
theorem chg {F : List Nat} (h : BoxT p m B t A cap W) (hc : Chg F W W') (hF : ∀ g ∈ F, B < g) : BoxT p m B t A cap W' :=
  ⟨h.box.chg hc (fun hm => Nat.lt_irrefl _ (hF _ hm)), h.lies.chg hc (fun b hb => ⟨h.small b hb, fun hm => by have := hF _ hm; have := h.low b hb; omega⟩), h.low⟩
theorem drew (h : BoxT p m B t A cap W) : BoxT p m B t A cap W.drew := ⟨h.box.drew, Lies.same (W := W) (W' := W.drew) (fun _ h => h) (fun _ _ => rfl) _ _ h.lies, h.low⟩
end BoxT
theorem BoxT.new {p : Nat → Prop} {m : Bool} {t : VT} {A : Option Addr} {cap : Nat} (W : World) (h : Lies W p m t (.agg #[.int .u8 (t.k : Int), .int .i64 t.n, .string t.s, .slice A t.l.length cap, .int .i64 t.r])) (hp : ∀ b, p b → b < W.heap.size) :
    BoxT p m W.heap.size t A cap (W.alloc (.cells #[.int .u8 (t.k : Int), .int .i64 t.n, .string t.s, .slice A t.l.length cap, .int .i64 t.r] 26)) :=
  ⟨Five.new W _ _ _ _ _, h.below ((Below.refl W.heap.size W).alloc (Nat.le_refl _) _) hp, hp⟩

/-- The value, and the copy that is lent. -/
structure Lk2 (w : World) (t : VT) (pp : Nat → Prop) (m : Bool) (A : Option Addr) (cap : Nat) (p3 : Nat → Prop) (B3 : Nat) (A3 : Option Addr) (cap3 : Nat) (W : World) : Prop where
  one : BoxT pp m w.heap.size t A cap W
  two : BoxT p3 true B3 t A3 cap3 W
  below : Below w.heap.size w W
  lt : w.heap.size < B3
namespace Lk2
variable {w : World} {t : VT} {pp : Nat → Prop} {m : Bool} {A : Option Addr} {cap : Nat} {p3 : Nat → Prop} {B3 : Nat} {A3 : Option Addr} {cap3 : Nat} {W W' : World}
theorem step (h : Lk2 w t pp m A cap p3 B3 A3 cap3 W) (hb : Below W.heap.size W W') : Lk2 w t pp m A cap p3 B3 A3 cap3 W' :=
  ⟨h.one.step hb, h.two.step hb, h.below.trans (hb.mono h.below.size), h.lt⟩
theorem alloc (h : Lk2 w t pp m A cap p3 B3 A3 cap3 W) (o : Obj) : Lk2 w t pp m A cap p3 B3 A3 cap3 (W.alloc o) := h.step ((Below.refl _ W).alloc (Nat.le_refl _) o)
theorem bLt (h : Lk2 w t pp m A cap p3 B3 A3 cap3 W) : B3 < W.heap.size := h.two.box.lt
end Lk2
/-- The first answer, in memory of its own. -/
structure LkA (t : VT) (B5 : Nat) (A5 : Option Addr) (cap5 : Nat) (F : List Nat) (B3 : Nat) (W : World) : Prop where
  box : Five W B5 (.int .u8 (t.k : Int)) (.int .i64 t.n) (.string t.s) (.slice A5 t.l.length cap5) (.int .i64 t.r)
  own : Own W t (.agg #[.int .u8 (t.k : Int), .int .i64 t.n, .string t.s, .slice A5 t.l.length cap5, .int .i64 t.r]) F
  nodup : F.Nodup
  mem : ∀ g ∈ F, B3 < g ∧ g < B5
namespace LkA
variable {t : VT} {B5 : Nat} {A5 : Option Addr} {cap5 : Nat} {F : List Nat} {B3 : Nat} {W W' : World}
theorem small (h : LkA t B5 A5 cap5 F B3 W) : ∀ g ∈ F, g < W.heap.size := fun g hg => Nat.lt_trans (h.mem g hg).2 h.box.lt
theorem step (h : LkA t B5 A5 cap5 F B3 W) (hb : Below W.heap.size W W') : LkA t B5 A5 cap5 F B3 W' :=
  ⟨h.box.below hb h.box.lt, h.own.below hb h.small, h.nodup, h.mem⟩
theorem alloc (h : LkA t B5 A5 cap5 F B3 W) (o : Obj) : LkA t B5 A5 cap5 F B3 (W.alloc o) := h.step ((Below.refl _ W).alloc (Nat.le_refl _) o)
end LkA
theorem LkA.new {w W : World} {t : VT} {A5 : Option Addr} {cap5 B3 : Nat} (h : Fresh w W t (.agg #[.int .u8 (t.k : Int), .int .i64 t.n, .string t.s, .slice A5 t.l.length cap5, .int .i64 t.r])) (hB : B3 < w.heap.size) :
    ∃ F, LkA t W.heap.size A5 cap5 F B3 (W.alloc (.cells #[.int .u8 (t.k : Int), .int .i64 t.n, .string t.s, .slice A5 t.l.length cap5, .int .i64 t.r] 26)) := by
  obtain ⟨F, h1, h2, h3⟩ := h
  exact ⟨F, Five.new W _ _ _ _ _, h1.below ((Below.refl W.heap.size W).alloc (Nat.le_refl _) _) (fun g hg => (h3 g hg).2), h2, fun g hg => ⟨by have := (h3 g hg).1; omega, (h3 g hg).2⟩⟩
theorem Fresh.from {w W : World} {t : VT} {v : Value} (h : Fresh w W t v) : Lies W (fun b => w.heap.size ≤ b ∧ b < W.heap.size) false t v := by
  obtain ⟨F, h1, _, h3⟩ := h
  exact Lies.same (fun b hb => h3 b hb) (fun _ _ => rfl) t v (Own.lies _ _ _ h1)
theorem owns_slice {w : World} {base : Nat} {e : TypeId} {size : Nat} {v : Value} {n : Nat} {xs : List Value} (h : w.ownsRow base e size v n xs) : ∃ A cap, v = .slice A n cap := by
  rcases h.2 with ⟨h0, h1⟩ | ⟨g, cap, cur, hv, _⟩
  · exact ⟨none, 0, by rw [h0, h1]⟩
  · exact ⟨_, _, hv⟩

/-- A row of references in a block between two marks. -/
structure RowF (lo hi : Nat) (A : Option Addr) (n : Nat) (f : Nat → Int) (W : World) : Prop where
  get : 0 < n → ∃ g c, A = some ⟨g, 0, none⟩ ∧ lo ≤ g ∧ g < hi ∧ W.heap[g]? = some (.cells c 24 (0, 0)) ∧ ∀ j, j < n → c[j]? = some (.int .i64 (f j))
namespace RowF
variable {lo hi : Nat} {A : Option Addr} {n : Nat} {f : Nat → Int} {W W' : World}
theorem same (h : RowF lo hi A n f W) (hb : ∀ g, lo ≤ g → g < hi → W'.heap[g]? = W.heap[g]?) : RowF lo hi A n f W' := ⟨fun hn => by
  obtain ⟨g, c, h1, h2, h3, h4, h5⟩ := h.get hn
  exact ⟨g, c, h1, h2, h3, (hb g h2 h3).trans h4, h5⟩⟩
theorem step {k : Nat} (h : RowF lo hi A n f W) (hb : Below k W W') (hk : hi ≤ k) : RowF lo hi A n f W' := h.same (fun g _ h2 => hb.block g (by omega))
theorem chg {F : List Nat} (h : RowF lo hi A n f W) (hc : Chg F W W') (hF : ∀ g ∈ F, g < lo) (hh : hi ≤ W.heap.size) : RowF lo hi A n f W' := h.same (fun g h1 h2 => hc.block g (by omega) (fun hm => by have := hF g hm; omega))
theorem congr {f' : Nat → Int} (h : RowF lo hi A n f W) (he : ∀ i, i < n → f' i = f i) : RowF lo hi A n f' W := ⟨fun hn => by
  obtain ⟨g, c, h1, h2, h3, h4, h5⟩ := h.get hn
  exact ⟨g, c, h1, h2, h3, h4, fun j hj => by rw [he j hj]; exact h5 j hj⟩⟩
theorem other (h : RowF lo hi A n f W) {a : Addr} (ha : a.block < lo ∨ hi ≤ a.block) (u : Value) : RowF lo hi A n f (W.setCell a u) := h.same (fun g h1 h2 => heap_setCell_other _ _ _ _ (by omega))
theorem cell (h : RowF lo hi A n f W) {j : Nat} (hj : j < n) : ∃ g, A = some ⟨g, 0, none⟩ ∧ lo ≤ g ∧ g < hi ∧ W.cell? ⟨g, j, none⟩ = some (.int .i64 (f j)) ∧ W.frozen? ⟨g, j, none⟩ = false := by
  obtain ⟨g, c, h1, h2, h3, h4, h5⟩ := h.get (by omega)
  refine ⟨g, h1, h2, h3, ?_, ?_⟩
  · unfold World.cell?; rw [h4]; exact h5 j hj
  · exact frozen_of_row W g j c _ h4
theorem set (h : RowF lo hi A n f W) {g j : Nat} (hA : A = some ⟨g, 0, none⟩) (x : Int) : RowF lo hi A n (fun i => if i = j then x else f i) (W.setCell ⟨g, j, none⟩ (.int .i64 x)) := ⟨fun hn => by
  obtain ⟨g', c, h1, h2, h3, h4, h5⟩ := h.get hn
  rw [hA] at h1
  simp only [Option.some.injEq, Addr.mk.injEq, and_true] at h1
  subst h1
  refine ⟨g, c.setIfInBounds j (.int .i64 x), hA, h2, h3, heap_setCell_same W g j c _ _ h4, fun i hi => ?_⟩
  have h6 := h5 i hi
  by_cases e : i = j
  · subst e
    have : i < c.size := (Array.getElem?_eq_some_iff.1 h6).1
    simp [this]
  · rw [Array.getElem?_setIfInBounds_ne (by omega), h6, if_neg e]⟩
end RowF
theorem rowF_of {w : World} {base : Nat} {v : Value} {R : List Int} (h : w.ownsRow base 24 1 v R.length (i64s R)) : ∃ A cap, v = .slice A R.length cap ∧ RowF base w.heap.size A R.length (fun j => R.getD j 0) w := by
  rcases h.2 with ⟨rfl, h0⟩ | ⟨g, cap, cur, rfl, hbg, hg, hnc, hcm, hcs, htake⟩
  · exact ⟨none, 0, by rw [h0], ⟨fun hn => by omega⟩⟩
  · refine ⟨some ⟨g, 0, none⟩, cap, rfl, ⟨fun hn => ⟨g, cur, rfl, hbg, (Array.getElem?_eq_some_iff.1 hg).1, hg, fun j hj => ?_⟩⟩⟩
    have h1 : (i64s R)[j]? = some (.int .i64 R[j]) := by simp [i64s, hj]
    rw [← htake, List.getElem?_take, if_pos (by omega), Array.getElem?_toList] at h1
    rw [h1, List.getD_eq_getElem?_getD, List.getElem?_eq_getElem hj]
    rfl

theorem heap_drewN (w : World) : ∀ (n : Nat) (g : Nat), (w.drewN n).heap[g]? = w.heap[g]?
  | 0, _ => rfl
  | n + 1, g => heap_drewN w n g
theorem lk_cells {W : World} {B1 B3 B5 B7 : Nat} {a0 a1 a2 a3 a4 b0 b1 b2 b3 b4 c0 c1 c2 c3 c4 d0 d1 d2 d3 d4 : Value} (ha : Five W B1 a0 a1 a2 a3 a4) (hb : Five W B3 b0 b1 b2 b3 b4) (hc : Five W B5 c0 c1 c2 c3 c4) (hd : Five W B7 d0 d1 d2 d3 d4) : W.cell? ⟨B1, 0, none⟩ = some a0 ∧ W.cell? ⟨B1, 1, none⟩ = some a1 ∧ W.cell? ⟨B1, 2, none⟩ = some a2 ∧ W.cell? ⟨B1, 3, none⟩ = some a3 ∧ W.cell? ⟨B1, 4, none⟩ = some a4 ∧ W.cell? ⟨B3, 0, none⟩ = some b0 ∧ W.cell? ⟨B3, 1, none⟩ = some b1 ∧ W.cell? ⟨B3, 2, none⟩ = some b2 ∧ W.cell? ⟨B3, 3, none⟩ = some b3 ∧ W.cell? ⟨B3, 4, none⟩ = some b4 ∧ W.cell? ⟨B5, 0, none⟩ = some c0 ∧ W.cell? ⟨B5, 1, none⟩ = some c1 ∧ W.cell? ⟨B5, 2, none⟩ = some c2 ∧ W.cell? ⟨B5, 3, none⟩ = some c3 ∧ W.cell? ⟨B5, 4, none⟩ = some c4 ∧ W.cell? ⟨B7, 0, none⟩ = some d0 ∧ W.cell? ⟨B7, 1, none⟩ = some d1 ∧ W.cell? ⟨B7, 2, none⟩ = some d2 ∧ W.cell? ⟨B7, 3, none⟩ = some d3 ∧ W.cell? ⟨B7, 4, none⟩ = some d4 := ⟨ha.e0, ha.e1, ha.e2, ha.e3, ha.e4, hb.e0, hb.e1, hb.e2, hb.e3, hb.e4, hc.e0, hc.e1, hc.e2, hc.e3, hc.e4, hd.e0, hd.e1, hd.e2, hd.e3, hd.e4⟩
theorem below_chg {B : Nat} {w W W' : World} {F : List Nat} (h : Below B w W) (hc : Chg F W W') (hB : B ≤ W.heap.size) (hF : ∀ g ∈ F, B ≤ g) : Below B w W' :=
  ⟨hc.os.trans h.os, hc.tape.trans h.tape, hc.output.trans h.output, Nat.le_trans h.size hc.size, fun k hk => (hc.block k (by omega) (fun hm => by have := hF k hm; omega)).trans (h.block k hk)⟩
theorem Lk2.chg {w : World} {t : VT} {pp : Nat → Prop} {m : Bool} {A : Option Addr} {cap : Nat} {p3 : Nat → Prop} {B3 : Nat} {A3 : Option Addr} {cap3 : Nat} {W W' : World} {F : List Nat} (h : Lk2 w t pp m A cap p3 B3 A3 cap3 W) (hc : Chg F W W') (hF : ∀ g ∈ F, B3 < g) : Lk2 w t pp m A cap p3 B3 A3 cap3 W' :=
  ⟨h.one.chg hc (fun g hg => Nat.lt_trans h.lt (hF g hg)), h.two.chg hc hF, below_chg h.below hc h.below.size (fun g hg => by have := hF g hg; have := h.lt; omega), h.lt⟩
end Go.Proofs.Ytckgmdlacaiacaa
