/-
  ValuePlaces: rows of whole numbers with a mark behind; boxes under a mark; answers in new memory.
-/
import Derived.Laws.AppendOwnNone
import Derived.Test.YtckgmdlacaiacaaRWith
import Derived.Test.YtckgmdlacaiacaaLooks0
namespace Go.Proofs.Ytckgmdlacaiacaa
open Go.RowKit Go.Shelf
attribute [local go_sem] Oper.semAt_some

theorem wpList_append_ints {ops : Array Oper} {rest : List Oper} {o : Oper} {a : Act} {w : World} {Q : Exit → Act → World → Prop} (hgd : o.guard = none) (s x : Operand) (base : Nat)
    (ho : o.op = .call { callee := .builtin .append, args := #[s, x], argTypes := #[44, 44] })
    (v : Value) (n : Nat) (xs : List Value) (hs : a.eval s = v) (hown : w.ownsRow base 3 1 v n xs) (X : Option Addr) (l : List Int) (c B : Nat) (hx : a.eval x = .slice X l.length c) (hX : X = none → c = 0) (hl : IntsAt w B X l)
    (h63 : n + l.length ≤ 4294967296) (hbase : base ≤ w.heap.size)
    (h : ∀ v' w', w'.ownsRow base 3 1 v' (n + l.length) (xs ++ i64s l) → w.grownBy w' v.ownBlock → (v'.ownBlock = v.ownBlock ∨ v'.ownBlock = some w.heap.size) → wpList Try.prog ops Q rest (a.put o.dst v') w') :
    wpList Try.prog ops Q (o :: rest) a w := by
  obtain ⟨i0, hi, hz0, hz1, hz2⟩ := info_parts infoI
  cases X with
  | none =>
    obtain rfl := hX rfl
    have h0 : l = [] := by
      rcases Nat.eq_zero_or_pos l.length with e | e
      · exact List.eq_nil_of_length_eq_zero e
      · obtain ⟨b, off, h1, _⟩ := hl 0 e
        cases h1
    subst h0
    refine wpList_append_own_none hgd s x 44 ho base 3 i0 1 Try.underlying44 hi v n xs hs hown hx ?_
    refine h v w ?_ (World.grownBy.refl _ _) (.inl rfl)
    simpa [i64s] using hown
  | some ad =>
    refine wpList_append_own_at w hgd s x 44 ho base 3 i0 (.int .i64 0) 1 8 Try.underlying44 hi hz0 hz1 hz2 rfl (by decide) v n xs hs hown ad l.length c (i64s l) hx (by rw [i64s_len, Nat.mul_one]) (fun j u hu => ?_) (by intro u hu; obtain ⟨x, _, rfl⟩ := List.mem_map.1 hu; rfl) (by unfold maxLen; omega) (by omega) hbase (fun v' w' h1 h2 _ h4 => h v' w' h1 h2 h4)
    have hj : j < l.length := by
      have := (List.getElem?_eq_some_iff.1 hu).1
      rwa [i64s_len] at this
    obtain ⟨b, off, h1, h2, h3⟩ := hl j hj
    cases h1
    have hu2 : u = .int .i64 l[j] := by
      have : (i64s l)[j]? = some (.int .i64 l[j]) := by simp [i64s, hj]
      rw [this] at hu
      exact (Option.some.inj hu).symm
    subst hu2
    have hadd : (⟨b, off, none⟩ : Addr).add j = ⟨b, off + j, none⟩ := by
      unfold Addr.add
      split <;> simp_all
    rw [hadd]
    exact h3
/-- A row of whole numbers with a mark behind it, in a block between two marks of the heap. -/
structure RowI (lo hi g cap : Nat) (l : List Int) (x : Int) (W : World) : Prop where
  row : ∃ c, W.heap[g]? = some (.cells c 3 (0, 0)) ∧ ∀ j, j < l.length + 1 → c[j]? = some (.int .i64 ((l ++ [x]).getD j 0))
  low : lo ≤ g
  high : g < hi
  room : l.length + 1 ≤ cap
  le : cap ≤ maxLen
namespace RowI
variable {lo hi g cap : Nat} {l : List Int} {x : Int} {W W' : World}
theorem cell (h : RowI lo hi g cap l x W) {j : Nat} (hj : j < l.length + 1) : W.cell? ⟨g, j, none⟩ = some (.int .i64 ((l ++ [x]).getD j 0)) := by
  obtain ⟨c, h1, h2⟩ := h.row
  unfold World.cell?; rw [h1]; exact h2 j hj
theorem ints (h : RowI lo hi g cap l x W) : IntsAt W hi (some ⟨g, 0, none⟩) l := fun i hi' => by
  refine ⟨g, 0, rfl, h.high, ?_⟩
  rw [Nat.zero_add, h.cell (by omega)]
  simp [List.getElem?_append_left hi', hi']
theorem mark (h : RowI lo hi g cap l x W) : W.cell? ⟨g, l.length, none⟩ = some (.int .i64 x) := by
  rw [h.cell (by omega)]
  simp
theorem at_ (h : RowI lo hi g cap l x W) {j : Nat} (hj : j < l.length) : W.cell? ⟨g, j, none⟩ = some (.int .i64 l[j]) := by
  rw [h.cell (by omega)]
  simp [List.getElem?_append_left hj, hj]
theorem same (h : RowI lo hi g cap l x W) (hb : W'.heap[g]? = W.heap[g]?) : RowI lo hi g cap l x W' := by
  obtain ⟨c, h1, h2⟩ := h.row
  exact ⟨⟨c, hb.trans h1, h2⟩, h.low, h.high, h.room, h.le⟩
theorem step {k : Nat} (h : RowI lo hi g cap l x W) (hb : Below k W W') (hk : hi ≤ k) : RowI lo hi g cap l x W' := h.same (hb.block g (by have := h.high; omega))
theorem chg {F : List Nat} (h : RowI lo hi g cap l x W) (hc : Chg F W W') (hF : ∀ g ∈ F, hi ≤ g) (hh : hi ≤ W.heap.size) : RowI lo hi g cap l x W' :=
  h.same (hc.block g (by have := h.high; omega) (fun hm => by have := hF g hm; have := h.high; omega))
end RowI
theorem rowI_of {w : World} {base : Nat} {v : Value} {l : List Int} {x : Int} (h : w.ownsRow base 3 1 v (l.length + 1) (i64s l ++ [.int .i64 x])) : ∃ g cap, v = .slice (some ⟨g, 0, none⟩) (l.length + 1) cap ∧ RowI base w.heap.size g cap l x w := by
  rcases h.2 with ⟨h0, h1⟩ | ⟨g, cap, cur, hv, hbg, hg, hnc, hcm, hcs, htake⟩
  · omega
  · refine ⟨g, cap, hv, ⟨cur, hg, fun j hj => ?_⟩, hbg, (Array.getElem?_eq_some_iff.1 hg).1, hnc, hcm⟩
    have e : i64s l ++ [.int .i64 x] = i64s (l ++ [x]) := by simp [i64s]
    rw [e] at htake
    have hj2 : j < (l ++ [x]).length := by simpa using hj
    have h1 : (i64s (l ++ [x]))[j]? = some (.int .i64 (l ++ [x])[j]) := by unfold i64s; rw [List.getElem?_map, List.getElem?_eq_getElem hj2]; rfl
    rw [← htake, List.getElem?_take, if_pos (by omega), Array.getElem?_toList] at h1
    rw [h1, List.getD_eq_getElem?_getD, List.getElem?_eq_getElem hj2]
    rfl
/-- A value in a box, both below a mark. -/
structure BoxL (p : Nat → Prop) (m : Bool) (B : Nat) (t : VT) (A : Option Addr) (cap M : Nat) (W : World) : Prop where
  box : Five W B (.int .u8 (t.k : Int)) (.int .i64 t.n) (.string t.s) (.slice A t.l.length cap) (.int .i64 t.r)
  lies : Lies W p m t (.agg #[.int .u8 (t.k : Int), .int .i64 t.n, .string t.s, .slice A t.l.length cap, .int .i64 t.r])
  low : ∀ b, p b → b < M
  bx : B < M
  top : M ≤ W.heap.size
namespace BoxL
variable {p : Nat → Prop} {m : Bool} {B : Nat} {t : VT} {A : Option Addr} {cap M : Nat} {W W' : World}
theorem small (h : BoxL p m B t A cap M W) : ∀ b, p b → b < W.heap.size := fun b hb => Nat.lt_of_lt_of_le (h.low b hb) h.top
theorem step {k : Nat} (h : BoxL p m B t A cap M W) (hb : Below k W W') (hk : M ≤ k) (hs : M ≤ W'.heap.size) : BoxL p m B t A cap M W' :=
  ⟨⟨(hb.block B (Nat.lt_of_lt_of_le h.bx hk)).trans h.box.row⟩, Lies.same (fun _ h => h) (fun b hb' => hb.block b (Nat.lt_of_lt_of_le (h.low b hb') hk)) _ _ h.lies, h.low, h.bx, hs⟩
theorem below (h : BoxL p m B t A cap M W) (hb : Below W.heap.size W W') : BoxL p m B t A cap M W' := h.step hb h.top (Nat.le_trans h.top hb.size)
theorem up {M' : Nat} (h : BoxL p m B t A cap M W) (hM : M ≤ M') (ht : M' ≤ W.heap.size) : BoxL p m B t A cap M' W := ⟨h.box, h.lies, fun b hb => Nat.lt_of_lt_of_le (h.low b hb) hM, Nat.lt_of_lt_of_le h.bx hM, ht⟩
theorem chg {F : List Nat} (h : BoxL p m B t A cap M W) (hc : Chg F W W') (hF : ∀ g ∈ F, M ≤ g) : BoxL p m B t A cap M W' :=
  ⟨h.box.chg hc (fun hm => by have := hF _ hm; have := h.bx; omega), h.lies.chg hc (fun b hb => ⟨h.small b hb, fun hm => by have := hF _ hm; have := h.low b hb; omega⟩), h.low, h.bx, Nat.le_trans h.top hc.size⟩
end BoxL
theorem BoxL.new {p : Nat → Prop} {m : Bool} {t : VT} {A : Option Addr} {cap : Nat} (W : World) (h : Lies W p m t (.agg #[.int .u8 (t.k : Int), .int .i64 t.n, .string t.s, .slice A t.l.length cap, .int .i64 t.r])) (hp : ∀ b, p b → b < W.heap.size) :
    BoxL p m W.heap.size t A cap (W.heap.size + 1) (W.alloc (.cells #[.int .u8 (t.k : Int), .int .i64 t.n, .string t.s, .slice A t.l.length cap, .int .i64 t.r] 26)) :=
  ⟨Five.new W _ _ _ _ _, h.below ((Below.refl W.heap.size W).alloc (Nat.le_refl _) _) hp, fun b hb => Nat.lt_succ_of_lt (hp b hb), Nat.lt_succ_self _, by simp⟩
/-- The four values of ValuePlaces: the two that came in, the two copies that are lent. -/
structure Pl4 (w : World) (t u : VT) (pp pp' : Nat → Prop) (m m' : Bool) (A A1 : Option Addr) (cap cap1 : Nat) (p3 p4 : Nat → Prop) (B3 B4 : Nat) (A3 A4 : Option Addr) (cap3 cap4 M : Nat) (W : World) : Prop where
  one : BoxL pp m w.heap.size t A cap M W
  oneU : BoxL pp' m' (w.heap.size + 1) u A1 cap1 M W
  two : BoxL p3 true B3 t A3 cap3 M W
  twoU : BoxL p4 true B4 u A4 cap4 M W
  below : Below w.heap.size w W
  lt : w.heap.size ≤ M
namespace Pl4
variable {w : World} {t u : VT} {pp pp' : Nat → Prop} {m m' : Bool} {A A1 : Option Addr} {cap cap1 : Nat} {p3 p4 : Nat → Prop} {B3 B4 : Nat} {A3 A4 : Option Addr} {cap3 cap4 M : Nat} {W W' : World}
theorem step (h : Pl4 w t u pp pp' m m' A A1 cap cap1 p3 p4 B3 B4 A3 A4 cap3 cap4 M W) (hb : Below W.heap.size W W') : Pl4 w t u pp pp' m m' A A1 cap cap1 p3 p4 B3 B4 A3 A4 cap3 cap4 M W' :=
  ⟨h.one.below hb, h.oneU.below hb, h.two.below hb, h.twoU.below hb, h.below.trans (hb.mono h.below.size), h.lt⟩
theorem chg {F : List Nat} (h : Pl4 w t u pp pp' m m' A A1 cap cap1 p3 p4 B3 B4 A3 A4 cap3 cap4 M W) (hc : Chg F W W') (hF : ∀ g ∈ F, M ≤ g) : Pl4 w t u pp pp' m m' A A1 cap cap1 p3 p4 B3 B4 A3 A4 cap3 cap4 M W' :=
  ⟨h.one.chg hc hF, h.oneU.chg hc hF, h.two.chg hc hF, h.twoU.chg hc hF, below_chg h.below hc h.below.size (fun g hg => Nat.le_trans h.lt (hF g hg)), h.lt⟩
theorem top (h : Pl4 w t u pp pp' m m' A A1 cap cap1 p3 p4 B3 B4 A3 A4 cap3 cap4 M W) : M ≤ W.heap.size := h.one.top
end Pl4
/-- Where the drawn region stands that lends both values: which boxes are there, which copies. -/
structure R3 (w2 : World) (t u : VT) (o7 o8 : Option Nat) (o3 o4 : Option (Nat × Nat × Value)) (W : World) : Prop where
  below : Below w2.heap.size w2 W
  z7 : ∀ B, o7 = some B → w2.heap.size ≤ B ∧ Five W B (.int .u8 0) (.int .i64 0) (.string ⟨#[]⟩) (.slice none 0 0) (.int .i64 0)
  z8 : ∀ B, o8 = some B → w2.heap.size ≤ B ∧ Five W B (.int .u8 0) (.int .i64 0) (.string ⟨#[]⟩) (.slice none 0 0) (.int .i64 0)
  ne : ∀ B B', o7 = some B → o8 = some B' → B ≠ B'
  l3 : ∀ lo hi v, o3 = some (lo, hi, v) → hi ≤ W.heap.size ∧ Lies W (fun b => lo ≤ b ∧ b < hi) true t v ∧ ∀ B, o7 = some B ∨ o8 = some B → B < lo ∨ hi ≤ B
  l4 : ∀ lo hi v, o4 = some (lo, hi, v) → hi ≤ W.heap.size ∧ Lies W (fun b => lo ≤ b ∧ b < hi) true u v ∧ ∀ B, o7 = some B ∨ o8 = some B → B < lo ∨ hi ≤ B
namespace R3
variable {w2 : World} {t u : VT} {o7 o8 : Option Nat} {o3 o4 : Option (Nat × Nat × Value)} {W W' : World}
theorem start (hb : Below w2.heap.size w2 W) : R3 w2 t u none none none none W :=
  ⟨hb, (fun _ h => nomatch h), (fun _ h => nomatch h), (fun _ _ h => nomatch h), (fun _ _ _ h => nomatch h), (fun _ _ _ h => nomatch h)⟩
theorem liesIn {t : VT} {lo hi : Nat} {v : Value} (h : Lies W (fun b => lo ≤ b ∧ b < hi) true t v) (hb : Below W.heap.size W W') (hh : hi ≤ W.heap.size) : Lies W' (fun b => lo ≤ b ∧ b < hi) true t v :=
  Lies.same (fun _ h => h) (fun b hb' => hb.block b (Nat.lt_of_lt_of_le hb'.2 hh)) _ _ h
theorem alloc7 (h : R3 w2 t u none o8 o3 o4 W) : R3 w2 t u (some W.heap.size) o8 o3 o4 (W.alloc (.cells #[.int .u8 0, .int .i64 0, .string ⟨#[]⟩, .slice none 0 0, .int .i64 0] 26)) := by
  have hb := (Below.refl W.heap.size W).alloc (Nat.le_refl _) (.cells #[.int .u8 0, .int .i64 0, .string ⟨#[]⟩, .slice none 0 0, .int .i64 0] 26)
  refine ⟨h.below.alloc h.below.size _, fun B e => ?_, fun B e => ⟨(h.z8 B e).1, (h.z8 B e).2.below hb (h.z8 B e).2.lt⟩, fun B B' e e' => ?_, fun lo hi v e => ?_, fun lo hi v e => ?_⟩
  · obtain rfl := Option.some.inj e
    exact ⟨h.below.size, Five.new W _ _ _ _ _⟩
  · obtain rfl := Option.some.inj e
    have := (h.z8 B' e').2.lt
    omega
  · obtain ⟨h1, h2, h3⟩ := h.l3 lo hi v e
    refine ⟨by simp; omega, liesIn h2 hb h1, fun B hB => ?_⟩
    rcases hB with hB | hB
    · obtain rfl := Option.some.inj hB; exact .inr h1
    · exact h3 B (.inr hB)
  · obtain ⟨h1, h2, h3⟩ := h.l4 lo hi v e
    refine ⟨by simp; omega, liesIn h2 hb h1, fun B hB => ?_⟩
    rcases hB with hB | hB
    · obtain rfl := Option.some.inj hB; exact .inr h1
    · exact h3 B (.inr hB)
theorem alloc8 (h : R3 w2 t u o7 none o3 o4 W) : R3 w2 t u o7 (some W.heap.size) o3 o4 (W.alloc (.cells #[.int .u8 0, .int .i64 0, .string ⟨#[]⟩, .slice none 0 0, .int .i64 0] 26)) := by
  have hb := (Below.refl W.heap.size W).alloc (Nat.le_refl _) (.cells #[.int .u8 0, .int .i64 0, .string ⟨#[]⟩, .slice none 0 0, .int .i64 0] 26)
  refine ⟨h.below.alloc h.below.size _, fun B e => ⟨(h.z7 B e).1, (h.z7 B e).2.below hb (h.z7 B e).2.lt⟩, fun B e => ?_, fun B B' e e' => ?_, fun lo hi v e => ?_, fun lo hi v e => ?_⟩
  · obtain rfl := Option.some.inj e
    exact ⟨h.below.size, Five.new W _ _ _ _ _⟩
  · obtain rfl := Option.some.inj e'
    have := (h.z7 B e).2.lt
    omega
  · obtain ⟨h1, h2, h3⟩ := h.l3 lo hi v e
    refine ⟨by simp; omega, liesIn h2 hb h1, fun B hB => ?_⟩
    rcases hB with hB | hB
    · exact h3 B (.inl hB)
    · obtain rfl := Option.some.inj hB; exact .inr h1
  · obtain ⟨h1, h2, h3⟩ := h.l4 lo hi v e
    refine ⟨by simp; omega, liesIn h2 hb h1, fun B hB => ?_⟩
    rcases hB with hB | hB
    · exact h3 B (.inl hB)
    · obtain rfl := Option.some.inj hB; exact .inr h1
theorem zlt (h : R3 w2 t u o7 o8 o3 o4 W) {B : Nat} (hB : o7 = some B ∨ o8 = some B) : B < W.heap.size := by
  rcases hB with e | e
  · exact (h.z7 B e).2.lt
  · exact (h.z8 B e).2.lt
theorem call3 {v : Value} (h : R3 w2 t u o7 o8 none o4 W) (hl : LiesIn W W' t v) (hb : Below W.heap.size W W') : R3 w2 t u o7 o8 (some (W.heap.size, W'.heap.size, v)) o4 W' := by
  refine ⟨h.below.trans (hb.mono h.below.size), fun B e => ⟨(h.z7 B e).1, (h.z7 B e).2.below hb (h.z7 B e).2.lt⟩, fun B e => ⟨(h.z8 B e).1, (h.z8 B e).2.below hb (h.z8 B e).2.lt⟩, h.ne, fun lo hi v' e => ?_, fun lo hi v' e => ?_⟩
  · simp only [Option.some.injEq, Prod.mk.injEq] at e
    obtain ⟨rfl, rfl, rfl⟩ := e
    exact ⟨Nat.le_refl _, hl, fun B hB => .inl (h.zlt hB)⟩
  · obtain ⟨h1, h2, h3⟩ := h.l4 lo hi v' e
    exact ⟨Nat.le_trans h1 hb.size, liesIn h2 hb h1, h3⟩
theorem call4 {v : Value} (h : R3 w2 t u o7 o8 o3 none W) (hl : LiesIn W W' u v) (hb : Below W.heap.size W W') : R3 w2 t u o7 o8 o3 (some (W.heap.size, W'.heap.size, v)) W' := by
  refine ⟨h.below.trans (hb.mono h.below.size), fun B e => ⟨(h.z7 B e).1, (h.z7 B e).2.below hb (h.z7 B e).2.lt⟩, fun B e => ⟨(h.z8 B e).1, (h.z8 B e).2.below hb (h.z8 B e).2.lt⟩, h.ne, fun lo hi v' e => ?_, fun lo hi v' e => ?_⟩
  · obtain ⟨h1, h2, h3⟩ := h.l3 lo hi v' e
    exact ⟨Nat.le_trans h1 hb.size, liesIn h2 hb h1, h3⟩
  · simp only [Option.some.injEq, Prod.mk.injEq] at e
    obtain ⟨rfl, rfl, rfl⟩ := e
    exact ⟨Nat.le_refl _, hl, fun B hB => .inl (h.zlt hB)⟩
/-- All is there; the two boxes are written. -/
theorem done {w : World} {pp pp' : Nat → Prop} {m m' : Bool} {A A1 : Option Addr} {cap cap1 M B7 B8 lo3 hi3 lo4 hi4 : Nat} {A3 A4 : Option Addr} {cap3 cap4 : Nat} (h : R3 w2 t u (some B7) (some B8) (some (lo3, hi3, (.agg #[.int .u8 (t.k : Int), .int .i64 t.n, .string t.s, .slice A3 t.l.length cap3, .int .i64 t.r]))) (some (lo4, hi4, (.agg #[.int .u8 (u.k : Int), .int .i64 u.n, .string u.s, .slice A4 u.l.length cap4, .int .i64 u.r]))) W)
    (h1 : BoxL pp m w.heap.size t A cap M w2) (h2 : BoxL pp' m' (w.heap.size + 1) u A1 cap1 M w2) (hB : Below w.heap.size w w2) :
    Pl4 w t u pp pp' m m' A A1 cap cap1 (fun b => lo3 ≤ b ∧ b < hi3) (fun b => lo4 ≤ b ∧ b < hi4) B7 B8 A3 A4 cap3 cap4 ((((((((((W.setCell ⟨B7, 0, none⟩ (.int .u8 (t.k : Int))).setCell ⟨B7, 1, none⟩ (.int .i64 t.n)).setCell ⟨B7, 2, none⟩ (.string t.s)).setCell ⟨B7, 3, none⟩ (.slice A3 t.l.length cap3)).setCell ⟨B7, 4, none⟩ (.int .i64 t.r)).setCell ⟨B8, 0, none⟩ (.int .u8 (u.k : Int))).setCell ⟨B8, 1, none⟩ (.int .i64 u.n)).setCell ⟨B8, 2, none⟩ (.string u.s)).setCell ⟨B8, 3, none⟩ (.slice A4 u.l.length cap4)).setCell ⟨B8, 4, none⟩ (.int .i64 u.r)).heap.size ((((((((((W.setCell ⟨B7, 0, none⟩ (.int .u8 (t.k : Int))).setCell ⟨B7, 1, none⟩ (.int .i64 t.n)).setCell ⟨B7, 2, none⟩ (.string t.s)).setCell ⟨B7, 3, none⟩ (.slice A3 t.l.length cap3)).setCell ⟨B7, 4, none⟩ (.int .i64 t.r)).setCell ⟨B8, 0, none⟩ (.int .u8 (u.k : Int))).setCell ⟨B8, 1, none⟩ (.int .i64 u.n)).setCell ⟨B8, 2, none⟩ (.string u.s)).setCell ⟨B8, 3, none⟩ (.slice A4 u.l.length cap4)).setCell ⟨B8, 4, none⟩ (.int .i64 u.r)) := by
  obtain ⟨a1, a2⟩ := h.z7 B7 rfl
  obtain ⟨b1, b2⟩ := h.z8 B8 rfl
  have hne := h.ne B7 B8 rfl rfl
  obtain ⟨c1, c2, c3⟩ := h.l3 _ _ _ rfl
  obtain ⟨d1, d2, d3⟩ := h.l4 _ _ _ rfl
  have hs : ((((((((((W.setCell ⟨B7, 0, none⟩ (.int .u8 (t.k : Int))).setCell ⟨B7, 1, none⟩ (.int .i64 t.n)).setCell ⟨B7, 2, none⟩ (.string t.s)).setCell ⟨B7, 3, none⟩ (.slice A3 t.l.length cap3)).setCell ⟨B7, 4, none⟩ (.int .i64 t.r)).setCell ⟨B8, 0, none⟩ (.int .u8 (u.k : Int))).setCell ⟨B8, 1, none⟩ (.int .i64 u.n)).setCell ⟨B8, 2, none⟩ (.string u.s)).setCell ⟨B8, 3, none⟩ (.slice A4 u.l.length cap4)).setCell ⟨B8, 4, none⟩ (.int .i64 u.r)).heap.size = W.heap.size := by simp
  have hb2 : Below w2.heap.size w2 ((((((((((W.setCell ⟨B7, 0, none⟩ (.int .u8 (t.k : Int))).setCell ⟨B7, 1, none⟩ (.int .i64 t.n)).setCell ⟨B7, 2, none⟩ (.string t.s)).setCell ⟨B7, 3, none⟩ (.slice A3 t.l.length cap3)).setCell ⟨B7, 4, none⟩ (.int .i64 t.r)).setCell ⟨B8, 0, none⟩ (.int .u8 (u.k : Int))).setCell ⟨B8, 1, none⟩ (.int .i64 u.n)).setCell ⟨B8, 2, none⟩ (.string u.s)).setCell ⟨B8, 3, none⟩ (.slice A4 u.l.length cap4)).setCell ⟨B8, 4, none⟩ (.int .i64 u.r)) := below_set5 (below_set5 h.below a1 _ _ _ _ _) b1 _ _ _ _ _
  have hM : M ≤ ((((((((((W.setCell ⟨B7, 0, none⟩ (.int .u8 (t.k : Int))).setCell ⟨B7, 1, none⟩ (.int .i64 t.n)).setCell ⟨B7, 2, none⟩ (.string t.s)).setCell ⟨B7, 3, none⟩ (.slice A3 t.l.length cap3)).setCell ⟨B7, 4, none⟩ (.int .i64 t.r)).setCell ⟨B8, 0, none⟩ (.int .u8 (u.k : Int))).setCell ⟨B8, 1, none⟩ (.int .i64 u.n)).setCell ⟨B8, 2, none⟩ (.string u.s)).setCell ⟨B8, 3, none⟩ (.slice A4 u.l.length cap4)).setCell ⟨B8, 4, none⟩ (.int .i64 u.r)).heap.size := Nat.le_trans h1.top hb2.size
  have x7 := a2.lt
  have x8 := b2.lt
  refine ⟨(h1.step hb2 h1.top hM).up hM (Nat.le_refl _), (h2.step hb2 h2.top hM).up hM (Nat.le_refl _), ⟨(a2.set5 _ _ _ _ _).other5 hne _ _ _ _ _, Lies.same (fun _ h => h) (fun b hb => ?_) _ _ c2, fun b hb => ?_, by rw [hs]; exact x7, Nat.le_refl _⟩, ⟨(b2.other5 (Ne.symm hne) _ _ _ _ _).set5 _ _ _ _ _, Lies.same (fun _ h => h) (fun b hb => ?_) _ _ d2, fun b hb => ?_, by rw [hs]; exact x8, Nat.le_refl _⟩, hB.trans (hb2.mono hB.size), Nat.le_trans hB.size hb2.size⟩
  · have k7 := c3 B7 (.inl rfl)
    have k8 := c3 B8 (.inr rfl)
    have := hb.1; have := hb.2
    exact (heap_set5_other _ _ _ _ _ (by omega)).trans (heap_set5_other _ _ _ _ _ (by omega))
  · rw [hs]; have := hb.2; omega
  · have k7 := d3 B7 (.inl rfl)
    have k8 := d3 B8 (.inr rfl)
    have := hb.1; have := hb.2
    exact (heap_set5_other _ _ _ _ _ (by omega)).trans (heap_set5_other _ _ _ _ _ (by omega))
  · rw [hs]; have := hb.2; omega
end R3
/-- An answer in new memory, in a box that lies among it. -/
structure LkP (t : VT) (B5 : Nat) (A5 : Option Addr) (cap5 : Nat) (F : List Nat) (lo hi : Nat) (W : World) : Prop where
  box : Five W B5 (.int .u8 (t.k : Int)) (.int .i64 t.n) (.string t.s) (.slice A5 t.l.length cap5) (.int .i64 t.r)
  own : Own W t (.agg #[.int .u8 (t.k : Int), .int .i64 t.n, .string t.s, .slice A5 t.l.length cap5, .int .i64 t.r]) F
  nodup : F.Nodup
  mem : ∀ g ∈ F, lo ≤ g ∧ g < hi ∧ g ≠ B5
  bx : lo ≤ B5 ∧ B5 < hi
  top : hi ≤ W.heap.size
namespace LkP
variable {t : VT} {B5 : Nat} {A5 : Option Addr} {cap5 : Nat} {F : List Nat} {lo hi : Nat} {W W' : World}
theorem small (h : LkP t B5 A5 cap5 F lo hi W) : ∀ g ∈ F, g < W.heap.size := fun g hg => Nat.lt_of_lt_of_le (h.mem g hg).2.1 h.top
theorem step (h : LkP t B5 A5 cap5 F lo hi W) (hb : Below W.heap.size W W') : LkP t B5 A5 cap5 F lo hi W' :=
  ⟨h.box.below hb h.box.lt, h.own.below hb h.small, h.nodup, h.mem, h.bx, Nat.le_trans h.top hb.size⟩
theorem lies (h : LkP t B5 A5 cap5 F lo hi W) : Lies W (· ∈ F) false t (.agg #[.int .u8 (t.k : Int), .int .i64 t.n, .string t.s, .slice A5 t.l.length cap5, .int .i64 t.r]) := Own.lies _ _ _ h.own
end LkP
/-- The box was laid first, the answer came behind it. -/
theorem LkP.first {w W : World} {t : VT} {A5 : Option Addr} {cap5 B5 : Nat} {v0 v1 v2 v3 v4 : Value} (h : Fresh w W t (.agg #[.int .u8 (t.k : Int), .int .i64 t.n, .string t.s, .slice A5 t.l.length cap5, .int .i64 t.r])) (hx : Five W B5 v0 v1 v2 v3 v4) (hB : B5 < w.heap.size) :
    ∃ F, LkP t B5 A5 cap5 F B5 W.heap.size (((((W.setCell ⟨B5, 0, none⟩ (.int .u8 (t.k : Int))).setCell ⟨B5, 1, none⟩ (.int .i64 t.n)).setCell ⟨B5, 2, none⟩ (.string t.s)).setCell ⟨B5, 3, none⟩ (.slice A5 t.l.length cap5)).setCell ⟨B5, 4, none⟩ (.int .i64 t.r)) := by
  obtain ⟨F, h1, h2, h3⟩ := h
  refine ⟨F, hx.set5 _ _ _ _ _, Own.same_all _ _ _ (fun g hg => heap_set5_other _ _ _ _ _ (by have := (h3 g hg).1; omega)) h1, h2, fun g hg => ?_, ⟨Nat.le_refl _, hx.lt⟩, by simp⟩
  have := h3 g hg
  exact ⟨by omega, this.2, by omega⟩
/-- The answer came first. -/
theorem LkP.second {w W : World} {t : VT} {A5 : Option Addr} {cap5 : Nat} (h : Fresh w W t (.agg #[.int .u8 (t.k : Int), .int .i64 t.n, .string t.s, .slice A5 t.l.length cap5, .int .i64 t.r])) (hw : w.heap.size ≤ W.heap.size) :
    ∃ F, LkP t W.heap.size A5 cap5 F w.heap.size (W.heap.size + 1) (W.alloc (.cells #[.int .u8 (t.k : Int), .int .i64 t.n, .string t.s, .slice A5 t.l.length cap5, .int .i64 t.r] 26)) := by
  obtain ⟨F, h1, h2, h3⟩ := h
  refine ⟨F, Five.new W _ _ _ _ _, h1.below ((Below.refl W.heap.size W).alloc (Nat.le_refl _) _) (fun g hg => (h3 g hg).2), h2, fun g hg => ?_, ⟨hw, by omega⟩, by simp⟩
  have := h3 g hg
  exact ⟨this.1, by omega, by omega⟩
theorem below_appI1 {W0 w4 : World} (h : W0.grownBy w4 none) : Below W0.heap.size W0 w4 := (Below.refl _ _).grown h (Nat.le_refl _) (fun k hk => by cases hk)
theorem below_appI2 {W0 w4 w5 : World} {v : Value} {n base : Nat} {xs : List Value} {o : Obj} (hb : Below W0.heap.size W0 w4) (h : w4.ownsRow base 3 1 v n xs) (hB : W0.heap.size ≤ base) (hg : (w4.alloc o).grownBy w5 v.ownBlock) : Below W0.heap.size W0 w5 :=
  (hb.alloc hb.size o).grown hg (by have := hb.size; simp; omega) (fun k hk => Nat.le_trans hB (h.lt k hk).1)
theorem deepL_get : ∀ {l : List VT} {j : Nat} (h : j < l.length), l[j].deep ≤ VT.deepL l
  | t :: ts, 0, _ => Nat.le_max_left _ _
  | t :: ts, j + 1, h => Nat.le_trans (deepL_get (l := ts) (j := j) (by simpa using h)) (Nat.le_max_right _ _)
theorem may_get {t : VT} (h : t.may = true) {j : Nat} (hj : j < t.l.length) : t.l[j].may = true := by
  unfold VT.may VT.ok at h ⊢
  simp only [Bool.and_eq_true, decide_eq_true_eq] at h ⊢
  obtain ⟨⟨h1, h2⟩, h3⟩ := h
  refine ⟨⟨?_, Nat.le_trans (VT.part_le hj) h2⟩, ?_⟩
  · cases t with | mk k n s r l => exact goodL_get (good_text h1).2 hj
  · cases t with | mk k n s r l =>
    have hp := (good_text h1).1
    have hd : VT.deep (.mk k n s r l) = if k = 3 then 1 + VT.deepL l else 0 := rfl
    have hj' : j < l.length := hj
    have hg := deepL_get hj'
    show l[j].deep ≤ 16
    by_cases hk : k = 3
    · rw [hd, if_pos hk] at h3; omega
    · exfalso
      have : (l.length : Int) = 0 := by
        revert hp
        unfold propN
        split <;> simp_all
      omega
theorem atT_may : ∀ (ps : List Int) (t u : VT), t.may = true → atT t ps = some u → u.may = true
  | [], t, u, h, e => by
    rw [atT] at e
    cases e
    exact h
  | i :: ps, t, u, h, e => by
    rw [atT] at e
    split at e
    · exact atT_may ps _ u (may_get h (by omega)) e
    · cases e
theorem atRes_may (t : VT) (ps : List Int) : (resT (atRes t ps).1).may = true := by
  unfold atRes
  by_cases h : t.may = true
  · rw [if_pos h]
    cases e : atT t ps with
    | none => exact zeroT_may
    | some u => exact atT_may ps t u h e
  · rw [if_neg h]
    exact zeroT_may
theorem lies_zero (W : World) (p : Nat → Prop) (m : Bool) : Lies W p m (.mk 0 0 ⟨#[]⟩ 0 []) zeroVal :=
  ⟨none, 0, rfl, ⟨by decide, by decide, by decide, by decide, by decide⟩, Nat.le_refl _, Nat.zero_le _, trivial, fun _ h => absurd rfl h⟩
/-- An answer that lies among what was there, or anywhere. -/
def AnsP (p : World → Nat → Prop) (m : Bool) (w : World) (t : VT) (n : Int) (e : Ending) (W : World) : Prop :=
  Below w.heap.size w W ∧ ∃ A cap, e = .returned (.tuple #[.agg #[.int .u8 (t.k : Int), .int .i64 t.n, .string t.s, .slice A t.l.length cap, .int .i64 t.r], .int .i64 n]) ∧
    Lies W (p W) m t (.agg #[.int .u8 (t.k : Int), .int .i64 t.n, .string t.s, .slice A t.l.length cap, .int .i64 t.r])
theorem AtN.ans {p : Nat → Prop} {m : Bool} {w W : World} {res : Option VT × Int} {e : Ending} (h : AtN p m w res e W) : AnsP (fun _ => p) m w (resT res.1) res.2 e W := by
  obtain ⟨hb, h⟩ := h
  obtain ⟨o, n⟩ := res
  cases o with
  | none => exact ⟨hb, none, 0, h, lies_zero W p m⟩
  | some t =>
    obtain ⟨v, he, hl⟩ := h
    obtain ⟨A, cap, rfl⟩ := hl.cells
    exact ⟨hb, A, cap, he, hl⟩
theorem WithN.ans {p : Nat → Prop} {w W : World} {res : Option VT × Int} {e : Ending} (h : WithN p w res e W) : AnsP (fun W b => p b ∨ (w.heap.size ≤ b ∧ b < W.heap.size)) false w (resT res.1) res.2 e W := by
  obtain ⟨hb, h⟩ := h
  obtain ⟨o, n⟩ := res
  cases o with
  | none => exact ⟨hb, none, 0, h, lies_zero W _ false⟩
  | some t =>
    obtain ⟨v, he, hl⟩ := h
    obtain ⟨A, cap, rfl⟩ := hl.cells
    exact ⟨hb, A, cap, he, hl⟩
/-- All that ValuePlaces keeps: the four values below one mark, the row of places between it and a second one. -/
structure PlB (w : World) (t u : VT) (pp pp' : Nat → Prop) (m m' : Bool) (A A1 : Option Addr) (cap cap1 : Nat) (p3 p4 : Nat → Prop) (B3 B4 : Nat) (A3 A4 : Option Addr) (cap3 cap4 M N g cv : Nat) (ps : List Int) (W : World) : Prop where
  q : Pl4 w t u pp pp' m m' A A1 cap cap1 p3 p4 B3 B4 A3 A4 cap3 cap4 M W
  r : RowI M N g cv ps 77 W
  mn : M ≤ N
  top : N ≤ W.heap.size
namespace PlB
variable {w : World} {t u : VT} {pp pp' : Nat → Prop} {m m' : Bool} {A A1 : Option Addr} {cap cap1 : Nat} {p3 p4 : Nat → Prop} {B3 B4 : Nat} {A3 A4 : Option Addr} {cap3 cap4 M N g cv : Nat} {ps : List Int} {W W' : World}
theorem step (h : PlB w t u pp pp' m m' A A1 cap cap1 p3 p4 B3 B4 A3 A4 cap3 cap4 M N g cv ps W) (hb : Below N W W') : PlB w t u pp pp' m m' A A1 cap cap1 p3 p4 B3 B4 A3 A4 cap3 cap4 M N g cv ps W' :=
  have hs := Nat.le_trans h.q.top hb.size
  ⟨⟨h.q.one.step hb h.mn hs, h.q.oneU.step hb h.mn hs, h.q.two.step hb h.mn hs, h.q.twoU.step hb h.mn hs, h.q.below.trans (hb.mono (Nat.le_trans h.q.lt h.mn)), h.q.lt⟩, h.r.step hb (Nat.le_refl _), h.mn, Nat.le_trans h.top hb.size⟩
theorem chg {F : List Nat} (h : PlB w t u pp pp' m m' A A1 cap cap1 p3 p4 B3 B4 A3 A4 cap3 cap4 M N g cv ps W) (hc : Chg F W W') (hF : ∀ g ∈ F, N ≤ g) : PlB w t u pp pp' m m' A A1 cap cap1 p3 p4 B3 B4 A3 A4 cap3 cap4 M N g cv ps W' :=
  ⟨h.q.chg hc (fun g hg => Nat.le_trans h.mn (hF g hg)), h.r.chg hc hF h.top, h.mn, Nat.le_trans h.top hc.size⟩
end PlB
/-- An answer in new memory, in a box that was there before. -/
structure LkQ (t : VT) (B : Nat) (A : Option Addr) (cap : Nat) (F : List Nat) (lo hi : Nat) (W : World) : Prop where
  box : Five W B (.int .u8 (t.k : Int)) (.int .i64 t.n) (.string t.s) (.slice A t.l.length cap) (.int .i64 t.r)
  own : Own W t (.agg #[.int .u8 (t.k : Int), .int .i64 t.n, .string t.s, .slice A t.l.length cap, .int .i64 t.r]) F
  nodup : F.Nodup
  mem : ∀ g ∈ F, lo ≤ g ∧ g < hi
  bl : B < lo
  le : lo ≤ hi
  top : hi ≤ W.heap.size
namespace LkQ
variable {t : VT} {B : Nat} {A : Option Addr} {cap : Nat} {F : List Nat} {lo hi : Nat} {W W' : World}
theorem small (h : LkQ t B A cap F lo hi W) : ∀ g ∈ F, g < W.heap.size := fun g hg => Nat.lt_of_lt_of_le (h.mem g hg).2 h.top
theorem same (h : LkQ t B A cap F lo hi W) (hb : ∀ g, g < hi → (g = B ∨ lo ≤ g) → W'.heap[g]? = W.heap[g]?) (hs : hi ≤ W'.heap.size) : LkQ t B A cap F lo hi W' :=
  ⟨⟨(hb B (Nat.lt_of_lt_of_le h.bl h.le) (.inl rfl)).trans h.box.row⟩, Own.same_all _ _ _ (fun g hg => hb g (h.mem g hg).2 (.inr (h.mem g hg).1)) h.own, h.nodup, h.mem, h.bl, h.le, hs⟩
theorem step (h : LkQ t B A cap F lo hi W) (hb : Below W.heap.size W W') : LkQ t B A cap F lo hi W' :=
  ⟨h.box.below hb h.box.lt, h.own.below hb h.small, h.nodup, h.mem, h.bl, h.le, Nat.le_trans h.top hb.size⟩
theorem lies (h : LkQ t B A cap F lo hi W) : Lies W (· ∈ F) false t (.agg #[.int .u8 (t.k : Int), .int .i64 t.n, .string t.s, .slice A t.l.length cap, .int .i64 t.r]) := Own.lies _ _ _ h.own
end LkQ
theorem LkQ.new {w W : World} {t : VT} {A : Option Addr} {cap B : Nat} {v0 v1 v2 v3 v4 : Value} (h : Fresh w W t (.agg #[.int .u8 (t.k : Int), .int .i64 t.n, .string t.s, .slice A t.l.length cap, .int .i64 t.r])) (hx : Five W B v0 v1 v2 v3 v4) (hB : B < w.heap.size) (hw : w.heap.size ≤ W.heap.size) :
    ∃ F, LkQ t B A cap F w.heap.size W.heap.size (((((W.setCell ⟨B, 0, none⟩ (.int .u8 (t.k : Int))).setCell ⟨B, 1, none⟩ (.int .i64 t.n)).setCell ⟨B, 2, none⟩ (.string t.s)).setCell ⟨B, 3, none⟩ (.slice A t.l.length cap)).setCell ⟨B, 4, none⟩ (.int .i64 t.r)) := by
  obtain ⟨F, h1, h2, h3⟩ := h
  exact ⟨F, hx.set5 _ _ _ _ _, Own.same_all _ _ _ (fun g hg => heap_set5_other _ _ _ _ _ (by have := (h3 g hg).1; omega)) h1, h2, h3, hB, hw, by simp⟩
end Go.Proofs.Ytckgmdlacaiacaa
