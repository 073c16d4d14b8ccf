/-
  value.positive, value.rename: references turned in their places.
-/
import Derived.Maps.OwnSet
import Derived.Maps.OwnOps
import Derived.Test.YtckgmdlacaiacaaSpoil
import Derived.Test.YtckgmdlacaiacaaAt
namespace Go.Proofs.Ytckgmdlacaiacaa
open Go.RowKit Go.Shelf Go.Maps
attribute [local go_sem] Oper.semAt_some

def posAll (l : List Int) : Bool := l.all (fun r => decide (1 ≤ r))
theorem posAll_take {l : List Int} {j : Nat} (h : j < l.length) (hok : posAll (l.take j) = true) : (1 ≤ l[j] → posAll (l.take (j + 1)) = true) ∧ (l[j] < 1 → posAll l = false) := by
  unfold posAll at *
  constructor
  · intro h1
    rw [List.take_succ_eq_append_getElem h, List.all_append, hok]
    simp [h1]
  · intro h1
    rw [Bool.eq_false_iff]
    intro h2
    have := List.all_eq_true.1 h2 l[j] (List.getElem_mem h)
    simp at this
    omega
set_option maxRecDepth 100000 in
set_option maxHeartbeats 4000000 in
theorem positive_w (l : List Int) (A : Option Addr) (c B : Nat) (w : World) (h : IntsAt w B A l) (hl : l.length ≤ 4294967295) :
    Calls Try.prog 75 #[.slice A l.length c] w fun e w' => e = .returned (.bool (posAll l)) ∧ w' = w := by
  have HI := Lib.hid h
  clear h
  go_enter Try.func75, Try.ntmps75
  go_wp2
  go_loopw [7] (fun iv wr => ∃ j : Nat, j ≤ l.length ∧ iv = .int .i64 (j : Int) ∧ wr = w ∧ posAll (l.take j) = true) (fun iv _ => l.length - (intOf iv).toNat)
  case atStart => exact ⟨0, Nat.zero_le _, rfl, rfl, rfl⟩
  case round =>
    obtain ⟨j, hj, rfl, rfl, hok⟩ := hrel
    by_cases hlt : j < l.length
    · obtain ⟨g, off, rfl, hg, hc⟩ := HI.out j hlt
      have HY := Lib.hid (posAll_take hlt hok)
      clear hok
      generalize l[j] = x at *
      by_cases hx : x < 1
      · have hq : decide (x < 1) = true := decide_eq_true hx
        have hV := Lib.hid (HY.out.2 hx)
        go_wp2
        go_ret
        exact ⟨by rw [hV.out]; rfl, rfl⟩
      · have hq : decide (x < 1) = false := decide_eq_false hx
        go_wp2
        go_roundw
        case rel => exact ⟨j + 1, by omega, by go_num, trivial, HY.out.1 (by omega)⟩
        case measure => simp [intOf]; omega
    · obtain rfl : j = l.length := by omega
      rw [List.take_length] at hok
      have HV := Lib.hid hok
      clear hok
      go_wp2
      go_ret
      exact ⟨by rw [HV.out]; rfl, rfl⟩

mutual
/-- A value with each reference turned; none: one is not named. -/
def renT (f : Int → Option Int) : VT → Option VT
  | .mk k n s r l => if k = 4 then (f r).map (fun x => .mk k n s x l) else (renL f l).map (fun l' => .mk k n s r l')
def renL (f : Int → Option Int) : List VT → Option (List VT)
  | [] => some []
  | t :: ts => (renT f t).bind fun t' => (renL f ts).map fun ts' => t' :: ts'
end
theorem renL_append (f : Int → Option Int) : ∀ (l m : List VT), renL f (l ++ m) = (renL f l).bind fun a => (renL f m).map fun b => a ++ b
  | [], m => by simp [renL]
  | t :: ts, m => by
    simp only [List.cons_append, renL, renL_append f ts m]
    cases renT f t with
    | none => rfl
    | some t' => cases renL f ts with
      | none => rfl
      | some ts' => cases renL f m <;> rfl
theorem renL_len (f : Int → Option Int) : ∀ (l l' : List VT), renL f l = some l' → l'.length = l.length
  | [], l', h => by
    simp only [renL, Option.some.injEq] at h
    rw [← h]
  | t :: ts, l', h => by
    simp only [renL] at h
    cases h1 : renT f t with
    | none => rw [h1] at h; cases h
    | some t' =>
      cases h2 : renL f ts with
      | none => rw [h1, h2] at h; cases h
      | some ts' =>
        rw [h1, h2] at h
        simp only [Option.bind_some, Option.map_some, Option.some.injEq] at h
        rw [← h, List.length_cons, List.length_cons, renL_len f ts ts' h2]
theorem renL_step {f : Int → Option Int} {l l1 : List VT} {j : Nat} (h : j < l.length) (h1 : renL f (l.take j) = some l1) : (∀ t', renT f l[j] = some t' → renL f (l.take (j + 1)) = some (l1 ++ [t'])) ∧ (renT f l[j] = none → renL f l = none) := by
  constructor
  · intro t' ht
    rw [take_get h, renL_append, h1]
    simp [renL, ht]
  · intro ht
    have : l = l.take j ++ (l[j] :: l.drop (j + 1)) := by rw [← List.drop_eq_getElem_cons h, List.take_append_drop]
    rw [this, renL_append, h1]
    simp [renL, ht]
/-- A map holds what a function tells. -/
structure MapIs (D : DataW Unit) (f : Int → Option Int) : Prop where
  has : ∀ r, Maps.has D (.int .i64 r) = (f r).isSome
  get : ∀ r x, f r = some x → D.atKey (.int .i64 r) (.lit (.int .i64 0)) = .lit (.int .i64 x)
/-- What rename leaves. -/
def RenPost (f : Int → Option Int) (b i : Nat) (c : Array Value) (t : VT) (F : List Nat) (w : World) (e : Ending) (W : World) : Prop :=
  ∃ ok c', e = .returned (.bool ok) ∧ Chg (b :: F) w W ∧ W.heap[b]? = some (.cells c' 26 (0, 0)) ∧ c'.size = c.size ∧ (∀ q, q ≠ i → rowOf c' q = rowOf c q) ∧
    (ok = false → renT f t = none) ∧ (ok = true → ∃ t', renT f t = some t' ∧ Own W t' (.agg (rowOf c' i)) F)
/-- While rename goes over the parts. -/
structure RnRun (f : Int → Option Int) (b : Nat) (c : Array Value) (l : List VT) (g cap : Nat) (F : List Nat) (w : World) (j : Nat) (W : World) : Prop where
  chg : Chg (b :: F) w W
  blk : W.heap[b]? = some (.cells c 26 (0, 0))
  rows : ∃ cg l1 G H, W.heap[g]? = some (.cells cg 26 (0, 0)) ∧ cg.size = cap * 5 ∧ renL f (l.take j) = some l1 ∧ OwnL W cg 0 l1 G ∧ OwnL W cg j (l.drop j) H ∧ F = g :: (G ++ H)
theorem RnRun.part {f : Int → Option Int} {b : Nat} {c : Array Value} {l : List VT} {g cap : Nat} {F : List Nat} {w : World} {j : Nat} {W : World} (h : RnRun f b c l g cap F w j W) (hj : j < l.length) :
    ∃ cg l1 G Ha Hb, W.heap[g]? = some (.cells cg 26 (0, 0)) ∧ cg.size = cap * 5 ∧ renL f (l.take j) = some l1 ∧ OwnL W cg 0 l1 G ∧ Own W l[j] (.agg (rowOf cg j)) Ha ∧ OwnL W cg (j + 1) (l.drop (j + 1)) Hb ∧ F = g :: (G ++ (Ha ++ Hb)) := by
  obtain ⟨cg, l1, G, H, h1, h2, h3, h4, h5, h6⟩ := h.rows
  rw [List.drop_eq_getElem_cons hj] at h5
  obtain ⟨Ha, Hb, rfl, g1, g2⟩ := h5
  exact ⟨cg, l1, G, Ha, Hb, h1, h2, h3, h4, g1, g2, h6⟩
theorem RnRun.step {f : Int → Option Int} {b : Nat} {c : Array Value} {l : List VT} {g cap : Nat} {F : List Nat} {w : World} {j : Nat} {W W' : World} (h : RnRun f b c l g cap F w j W) (hj : j < l.length) (hF : (b :: F).Nodup) (hlt : ∀ g ∈ F, g < w.heap.size) (hb : b < w.heap.size)
    {cg cg' : Array Value} {l1 : List VT} {G Ha Hb : List Nat} {t' : VT} (h2 : cg.size = cap * 5) (h3 : renL f (l.take j) = some l1) (h4 : OwnL W cg 0 l1 G) (h5 : OwnL W cg (j + 1) (l.drop (j + 1)) Hb) (h6 : F = g :: (G ++ (Ha ++ Hb)))
    (hc : Chg (g :: Ha) W W') (k1 : W'.heap[g]? = some (.cells cg' 26 (0, 0))) (k2 : cg'.size = cg.size) (k3 : ∀ q, q ≠ j → rowOf cg' q = rowOf cg q) (k4 : renT f l[j] = some t') (k5 : Own W' t' (.agg (rowOf cg' j)) Ha) :
    RnRun f b c l g cap F w (j + 1) W' := by
  subst h6
  have hs := h.chg.size
  rw [List.nodup_cons] at hF
  obtain ⟨hbF, hF⟩ := hF
  rw [List.nodup_cons] at hF
  obtain ⟨hgF, hF⟩ := hF
  rw [List.nodup_append] at hF
  obtain ⟨hG, hH, hGH⟩ := hF
  rw [List.nodup_append] at hH
  obtain ⟨hHa, hHb, hab⟩ := hH
  have hl1 : l1.length = j := by rw [renL_len f _ _ h3, List.length_take]; omega
  have old : ∀ x, x < W.heap.size → x ≠ g → x ∉ Ha → W'.heap[x]? = W.heap[x]? := fun x hx h1 h2 => hc.block x hx (fun hm => by rcases List.mem_cons.1 hm with e | e; exact h1 e; exact h2 e)
  refine ⟨h.chg.trans (hc.mono fun x hx => ?_), (old b (by omega) (fun e => hbF (by rw [e]; exact List.mem_cons_self)) (fun hm => hbF (by simp [hm]))).trans h.blk, cg', l1 ++ [t'], G ++ Ha, Hb, k1, k2.trans h2, (renL_step hj h3).1 t' k4, ?_, ?_, by simp⟩
  · rcases List.mem_cons.1 hx with e | e
    · rw [e]; simp
    · simp [e]
  · refine OwnL.append (OwnL.same (fun x hx => ?_) (fun q _ hq => k3 q (by omega)) h4) ?_
    · exact old x (Nat.lt_of_lt_of_le (hlt x (by simp [hx])) hs) (fun e => hgF (by rw [← e]; simp [hx])) (fun hm => hGH x hx x (by simp [hm]) rfl)
    · rw [Nat.zero_add, hl1]
      exact ⟨Ha, [], by simp, k5, rfl⟩
  · refine OwnL.same (fun x hx => ?_) (fun q hq _ => k3 q (by omega)) h5
    exact old x (Nat.lt_of_lt_of_le (hlt x (by simp [hx])) hs) (fun e => hgF (by rw [← e]; simp [hx])) (fun hm => hab x hm x hx rfl)
theorem law_ref : Keyed Try.prog 24 := int_keyed Try.underlying24
theorem zero_ref (w : World) : (zeroValue 24).run Try.prog w = .ok (.int .i64 0) w := by kernel_rfl
theorem heap_set1 {W : World} {b o : Nat} {c : Array Value} {t : TypeId} (v : Value) (h : W.heap[b]? = some (.cells c t (0, 0))) : (W.setCell ⟨b, o, none⟩ v).heap[b]? = some (.cells (c.setIfInBounds o v) t (0, 0)) := by
  simp [World.setCell, Array.getElem?_modify, h]
theorem rowOf_set4 {c : Array Value} {i : Nat} {a0 a1 a2 a3 a4 : Value} (v : Value) (h : i * 5 + 4 < c.size) (hr : rowOf c i = #[a0, a1, a2, a3, a4]) : rowOf (c.setIfInBounds (i * 5 + 4) v) i = #[a0, a1, a2, a3, v] := by
  unfold rowOf at *
  simp only [Array.mk.injEq, List.cons.injEq, and_true] at hr ⊢
  obtain ⟨h0, h1, h2, h3, h4⟩ := hr
  have k : ∀ o, o ≠ i * 5 + 4 → (c.setIfInBounds (i * 5 + 4) v).getD o .nilFunc = c.getD o .nilFunc := by
    intro o ho
    simp only [Array.getD_eq_getD_getElem?, Array.getElem?_setIfInBounds]
    rw [if_neg (by omega)]
  rw [k _ (by omega), k _ (by omega), k _ (by omega), k _ (by omega)]
  refine ⟨h0, h1, h2, h3, ?_⟩
  simp [Array.getD_eq_getD_getElem?, h]
theorem rowOf_set4_other {c : Array Value} {i q : Nat} (v : Value) (h : q ≠ i) : rowOf (c.setIfInBounds (i * 5 + 4) v) q = rowOf c q := by
  unfold rowOf
  have k : ∀ o, o ≠ i * 5 + 4 → (c.setIfInBounds (i * 5 + 4) v).getD o .nilFunc = c.getD o .nilFunc := by
    intro o ho
    simp only [Array.getD_eq_getD_getElem?, Array.getElem?_setIfInBounds]
    rw [if_neg (by omega)]
  rw [k _ (by omega), k _ (by omega), k _ (by omega), k _ (by omega), k _ (by omega)]
theorem ownsMap_same {W W' : World} {M n : Nat} {D : DataW Unit} (h : W.ownsMap Try.prog 24 (plainElem Try.prog 24) M n D) (hb : W'.heap[M]? = W.heap[M]?) : W'.ownsMap Try.prog 24 (plainElem Try.prog 24) M n D := by
  obtain ⟨es, clock, h1, h2⟩ := h
  exact ⟨es, clock, hb.trans h1, h2⟩
theorem Own.turn {W W' : World} {n x : Int} {s : ByteArray} {r : Int} {l : List VT} {A : Option Addr} {len cap : Nat} {F : List Nat} (h : Own W (.mk 4 n s r l) (.agg #[.int .u8 4, .int .i64 n, .string s, .slice A len cap, .int .i64 r]) F) (hx : -9223372036854775808 ≤ x ∧ x ≤ 9223372036854775807) (hF : ∀ g ∈ F, W'.heap[g]? = W.heap[g]?) :
    Own W' (.mk 4 n s x l) (.agg #[.int .u8 4, .int .i64 n, .string s, .slice A len cap, .int .i64 x]) F := by
  replace h := Own.same_all _ _ _ hF h
  obtain ⟨hb, h⟩ := h
  refine ⟨⟨hb.k, hb.n, hx, hb.s, hb.len⟩, ?_⟩
  rcases h with ⟨h1, h2, h3⟩ | ⟨b, cap', c, G, h0, h1, h2, h3, h4⟩
  · refine .inl ⟨h1, ?_, h3⟩
    simp only [Value.agg.injEq, Array.mk.injEq, List.cons.injEq, Value.slice.injEq, and_true] at h2
    obtain ⟨_, _, _, rfl, rfl, rfl⟩ := h2
    rfl
  · refine .inr ⟨b, cap', c, G, ?_, h1, h2, h3, h4⟩
    simp only [Value.agg.injEq, Array.mk.injEq, List.cons.injEq, Value.slice.injEq, and_true] at h0
    obtain ⟨_, _, _, rfl, rfl, rfl⟩ := h0
    rfl

set_option maxRecDepth 100000 in
set_option maxHeartbeats 8000000 in
theorem rename_w (f : Int → Option Int) (D : DataW Unit) (hD : MapIs D f) (M n0 : Nat) : ∀ (t : VT) (b i : Nat) (c : Array Value) (F : List Nat) (w : World), w.heap[b]? = some (.cells c 26 (0, 0)) → i * 5 + 4 < c.size → Own w t (.agg (rowOf c i)) F → (b :: F).Nodup → (∀ g ∈ F, g < w.heap.size) →
    w.ownsMap Try.prog 24 (plainElem Try.prog 24) M n0 D → M ∉ b :: F →
    Calls Try.prog 76 #[.pointer (some ⟨b, i * 5, none⟩), .map (some M)] w (RenPost f b i c t F w) := by
  refine VT.ind fun k n s r l ih b i c F w hblk hi hown hnd hlt hmap hM => ?_
  have hbnd := (Own.lies _ _ _ hown).bnd
  obtain ⟨A, cap, hce⟩ := hown.cells
  have hr : rowOf c i = _ := Value.agg.inj hce
  have HCells := (cells_of_row hblk hi hr).get
  obtain ⟨x0, x1, x2, x3, x4⟩ := HCells
  have z4 := froz_there hblk (i * 5 + 4)
  have hbw := (Array.getElem?_eq_some_iff.1 hblk).1
  rw [hce] at hown
  have IH := Lib.hid ih
  have HS := Lib.hid (And.intro hblk (And.intro hown (And.intro hnd (And.intro hlt (And.intro hmap hM)))))
  have HR := Lib.hid hr
  have HDD := Lib.hid hD
  clear ih hblk hown hnd hlt hmap hM hce hr hD
  obtain ⟨hk, _, hrb, _, hlb⟩ := hbnd
  replace hk : k < 256 := hk
  replace hrb : -9223372036854775808 ≤ r ∧ r ≤ 9223372036854775807 := hrb
  replace hlb : l.length ≤ maxLen := hlb
  unfold maxLen at hlb
  replace x0 : w.cell? ⟨b, i * 5, none⟩ = some (.int .u8 (k : Int)) := x0
  replace x3 : w.cell? ⟨b, i * 5 + 3, none⟩ = some (.slice A l.length cap) := x3
  replace x4 : w.cell? ⟨b, i * 5 + 4, none⟩ = some (.int .i64 r) := x4
  clear x1 x2
  by_cases hk4 : k = 4
  · subst hk4
    have hkey : keyOf Try.prog 24 (.int .i64 r) = some (.int .i64 r) := keyOf_int_mk Try.underlying24 (by simp [Lit.wf, IntKind.min, IntKind.max, IntKind.signed, IntKind.bits]; omega)
    have HK := Lib.hid hkey
    clear hkey
    go_enter Try.func76, Try.ntmps76
    go_wp2_with (at_lookup; refine wpList_lookup_own_ok_int _ rfl _ _ 103 rfl 24 24 .i64 law_ref Try.underlying103 Try.underlying24 (zero_ref _) M n0 D rfl HS.out.2.2.2.2.1 _ _ rfl HK.out ?_; intro x hat hwx; have HA := Lib.hid hat; have HWX := Lib.hid hwx; clear hat hwx)
    go_ret
    have hwx : -9223372036854775808 ≤ x ∧ x ≤ 9223372036854775807 := by have := HWX.out; simpa [Lit.wf, IntKind.min, IntKind.max, IntKind.signed, IntKind.bits] using this
    obtain ⟨s1, s2, s3, s4, s5, s6⟩ := HS.out
    have hren : renT f (.mk 4 n s r l) = (f r).map (fun x => .mk 4 n s x l) := by rw [renT, if_pos rfl]
    have hhas := HDD.out.has r
    refine ⟨Maps.has D (.int .i64 r), c.setIfInBounds (i * 5 + 4) (.int .i64 x), rfl, (Chg.refl (b :: F) w).set (a := ⟨b, i * 5 + 4, none⟩) (.inl List.mem_cons_self) _, heap_set1 _ s1, by simp, fun q hq => rowOf_set4_other _ hq, fun hh => ?_, fun hh => ?_⟩
    · rw [hhas, Option.isSome_eq_false_iff, Option.isNone_iff_eq_none] at hh
      rw [hren, hh]
      rfl
    · rw [hhas] at hh
      obtain ⟨y, hy⟩ := Option.isSome_iff_exists.1 hh
      have hg := (HDD.out.get r y hy).symm.trans HA.out
      have hxy : y = x := by
        simp only [DataW.lit.injEq, Lit.int.injEq, true_and] at hg
        exact hg
      subst hxy
      refine ⟨.mk 4 n s y l, by rw [hren, hy]; rfl, ?_⟩
      rw [rowOf_set4 _ hi HR.out]
      exact Own.turn s2 hwx (fun g hg => heap_setCell_other _ _ _ _ (fun e => (List.nodup_cons.1 s3).1 (by have e' : g = b := e; rw [← e']; exact hg)))
  · have q1 : ((k : Int) == 4) = false := by rw [beq_eq_false_iff_ne]; omega
    have hk4' : (k == 4) = false := by rw [beq_eq_false_iff_ne]; exact hk4
    have HRen := Lib.hid (show renT f (.mk k n s r l) = (renL f l).map (fun l' => .mk k n s r l') from if_neg hk4)
    clear hk4
    rcases Nat.eq_zero_or_pos l.length with h0 | h0
    · go_enter Try.func76, Try.ntmps76
      rw [h0] at x3
      go_wp2
      refine wp_loop_rounds 1 ?_
      rw [rounds_succ]
      go_wp2
      go_ret
      obtain ⟨s1, s2, s3, s4, s5, s6⟩ := HS.out
      obtain rfl := List.length_eq_zero_iff.1 h0
      refine ⟨true, c, rfl, Chg.refl _ _, s1, rfl, fun _ _ => rfl, (fun h => by cases h), fun _ => ⟨.mk k n s r [], by rw [HRen.out]; rfl, ?_⟩⟩
      rw [HR.out]
      exact s2
    · rcases HS.out.2.1 with ⟨hbn, ⟨hl0, _, _⟩ | ⟨g, cap', cg, G, e0, e1, e2, e3, e4, e5, rfl, e7⟩⟩
      · rw [hl0] at h0; exact absurd h0 (Nat.lt_irrefl _)
      simp only [Value.agg.injEq, Array.mk.injEq, List.cons.injEq, Value.slice.injEq, and_true] at e0
      obtain ⟨_, _, _, ⟨rfl, _, rfl⟩, _⟩ := e0
      have HE3 := Lib.hid (And.intro e2 e3)
      have HST := Lib.hid (show RnRun f b c l g cap (g :: G) w 0 w from ⟨Chg.refl _ _, HS.out.1, cg, [], [], G, e4, e5, by rw [List.take_zero]; rfl, rfl, by rw [List.drop_zero]; exact e7, rfl⟩)
      have HBN := Lib.hid hbn
      clear hbn e1 e2 e3 e4 e5 e7
      go_enter Try.func76, Try.ntmps76
      go_wp2
      go_loopw [32] (fun iv wr => ∃ j : Nat, j ≤ l.length ∧ iv = .int .i64 (j : Int) ∧ RnRun f b c l g cap (g :: G) w j wr) (fun iv _ => l.length - (intOf iv).toNat)
      case atStart => exact ⟨0, Nat.zero_le _, rfl, HST.out⟩
      case round =>
        obtain ⟨j, hj, rfl, hrun⟩ := hrel
        clear HST x0 x3 x4 z4
        have hrow := (cells_of_row hrun.blk hi HR.out).get.2.2.2.1
        have HN := Lib.hid hrun
        clear hrun
        by_cases hlt : j < l.length
        · obtain ⟨cj, l1, G1, Ha, Hb, d1, d2, d3, d4, d5, d6, d7⟩ := HN.out.part hlt
          obtain ⟨s1, s2, s3, s4, s5, s6⟩ := HS.out
          have hsz := HN.out.chg.size
          have hnd2 := (List.nodup_cons.1 s3).2
          rw [d7] at hnd2 s6 s4
          have hnd3 : (g :: Ha).Nodup := by
            rw [List.nodup_cons] at hnd2 ⊢
            refine ⟨fun hm => hnd2.1 (by simp [hm]), ?_⟩
            have := (List.nodup_append.1 hnd2.2).2.1
            exact (List.nodup_append.1 this).1
          have hMg : M ∉ g :: Ha := fun hm => s6 (by
            rcases List.mem_cons.1 hm with e | e
            · rw [e]; simp
            · simp [e])
          have hcap := HE3.out.1
          have HH := Lib.hid (IH.out l[j] (List.getElem_mem hlt) g j cj Ha wr d1 (by omega) d5 hnd3 (fun x hx => Nat.lt_of_lt_of_le (s4 x (by simp [hx])) hsz) (ownsMap_same s5 (HN.out.chg.block M s5.lt (by rw [d7]; exact s6))) hMg)
          have HST := Lib.hid (fun W1 c1 t1 => @RnRun.step f b c l g cap (g :: G) w j wr W1 HN.out hlt s3 HS.out.2.2.2.1 hbw cj c1 l1 G1 Ha Hb t1 d2 d3 d4 d6 d7)
          have HF := Lib.hid (And.intro d3 d7)
          clear d1 d2 d3 d4 d5 d6 d7 s1 s2 s3 s4 s5 s6 hnd2 hnd3
          go_wp2_with fail
          refine HH.out.mono ?_
          rintro e w1 ⟨ok, c1, rfl, hc, k1, k2, k3, k4, k5⟩
          cases ok
          · have HP := Lib.hid (show RenPost f b i c (.mk k n s r l) (g :: G) w (.returned (.bool false)) w1 from by
              have hbF := (List.nodup_cons.1 HS.out.2.2.1).1
              refine ⟨false, c, rfl, HN.out.chg.trans (hc.mono fun x hx => ?_), (hc.block b (Nat.lt_of_lt_of_le hbw hsz) (fun hm => hbF ?_)).trans HN.out.blk, rfl, fun _ _ => rfl, fun _ => ?_, fun h => (by cases h)⟩
              · rw [HF.out.2]; rcases List.mem_cons.1 hx with e | e
                · rw [e]; simp
                · simp [e]
              · rw [HF.out.2]; rcases List.mem_cons.1 hm with e | e
                · rw [e]; simp
                · simp [e]
              · rw [HRen.out, (renL_step hlt HF.out.1).2 (k4 rfl)]; rfl)
            clear hc k1 k2 k3 k4 k5
            go_wp2
            go_ret
            exact HP.out
          · obtain ⟨t1, ht, hown⟩ := k5 rfl
            have HNN := Lib.hid (HST.out w1 c1 t1 hc k1 k2 k3 ht hown)
            clear hc k1 k2 k3 k4 k5 ht hown
            go_wp2
            go_roundw
            case rel => exact ⟨j + 1, by omega, by go_num, HNN.out⟩
            case measure => simp [intOf]; omega
        · obtain rfl : j = l.length := by omega
          have HP := Lib.hid (show RenPost f b i c (.mk k n s r l) (g :: G) w (.returned (.bool true)) wr from by
            obtain ⟨cj, l1, G1, H, d1, d2, d3, d4, d5, d6⟩ := HN.out.rows
            rw [List.drop_of_length_le (Nat.le_refl _)] at d5
            obtain rfl : H = [] := d5
            rw [List.take_length] at d3
            have hl1 := renL_len f _ _ d3
            have hb1 := HBN.out
            refine ⟨true, c, rfl, HN.out.chg, HN.out.blk, rfl, fun _ _ => rfl, (fun h => by cases h), fun _ => ⟨.mk k n s r l1, by rw [HRen.out, d3]; rfl, ?_⟩⟩
            rw [HR.out]
            refine ⟨by rw [hl1]; exact hb1, .inr ⟨g, cap, cj, G1, ?_, by omega, by rw [hl1]; exact HE3.out.1, ?_, d1, d2, by rw [d6]; simp, d4⟩⟩
            · rw [hl1]; rfl
            · exact HE3.out.2)
          go_wp2
          go_ret
          exact HP.out
end Go.Proofs.Ytckgmdlacaiacaa
