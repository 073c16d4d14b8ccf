/-
  The statements' own: spoil writes over what is one's own, and nothing else.
-/
import Derived.Test.YtckgmdlacaiacaaKept
namespace Go.Proofs.Ytckgmdlacaiacaa
open Go.RowKit Go.Shelf
attribute [local go_sem] Oper.semAt_some

/-- Nothing that was there has turned but for the blocks of F. -/
structure Chg (F : List Nat) (w W : World) : Prop where
  os : W.os = w.os
  tape : W.tape = w.tape
  output : W.output = w.output
  size : w.heap.size ≤ W.heap.size
  block : ∀ k, k < w.heap.size → k ∉ F → W.heap[k]? = w.heap[k]?
namespace Chg
variable {F : List Nat} {w W V : World}
theorem refl (F : List Nat) (w : World) : Chg F w w := ⟨rfl, rfl, rfl, Nat.le_refl _, fun _ _ _ => rfl⟩
theorem trans (h : Chg F w W) (k : Chg F W V) : Chg F w V := ⟨k.os.trans h.os, k.tape.trans h.tape, k.output.trans h.output, Nat.le_trans h.size k.size, fun i hi hf => (k.block i (Nat.lt_of_lt_of_le hi h.size) hf).trans (h.block i hi hf)⟩
theorem mono {G : List Nat} (h : Chg F w W) (hs : ∀ g ∈ F, g ∈ G) : Chg G w W := ⟨h.os, h.tape, h.output, h.size, fun i hi hf => h.block i hi (fun hm => hf (hs i hm))⟩
theorem of_below (h : Below w.heap.size w W) : Chg F w W := ⟨h.os, h.tape, h.output, h.size, fun i hi _ => h.block i hi⟩
theorem behind (h : Chg F w W) (hb : Below W.heap.size W V) : Chg F w V := h.trans (of_below hb)
theorem set (h : Chg F w W) {a : Addr} (ha : a.block ∈ F ∨ w.heap.size ≤ a.block) (v : Value) : Chg F w (W.setCell a v) :=
  ⟨h.os, h.tape, h.output, by rw [World.size_setCell]; exact h.size, fun i hi hf => (heap_setCell_other W a i v (fun e => by subst e; rcases ha with ha | ha; exact hf ha; omega)).trans (h.block i hi hf)⟩
theorem drew (h : Chg F w W) : Chg F w W.drew := ⟨h.os, h.tape, h.output, h.size, h.block⟩
theorem grown {row : Option Nat} (h : Chg F w W) (hg : W.grownBy V row) (hr : ∀ r, row = some r → r ∈ F ∨ w.heap.size ≤ r) : Chg F w V :=
  ⟨hg.os.trans h.os, hg.tape.trans h.tape, hg.output.trans h.output, Nat.le_trans h.size hg.size, fun i hi hf => (hg.block i (Nat.lt_of_lt_of_le hi h.size) (fun e => by rcases hr i e.symm with hm | hm; exact hf hm; omega)).trans (h.block i hi hf)⟩
/-- What all lies behind B has left all below B as it was. -/
theorem to_below {B : Nat} (h : Chg F w W) (hB : B ≤ w.heap.size) (hF : ∀ g ∈ F, B ≤ g) : Below B w W := ⟨h.os, h.tape, h.output, h.size, fun i hi => h.block i (by omega) (fun hm => by have := hF i hm; omega)⟩
end Chg

namespace VT
mutual
/-- What spoil counts. -/
def sp : VT → Nat
  | .mk _ _ _ _ l => spL l + (l.length + 5)
def spL : List VT → Nat
  | [] => 0
  | t :: ts => sp t + spL ts
end
theorem spL_append : ∀ (l m : List VT), spL (l ++ m) = spL l + spL m
  | [], m => by simp [spL]
  | t :: ts, m => by simp only [List.cons_append, spL, spL_append ts m]; omega
theorem sp_bound : ∀ (t : VT), sp t + 1 ≤ 6 * parts t := by
  refine VT.ind fun k n s r l ih => ?_
  have key : ∀ (l' : List VT), (∀ t ∈ l', t ∈ l) → spL l' + l'.length ≤ 6 * partsL l' := by
    intro l'
    induction l' with
    | nil => intro _; show 0 + 0 ≤ 6 * 0; omega
    | cons t ts iht =>
      intro hm
      have h1 := ih t (hm t List.mem_cons_self)
      have h2 := iht (fun u hu => hm u (List.mem_cons_of_mem _ hu))
      show sp t + spL ts + (ts.length + 1) ≤ 6 * (parts t + partsL ts)
      omega
  have := key l (fun _ h => h)
  show spL l + (l.length + 5) + 1 ≤ 6 * (1 + partsL l)
  omega
theorem spL_bound (l : List VT) : spL l + l.length ≤ 6 * partsL l := by
  have := sp_bound (.mk 0 0 ⟨#[]⟩ 0 l)
  have h1 : sp (.mk 0 0 ⟨#[]⟩ 0 l) = spL l + (l.length + 5) := rfl
  have h2 : parts (.mk 0 0 ⟨#[]⟩ 0 l) = 1 + partsL l := rfl
  omega
end VT

/-- While spoil goes over the parts. -/
structure SpRun (k : Nat) (n : Int) (s : ByteArray) (r : Int) (l : List VT) (AL : Option Addr) (cap : Nat) (F : List Nat) (w : World) (j : Nat) (W : World) : Prop where
  chg : Chg F w W
  box : Five W w.heap.size (.int .u8 (k : Int)) (.int .i64 n) (.string s) (.slice AL l.length cap) (.int .i64 r)
  nil : l.length = 0 → AL = none ∧ cap = 0
  rows : 0 < l.length → ∃ b c Gr, AL = some ⟨b, 0, none⟩ ∧ b ∈ F ∧ b < w.heap.size ∧ l.length ≤ cap ∧ cap ≤ maxLen ∧ W.heap[b]? = some (.cells c 26 (0, 0)) ∧ c.size = cap * 5 ∧ OwnL W c j (l.drop j) Gr ∧ Gr.Nodup ∧ b ∉ Gr ∧ ∀ g ∈ Gr, g ∈ F ∧ g < w.heap.size
theorem spRun_start {k : Nat} {n : Int} {s : ByteArray} {r : Int} {l : List VT} {v : Value} {F : List Nat} {w : World} (h : Own w (.mk k n s r l) v F) (hF : F.Nodup) (hlt : ∀ g ∈ F, g < w.heap.size) :
    ∃ AL cap, v = .agg #[.int .u8 (k : Int), .int .i64 n, .string s, .slice AL l.length cap, .int .i64 r] ∧ SpRun k n s r l AL cap F w 0 (w.alloc (.cells #[.int .u8 (k : Int), .int .i64 n, .string s, .slice AL l.length cap, .int .i64 r] 26)) := by
  obtain ⟨hb, ⟨rfl, rfl, rfl⟩ | ⟨b, cap, c, G, rfl, h1, h2, h3, h4, h5, rfl, h7⟩⟩ := h
  · exact ⟨none, 0, rfl, Chg.of_below ((Below.refl _ w).alloc (Nat.le_refl _) _), Five.new w _ _ _ _ _, fun _ => ⟨rfl, rfl⟩, fun h => absurd h (Nat.lt_irrefl _)⟩
  · have hbw := hlt b List.mem_cons_self
    refine ⟨_, cap, rfl, Chg.of_below ((Below.refl _ w).alloc (Nat.le_refl _) _), Five.new w _ _ _ _ _, fun h => by omega, fun _ => ⟨b, c, G, rfl, List.mem_cons_self, hbw, h2, h3, (heap_alloc_old _ _ hbw).trans h4, h5, ?_, (List.nodup_cons.1 hF).2, (List.nodup_cons.1 hF).1, fun g hg => ⟨List.mem_cons_of_mem _ hg, hlt g (List.mem_cons_of_mem _ hg)⟩⟩⟩
    rw [List.drop_zero]
    exact OwnL.same (fun g hg => heap_alloc_old _ _ (hlt g (List.mem_cons_of_mem _ hg))) (fun _ _ _ => rfl) h7
/-- The j-th part, as it lies now. -/
theorem SpRun.part {k : Nat} {n : Int} {s : ByteArray} {r : Int} {l : List VT} {AL : Option Addr} {cap : Nat} {F : List Nat} {w : World} {j : Nat} {W : World} (h : SpRun k n s r l AL cap F w j W) (hj : j < l.length) :
    ∃ b c Ga Gb A' cap', AL = some ⟨b, 0, none⟩ ∧ b ∈ F ∧ b < w.heap.size ∧ l.length ≤ cap ∧ cap ≤ maxLen ∧ W.heap[b]? = some (.cells c 26 (0, 0)) ∧ c.size = cap * 5 ∧
      rowOf c j = #[.int .u8 (l[j].k : Int), .int .i64 l[j].n, .string l[j].s, .slice A' l[j].l.length cap', .int .i64 l[j].r] ∧
      Own W l[j] (.agg #[.int .u8 (l[j].k : Int), .int .i64 l[j].n, .string l[j].s, .slice A' l[j].l.length cap', .int .i64 l[j].r]) Ga ∧ OwnL W c (j + 1) (l.drop (j + 1)) Gb ∧
      (Ga ++ Gb).Nodup ∧ b ∉ Ga ++ Gb ∧ ∀ g ∈ Ga ++ Gb, g ∈ F ∧ g < w.heap.size := by
  obtain ⟨b, c, Gr, h1, h2, h3, h4, h5, h6, h7, h8, h9, h10, h11⟩ := h.rows (by omega)
  rw [List.drop_eq_getElem_cons hj] at h8
  obtain ⟨Ga, Gb, rfl, g1, g2⟩ := h8
  obtain ⟨A', cap', e⟩ := g1.cells
  have e' : rowOf c j = _ := Value.agg.inj e
  rw [e] at g1
  exact ⟨b, c, Ga, Gb, A', cap', h1, h2, h3, h4, h5, h6, h7, e', g1, g2, h9, h10, h11⟩
theorem spRun_step {k : Nat} {n : Int} {s : ByteArray} {r : Int} {l : List VT} {AL : Option Addr} {cap : Nat} {F : List Nat} {w W W1 W2 : World} {j b : Nat} {c : Array Value} {Ga Gb : List Nat} (h : SpRun k n s r l AL cap F w j W) (_hj : j < l.length)
    (h1 : AL = some ⟨b, 0, none⟩) (h2 : b ∈ F) (h3 : b < w.heap.size) (h4 : l.length ≤ cap) (h5 : cap ≤ maxLen) (h6 : W.heap[b]? = some (.cells c 26 (0, 0))) (h7 : c.size = cap * 5) (h8 : OwnL W c (j + 1) (l.drop (j + 1)) Gb)
    (h9 : (Ga ++ Gb).Nodup) (h10 : b ∉ Ga ++ Gb) (h11 : ∀ g ∈ Ga ++ Gb, g ∈ F ∧ g < w.heap.size) (hc : Chg Ga W W1) (hb : Below W1.heap.size W1.drew W2) (v0 v1 v2 v3 v4 : Value) :
    SpRun k n s r l AL cap F w (j + 1) (((((W2.setCell ⟨b, j * 5, none⟩ v0).setCell ⟨b, j * 5 + 1, none⟩ v1).setCell ⟨b, j * 5 + 2, none⟩ v2).setCell ⟨b, j * 5 + 3, none⟩ v3).setCell ⟨b, j * 5 + 4, none⟩ v4) := by
  have hsW := h.chg.size
  have hs1 := hc.size
  have same : ∀ g, g < W.heap.size → g ∉ Ga → g ≠ b → (((((W2.setCell ⟨b, j * 5, none⟩ v0).setCell ⟨b, j * 5 + 1, none⟩ v1).setCell ⟨b, j * 5 + 2, none⟩ v2).setCell ⟨b, j * 5 + 3, none⟩ v3).setCell ⟨b, j * 5 + 4, none⟩ v4).heap[g]? = W.heap[g]? := fun g g1 g2 g3 =>
    (heap_setRow_other _ _ _ _ _ g3).trans ((hb.block g (by omega)).trans (hc.block g g1 g2))
  have hbx := h.box.lt
  refine ⟨?_, ⟨(same _ hbx (fun hm => by have := (h11 _ (List.mem_append_left _ hm)).2; omega) (by omega)).trans h.box.row⟩, h.nil, fun _ => ⟨b, setRow c j v0 v1 v2 v3 v4, Gb, h1, h2, h3, h4, h5, ?_, by rw [setRow_size, h7], ?_, (List.nodup_append.1 h9).2.1, fun hm => h10 (List.mem_append_right _ hm), fun g hg => h11 g (List.mem_append_right _ hg)⟩⟩
  · have c1 : Chg F w W2 := (h.chg.trans (hc.mono fun g hg => (h11 g (List.mem_append_left _ hg)).1)).drew.behind hb
    exact ((((c1.set (a := ⟨b, j * 5, none⟩) (.inl h2) _).set (a := ⟨b, j * 5 + 1, none⟩) (.inl h2) _).set (a := ⟨b, j * 5 + 2, none⟩) (.inl h2) _).set (a := ⟨b, j * 5 + 3, none⟩) (.inl h2) _).set (a := ⟨b, j * 5 + 4, none⟩) (.inl h2) _
  · exact heap_setRow _ _ _ _ _ ((hb.block b (by omega)).trans ((hc.block b (by omega) (fun hm => h10 (List.mem_append_left _ hm))).trans h6))
  · refine OwnL.same (fun g hg => same g (by have := (h11 g (List.mem_append_right _ hg)).2; omega) (fun hm => (List.nodup_append.1 h9).2.2 g hm g hg rfl) (fun e => h10 (by rw [← e]; exact List.mem_append_right _ hg))) (fun q hq _ => rowOf_other _ _ _ _ _ _ (by omega)) h8

theorem sp_mid {k : Nat} {n : Int} {s : ByteArray} {r : Int} {l : List VT} {AL : Option Addr} {cap : Nat} {F : List Nat} {w W W1 : World} {j b : Nat} {c : Array Value} {Ga Gb : List Nat} (h : SpRun k n s r l AL cap F w j W) (h3 : b < w.heap.size)
    (h6 : W.heap[b]? = some (.cells c 26 (0, 0))) (h10 : b ∉ Ga ++ Gb) (h11 : ∀ g ∈ Ga ++ Gb, g ∈ F ∧ g < w.heap.size) (hc : Chg Ga W W1) :
    Five W1 w.heap.size (.int .u8 (k : Int)) (.int .i64 n) (.string s) (.slice AL l.length cap) (.int .i64 r) ∧ W1.heap[b]? = some (.cells c 26 (0, 0)) :=
  ⟨⟨(hc.block _ h.box.lt (fun hm => by have := (h11 _ (List.mem_append_left _ hm)).2; omega)).trans h.box.row⟩, (hc.block b (by have := h.chg.size; omega) (fun hm => h10 (List.mem_append_left _ hm))).trans h6⟩
theorem sp_after {B b j : Nat} {c0 c1 c2 c3 c4 : Value} {c : Array Value} {W1 W2 : World} (h : Five W1 B c0 c1 c2 c3 c4) (h6 : W1.heap[b]? = some (.cells c 26 (0, 0))) (hj : j * 5 + 4 < c.size) (hb : Below W1.heap.size W1.drew W2) :
    W2.cell? ⟨B, 3, none⟩ = some c3 ∧ (∃ u, W2.cell? ⟨b, j * 5, none⟩ = some u) ∧ (∃ u, W2.cell? ⟨b, j * 5 + 1, none⟩ = some u) ∧ (∃ u, W2.cell? ⟨b, j * 5 + 2, none⟩ = some u) ∧ (∃ u, W2.cell? ⟨b, j * 5 + 3, none⟩ = some u) ∧ (∃ u, W2.cell? ⟨b, j * 5 + 4, none⟩ = some u) ∧ (∀ i, W2.frozen? ⟨b, i, none⟩ = false) := by
  have hlt := (Array.getElem?_eq_some_iff.1 h6).1
  have hrow : W2.heap[b]? = some (.cells c 26 (0, 0)) := (hb.block b hlt).trans h6
  obtain ⟨a0, a1, a2, a3, a4⟩ := row_there (i := j) hrow hj
  exact ⟨(h.drew.below hb h.lt).e3, a0, a1, a2, a3, a4, froz_there hrow⟩

/-- While spoil lets a list grow. -/
def SpGrow (l : List VT) (F : List Nat) (w : World) (i : Nat) (lv : Value) (W : World) : Prop :=
  Chg F w W ∧ ∃ A c xs, lv = .slice A (l.length + i) c ∧ W.ownsRow 0 26 5 (.slice A (l.length + i) c) (l.length + i) xs ∧ ∀ q, (Value.slice A (l.length + i) c).ownBlock = some q → q ∈ F ∨ w.heap.size ≤ q
theorem spGrow_start {k : Nat} {n : Int} {s : ByteArray} {r : Int} {l : List VT} {AL : Option Addr} {cap : Nat} {F : List Nat} {w : World} {W : World} (h : SpRun k n s r l AL cap F w l.length W) : SpGrow l F w 0 (.slice AL l.length cap) W := by
  by_cases h0 : l.length = 0
  · obtain ⟨rfl, rfl⟩ := h.nil h0
    refine ⟨h.chg, none, 0, [], by rw [h0], ?_, fun q hq => by simp [Value.ownBlock] at hq⟩
    rw [h0]
    exact World.ownsRow_nil _ _ _ _
  · obtain ⟨b, c, Gr, rfl, h2, h3, h4, h5, h6, h7, _⟩ := h.rows (by omega)
    refine ⟨h.chg, _, cap, c.toList.take ((l.length + 0) * 5), rfl, ⟨?_, .inr ⟨b, cap, c, rfl, Nat.zero_le _, h6, h4, h5, h7, rfl⟩⟩, fun q hq => ?_⟩
    · have hcl : c.toList.length = c.size := Array.length_toList
      rw [List.length_take]; omega
    · obtain rfl : b = q := by simpa [Value.ownBlock] using hq
      exact .inl h2
theorem grownBy_of_below {w W : World} (h : Below w.heap.size w W) : w.grownBy W none := ⟨h.os, h.tape, h.output, h.size, fun k hk _ => h.block k hk⟩
theorem spGrow_step {l : List VT} {F : List Nat} {w W W1 W2 : World} {i : Nat} {A : Option Addr} {c : Nat} {v2 : Value} {xs news : List Value} {o : Obj} (hc : Chg F w W) (hq : ∀ q, (Value.slice A (l.length + i) c).ownBlock = some q → q ∈ F ∨ w.heap.size ≤ q) (hb : Below W.heap.size W W1)
    (hown : W2.ownsRow 0 26 5 v2 (l.length + i + 1) (xs ++ news)) (hg : (W1.alloc o).grownBy W2 (Value.slice A (l.length + i) c).ownBlock) (hat : v2.ownBlock = (Value.slice A (l.length + i) c).ownBlock ∨ v2.ownBlock = some (W1.alloc o).heap.size) :
    SpGrow l F w (i + 1) v2 W2 := by
  rcases hown.2 with ⟨_, h0⟩ | ⟨g, cap, cur, rfl, _⟩
  · omega
  have hs := hc.size
  have hs1 := hb.size
  have hc1 : Chg F w (W1.alloc o) := hc.behind (hb.trans (((Below.refl W1.heap.size W1).alloc (Nat.le_refl _) o).mono hs1))
  refine ⟨hc1.grown hg hq, _, cap, xs ++ news, rfl, hown, fun q h => ?_⟩
  rcases hat with hat | hat
  · exact hq q (hat.symm.trans h)
  · rw [show (Value.slice (some ⟨g, 0, none⟩) (l.length + (i + 1)) cap).ownBlock = some (W1.alloc o).heap.size from hat] at h
    have : (W1.alloc o).heap.size = q := Option.some.inj h
    rw [World.size_alloc] at this
    exact .inr (by omega)

set_option maxRecDepth 100000 in
set_option maxHeartbeats 8000000 in
theorem spoil_w : ∀ (t : VT) (v : Value) (F : List Nat) (w : World), Own w t v F → F.Nodup → (∀ g ∈ F, g < w.heap.size) → t.parts ≤ 4294967295 →
    Calls Try.prog 30 #[v] w fun e w' => e = .returned (.int .i64 (t.sp : Int)) ∧ Chg F w w' := by
  refine VT.ind fun k n s r l ih v F w h hF hlt hparts => ?_
  have hbnd := (Own.lies _ _ _ h).bnd
  obtain ⟨AL, cap, rfl, hst⟩ := spRun_start h hF hlt
  have hpar : VT.parts (.mk k n s r l) = 1 + VT.partsL l := rfl
  have hspe : VT.sp (.mk k n s r l) = VT.spL l + (l.length + 5) := rfl
  have hlen := VT.partsL_len l
  have hspb := VT.spL_bound l
  have IH := Lib.hid ih
  have HST := Lib.hid hst
  have HSP := Lib.hid hspe
  have hlen9 : l.length ≤ 4294967294 := by omega
  have HPar := Lib.hid (show VT.partsL l ≤ 4294967294 by omega)
  have hk : k < 256 := hbnd.k
  generalize VT.sp (.mk k n s r l) = SP at *
  clear ih h hparts hpar hst hbnd hspe hlen hspb
  obtain ⟨i0, hi, hz0, hz1, hz2⟩ := info_parts infoV
  go_enter Try.func30, Try.ntmps30
  go_wp2
  go_loopw [3, 4] (fun nv iv wr => ∃ j : Nat, j ≤ l.length ∧ iv = .int .i64 (j : Int) ∧ nv = .int .i64 (VT.spL (l.take j) : Int) ∧ SpRun k n s r l AL cap F w j wr) (fun _ iv _ => l.length - (intOf iv).toNat)
  case atStart => exact ⟨0, Nat.zero_le _, rfl, rfl, HST.out⟩
  case round =>
    obtain ⟨j, hj, rfl, rfl, hrun⟩ := hrel
    clear HST
    have x3 := hrun.box.e3
    by_cases hlt : j < l.length
    · obtain ⟨b, c, Ga, Gb, A', cap', rfl, d2, d3, d4, d5, d6, d7, d8, d9, d10, d11, d12, d13⟩ := hrun.part hlt
      have hrsz := hrun.chg.size
      obtain ⟨g0, g1, g2, g3, g4⟩ := (cells_of_row d6 (by omega) d8).get
      have HH := Lib.hid (IH.out l[j] (List.getElem_mem hlt) _ Ga wr d9 (List.nodup_append.1 d11).1 (fun g hg => Nat.lt_of_lt_of_le (d13 g (List.mem_append_left _ hg)).2 hrsz) (Nat.le_trans (VT.parts_le hlt) (by have := HPar.out; omega)))
      have HS := Lib.hid (fun W1 W2 => @spRun_step k n s r l _ cap F w wr W1 W2 j b c Ga Gb hrun hlt rfl d2 d3 d4 d5 d6 d7 d10 d11 d12 d13)
      have HD := Lib.hid (And.intro hrun (And.intro d6 (And.intro d7 (And.intro d12 d13))))
      have hsum : VT.spL (l.take (j + 1)) = VT.spL (l.take j) + l[j].sp := by rw [take_get hlt, VT.spL_append]; rfl
      have hsb : VT.spL (l.take j) + l[j].sp ≤ 25769803770 := by
        have := VT.spL_bound (l.take (j + 1))
        have h2 : VT.partsL (l.take (j + 1)) ≤ VT.partsL l := by
          have := VT.partsL_append (l.take (j + 1)) (l.drop (j + 1))
          rw [List.take_append_drop] at this
          omega
        have := HPar.out
        omega
      have Hsum := Lib.hid hsum
      have hcj : j < cap := by omega
      clear hrun d6 d7 d8 d9 d10 d11 d12 d13 hsum
      generalize VT.spL (l.take j) = N at *
      generalize l[j].sp = N' at *
      go_wp2_with fail
      refine HH.out.mono ?_
      rintro e w1 ⟨rfl, hc⟩
      obtain ⟨hX, hrow⟩ := sp_mid HD.out.1 d3 HD.out.2.1 HD.out.2.2.2.1 HD.out.2.2.2.2 hc
      have y3 := hX.e3
      have HC := Lib.hid (And.intro hc (And.intro hX hrow))
      have hcs : j * 5 + 4 < c.size := by have := HD.out.2.2.1; omega
      clear hc hX hrow g0 g1 g2 g3 g4 x3
      go_wp2
      go_region_with (first | (go_at_call 43; refine (num_b (-5) _ (by omega)).mono ?_; rintro e w' ⟨rfl, hb⟩; obtain ⟨z3, ⟨u0, y0⟩, ⟨u1, y1⟩, ⟨u2, y2⟩, ⟨u3, yy3⟩, ⟨u4, y4⟩, fz⟩ := sp_after HC.out.2.1 HC.out.2.2 hcs hb; have z0 := fz (j * 5); have z1 := fz (j * 5 + 1); have z2 := fz (j * 5 + 2); have zz3 := fz (j * 5 + 3); have z4 := fz (j * 5 + 4); have HF := Lib.hid hb; clear hb fz))
      all_goals
        have HN := Lib.hid (HS.out w1 w' HC.out.1 HF.out (.int .u8 1) (.int .i64 (-5)) (.string ⟨#[]⟩) (.slice none 0 0) (.int .i64 0))
        go_wp2
        go_roundw
        case rel => exact ⟨j + 1, by omega, by go_num, by rw [Hsum.out]; exact congrArg (Value.int .i64) (by omega), HN.out⟩
        case measure => simp [intOf]; omega
    · obtain rfl : j = l.length := by omega
      rw [List.take_length]
      have HR := Lib.hid hrun
      have HP2 := VT.spL_bound l
      have HP3 := HPar.out
      clear hrun
      have HG := Lib.hid (spGrow_start HR.out)
      clear HR
      go_wp2
      go_loopw [5, 6] (fun lv iv wr => ∃ i : Nat, i ≤ 5 ∧ iv = .int .i64 (i : Int) ∧ SpGrow l F w i lv wr) (fun _ iv _ => 5 - (intOf iv).toNat)
      case atStart => exact ⟨0, by omega, rfl, HG.out⟩
      case round =>
        obtain ⟨i, hi5, rfl, hc, A, c, xs, rfl, hown, hq⟩ := hrel
        clear HG
        have HC := Lib.hid (And.intro hc (And.intro hown hq))
        clear hc hown hq
        by_cases hlt5 : i < 5
        · go_wp2_with fail
          refine (num_b (-6) _ (by omega)).mono ?_
          rintro e w' ⟨rfl, hb⟩
          have HB := Lib.hid hb
          clear hb
          go_wp2_with (at_builtin; refine wpList_append_own_at _ rfl (.tmp 33) (.tmp 35) 23 rfl 0 26 i0 (.agg #[.int .u8 0, .int .i64 0, .string ⟨#[]⟩, .slice none 0 0, .int .i64 0]) 5 64 Try.underlying23 hi hz0 hz1 hz2 rfl (by decide) _ _ _ rfl ((HC.out.2.1.kept (grownBy_of_below HB.out) (Classical.em _)).alloc _) ⟨_, 0, none⟩ 1 1 [.int .u8 1, .int .i64 (-6), .string ⟨#[]⟩, .slice none 0 0, .int .i64 0] rfl rfl (news_five (Five.new _ _ _ _ _ _)) (by simp [Value.oneCell']) (by unfold maxLen; omega) (by omega) (by simp) ?_; intro v2 w2 hown2 hgrow2 hnil2 hat2; clear hnil2)
          have HN := Lib.hid (spGrow_step HC.out.1 HC.out.2.2 HB.out hown2 hgrow2 hat2)
          clear hown2 hgrow2 hat2
          go_roundw
          case rel => exact ⟨i + 1, by omega, by go_num, HN.out⟩
          case measure => simp [intOf]; omega
        · obtain rfl : i = 5 := by omega
          go_wp2
          go_ret
          exact ⟨by rw [HSP.out]; exact congrArg (fun z => Ending.returned (.int .i64 z)) (by omega), HC.out.1⟩
end Go.Proofs.Ytckgmdlacaiacaa
