/-
  References that are appended from a row that came in; rows of references with a mark behind.
-/
import Derived.Laws.AppendOwnNone
import Derived.Test.YtckgmdlacaiacaaRRenV
import Derived.Test.YtckgmdlacaiacaaLooks0
namespace Go.Proofs.Ytckgmdlacaiacaa
open Go.RowKit Go.Shelf
attribute [local go_sem] Oper.semAt_some

theorem wpList_append_refs {ops : Array Oper} {rest : List Oper} {o : Oper} {a : Act} {w : World} {Q : Exit → Act → World → Prop} (hgd : o.guard = none) (s x : Operand) (base : Nat)
    (ho : o.op = .call { callee := .builtin .append, args := #[s, x], argTypes := #[30, 30] })
    (v : Value) (n : Nat) (xs : List Value) (hs : a.eval s = v) (hown : w.ownsRow base 24 1 v n xs) (X : Option Addr) (l : List Int) (c B : Nat) (hx : a.eval x = .slice X l.length c) (hX : X = none → c = 0) (hl : IntsAt w B X l)
    (h63 : n + l.length ≤ 4294967296) (hbase : base ≤ w.heap.size)
    (h : ∀ v' w', w'.ownsRow base 24 1 v' (n + l.length) (xs ++ i64s l) → w.grownBy w' v.ownBlock → (v'.ownBlock = v.ownBlock ∨ v'.ownBlock = some w.heap.size) → wpList Try.prog ops Q rest (a.put o.dst v') w') :
    wpList Try.prog ops Q (o :: rest) a w := by
  obtain ⟨i0, hi, hz0, hz1, hz2⟩ := info_parts infoR
  cases X with
  | none =>
    obtain rfl := hX rfl
    have h0 : l = [] := by
      rcases Nat.eq_zero_or_pos l.length with e | e
      · exact List.eq_nil_of_length_eq_zero e
      · obtain ⟨b, off, h1, _⟩ := hl 0 e
        cases h1
    subst h0
    refine wpList_append_own_none hgd s x 30 ho base 24 i0 1 Try.underlying30 hi v n xs hs hown hx ?_
    refine h v w ?_ (World.grownBy.refl _ _) (.inl rfl)
    simpa [i64s] using hown
  | some ad =>
    refine wpList_append_own_at w hgd s x 30 ho base 24 i0 (.int .i64 0) 1 8 Try.underlying30 hi hz0 hz1 hz2 rfl (by decide) v n xs hs hown ad l.length c (i64s l) hx (by rw [i64s_len, Nat.mul_one]) (fun j u hu => ?_) (by intro u hu; obtain ⟨x, _, rfl⟩ := List.mem_map.1 hu; rfl) (by unfold maxLen; omega) (by omega) hbase (fun v' w' h1 h2 _ h4 => h v' w' h1 h2 h4)
    have hj : j < l.length := by
      have := (List.getElem?_eq_some_iff.1 hu).1
      rwa [i64s_len] at this
    obtain ⟨b, off, h1, h2, h3⟩ := hl j hj
    cases h1
    have hu2 : u = .int .i64 l[j] := by
      have : (i64s l)[j]? = some (.int .i64 l[j]) := by simp [i64s, hj]
      rw [this] at hu
      exact (Option.some.inj hu).symm
    subst hu2
    have hadd : (⟨b, off, none⟩ : Addr).add j = ⟨b, off + j, none⟩ := by
      unfold Addr.add
      split <;> simp_all
    rw [hadd]
    exact h3
/-- A row of references with a mark behind it, in a block between two marks of the heap. -/
structure RowM (lo hi g cap : Nat) (l : List Int) (x : Int) (W : World) : Prop where
  row : RowF lo hi (some ⟨g, 0, none⟩) (l.length + 1) (fun j => (l ++ [x]).getD j 0) W
  room : l.length + 1 ≤ cap
  le : cap ≤ maxLen
theorem RowM.ints {lo hi g cap : Nat} {l : List Int} {x : Int} {W : World} (h : RowM lo hi g cap l x W) : IntsAt W hi (some ⟨g, 0, none⟩) l := fun i hi' => by
  obtain ⟨g', e, h1, h2, h3, h4⟩ := h.row.cell (j := i) (by omega)
  cases e
  refine ⟨g, 0, rfl, h2, ?_⟩
  rw [Nat.zero_add, h3]
  simp [List.getElem?_append_left hi', hi']
theorem RowM.mark {lo hi g cap : Nat} {l : List Int} {x : Int} {W : World} (h : RowM lo hi g cap l x W) : W.cell? ⟨g, l.length, none⟩ = some (.int .i64 x) := by
  obtain ⟨g', e, h1, h2, h3, h4⟩ := h.row.cell (j := l.length) (by omega)
  cases e
  rw [h3]
  simp
theorem RowM.at_ {lo hi g cap : Nat} {l : List Int} {x : Int} {W : World} (h : RowM lo hi g cap l x W) {j : Nat} (hj : j < l.length) : W.cell? ⟨g, j, none⟩ = some (.int .i64 l[j]) := by
  obtain ⟨g', e, h1, h2, h3, h4⟩ := h.row.cell (j := j) (by omega)
  cases e
  rw [h3]
  simp [List.getElem?_append_left hj, hj]
theorem RowM.step {lo hi g cap k : Nat} {l : List Int} {x : Int} {W W' : World} (h : RowM lo hi g cap l x W) (hb : Below k W W') (hk : hi ≤ k) : RowM lo hi g cap l x W' := ⟨h.row.step hb hk, h.room, h.le⟩
theorem RowM.chg {lo hi g cap : Nat} {l : List Int} {x : Int} {F : List Nat} {W W' : World} (h : RowM lo hi g cap l x W) (hc : Chg F W W') (hF : ∀ g ∈ F, hi ≤ g) (hh : hi ≤ W.heap.size) : RowM lo hi g cap l x W' :=
  ⟨h.row.same (fun q h1 h2 => hc.block q (by omega) (fun hm => by have := hF q hm; omega)), h.room, h.le⟩
theorem rowM_of {w : World} {base : Nat} {v : Value} {l : List Int} {x : Int} (h : w.ownsRow base 24 1 v (l.length + 1) (i64s l ++ [.int .i64 x])) : ∃ g cap, v = .slice (some ⟨g, 0, none⟩) (l.length + 1) cap ∧ RowM base w.heap.size g cap l x w := by
  obtain ⟨g, cap, rfl⟩ := owns_form h (by omega)
  have e : i64s l ++ [.int .i64 x] = i64s (l ++ [x]) := by simp [i64s]
  rw [e] at h
  have hc := h
  rw [show l.length + 1 = (l ++ [x]).length by simp] at h
  obtain ⟨A, cap', hA, hr⟩ := rowF_of h
  simp only [Value.slice.injEq] at hA
  obtain ⟨rfl, _, rfl⟩ := hA
  refine ⟨g, cap, rfl, by simpa using hr, ?_, ?_⟩
  · rcases hc.2 with ⟨h0, _⟩ | ⟨g', cap', cur, h0, h1, h2, h3, h4, _⟩
    · cases h0
    · simp only [Value.slice.injEq] at h0
      omega
  · rcases hc.2 with ⟨h0, _⟩ | ⟨g', cap', cur, h0, h1, h2, h3, h4, _⟩
    · cases h0
    · simp only [Value.slice.injEq] at h0
      omega
end Go.Proofs.Ytckgmdlacaiacaa
