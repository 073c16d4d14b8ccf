/-
  value.With: a spot in a value of one's own, and what comes of the value when the spot is written over.
-/
import Derived.Test.YtckgmdlacaiacaaLaid
namespace Go.Proofs.Ytckgmdlacaiacaa
open Go.RowKit Go.Shelf

theorem setT_app : ∀ (a : List Int) (t s u : VT) (b : List Int), atT t a = some s → setT u t (a ++ b) = setT (setT u s b) t a
  | [], t, s, u, b, h => by
    simp only [atT, Option.some.injEq] at h
    subst h
    rw [List.nil_append, setT_nil]
  | x :: a, t, s, u, b, h => by
    obtain ⟨i, rfl, hi⟩ := atT_some (t := t) (i := x) (ps := a) (by rw [h]; simp)
    obtain ⟨k, n, st, r, l⟩ := t
    have hi2 : i < l.length := hi
    rw [atT_cons hi] at h
    rw [List.cons_append, setT_cons hi2, setT_cons hi2, setT_app a l[i] s u b h]
theorem atT_app : ∀ (a : List Int) (t : VT) (b : List Int), atT t (a ++ b) = (atT t a).bind fun s => atT s b
  | [], t, b => by simp [atT]
  | x :: a, t, b => by
    by_cases h : 0 ≤ x ∧ x < t.l.length
    · rw [List.cons_append, atT, atT, dif_pos h, dif_pos h, atT_app a]
    · rw [List.cons_append, atT, atT, dif_neg h, dif_neg h]; rfl
/-- A box of five cells that is one's own. -/
def BoxOwn (W : World) (B : Nat) (t : VT) (F : List Nat) : Prop := ∃ c, W.heap[B]? = some (.cells c 26 (0, 0)) ∧ c.size = 5 ∧ Own W t (.agg (rowOf c 0)) F
theorem OwnL.split {W : World} {c : Array Value} : ∀ {i : Nat} {l : List VT} {G : List Nat}, OwnL W c i l G → ∀ q (hq : q < l.length), ∃ G1 Hq G2, G = G1 ++ (Hq ++ G2) ∧ OwnL W c i (l.take q) G1 ∧ Own W l[q] (.agg (rowOf c (i + q))) Hq ∧ OwnL W c (i + q + 1) (l.drop (q + 1)) G2
  | _, [], _, _, q, hq => absurd hq (Nat.not_lt_zero _)
  | i, t :: ts, G, ⟨G1, G2, e, h1, h2⟩, 0, _ => ⟨[], G1, G2, e, rfl, h1, h2⟩
  | i, t :: ts, G, ⟨G1, G2, e, h1, h2⟩, q + 1, hq => by
    obtain ⟨K1, Hq, K2, e2, k1, k2, k3⟩ := OwnL.split h2 q (by simpa using hq)
    refine ⟨G1 ++ K1, Hq, K2, by rw [e, e2, List.append_assoc], ⟨G1, K1, rfl, h1, k1⟩, ?_, ?_⟩
    · rw [show i + (q + 1) = i + 1 + q by omega]; exact k2
    · rw [show i + (q + 1) + 1 = i + 1 + q + 1 by omega]; exact k3
/-- What comes of the whole when the row i of block b is written over. -/
def Plug (lo BW : Nat) (t : VT) (ps : List Int) (b i : Nat) (c : Array Value) (Fs : List Nat) (W : World) : Prop :=
  ∀ (W' : World) (x : VT) (c' : Array Value) (Fx : List Nat), W'.heap[b]? = some (.cells c' 26 (0, 0)) → c'.size = c.size → (∀ q, q ≠ i → rowOf c' q = rowOf c q) → (∀ g, g < W.heap.size → g ≠ b → g ∉ Fs → W'.heap[g]? = W.heap[g]?) → W.heap.size ≤ W'.heap.size → Own W' x (.agg (rowOf c' i)) Fx → Fx.Nodup →
    (∀ g ∈ Fx, (g ∈ Fs ∨ W.heap.size ≤ g) ∧ g < W'.heap.size) → ∃ F, BoxOwn W' BW (setT x t ps) F ∧ F.Nodup ∧ ∀ g ∈ F, lo ≤ g ∧ g < W'.heap.size
/-- A spot: where a pointer into a value of one's own stands. -/
def Spot (lo BW : Nat) (t : VT) (ps : List Int) (b i : Nat) (s : VT) (W : World) : Prop :=
  atT t ps = some s ∧ ∃ c Fs, W.heap[b]? = some (.cells c 26 (0, 0)) ∧ i * 5 + 4 < c.size ∧ Own W s (.agg (rowOf c i)) Fs ∧ (b :: Fs).Nodup ∧ (∀ g ∈ b :: Fs, lo ≤ g ∧ g < W.heap.size) ∧ Plug lo BW t ps b i c Fs W
theorem Spot.start {lo BW : Nat} {t : VT} {W : World} {c : Array Value} {F : List Nat} (h : W.heap[BW]? = some (.cells c 26 (0, 0))) (hc : c.size = 5) (ho : Own W t (.agg (rowOf c 0)) F) (hn : (BW :: F).Nodup) (hlo : ∀ g ∈ BW :: F, lo ≤ g ∧ g < W.heap.size) : Spot lo BW t [] BW 0 t W := by
  refine ⟨rfl, c, F, h, by omega, ho, hn, hlo, fun W' x c' Fx h1 h2 _ _ h5 h6 h7 h8 => ⟨Fx, ⟨c', h1, by omega, by rw [setT_nil]; exact h6⟩, h7, fun g hg => ⟨?_, (h8 g hg).2⟩⟩⟩
  rcases (h8 g hg).1 with e | e
  · exact (hlo g (List.mem_cons_of_mem _ e)).1
  · have := (hlo BW List.mem_cons_self)
    omega
theorem Spot.cells {lo BW : Nat} {t : VT} {ps : List Int} {b i : Nat} {s : VT} {W : World} (h : Spot lo BW t ps b i s W) : ∃ A cap, RowAt W b (i * 5) #[.int .u8 (s.k : Int), .int .i64 s.n, .string s.s, .slice A s.l.length cap, .int .i64 s.r] ∧ s.l.length ≤ cap ∧ cap ≤ maxLen ∧ (0 < s.l.length → ∃ g, A = some ⟨g, 0, none⟩) := by
  obtain ⟨_, c, Fs, h1, h2, h3, _⟩ := h
  obtain ⟨k, n, st, r, l⟩ := s
  obtain ⟨hb, ⟨rfl, e, rfl⟩ | ⟨g, cap, cg, G, e, g1, g2, g3, g4, g5, rfl, g7⟩⟩ := h3
  · exact ⟨none, 0, cells_of_row h1 h2 (Value.agg.inj e), Nat.le_refl _, Nat.zero_le _, fun h => absurd h (Nat.lt_irrefl _)⟩
  · exact ⟨_, cap, cells_of_row h1 h2 (Value.agg.inj e), g2, g3, fun _ => ⟨g, rfl⟩⟩
/-- One step down. -/
theorem Spot.step {lo BW : Nat} {t : VT} {ps : List Int} {b i : Nat} {s : VT} {W : World} (h : Spot lo BW t ps b i s W) {q : Nat} (hq : q < s.l.length) {g cap : Nat} (hr : RowAt W b (i * 5) #[.int .u8 (s.k : Int), .int .i64 s.n, .string s.s, .slice (some ⟨g, 0, none⟩) s.l.length cap, .int .i64 s.r]) :
    Spot lo BW t (ps ++ [(q : Int)]) g q s.l[q] W := by
  obtain ⟨hat, c, Fs, h1, h2, h3, hn, hlo, hplug⟩ := h
  obtain ⟨k, n, st, r, l⟩ := s
  replace hq : q < l.length := hq
  have hrow := (cells_of_row h1 h2 rfl).get
  obtain ⟨hb, ⟨rfl, e, rfl⟩ | ⟨g', cap', cg, G, e, g1, g2, g3, g4, g5, rfl, g7⟩⟩ := h3
  · exact absurd hq (Nat.not_lt_zero _)
  have hgg : g' = g := by
    have h5 := (cells_of_row h1 h2 (Value.agg.inj e)).get.2.2.2.1
    rw [hr.get.2.2.2.1] at h5
    simp only [Option.some.injEq, Value.slice.injEq, Addr.mk.injEq, and_true] at h5
    exact h5.1.symm
  subst hgg
  obtain ⟨G1, Hq, G2, rfl, k1, k2, k3⟩ := g7.split q hq
  rw [Nat.zero_add] at k2 k3
  rw [List.nodup_cons] at hn
  obtain ⟨hbF, hn⟩ := hn
  rw [List.nodup_cons] at hn
  obtain ⟨hgF, hn⟩ := hn
  rw [List.nodup_append] at hn
  obtain ⟨n1, n2, n3⟩ := hn
  rw [List.nodup_append] at n2
  obtain ⟨n4, n5, n6⟩ := n2
  refine ⟨?_, cg, Hq, g4, by omega, k2, List.nodup_cons.2 ⟨fun hm => hgF (by simp [hm]), n4⟩, fun z hz => hlo z ?_, ?_⟩
  · rw [atT_app, hat]
    show atT _ [(q : Int)] = _
    rw [atT_cons (t := .mk k n st r l) hq]
    rfl
  · rcases List.mem_cons.1 hz with e | e
    · rw [e]; simp
    · simp [e]
  · intro W' x c' Fx p1 p2 p3 p4 p5 p6 p7 p8
    have old : ∀ z ∈ G1 ++ G2, W'.heap[z]? = W.heap[z]? ∧ z ∉ Fx ∧ z ≠ g' ∧ z < W.heap.size := by
      intro z hz
      have hzF : z ∈ g' :: (G1 ++ (Hq ++ G2)) := by
        rcases List.mem_append.1 hz with e | e <;> simp [e]
      have hzl := (hlo z (List.mem_cons_of_mem _ hzF)).2
      have hzg : z ≠ g' := fun e => hgF (by rw [← e]; rcases List.mem_append.1 hz with e | e <;> simp [e])
      have hzH : z ∉ Hq := fun hm => by
        rcases List.mem_append.1 hz with e | e
        · exact n3 z e z (by simp [hm]) rfl
        · exact n6 z hm z e rfl
      refine ⟨p4 z hzl hzg hzH, fun hm => ?_, hzg, hzl⟩
      rcases (p8 z hm).1 with e | e
      · exact hzH e
      · omega
    have hgx : g' ∉ Fx := fun hm => by
      rcases (p8 g' hm).1 with e | e
      · exact hgF (by simp [e])
      · have := (hlo g' (by simp)).2; omega
    have hbW : W'.heap[b]? = W.heap[b]? := p4 b (hlo b List.mem_cons_self).2 (fun e => hbF (by rw [e]; simp)) (fun hm => hbF (by simp [hm]))
    have hset : l.set q x = l.take q ++ (x :: l.drop (q + 1)) := by rw [List.set_eq_take_append_cons_drop, if_pos hq]
    have hx' : Own W' (.mk k n st r (l.set q x)) (.agg (rowOf c i)) (g' :: (G1 ++ (Fx ++ G2))) := by
      refine ⟨by rw [List.length_set]; exact hb, .inr ⟨g', cap', c', G1 ++ (Fx ++ G2), by rw [List.length_set]; exact e, by rw [List.length_set]; exact g1, by rw [List.length_set]; exact g2, g3, p1, p2.trans g5, rfl, ?_⟩⟩
      rw [hset]
      refine OwnL.append (OwnL.same (fun z hz => (old z (by simp [hz])).1) (fun j _ hj => p3 j (by have := List.length_take_le q l; omega)) k1) ?_
      rw [Nat.zero_add, List.length_take, Nat.min_eq_left (by omega)]
      exact ⟨Fx, G2, rfl, p6, OwnL.same (fun z hz => (old z (by simp [hz])).1) (fun j hj _ => p3 j (by omega)) k3⟩
    have := hplug W' (.mk k n st r (l.set q x)) c (g' :: (G1 ++ (Fx ++ G2))) (hbW.trans h1) rfl (fun _ _ => rfl) (fun z hz h5 h6 => p4 z hz (fun e => h6 (by rw [e]; simp)) (fun hm => h6 (by simp [hm]))) p5 hx' ?_ ?_
    · rw [setT_app ps t (.mk k n st r l) x [(q : Int)] hat, setT_cons hq, setT_nil]
      exact this
    · refine List.nodup_cons.2 ⟨fun hm => ?_, List.nodup_append.2 ⟨n1, List.nodup_append.2 ⟨p7, n5, fun a ha z hz e => ?_⟩, fun a ha z hz e => ?_⟩⟩
      · rcases List.mem_append.1 hm with e | e
        · exact (old g' (by simp [e])).2.2.1 rfl
        · rcases List.mem_append.1 e with e | e
          · exact hgx e
          · exact (old g' (by simp [e])).2.2.1 rfl
      · exact (old z (by simp [hz])).2.1 (by rw [← e]; exact ha)
      · subst e
        rcases List.mem_append.1 hz with e | e
        · exact (old a (by simp [ha])).2.1 e
        · exact n3 a ha a (by simp [e]) rfl
    · intro z hz
      have lt : ∀ z, z < W.heap.size → z < W'.heap.size := fun z h => Nat.lt_of_lt_of_le h p5
      rcases List.mem_cons.1 hz with e | e
      · subst e
        exact ⟨.inl (by simp), lt _ (hlo z (by simp)).2⟩
      · rcases List.mem_append.1 e with e | e
        · exact ⟨.inl (by simp [e]), lt _ (old z (by simp [e])).2.2.2⟩
        · rcases List.mem_append.1 e with e | e
          · refine ⟨?_, (p8 z e).2⟩
            rcases (p8 z e).1 with h | h
            · exact .inl (by simp [h])
            · exact .inr h
          · exact ⟨.inl (by simp [e]), lt _ (old z (by simp [e])).2.2.2⟩
end Go.Proofs.Ytckgmdlacaiacaa
