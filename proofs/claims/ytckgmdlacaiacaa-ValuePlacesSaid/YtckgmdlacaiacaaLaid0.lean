/-
  posternref02.laid: the row that is written over.
-/
import Derived.Test.YtckgmdlacaiacaaSetT
namespace Go.Proofs.Ytckgmdlacaiacaa
open Go.RowKit Go.Shelf

theorem OwnL.get {W : World} {c : Array Value} : ∀ {i : Nat} {l : List VT} {G : List Nat}, OwnL W c i l G → ∀ q (hq : q < l.length), ∃ Gq, Own W l[q] (.agg (rowOf c (i + q))) Gq ∧ ∀ g ∈ Gq, g ∈ G
  | _, [], _, _, q, hq => absurd hq (Nat.not_lt_zero _)
  | i, t :: ts, G, ⟨G1, G2, e, h1, h2⟩, 0, _ => ⟨G1, h1, fun g hg => by rw [e]; exact List.mem_append_left _ hg⟩
  | i, t :: ts, G, ⟨G1, G2, e, h1, h2⟩, q + 1, hq => by
    obtain ⟨Gq, h3, h4⟩ := OwnL.get h2 q (by simpa using hq)
    rw [show i + 1 + q = i + (q + 1) by omega] at h3
    exact ⟨Gq, h3, fun g hg => by rw [e]; exact List.mem_append_right _ (h4 g hg)⟩
theorem laid_rows {W : World} {b i cap : Nat} {c : Array Value} {l : List VT} {G : List Nat} {u : VT} {A' : Option Addr} {cap' : Nat} {P Q : Nat → Prop} (hrow : W.heap[b]? = some (.cells c 26 (0, 0))) (hcs : c.size = cap * 5) (hlc : l.length ≤ cap)
    (hG : OwnL W c 0 l G) (hbG : b ∉ G) (hQG : ∀ g ∈ G, Q g) (hQb : Q b) (hi : i < l.length) (hu : Lies W P false u (.agg #[.int .u8 (u.k : Int), .int .i64 u.n, .string u.s, .slice A' u.l.length cap', .int .i64 u.r])) (hP : ∀ g, P g → Q g ∧ g ≠ b) :
    LiesL (((((W.setCell ⟨b, i * 5, none⟩ (.int .u8 (u.k : Int))).setCell ⟨b, i * 5 + 1, none⟩ (.int .i64 u.n)).setCell ⟨b, i * 5 + 2, none⟩ (.string u.s)).setCell ⟨b, i * 5 + 3, none⟩ (.slice A' u.l.length cap')).setCell ⟨b, i * 5 + 4, none⟩ (.int .i64 u.r)) Q false (some ⟨b, 0, none⟩) 0 (l.set i u) := by
  have hr2 := heap_setRow (i := i) (.int .u8 (u.k : Int)) (.int .i64 u.n) (.string u.s) (.slice A' u.l.length cap') (.int .i64 u.r) hrow
  refine LiesL.of_get fun q hq => ?_
  rw [List.length_set] at hq
  by_cases e : q = i
  · subst e
    refine ⟨b, 0, #[.int .u8 (u.k : Int), .int .i64 u.n, .string u.s, .slice A' u.l.length cap', .int .i64 u.r], rfl, hQb, ?_, ?_⟩
    · rw [Nat.zero_add, Nat.zero_add]
      exact cells_of_row hr2 (by rw [setRow_size]; omega) (rowOf_set _ _ _ _ _ (by omega))
    · rw [List.getElem_set_self]
      exact Lies.same (fun g hg => (hP g hg).1) (fun g hg => heap_setRow_other _ _ _ _ _ (hP g hg).2) _ _ hu
  · obtain ⟨Gq, h3, h4⟩ := hG.get q hq
    rw [Nat.zero_add] at h3
    refine ⟨b, 0, rowOf c q, rfl, hQb, ?_, ?_⟩
    · rw [Nat.zero_add, Nat.zero_add]
      exact cells_of_row hr2 (by rw [setRow_size]; omega) (rowOf_other _ _ _ _ _ _ e)
    · rw [List.getElem_set_ne (by omega)]
      exact Lies.same (p := (· ∈ Gq)) (fun g hg => hQG g (h4 g hg)) (fun g hg => heap_setRow_other (b := b) _ _ _ _ _ (fun e => hbG (by rw [← e]; exact h4 g hg))) _ _ (Own.lies _ _ _ h3)
end Go.Proofs.Ytckgmdlacaiacaa
