/-
  The value that the statements' own awake calls are about: ref, list; what is asked of it, by itself.
-/
import Derived.Test.YtckgmdlacaiacaaEach
namespace Go.Proofs.Ytckgmdlacaiacaa
open Go.RowKit Go.Shelf
attribute [local go_sem] Oper.semAt_some

set_option maxHeartbeats 1000000 in
theorem ref_b (n : Int) (w : World) :
    Calls Try.prog 60 #[.int .i64 n] w fun e w' => e = .returned (.agg #[.int .u8 4, .int .i64 0, .string ⟨#[]⟩, .slice none 0 0, .int .i64 n]) ∧ Below w.heap.size w w' := by
  go_enter Try.func60, Try.ntmps60
  go_wp2
  exact ret_five rfl (Five.new w _ _ _ _ _) rfl ⟨rfl, (Below.refl _ w).alloc (Nat.le_refl _) _⟩
set_option maxHeartbeats 1000000 in
theorem list_b (A : Option Addr) (n c : Nat) (w : World) :
    Calls Try.prog 59 #[.slice A n c] w fun e w' => e = .returned (.agg #[.int .u8 3, .int .i64 0, .string ⟨#[]⟩, .slice A n c, .int .i64 0]) ∧ Below w.heap.size w w' := by
  go_enter Try.func59, Try.ntmps59
  go_wp2
  exact ret_five rfl (Five.new w _ _ _ _ _) rfl ⟨rfl, (Below.refl _ w).alloc (Nat.le_refl _) _⟩
def numT (n : Int) : VT := .mk 1 n ⟨#[]⟩ 0 []
def refT (n : Int) : VT := .mk 4 0 ⟨#[]⟩ n []
def awL : VT := .mk 3 0 ⟨#[]⟩ 0 [refT 7]
def awT : VT := .mk 3 0 ⟨#[]⟩ 0 [numT 1, awL]
theorem awT_may : awT.may = true := by decide +kernel
theorem awT_bytes : bytesV awT = .tuple #[.string ⟨#[3, 0, 2, 1, 128, 0, 0, 0, 0, 0, 0, 1, 3, 0, 1, 4, 0, 0, 0, 7]⟩, .int .i64 0] := by kernel_rfl
theorem awT_read : readRes [3, 0, 2, 1, 128, 0, 0, 0, 0, 0, 0, 1, 3, 0, 1, 4, 0, 0, 0, 7] = (some awT, 0) := by kernel_rfl
theorem awT_at : atRes awT [1, 0] = (some (refT 7), 0) := by kernel_rfl
theorem awT_order : rOrderV (numT 1) (numT 2) = .tuple #[.int .i64 (-1), .int .i64 0] := by kernel_rfl
theorem awT_parts : awT.parts = 4 := by kernel_rfl
theorem awT_deep : awT.deep = 2 := by kernel_rfl
end Go.Proofs.Ytckgmdlacaiacaa
