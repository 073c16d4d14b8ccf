/-
  The closure of value.Front that takes bytes; value.takeWide.
-/
import Derived.Laws.IdiomStrings
import Derived.Laws.Bits64b
import Derived.Test.YtckgmdlacaiacaaSpoil
namespace Go.Proofs.Ytckgmdlacaiacaa
open Go.RowKit Go.Shelf
attribute [local go_sem] Oper.semAt_some

/-- A string by its bytes. -/
def strL (l : List UInt8) : ByteArray := ⟨l.toArray⟩
theorem strL_size (l : List UInt8) : (strL l).size = l.length := by simp [strL, ByteArray.size]
theorem strL_take (l : List UInt8) (n : Nat) : strL (l.take n) = (strL l).extract 0 n := by
  apply ByteArray.ext
  rw [ByteArray.data_extract]
  apply Array.ext'
  simp [strL]
theorem strL_drop (l : List UInt8) (n : Nat) : strL (l.drop n) = (strL l).extract n l.length := by
  apply ByteArray.ext
  rw [ByteArray.data_extract]
  apply Array.ext'
  simp only [strL, Array.toList_extract, List.extract_eq_take_drop]
  rw [List.take_of_length_le (by simp)]
/-- What is left to be read. -/
structure Left (W : World) (cb : Nat) (l : List UInt8) : Prop where
  box : W.heap[cb]? = some (.cells #[.string (strL l)] 9 (0, 0))
theorem Left.cell {W : World} {cb : Nat} {l : List UInt8} (h : Left W cb l) : W.cell? ⟨cb, 0, none⟩ = some (.string (strL l)) := by simp [World.cell?, h.box]
theorem Left.froz {W : World} {cb : Nat} {l : List UInt8} (h : Left W cb l) : W.frozen? ⟨cb, 0, none⟩ = false := by simp [World.frozen?, h.box]
theorem Left.lt {W : World} {cb : Nat} {l : List UInt8} (h : Left W cb l) : cb < W.heap.size := (Array.getElem?_eq_some_iff.1 h.box).1

set_option maxRecDepth 100000 in
set_option maxHeartbeats 4000000 in
theorem take_no_w (n : Nat) (l : List UInt8) (cb : Nat) (w : World) (h : Left w cb l) (hl : l.length ≤ maxLen) (hx : ¬ n ≤ l.length) :
    Calls Try.prog 80 #[.int .i64 (n : Int), .pointer (some ⟨cb, 0, none⟩)] w fun e w' => e = .returned (.tuple #[.string ⟨#[]⟩, .bool false]) ∧ w' = w := by
  have c0 := h.cell
  have z0 := h.froz
  have hlt := h.lt
  have hs := strL_size l
  have hb : (strL l).size ≤ maxLen := by omega
  unfold maxLen at hb hl
  generalize strL l = s at *
  have q : decide ((s.size : Int) < n) = true := decide_eq_true (by omega)
  go_enter Try.func80, Try.ntmps80
  go_wp2
  go_ret2
  exact ⟨rfl, rfl⟩
set_option maxRecDepth 100000 in
set_option maxHeartbeats 4000000 in
theorem take_yes_w (n : Nat) (l : List UInt8) (cb : Nat) (w : World) (h : Left w cb l) (hl : l.length ≤ maxLen) (hx : n ≤ l.length) :
    Calls Try.prog 80 #[.int .i64 (n : Int), .pointer (some ⟨cb, 0, none⟩)] w fun e w' =>
      e = .returned (.tuple #[.string (strL (l.take n)), .bool true]) ∧ w' = w.setCell ⟨cb, 0, none⟩ (.string (strL (l.drop n))) := by
  have c0 := h.cell
  have z0 := h.froz
  have hlt := h.lt
  have hs := strL_size l
  have hb : (strL l).size ≤ maxLen := by omega
  have HT := Lib.hid (strL_take l n)
  have HD := Lib.hid (strL_drop l n)
  unfold maxLen at hb hl
  generalize strL l = s at *
  have q : decide ((s.size : Int) < n) = false := decide_eq_false (by omega)
  go_enter Try.func80, Try.ntmps80
  go_wp2
  rw [← HT.out, ← HD.out]
  go_ret2
  exact ⟨rfl, rfl⟩

/-- The number that some bytes are, the highest first. -/
def numL (l : List UInt8) : Nat := l.foldl (fun x b => x * 256 + b.toNat) 0
theorem numL_snoc (l : List UInt8) (b : UInt8) : numL (l ++ [b]) = numL l * 256 + b.toNat := by simp [numL]
theorem numL_lt : ∀ (n : Nat) (l : List UInt8), l.length = n → numL l < 256 ^ n := by
  intro n
  induction n with
  | zero => intro l h; rw [List.length_eq_zero_iff.1 h]; decide
  | succ n ih =>
    intro l h
    have hne : l ≠ [] := by rintro rfl; simp at h
    rw [← List.dropLast_concat_getLast hne, numL_snoc]
    have h1 := ih l.dropLast (by simp; omega)
    have h2 := (l.getLast hne).toNat_lt
    rw [Nat.pow_succ]
    omega
theorem or_byte (x b : Nat) (hx : x < 72057594037927936) (hb : b < 256) : bits .or .u64 ((x : Int) * 256) (b : Int) = ((x * 256 + b : Nat) : Int) := by
  have h := bits_or_u64_nat (x * 256) b (by omega) (by omega)
  have h2 := Nat.two_pow_add_eq_or_of_lt (i := 8) (show b < 2 ^ 8 by omega) x
  rw [show ((x * 256 : Nat) : Int) = (x : Int) * 256 by omega] at h
  rw [h, show x * 256 = 2 ^ 8 * x by omega, ← h2]

set_option maxRecDepth 100000 in
set_option maxHeartbeats 4000000 in
theorem wide_no_w (n : Nat) (l : List UInt8) (cb : Nat) (w : World) (h : Left w cb l) (hl : l.length ≤ maxLen) (hx : ¬ n ≤ l.length) :
    Calls Try.prog 92 #[.func (.func 80) #[] #[.pointer (some ⟨cb, 0, none⟩)], .int .i64 (n : Int)] w fun e w' => e = .returned (.tuple #[.int .u64 0, .bool false]) ∧ w' = w := by
  have H := Lib.hid (take_no_w n l cb w h hl hx)
  clear h
  go_enter Try.func92, Try.ntmps92
  go_wp2_with fail
  refine H.out.mono ?_
  rintro e w' ⟨rfl, rfl⟩
  go_wp2
  go_loopw [8, 18] (fun xv iv wr => xv = .int .u64 0 ∧ iv = .int .i64 0 ∧ wr = w') (fun _ _ _ => 0)
  case atStart => exact ⟨rfl, rfl, rfl⟩
  case round =>
    obtain ⟨rfl, rfl, rfl⟩ := hrel
    go_wp2
    go_ret2
    exact ⟨rfl, rfl⟩
set_option maxRecDepth 100000 in
set_option maxHeartbeats 4000000 in
theorem wide_yes_w (n : Nat) (l : List UInt8) (cb : Nat) (w : World) (h : Left w cb l) (hn : n ≤ 8) (hl : l.length ≤ maxLen) (hx : n ≤ l.length) :
    Calls Try.prog 92 #[.func (.func 80) #[] #[.pointer (some ⟨cb, 0, none⟩)], .int .i64 (n : Int)] w fun e w' =>
      e = .returned (.tuple #[.int .u64 (numL (l.take n) : Int), .bool true]) ∧ w' = w.setCell ⟨cb, 0, none⟩ (.string (strL (l.drop n))) := by
  have H := Lib.hid (take_yes_w n l cb w h hl hx)
  clear h
  have hsl : (l.take n).length = n := by rw [List.length_take]; omega
  have hsz := (strL_size (l.take n)).trans hsl
  generalize hL : l.take n = L at *
  go_enter Try.func92, Try.ntmps92
  go_wp2_with fail
  refine H.out.mono ?_
  rintro e w' ⟨rfl, rfl⟩
  go_wp2
  go_loopw [8, 18] (fun xv iv wr => ∃ j : Nat, j ≤ n ∧ iv = .int .i64 (j : Int) ∧ xv = .int .u64 (numL (L.take j) : Int) ∧ wr = w.setCell ⟨cb, 0, none⟩ (.string (strL (l.drop n)))) (fun _ iv _ => n - (intOf iv).toNat)
  case atStart => exact ⟨0, Nat.zero_le _, rfl, rfl, rfl⟩
  case round =>
    obtain ⟨j, hj, rfl, rfl, rfl⟩ := hrel
    by_cases hlt : j < n
    · go_wp2
      refine ⟨⟨j + 1, by omega, by go_num, congrArg (Value.int .u64) ?_, trivial⟩, by simp [intOf]; omega⟩
      have h1 : numL (L.take (j + 1)) = numL (L.take j) * 256 + L[j].toNat := by
        rw [List.take_succ_eq_append_getElem (by omega), numL_snoc]
      have h2 : numL (L.take j) < 256 ^ j := numL_lt j _ (by rw [List.length_take]; omega)
      have h3 : 256 ^ j ≤ 256 ^ 7 := Nat.pow_le_pow_right (by omega) (by omega)
      have h4 : (256 : Nat) ^ 7 = 72057594037927936 := by decide
      have h5 := L[j].toNat_lt
      have h6 : (strL L)[j] = L[j] := rfl
      rw [h1, h6, IntKind.wrap_u64, IntKind.wrap_u64, Int.emod_eq_of_lt (by omega) (by omega), Int.emod_eq_of_lt (by omega) (by omega)]
      exact or_byte _ _ (by omega) (by omega)
    · obtain rfl : j = n := by omega
      go_wp2
      go_ret2
      exact ⟨by rw [List.take_of_length_le (by omega)]; rfl, rfl⟩

/-- What stands where it stood, but for the box of what is left. -/
theorem Left.set {W : World} {cb : Nat} {l : List UInt8} (h : Left W cb l) (r : List UInt8) : Left (W.setCell ⟨cb, 0, none⟩ (.string (strL r))) cb r := by
  refine ⟨?_⟩
  simp [World.setCell, Array.getElem?_modify, h.box]
theorem take_w (n : Nat) (l : List UInt8) (cb : Nat) (w : World) (h : Left w cb l) (hl : l.length ≤ maxLen) (hx : n ≤ l.length) :
    Calls Try.prog 80 #[.int .i64 (n : Int), .pointer (some ⟨cb, 0, none⟩)] w fun e w' =>
      e = .returned (.tuple #[.string (strL (l.take n)), .bool true]) ∧ Left w' cb (l.drop n) ∧ Chg [cb] w w' := by
  refine (take_yes_w n l cb w h hl hx).mono ?_
  rintro e w' ⟨rfl, rfl⟩
  exact ⟨rfl, h.set _, (Chg.refl [cb] w).set (a := ⟨cb, 0, none⟩) (.inl List.mem_cons_self) _⟩
theorem wide_w (n : Nat) (l : List UInt8) (cb : Nat) (w : World) (h : Left w cb l) (hn : n ≤ 8) (hl : l.length ≤ maxLen) (hx : n ≤ l.length) :
    Calls Try.prog 92 #[.func (.func 80) #[] #[.pointer (some ⟨cb, 0, none⟩)], .int .i64 (n : Int)] w fun e w' =>
      e = .returned (.tuple #[.int .u64 (numL (l.take n) : Int), .bool true]) ∧ Left w' cb (l.drop n) ∧ Chg [cb] w w' := by
  refine (wide_yes_w n l cb w h hn hl hx).mono ?_
  rintro e w' ⟨rfl, rfl⟩
  exact ⟨rfl, h.set _, (Chg.refl [cb] w).set (a := ⟨cb, 0, none⟩) (.inl List.mem_cons_self) _⟩
theorem Five.chg1 {W W' : World} {B cb : Nat} {c0 c1 c2 c3 c4 : Value} (h : Five W B c0 c1 c2 c3 c4) (hc : Chg [cb] W W') (hB : B ≠ cb) : Five W' B c0 c1 c2 c3 c4 :=
  ⟨(hc.block B h.lt (by simpa using hB)).trans h.row⟩
end Go.Proofs.Ytckgmdlacaiacaa
