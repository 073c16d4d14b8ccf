/-
  ValueBack: what is laid is read back; what is read is what was laid; the order of numbers is that of their bytes.
-/
import Derived.Lib.Bytes
import Derived.Test.YtckgmdlacaiacaaVBytes
import Derived.Test.YtckgmdlacaiacaaVOrd
namespace Go.Proofs.Ytckgmdlacaiacaa
open Go.RowKit Go.Shelf

theorem empty_of {s : ByteArray} (h : s.toList.isEmpty = true) : s = ⟨#[]⟩ := by
  rw [Lib.toList_data, List.isEmpty_iff] at h
  cases s with
  | mk d => rw [show d = #[] from Array.toList_eq_nil_iff.1 h]
theorem foldl_num : ∀ (l : List UInt8) (a : Nat), l.foldl (fun x b => x * 256 + b.toNat) a = a * 256 ^ l.length + numL l := by
  intro l
  induction l with
  | nil => intro a; simp [numL]
  | cons b l ih =>
    intro a
    have h : numL (b :: l) = (0 * 256 + b.toNat) * 256 ^ l.length + numL l := by
      rw [← ih]; rfl
    rw [List.foldl_cons, ih, h, List.length_cons, Nat.pow_succ, Nat.zero_mul, Nat.zero_add, Nat.add_mul, Nat.mul_assoc, Nat.mul_comm 256, Nat.add_assoc]
theorem numL_cons (b : UInt8) (l : List UInt8) : numL (b :: l) = b.toNat * 256 ^ l.length + numL l := by
  have h := foldl_num l (0 * 256 + b.toNat)
  rw [numL, List.foldl_cons, h, Nat.zero_mul, Nat.zero_add]
theorem pow_8 (n : Nat) : (2 : Nat) ^ (8 * n) = 256 ^ n := by rw [Nat.pow_mul]
theorem numL_wide (x : Nat) : ∀ n, numL (wide x n) = x % 256 ^ n := by
  intro n
  induction n with
  | zero => simp [wide, numL, Nat.mod_one]
  | succ n ih =>
    rw [wide, numL_cons, ih, wide_len, UInt8.toNat_ofNat', pow_8, Nat.mod_pow_succ (x := x) (b := 256) (k := n), Nat.mul_comm, Nat.add_comm]
theorem wide_mod (x : Nat) : ∀ n m, n ≤ m → wide (x % 256 ^ m) n = wide x n := by
  intro n
  induction n with
  | zero => intro m _; rfl
  | succ n ih =>
    intro m h
    rw [wide, wide, ih m (by omega)]
    congr 1
    apply UInt8.toNat_inj.1
    rw [UInt8.toNat_ofNat', UInt8.toNat_ofNat', pow_8]
    obtain ⟨d, rfl⟩ : ∃ d, m = n + (d + 1) := ⟨m - n - 1, by omega⟩
    rw [Nat.pow_add, Nat.mod_mul_right_div_self, Nat.pow_succ, Nat.mod_mod_of_dvd _ ⟨256 ^ d, Nat.mul_comm _ _⟩]
theorem wide_numL : ∀ l : List UInt8, wide (numL l) l.length = l := by
  intro l
  induction l with
  | nil => rfl
  | cons b l ih =>
    have h1 := numL_lt l.length l rfl
    rw [List.length_cons, wide, ← wide_mod _ _ l.length (Nat.le_refl _), numL_cons, pow_8, Nat.mul_comm, Nat.mul_add_div (Nat.pow_pos (by omega)), Nat.div_eq_of_lt h1, Nat.mul_add_mod, Nat.mod_eq_of_lt h1, ih]
    simp
theorem wide_less (x y : Nat) : ∀ n, Op.bytesLess (wide x n) (wide y n) = decide (x % 256 ^ n < y % 256 ^ n) := by
  intro n
  induction n with
  | zero => simp [wide, Op.bytesLess, Nat.mod_one]
  | succ n ih =>
    have e : ∀ z : Nat, (UInt8.ofNat (z / 2 ^ (8 * n))).toNat = z / 256 ^ n % 256 := fun z => by rw [UInt8.toNat_ofNat', pow_8]
    rw [wide, wide, Op.bytesLess, ih, Nat.mod_pow_succ (x := x) (b := 256) (k := n), Nat.mod_pow_succ (x := y) (b := 256) (k := n)]
    have h1 : (UInt8.ofNat (x / 2 ^ (8 * n)) < UInt8.ofNat (y / 2 ^ (8 * n))) = (x / 256 ^ n % 256 < y / 256 ^ n % 256) := by rw [UInt8.lt_iff_toNat_lt, e, e]
    have h2 : (UInt8.ofNat (x / 2 ^ (8 * n)) == UInt8.ofNat (y / 2 ^ (8 * n))) = decide (x / 256 ^ n % 256 = y / 256 ^ n % 256) := by
      rw [Bool.eq_iff_iff, beq_iff_eq, decide_eq_true_eq, ← UInt8.toNat_inj, e, e]
    rw [h2]
    simp only [h1]
    have hx := Nat.mod_lt x (show 0 < 256 ^ n from Nat.pow_pos (by omega))
    have hy := Nat.mod_lt y (show 0 < 256 ^ n from Nat.pow_pos (by omega))
    generalize x / 256 ^ n % 256 = a
    generalize y / 256 ^ n % 256 = b
    generalize x % 256 ^ n = c at *
    generalize y % 256 ^ n = d at *
    generalize 256 ^ n = p at *
    rw [Bool.eq_iff_iff]
    simp only [Bool.or_eq_true, Bool.and_eq_true, decide_eq_true_eq]
    rcases Nat.lt_trichotomy a b with h | h | h
    · have : p * (a + 1) ≤ p * b := Nat.mul_le_mul_left p h
      rw [Nat.mul_add, Nat.mul_one] at this
      omega
    · subst h; omega
    · have : p * (b + 1) ≤ p * a := Nat.mul_le_mul_left p h
      rw [Nat.mul_add, Nat.mul_one] at this
      omega
mutual
/-- Are all numbers such as a machine holds? -/
def inN : VT → Prop
  | .mk _ n _ _ l => (-9223372036854775808 ≤ n ∧ n ≤ 9223372036854775807) ∧ inL l
def inL : List VT → Prop
  | [] => True
  | t :: ts => inN t ∧ inL ts
end
/-- Have all references four bytes? -/
def refsOk (t : VT) : Bool := (refsT t).all fun r => decide (r ≤ 4294967295)
def refsOkL (l : List VT) : Bool := (refsL l).all fun r => decide (r ≤ 4294967295)
theorem refsOkL_cons (t : VT) (l : List VT) : refsOkL (t :: l) = (refsOk t && refsOkL l) := by
  unfold refsOkL refsOk
  rw [show refsL (t :: l) = refsT t ++ refsL l from rfl, List.all_append]
/-- What is laid is read back. -/
def Back (t : VT) : Prop := ∀ (nest L : Nat) (s : List UInt8), t.good = true → inN t → refsOk t = true → t.deep ≤ nest → t.parts ≤ L → L ≤ 512 → readT nest L (bytesT t ++ s) = some (t, s)
theorem many_back : ∀ (l : List VT), (∀ t ∈ l, Back t) → ∀ (nest L : Nat) (s : List UInt8), VT.goodL l = true → inL l → refsOkL l = true → VT.deepL l ≤ nest → VT.partsL l ≤ L → L ≤ 512 → readMany (readT nest) l.length L (bytesL l ++ s) = some (l, s) := by
  intro l
  induction l with
  | nil => intro _ nest L s _ _ _ _ _ _; rfl
  | cons t l ih =>
    intro hB nest L s h1 h2 h3 h4 h5 h6
    have g1 : t.good = true ∧ VT.goodL l = true := by simpa [VT.goodL] using h1
    have g3 : refsOk t = true ∧ refsOkL l = true := by simpa [refsOkL_cons] using h3
    have g4 : t.deep ≤ nest ∧ VT.deepL l ≤ nest := by simp only [VT.deepL] at h4; omega
    have g5 : t.parts + VT.partsL l ≤ L := h5
    have e1 := hB t List.mem_cons_self nest L (bytesL l ++ s) g1.1 h2.1 g3.1 g4.1 (by omega) h6
    have e2 := ih (fun u hu => hB u (List.mem_cons_of_mem _ hu)) nest (L - t.parts) s g1.2 h2.2 g3.2 g4.2 (by omega) (by omega)
    rw [List.length_cons, readMany, show bytesL (t :: l) = bytesT t ++ bytesL l from rfl, List.append_assoc, e1]
    simp only [e2]
theorem readT_K (nest left : Nat) (s : List UInt8) : ∃ rl, readT nest left s = readK rl left s ∧ (∀ m, nest = m + 1 → rl = readBody (readT m) left) ∧ (nest = 0 → rl = fun _ => none) := by
  cases nest with
  | zero => exact ⟨_, rfl, fun m h => (by cases h), fun _ => rfl⟩
  | succ m => exact ⟨_, rfl, fun m' h => by cases h; rfl, fun h => by cases h⟩
theorem app_take {α : Type} {a s : List α} {n : Nat} (h : a.length = n) : (a ++ s).take n = a := by subst h; simp
theorem app_drop {α : Type} {a s : List α} {n : Nat} (h : a.length = n) : (a ++ s).drop n = s := by subst h; simp
theorem top_back {n : Int} (h : -9223372036854775808 ≤ n ∧ n ≤ 9223372036854775807) : ((numL (wide (topN n) 8) : Nat) : Int) - 9223372036854775808 = n := by
  rw [numL_wide]
  unfold topN
  rw [show (256 : Nat) ^ 8 = 18446744073709551616 from by decide]
  omega
theorem back : ∀ t : VT, Back t := by
  refine VT.ind fun k n s r l ih nest L z h1 h2 h3 h4 h5 h6 => ?_
  have g1 : propN k n s r l.length = true ∧ VT.goodL l = true := by simpa [VT.good] using h1
  obtain ⟨rl, e, e1, e0⟩ := readT_K nest L (bytesT (.mk k n s r l) ++ z)
  have hp : VT.parts (.mk k n s r l) = 1 + VT.partsL l := rfl
  rw [hp] at h5
  obtain ⟨gp, gl⟩ := g1
  have hk4 : k = 0 ∨ k = 1 ∨ k = 2 ∨ k = 3 ∨ k = 4 ∨ 5 ≤ k := by omega
  have hin := h2.1
  rw [e]
  rcases hk4 with rfl | rfl | rfl | rfl | rfl | hk5
  · simp only [propN, Bool.and_eq_true, beq_iff_eq] at gp
    obtain ⟨⟨⟨rfl, hs⟩, hl⟩, rfl⟩ := gp
    obtain rfl := empty_of hs
    obtain rfl : l = [] := List.length_eq_zero_iff.1 (by omega)
    rw [show bytesT (.mk 0 0 ⟨#[]⟩ 0 []) = [UInt8.ofNat 0] from rfl]
    unfold readK
    rw [if_pos ⟨by simp, by omega⟩]
    rfl
  · simp only [propN, Bool.and_eq_true, beq_iff_eq] at gp
    obtain ⟨⟨hs, hl⟩, rfl⟩ := gp
    obtain rfl := empty_of hs
    obtain rfl : l = [] := List.length_eq_zero_iff.1 (by omega)
    rw [show bytesT (.mk 1 n ⟨#[]⟩ 0 []) = UInt8.ofNat 1 :: wide (topN n) 8 from rfl]
    unfold readK
    rw [if_pos ⟨by simp, by omega⟩]
    show (if 8 ≤ (wide (topN n) 8 ++ z).length then some (VT.mk 1 ((numL ((wide (topN n) 8 ++ z).take 8) : Int) - 9223372036854775808) ⟨#[]⟩ 0 [], (wide (topN n) 8 ++ z).drop 8) else none) = _
    rw [if_pos (by rw [List.length_append, wide_len]; omega), app_take (wide_len _ _), app_drop (wide_len _ _), top_back hin]
  · simp only [propN, Bool.and_eq_true, beq_iff_eq, decide_eq_true_eq] at gp
    obtain ⟨⟨⟨rfl, hl⟩, rfl⟩, hsz⟩ := gp
    obtain rfl : l = [] := List.length_eq_zero_iff.1 (by omega)
    have hsl : s.data.toList.length = s.size := by rw [Array.length_toList]; rfl
    have hn : numL (wide s.size 2) = s.size := by rw [numL_wide]; exact Nat.mod_eq_of_lt (by omega)
    rw [show bytesT (.mk 2 0 s 0 []) = UInt8.ofNat 2 :: (wide s.size 2 ++ s.data.toList) from rfl]
    unfold readK
    rw [if_pos ⟨by simp, by omega⟩]
    show (if 2 ≤ ((wide s.size 2 ++ s.data.toList) ++ z).length ∧ numL (((wide s.size 2 ++ s.data.toList) ++ z).take 2) ≤ (((wide s.size 2 ++ s.data.toList) ++ z).drop 2).length ∧ numL (((wide s.size 2 ++ s.data.toList) ++ z).take 2) ≤ 256 then
      some (VT.mk 2 0 (strL ((((wide s.size 2 ++ s.data.toList) ++ z).drop 2).take (numL (((wide s.size 2 ++ s.data.toList) ++ z).take 2)))) 0 [], (((wide s.size 2 ++ s.data.toList) ++ z).drop 2).drop (numL (((wide s.size 2 ++ s.data.toList) ++ z).take 2))) else none) = _
    rw [List.append_assoc, app_take (wide_len _ _), app_drop (wide_len _ _), hn, app_take hsl, app_drop hsl, if_pos ⟨by rw [List.length_append, wide_len]; omega, by rw [List.length_append]; omega, by omega⟩]
    rfl
  · simp only [propN, Bool.and_eq_true, beq_iff_eq] at gp
    obtain ⟨⟨rfl, hs⟩, rfl⟩ := gp
    obtain rfl := empty_of hs
    have hd : VT.deep (.mk 3 0 ⟨#[]⟩ 0 l) = 1 + VT.deepL l := rfl
    rw [hd] at h4
    obtain ⟨m, rfl⟩ : ∃ m, nest = m + 1 := ⟨nest - 1, by omega⟩
    have hlen := VT.partsL_len l
    have hn : numL (wide l.length 2) = l.length := by rw [numL_wide]; exact Nat.mod_eq_of_lt (by omega)
    have hM := many_back l ih m (L - 1) z gl h2.2 h3 (by omega) (by omega) (by omega)
    rw [show bytesT (.mk 3 0 ⟨#[]⟩ 0 l) = UInt8.ofNat 3 :: (wide l.length 2 ++ bytesL l) from rfl]
    unfold readK
    rw [if_pos ⟨by simp, by omega⟩]
    show rl ((wide l.length 2 ++ bytesL l) ++ z) = _
    rw [e1 m rfl, List.append_assoc]
    unfold readBody
    rw [app_take (wide_len _ _), app_drop (wide_len _ _), hn, if_pos ⟨by rw [List.length_append, wide_len]; omega, by omega⟩, hM]
  · simp only [propN, Bool.and_eq_true, beq_iff_eq, decide_eq_true_eq] at gp
    obtain ⟨⟨⟨rfl, hs⟩, hl⟩, hr⟩ := gp
    obtain rfl := empty_of hs
    obtain rfl : l = [] := List.length_eq_zero_iff.1 (by omega)
    have h3' : r ≤ 4294967295 := by
      have : refsT (.mk 4 0 ⟨#[]⟩ r []) = [r] := rfl
      unfold refsOk at h3
      rw [this] at h3
      simpa using h3
    have hn : numL (wide (r % 18446744073709551616).toNat 4) = r.toNat := by
      rw [numL_wide, show (256 : Nat) ^ 4 = 4294967296 from by decide]
      omega
    rw [show bytesT (.mk 4 0 ⟨#[]⟩ r []) = UInt8.ofNat 4 :: wide (r % 18446744073709551616).toNat 4 from rfl]
    unfold readK
    rw [if_pos ⟨by simp, by omega⟩]
    show (if 4 ≤ (wide (r % 18446744073709551616).toNat 4 ++ z).length ∧ 1 ≤ numL ((wide (r % 18446744073709551616).toNat 4 ++ z).take 4) then some (VT.mk 4 0 ⟨#[]⟩ (numL ((wide (r % 18446744073709551616).toNat 4 ++ z).take 4) : Int) [], (wide (r % 18446744073709551616).toNat 4 ++ z).drop 4) else none) = _
    rw [app_take (wide_len _ _), app_drop (wide_len _ _), hn, if_pos ⟨by rw [List.length_append, wide_len]; omega, by omega⟩, Int.toNat_of_nonneg (by omega)]
  · rw [propN_big _ _ _ _ hk5] at gp
    cases gp
/-- What is read is what was laid. -/
theorem many_read {f : Nat → List UInt8 → Option (VT × List UInt8)} (hf : ∀ L s t r, f L s = some (t, r) → bytesT t ++ r = s ∧ inN t ∧ refsOk t = true) : ∀ (n L : Nat) (s : List UInt8) (l : List VT) (r : List UInt8), readMany f n L s = some (l, r) → l.length = n ∧ bytesL l ++ r = s ∧ inL l ∧ refsOkL l = true := by
  intro n
  induction n with
  | zero =>
    intro L s l r h
    simp only [readMany, Option.some.injEq, Prod.mk.injEq] at h
    obtain ⟨rfl, rfl⟩ := h
    exact ⟨rfl, rfl, trivial, rfl⟩
  | succ n ih =>
    intro L s l r h
    rw [readMany] at h
    cases h1 : f L s with
    | none => rw [h1] at h; simp at h
    | some x =>
      obtain ⟨t, r1⟩ := x
      rw [h1] at h
      simp only at h
      cases h2 : readMany f n (L - t.parts) r1 with
      | none => rw [h2] at h; simp at h
      | some y =>
        obtain ⟨ts, r2⟩ := y
        rw [h2] at h
        simp only [Option.some.injEq, Prod.mk.injEq] at h
        obtain ⟨rfl, rfl⟩ := h
        obtain ⟨a1, a2, a3⟩ := hf _ _ _ _ h1
        obtain ⟨b0, b1, b2, b3⟩ := ih _ _ _ _ h2
        refine ⟨by rw [List.length_cons, b0], ?_, ⟨a2, b2⟩, by rw [refsOkL_cons, a3, b3]; rfl⟩
        rw [show bytesL (t :: ts) = bytesT t ++ bytesL ts from rfl, List.append_assoc, b1, a1]
theorem numL_lt' (l : List UInt8) (n : Nat) (h : n ≤ l.length) : numL (l.take n) < 256 ^ n := numL_lt n _ (by rw [List.length_take]; omega)
theorem wide_take (l : List UInt8) (n : Nat) (h : n ≤ l.length) : wide (numL (l.take n)) n = l.take n := by
  have := wide_numL (l.take n)
  rwa [List.length_take, Nat.min_eq_left h] at this
theorem readK_back {rl : List UInt8 → Option (VT × List UInt8)} {left : Nat} {s : List UInt8} {t : VT} {r : List UInt8}
    (hrl : ∀ s t r, rl s = some (t, r) → bytesT t ++ r = UInt8.ofNat 3 :: s ∧ inN t ∧ refsOk t = true) (h : readK rl left s = some (t, r)) : bytesT t ++ r = s ∧ inN t ∧ refsOk t = true := by
  unfold readK at h
  split at h
  · rename_i h1
    obtain ⟨b, z, rfl⟩ : ∃ b z, s = b :: z := by
      cases s with
      | nil => exact absurd h1.1 (by simp)
      | cons b z => exact ⟨b, z, rfl⟩
    have hb : numL ((b :: z).take 1) = b.toNat := by simp [numL]
    have hof : ∀ k, numL ((b :: z).take 1) = k → b = UInt8.ofNat k := fun k hk => by rw [← hk, hb]; simp
    rw [show (b :: z).drop 1 = z from rfl] at h
    split at h
    · rename_i hk
      obtain rfl := hof _ hk
      simp only [Option.some.injEq, Prod.mk.injEq] at h
      obtain ⟨rfl, rfl⟩ := h
      exact ⟨rfl, ⟨by omega, trivial⟩, rfl⟩
    · rename_i hk
      obtain rfl := hof _ hk
      split at h
      · rename_i h8
        simp only [Option.some.injEq, Prod.mk.injEq] at h
        obtain ⟨rfl, rfl⟩ := h
        have hlt := numL_lt' z 8 h8
        rw [show (256 : Nat) ^ 8 = 18446744073709551616 from by decide] at hlt
        refine ⟨?_, ⟨by omega, trivial⟩, rfl⟩
        have ht : topN ((numL (z.take 8) : Int) - 9223372036854775808) = numL (z.take 8) := by unfold topN; omega
        show UInt8.ofNat 1 :: (wide (topN ((numL (z.take 8) : Int) - 9223372036854775808)) 8 ++ z.drop 8) = _
        rw [ht, wide_take z 8 h8, List.take_append_drop]
      · cases h
    · rename_i hk
      obtain rfl := hof _ hk
      split at h
      · rename_i h2
        obtain ⟨g1, g2, g3⟩ := h2
        simp only [Option.some.injEq, Prod.mk.injEq] at h
        obtain ⟨rfl, rfl⟩ := h
        refine ⟨?_, ⟨by omega, trivial⟩, rfl⟩
        have hsz : (strL ((z.drop 2).take (numL (z.take 2)))).size = numL (z.take 2) := by rw [strL_size, List.length_take]; omega
        show UInt8.ofNat 2 :: ((wide (strL ((z.drop 2).take (numL (z.take 2)))).size 2 ++ (strL ((z.drop 2).take (numL (z.take 2)))).data.toList) ++ (z.drop 2).drop (numL (z.take 2))) = _
        rw [hsz, wide_take z 2 g1, List.append_assoc]
        congr 1
        show z.take 2 ++ ((z.drop 2).take (numL (z.take 2)) ++ (z.drop 2).drop (numL (z.take 2))) = z
        rw [List.take_append_drop, List.take_append_drop]
      · cases h
    · rename_i hk
      obtain rfl := hof _ hk
      exact hrl _ _ _ h
    · rename_i hk
      obtain rfl := hof _ hk
      split at h
      · rename_i h4
        obtain ⟨g1, g2⟩ := h4
        simp only [Option.some.injEq, Prod.mk.injEq] at h
        obtain ⟨rfl, rfl⟩ := h
        have hlt := numL_lt' z 4 g1
        rw [show (256 : Nat) ^ 4 = 4294967296 from by decide] at hlt
        refine ⟨?_, ⟨by omega, trivial⟩, ?_⟩
        · show UInt8.ofNat 4 :: (wide (((numL (z.take 4) : Int) % 18446744073709551616).toNat) 4 ++ z.drop 4) = _
          rw [show ((numL (z.take 4) : Int) % 18446744073709551616).toNat = numL (z.take 4) by omega, wide_take z 4 g1, List.take_append_drop]
        · unfold refsOk
          rw [show refsT (.mk 4 0 ⟨#[]⟩ (numL (z.take 4) : Int) []) = [(numL (z.take 4) : Int)] from rfl]
          simp
          omega
      · cases h
    · cases h
  · cases h
theorem readT_back : ∀ (nest L : Nat) (s : List UInt8) (t : VT) (r : List UInt8), readT nest L s = some (t, r) → bytesT t ++ r = s ∧ inN t ∧ refsOk t = true := by
  intro nest
  induction nest with
  | zero => exact fun L s t r h => readK_back (rl := fun _ => none) (fun _ _ _ h => by cases h) h
  | succ nest ih =>
    refine fun L s t r h => readK_back (rl := readBody (readT nest) L) (fun z u q h => ?_) h
    unfold readBody at h
    split at h
    · rename_i h1
      split at h
      · cases h
      · rename_i l r2 h2
        simp only [Option.some.injEq, Prod.mk.injEq] at h
        obtain ⟨rfl, rfl⟩ := h
        obtain ⟨c0, c1, c2, c3⟩ := many_read ih _ _ _ _ _ h2
        refine ⟨?_, ⟨by omega, c2⟩, c3⟩
        show UInt8.ofNat 3 :: ((wide l.length 2 ++ bytesL l) ++ r2) = _
        rw [c0, wide_take z 2 h1.1, List.append_assoc, c1, List.take_append_drop]
    · cases h
theorem bless_eq {x y : List UInt8} (h1 : Op.bytesLess x y = false) (h2 : Op.bytesLess y x = false) : x = y := by
  have := bless_tri x y
  rw [h2, h1] at this
  simpa using this
theorem sL_eq {s s' : ByteArray} (h1 : ¬ sL s s' = true) (h2 : ¬ sL s' s = true) : s = s' := by
  have h := bless_eq (x := s.toList) (y := s'.toList) (by simpa [sL] using h1) (by simpa [sL] using h2)
  rw [Lib.toList_data, Lib.toList_data] at h
  exact ByteArray.ext (Array.toList_inj.1 h)
theorem ordT_zero : ∀ (t u : VT), ordT t u = 0 → t = u := by
  refine VT.ind fun k n s r l ih u h => ?_
  obtain ⟨k', n', s', r', l'⟩ := u
  have key : ∀ (l l' : List VT), (∀ t ∈ l, ∀ u, ordT t u = 0 → t = u) → ordL l l' = 0 → l = l' := by
    intro l
    induction l with
    | nil =>
      intro l' _ h
      cases l' with
      | nil => rfl
      | cons b rb => exact absurd h (show ¬ (-1 : Int) = 0 by decide)
    | cons a ra iha =>
      intro l' hm h
      cases l' with
      | nil => exact absurd h (show ¬ (1 : Int) = 0 by decide)
      | cons b rb =>
        rw [ordL_cons] at h
        split at h
        · rename_i h0
          exact absurd h h0
        · rename_i h0
          have e1 := hm a List.mem_cons_self b (by simpa using h0)
          rw [e1, iha rb (fun t ht => hm t (List.mem_cons_of_mem _ ht)) h]
  rw [ordT_eq] at h
  split at h
  · split at h <;> exact absurd h (by decide)
  · rename_i hk
    split at h
    · exact absurd h (by decide)
    · rename_i h1
      split at h
      · exact absurd h (by decide)
      · rename_i h2
        have e1 : n = n' := by omega
        have e2 : r = r' := by omega
        have e3 : s = s' := sL_eq (fun h => h1 (.inr (.inl h))) (fun h => h2 (.inr (.inl h)))
        have e4 := key l l' ih h
        have e5 : k = k' := by omega
        rw [e1, e2, e3, e4, e5]
theorem may_all {t : VT} (h : t.may = true) : t.good = true ∧ t.parts ≤ 512 ∧ t.deep ≤ 16 := by
  unfold VT.may VT.ok at h
  simp only [Bool.and_eq_true, decide_eq_true_eq] at h
  exact ⟨h.1.1, h.1.2, h.2⟩
theorem read_back {t : VT} (h : t.may = true) (hn : inN t) (hr : refsOk t = true) (s : List UInt8) : readT 16 512 (bytesT t ++ s) = some (t, s) :=
  back t 16 512 s (may_all h).1 hn hr (may_all h).2.2 (may_all h).2.1 (Nat.le_refl _)
theorem bytes_inj {t u : VT} (h : t.may = true) (hn : inN t) (hr : refsOk t = true) (h' : u.may = true) (hn' : inN u) (hr' : refsOk u = true) (e : bytesT t = bytesT u) : t = u := by
  have h1 := read_back h hn hr []
  have h2 := read_back h' hn' hr' []
  rw [e, h2] at h1
  simp only [Option.some.injEq, Prod.mk.injEq] at h1
  exact h1.1.symm
theorem bless_same (b : UInt8) (x y : List UInt8) : Op.bytesLess (b :: x) (b :: y) = Op.bytesLess x y := by
  simp [Op.bytesLess]
/-- The order of numbers, and of references, is that of their bytes. -/
theorem ord_bytes {t u : VT} (h : t.may = true) (hn : inN t) (hr : refsOk t = true) (h' : u.may = true) (hn' : inN u) (hr' : refsOk u = true) (hk : t.k = u.k) (hk2 : t.k = 1 ∨ t.k = 4) :
    (ordT t u < 0) = (Op.bytesLess (bytesT t) (bytesT u) = true) := by
  have g := (may_all h).1
  have g' := (may_all h').1
  obtain ⟨k, n, s, r, l⟩ := t
  obtain ⟨k', n', s', r', l'⟩ := u
  obtain rfl : k = k' := hk
  have gp : propN k n s r l.length = true := by simp only [VT.good, Bool.and_eq_true] at g; exact g.1
  have gp' : propN k n' s' r' l'.length = true := by simp only [VT.good, Bool.and_eq_true] at g'; exact g'.1
  rw [ordT_eq, if_neg (by simp)]
  rcases hk2 with hk2 | hk2
  · obtain rfl : k = 1 := hk2
    simp only [propN, Bool.and_eq_true, beq_iff_eq] at gp gp'
    obtain ⟨⟨hs, hl⟩, rfl⟩ := gp
    obtain ⟨⟨hs', hl'⟩, rfl⟩ := gp'
    obtain rfl := empty_of hs
    obtain rfl := empty_of hs'
    obtain rfl : l = [] := List.length_eq_zero_iff.1 (by omega)
    obtain rfl : l' = [] := List.length_eq_zero_iff.1 (by omega)
    rw [show bytesT (.mk 1 n ⟨#[]⟩ 0 []) = UInt8.ofNat 1 :: wide (topN n) 8 from rfl, show bytesT (.mk 1 n' ⟨#[]⟩ 0 []) = UInt8.ofNat 1 :: wide (topN n') 8 from rfl, bless_same, wide_less, show (256 : Nat) ^ 8 = 18446744073709551616 from by decide]
    have e0 : sL ⟨#[]⟩ ⟨#[]⟩ = false := by kernel_rfl
    have i1 := hn.1
    have i2 := hn'.1
    unfold topN
    simp only [e0, decide_eq_true_eq, Int.lt_irrefl, or_false, Bool.false_eq_true]
    by_cases c1 : n < n'
    · rw [if_pos c1, eq_iff_iff]
      omega
    · rw [if_neg c1]
      by_cases c2 : n' < n
      · rw [if_pos c2, eq_iff_iff]
        omega
      · rw [if_neg c2, show ordL [] [] = 0 from rfl, eq_iff_iff]
        omega
  · obtain rfl : k = 4 := hk2
    simp only [propN, Bool.and_eq_true, beq_iff_eq, decide_eq_true_eq] at gp gp'
    obtain ⟨⟨⟨rfl, hs⟩, hl⟩, hr1⟩ := gp
    obtain ⟨⟨⟨rfl, hs'⟩, hl'⟩, hr1'⟩ := gp'
    obtain rfl := empty_of hs
    obtain rfl := empty_of hs'
    obtain rfl : l = [] := List.length_eq_zero_iff.1 (by omega)
    obtain rfl : l' = [] := List.length_eq_zero_iff.1 (by omega)
    have h3 : r ≤ 4294967295 := by
      unfold refsOk at hr
      rw [show refsT (.mk 4 0 ⟨#[]⟩ r []) = [r] from rfl] at hr
      simpa using hr
    have h3' : r' ≤ 4294967295 := by
      unfold refsOk at hr'
      rw [show refsT (.mk 4 0 ⟨#[]⟩ r' []) = [r'] from rfl] at hr'
      simpa using hr'
    rw [show bytesT (.mk 4 0 ⟨#[]⟩ r []) = UInt8.ofNat 4 :: wide (r % 18446744073709551616).toNat 4 from rfl, show bytesT (.mk 4 0 ⟨#[]⟩ r' []) = UInt8.ofNat 4 :: wide (r' % 18446744073709551616).toNat 4 from rfl, bless_same, wide_less, show (256 : Nat) ^ 4 = 4294967296 from by decide]
    have e0 : sL ⟨#[]⟩ ⟨#[]⟩ = false := by kernel_rfl
    simp only [e0, decide_eq_true_eq, Int.lt_irrefl, false_or, Bool.false_eq_true]
    by_cases c1 : r < r'
    · rw [if_pos c1, eq_iff_iff]
      omega
    · rw [if_neg c1]
      by_cases c2 : r' < r
      · rw [if_pos c2, eq_iff_iff]
        omega
      · rw [if_neg c2, show ordL [] [] = 0 from rfl, eq_iff_iff]
        omega
theorem inL_of : ∀ {l : List VT}, (∀ t ∈ l, inN t) → inL l
  | [], _ => trivial
  | t :: _, h => ⟨h t List.mem_cons_self, inL_of fun u hu => h u (List.mem_cons_of_mem _ hu)⟩
theorem Lies.inN {W : World} {p : Nat → Prop} {m : Bool} : ∀ (t : VT) (v : Value), Lies W p m t v → inN t := by
  refine VT.ind fun k n s r l ih v h => ?_
  obtain ⟨A, cap, h0, h1, h2, h3, h6, h7⟩ := h
  refine ⟨h1.n, inL_of fun t ht => ?_⟩
  obtain ⟨j, hj, rfl⟩ := List.getElem_of_mem ht
  obtain ⟨b, off, c, g1, g2, g3, g4⟩ := h6.get j hj
  exact ih _ ht _ g4
/-- A value that may be, whose references have four bytes. -/
def okB (t : VT) : Bool := t.may && refsOk t
theorem okB_iff {t : VT} : okB t = true ↔ t.may = true ∧ refsOk t = true := by simp [okB]
theorem bytesV_yes {t : VT} (h : okB t = true) : bytesV t = .tuple #[.string (strL (bytesT t)), .int .i64 0] := if_pos (okB_iff.1 h)
theorem bytesV_no {t : VT} (h : okB t = false) : bytesV t = .tuple #[.string ⟨#[]⟩, .int .i64 2] := if_neg fun h' => by
  rw [okB_iff.2 h'] at h
  cases h
theorem bytes_len {t : VT} (h : okB t = true) : (bytesT t).length ≤ 132608 := by
  obtain ⟨h1, h2, _⟩ := may_all (okB_iff.1 h).1
  have := bytesT_le t h1
  omega
theorem readRes_back {t : VT} (h : okB t = true) (hn : inN t) : readRes (bytesT t) = (some t, 0) := by
  have h1 := read_back (okB_iff.1 h).1 hn (okB_iff.1 h).2 []
  rw [List.append_nil] at h1
  have := bytes_len h
  unfold readRes
  rw [if_neg (by omega), h1]
/-- What Read of some bytes comes to. -/
theorem readRes_ways (l : List UInt8) : (∃ x, readRes l = (some x, 0) ∧ bytesT x = l ∧ okB x = true) ∨ readRes l = (none, 20) ∨ readRes l = (none, 4) := by
  unfold readRes
  split
  · exact .inr (.inr rfl)
  · split
    · rename_i t h
      obtain ⟨h1, h2, h3⟩ := readT_back _ _ _ _ _ h
      rw [List.append_nil] at h1
      exact .inl ⟨t, rfl, h1, okB_iff.2 ⟨readT_may h, h3⟩⟩
    · exact .inr (.inl rfl)
theorem strL_list (l : List UInt8) : (strL l).toList = l := by
  rw [Lib.toList_data]; rfl
/-- Are the bytes alike just where the values are the same? -/
theorem same_bytes {t u : VT} (h : okB t = true) (hn : inN t) (h' : okB u = true) (hn' : inN u) : ((strL (bytesT t)).toList == (strL (bytesT u)).toList) = sameT t u := by
  rw [strL_list, strL_list, Bool.eq_iff_iff, beq_iff_eq]
  constructor
  · intro e
    rw [bytes_inj (okB_iff.1 h).1 hn (okB_iff.1 h).2 (okB_iff.1 h').1 hn' (okB_iff.1 h').2 e]
    exact sameT_refl (okB_iff.1 h').1
  · intro e
    unfold sameT at e
    simp only [Bool.and_eq_true, beq_iff_eq] at e
    rw [ordT_zero t u e.2]
theorem less_bytes {t u : VT} (h : okB t = true) (hn : inN t) (h' : okB u = true) (hn' : inN u) (hk : t.k = u.k) (hk2 : t.k = 1 ∨ t.k = 4) : Op.bytesLess (strL (bytesT t)).toList (strL (bytesT u)).toList = decide (ordT t u < 0) := by
  rw [strL_list, strL_list, Bool.eq_iff_iff, decide_eq_true_eq, ← ord_bytes (okB_iff.1 h).1 hn (okB_iff.1 h).2 (okB_iff.1 h').1 hn' (okB_iff.1 h').2 hk hk2]
theorem order_yes {t u : VT} (h : okB t = true) (h' : okB u = true) : rOrderV t u = .tuple #[.int .i64 (ordT t u), .int .i64 0] := by
  show (if t.may && u.may then _ else _) = _
  rw [(okB_iff.1 h).1, (okB_iff.1 h').1]
  rfl
/-- Two values as a list that lies in a block. -/
theorem LiesL.two {W : World} {pp pp' : Nat → Prop} {m m' : Bool} {t u : VT} {A A' : Option Addr} {cap cap' b : Nat} (h : Lies W pp m t (.agg #[.int .u8 (t.k : Int), .int .i64 t.n, .string t.s, .slice A t.l.length cap, .int .i64 t.r]))
    (h' : Lies W pp' m' u (.agg #[.int .u8 (u.k : Int), .int .i64 u.n, .string u.s, .slice A' u.l.length cap', .int .i64 u.r])) (hp : ∀ b, pp b → b < W.heap.size) (hp' : ∀ b, pp' b → b < W.heap.size)
    (hb : W.heap[b]? = some (.cells #[.int .u8 (t.k : Int), .int .i64 t.n, .string t.s, .slice A t.l.length cap, .int .i64 t.r, .int .u8 (u.k : Int), .int .i64 u.n, .string u.s, .slice A' u.l.length cap', .int .i64 u.r] 26 (0, 0))) :
    LiesL W (fun b => b < W.heap.size) false (some ⟨b, 0, none⟩) 0 [t, u] :=
  have hlt : b < W.heap.size := (Array.getElem?_eq_some_iff.1 hb).1
  ⟨⟨b, 0, _, rfl, hlt, rowAt_of hb rfl rfl rfl rfl rfl, Lies.same hp (fun _ _ => rfl) _ _ (Lies.plain _ _ h)⟩, ⟨b, 0, _, rfl, hlt, rowAt_of hb rfl rfl rfl rfl rfl, Lies.same hp' (fun _ _ => rfl) _ _ (Lies.plain _ _ h')⟩, trivial⟩
end Go.Proofs.Ytckgmdlacaiacaa
