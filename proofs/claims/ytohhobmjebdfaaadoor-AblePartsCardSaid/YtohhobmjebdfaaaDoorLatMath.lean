/-
  The lattice of sets below 64, as numbers: no program stands here.
-/
import Derived.Test.YtohhobmjebdfaaaDoorFold
namespace Go.Proofs.YtohhobmjebdfaaaDoor

theorem bit_hi {a i : Nat} (h : a < 64) (hi : ¬ i < 6) : a.testBit i = false :=
  Nat.testBit_lt_two_pow (Nat.lt_of_lt_of_le h (Nat.pow_le_pow_right (n := 2) (by decide) (by omega : 6 ≤ i)))
theorem bit_less (a b i : Nat) (hb : b < 256) : (lessN a b).testBit i = (decide (i < 6) && (a.testBit i && !b.testBit i)) := by
  unfold lessN
  rw [show (64 : Nat) = 2 ^ 6 from rfl, Nat.testBit_mod_two_pow, Nat.testBit_and, show 255 - b = 2 ^ 8 - (b + 1) by omega, Nat.testBit_two_pow_sub_succ (by omega)]
  by_cases h : i < 6
  · simp [h, show i < 8 by omega]
  · simp [h]
theorem bit_63 (i : Nat) : (63 : Nat).testBit i = decide (i < 6) := by
  rw [show (63 : Nat) = 2 ^ 6 - 1 from rfl, Nat.testBit_two_pow_sub_one]
theorem bit_meet1 (a i : Nat) : (meetN [a]).testBit i = (decide (i < 6) && a.testBit i) := by
  simp [meetN, Nat.testBit_and, bit_63]
theorem bit_meet2 (a b i : Nat) : (meetN [a, b]).testBit i = (decide (i < 6) && a.testBit i && b.testBit i) := by
  simp [meetN, Nat.testBit_and, bit_63]
theorem bit_meet3 (a b c i : Nat) : (meetN [a, b, c]).testBit i = (decide (i < 6) && a.testBit i && b.testBit i && c.testBit i) := by
  simp [meetN, Nat.testBit_and, bit_63]
theorem bit_join2 (a b i : Nat) : (joinN [a, b] % 64).testBit i = (decide (i < 6) && (a.testBit i || b.testBit i)) := by
  rw [show (64 : Nat) = 2 ^ 6 from rfl, Nat.testBit_mod_two_pow]
  simp [joinN, Nat.testBit_or]
theorem bit_join3 (a b c i : Nat) : (joinN [a, b, c] % 64).testBit i = (decide (i < 6) && (a.testBit i || b.testBit i || c.testBit i)) := by
  rw [show (64 : Nat) = 2 ^ 6 from rfl, Nat.testBit_mod_two_pow]
  simp [joinN, Nat.testBit_or]
theorem meetN_lt' (xs : List Nat) : meetN xs < 256 := Nat.lt_trans (meetN_lt xs) (by decide)
theorem join_lt (x : Nat) : x % 64 < 64 := Nat.mod_lt _ (by decide)

/-- Two sets that have the same six bits are one. -/
theorem same6 {x y : Nat} (hx : x < 64) (hy : y < 64) (h : ∀ i, i < 6 → x.testBit i = y.testBit i) : x = y := by
  apply Nat.eq_of_testBit_eq
  intro i
  by_cases hi : i < 6
  · exact h i hi
  · rw [bit_hi hx hi, bit_hi hy hi]

structure LatFacts (a b c m j mc bc jc bcj p ac q acj n u nb lb : Nat) (h : Bool) : Prop where
  f1 : meetN [a, b] = m
  f2 : joinN [a, b] % 64 = j
  f3 : meetN [b, a] = m
  f4 : joinN [b, a] % 64 = j
  f5 : meetN [m, c] = mc
  f6 : meetN [a, b, c] = mc
  f7 : meetN [b, c] = bc
  f8 : meetN [a, bc] = mc
  f9 : joinN [j, c] % 64 = jc
  f10 : joinN [a, b, c] % 64 = jc
  f11 : joinN [b, c] % 64 = bcj
  f12 : joinN [a, bcj] % 64 = jc
  f13 : meetN [a, a] = a
  f14 : joinN [a, a] % 64 = a
  f15 : meetN [a, j] = a
  f16 : joinN [a, m] % 64 = a
  f17 : meetN [a, bcj] = p
  f18 : meetN [a, c] = ac
  f19 : joinN [m, ac] % 64 = p
  f20 : joinN [a, bc] % 64 = q
  f21 : joinN [a, c] % 64 = acj
  f22 : meetN [j, acj] = q
  f23 : lessN 63 a = n
  f24 : meetN [a, n] = 0
  f25 : joinN [a, n] % 64 = 63
  f26 : lessN 63 m = u
  f27 : lessN 63 b = nb
  f28 : joinN [n, nb] % 64 = u
  f29 : lessN 63 n = a
  f30 : hasN a b = h
  f31 : ((m : Int) == (b : Int)) = h
  f32 : ((j : Int) == (a : Int)) = h
  f33 : lessN b a = lb
  f34 : ((lb : Int) == 0) = h
  lt : m < 64 ∧ j < 64 ∧ mc < 64 ∧ bc < 64 ∧ jc < 64 ∧ bcj < 64 ∧ p < 64 ∧ ac < 64 ∧ q < 64 ∧ acj < 64 ∧ n < 64 ∧ u < 64 ∧ nb < 64 ∧ lb < 64

/-- b is within a, bit by bit. -/
def Inside (a b : Nat) : Prop := ∀ i, i < 6 → b.testBit i = true → a.testBit i = true
theorem less_iff {a b : Nat} (ha : a < 64) (_hb : b < 64) : lessN b a = 0 ↔ Inside a b := by
  constructor
  · intro h i hi hbi
    have := congrArg (·.testBit i) h
    simp only [bit_less b a i (by omega), hi, hbi, decide_true, Bool.true_and, Nat.zero_testBit] at this
    simpa using this
  · intro h
    refine same6 (lessN_lt _ _) (by decide) (fun i hi => ?_)
    rw [bit_less b a i (by omega), Nat.zero_testBit]
    have := h i hi
    cases hb : b.testBit i
    · simp
    · simp [this hb]
theorem meet_iff {a b : Nat} (_ha : a < 64) (hb : b < 64) : meetN [a, b] = b ↔ Inside a b := by
  constructor
  · intro h i hi hbi
    have := congrArg (·.testBit i) h
    simp only [bit_meet2, hi, hbi, decide_true, Bool.true_and, Bool.and_true] at this
    exact this
  · intro h
    refine same6 (meetN_lt _) hb (fun i hi => ?_)
    rw [bit_meet2]
    have := h i hi
    cases hb : b.testBit i
    · simp
    · simp [this hb, hi]
theorem join_iff {a b : Nat} (ha : a < 64) (_hb : b < 64) : joinN [a, b] % 64 = a ↔ Inside a b := by
  constructor
  · intro h i hi hbi
    have := congrArg (·.testBit i) h
    simp only [bit_join2, hi, hbi, decide_true, Bool.true_and, Bool.or_true] at this
    exact this.symm
  · intro h
    refine same6 (join_lt _) ha (fun i hi => ?_)
    rw [bit_join2]
    have := h i hi
    cases hb : b.testBit i
    · simp [hi]
    · simp [this hb, hi]
theorem has_eq {a b x y : Nat} (h : x = y ↔ Inside a b) (ha : a < 64 := by assumption) (hb : b < 64 := by assumption) : ((x : Int) == (y : Int)) = hasN a b := by
  unfold hasN
  rw [Bool.eq_iff_iff]
  have := less_iff ha hb
  simp only [beq_iff_eq]
  rw [this, ← h]
  omega

theorem latFacts (a b c : Nat) (ha : a < 64) (hb : b < 64) : ∃ m j mc bc jc bcj p ac q acj n u nb lb h, LatFacts a b c m j mc bc jc bcj p ac q acj n u nb lb h := by
  have hm := meetN_lt [a, b]
  have hj := join_lt (joinN [a, b])
  have hbc := meetN_lt [b, c]
  have hbcj := join_lt (joinN [b, c])
  have hac := meetN_lt [a, c]
  have hacj := join_lt (joinN [a, c])
  have hn := lessN_lt 63 a
  have hnb := lessN_lt 63 b
  have hu := lessN_lt 63 (meetN [a, b])
  have hlb := lessN_lt b a
  refine ⟨meetN [a, b], joinN [a, b] % 64, meetN [a, b, c], meetN [b, c], joinN [a, b, c] % 64, joinN [b, c] % 64, meetN [a, joinN [b, c] % 64], meetN [a, c], joinN [a, meetN [b, c]] % 64, joinN [a, c] % 64, lessN 63 a, lessN 63 (meetN [a, b]), lessN 63 b, lessN b a, hasN a b,
    ⟨rfl, rfl, ?_, ?_, ?_, rfl, rfl, ?_, ?_, rfl, rfl, ?_, ?_, ?_, ?_, ?_, rfl, rfl, ?_, rfl, rfl, ?_, rfl, ?_, ?_, rfl, rfl, ?_, ?_, rfl, ?_, ?_, rfl, ?_, ?_⟩⟩
  all_goals first
    | exact ⟨hm, hj, meetN_lt _, hbc, join_lt _, hbcj, meetN_lt _, hac, join_lt _, hacj, hn, hu, hnb, hlb⟩
    | exact has_eq (meet_iff ha hb)
    | exact has_eq (join_iff ha hb)
    | exact has_eq (less_iff ha hb)
    | (refine same6 ?_ ?_ (fun i hi => ?_)
       · first | exact ha | exact meetN_lt _ | exact join_lt _ | exact lessN_lt _ _ | decide
       · first | exact ha | exact meetN_lt _ | exact join_lt _ | exact lessN_lt _ _ | decide
       · have l1 := fun x => bit_less x a i (by omega)
         have l2 := fun x => bit_less x b i (by omega)
         have l3 := fun x => bit_less x (lessN 63 a) i (by omega)
         have l4 := fun x => bit_less x (meetN [a, b]) i (by omega)
         simp only [bit_meet2, bit_meet3, bit_join2, bit_join3, bit_63, l1, l2, l3, l4, hi, decide_true, Bool.true_and, Nat.zero_testBit]
         try (cases a.testBit i <;> cases b.testBit i <;> cases c.testBit i <;> rfl))
end Go.Proofs.YtohhobmjebdfaaaDoor
