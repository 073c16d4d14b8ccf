/-
  What AbleParts counts, as numbers: sets that rise within a set, abilities that rise; no program stands here.
-/
import Derived.Test.YtohhobmjebdfaaaDoorLatMath
import Derived.Test.YtohhobmjebdfaaaDoorWalk
namespace Go.Proofs.YtohhobmjebdfaaaDoor

/-- What has come of Within: rising, within a. -/
def GoodW (a : Nat) (pre : List (Fin 64)) : Prop := pre.Pairwise (fun x y => x.val < y.val) ∧ ∀ x ∈ pre, hasN a x.val = true
def lastI (pre : List (Fin 64)) : Int := match pre.getLast? with | none => -1 | some x => (x.val : Int)
theorem lastI_snoc (pre : List (Fin 64)) (x : Fin 64) : lastI (pre ++ [x]) = (x.val : Int) := by simp [lastI]
theorem lastI_bound (pre : List (Fin 64)) : -1 ≤ lastI pre ∧ lastI pre ≤ 63 := by
  unfold lastI
  cases pre.getLast? with
  | none => simp
  | some x => have := x.isLt; simp only; omega
theorem lastI_ge {pre : List (Fin 64)} (h : pre.Pairwise (fun x y => x.val < y.val)) : ∀ y ∈ pre, (y.val : Int) ≤ lastI pre := by
  rcases List.eq_nil_or_concat pre with rfl | ⟨q, z, rfl⟩
  · exact fun y hy => absurd hy List.not_mem_nil
  · rw [List.concat_eq_append] at h ⊢
    intro y hy
    rw [lastI_snoc]
    rcases List.mem_append.1 hy with hy | hy
    · have := (List.pairwise_append.1 h).2.2 y hy z (by simp); omega
    · obtain rfl : y = z := by simpa using hy
      omega
theorem goodW_snoc {a : Nat} {pre : List (Fin 64)} {x : Fin 64} (h : GoodW a pre) : GoodW a (pre ++ [x]) ↔ lastI pre < (x.val : Int) ∧ hasN a x.val = true := by
  constructor
  · intro ⟨h1, h2⟩
    refine ⟨?_, h2 x (by simp)⟩
    rcases List.eq_nil_or_concat pre with rfl | ⟨q, z, rfl⟩
    · simp [lastI]; omega
    · rw [List.concat_eq_append] at h1 ⊢
      rw [lastI_snoc]
      have := (List.pairwise_append.1 h1).2.2 z (by simp) x (by simp)
      omega
  · intro ⟨h1, h2⟩
    refine ⟨List.pairwise_append.2 ⟨h.1, by simp, ?_⟩, ?_⟩
    · intro y hy z hz
      obtain rfl : z = x := by simpa using hz
      have := lastI_ge h.1 y hy
      omega
    · intro y hy
      rcases List.mem_append.1 hy with hy | hy
      · exact h.2 y hy
      · obtain rfl : y = x := by simpa using hy
        exact h2
theorem goodW_prefix {a : Nat} {pre xs : List (Fin 64)} (h : pre <+: xs) (hg : GoodW a xs) : GoodW a pre :=
  ⟨hg.1.sublist h.sublist, fun x hx => hg.2 x (h.subset hx)⟩
theorem goodW_within' : ∀ a : Fin 64, (withinL a.val).Pairwise (fun x y => x.val < y.val) ∧ ∀ x ∈ withinL a.val, hasN a.val x.val = true := by decide +kernel
theorem goodW_within {a : Nat} (ha : a < 64) : GoodW a (withinL a) := goodW_within' ⟨a, ha⟩
theorem goodW_nil (a : Nat) : GoodW a [] := ⟨List.Pairwise.nil, fun _ h => absurd h List.not_mem_nil⟩
def metN (b : Nat) (pre : List (Fin 64)) : Bool := pre.any (fun x => x.val == b)
theorem metN_snoc (b : Nat) (pre : List (Fin 64)) (x : Fin 64) : metN b (pre ++ [x]) = (metN b pre || (x.val == b)) := by simp [metN]
theorem met_within' : ∀ a b : Fin 64, metN b.val (withinL a.val) = hasN a.val b.val := by decide +kernel
theorem met_within {a b : Nat} (ha : a < 64) (hb : b < 64) : metN b (withinL a) = hasN a b := met_within' ⟨a, ha⟩ ⟨b, hb⟩

/-- What has come of Each: rising. -/
def GoodE (pre : List (Fin 6)) : Prop := pre.Pairwise (fun x y => x.val < y.val)
def nextI (pre : List (Fin 6)) : Int := match pre.getLast? with | none => 0 | some x => (x.val : Int) + 1
def allN (pre : List (Fin 6)) : Nat := pre.foldl (fun m x => m ||| 2 ^ x.val) 0
theorem nextI_snoc (pre : List (Fin 6)) (x : Fin 6) : nextI (pre ++ [x]) = (x.val : Int) + 1 := by simp [nextI]
theorem nextI_bound (pre : List (Fin 6)) : 0 ≤ nextI pre ∧ nextI pre ≤ 6 := by
  unfold nextI
  cases pre.getLast? with
  | none => simp
  | some x => have := x.isLt; simp only; omega
theorem nextI_gt {pre : List (Fin 6)} (h : GoodE pre) : ∀ y ∈ pre, (y.val : Int) < nextI pre := by
  rcases List.eq_nil_or_concat pre with rfl | ⟨q, z, rfl⟩
  · exact fun y hy => absurd hy List.not_mem_nil
  · rw [List.concat_eq_append] at h ⊢
    intro y hy
    rw [nextI_snoc]
    rcases List.mem_append.1 hy with hy | hy
    · have := (List.pairwise_append.1 h).2.2 y hy z (by simp); omega
    · obtain rfl : y = z := by simpa using hy
      omega
theorem goodE_snoc {pre : List (Fin 6)} {x : Fin 6} (h : GoodE pre) : GoodE (pre ++ [x]) ↔ nextI pre ≤ (x.val : Int) := by
  constructor
  · intro h1
    rcases List.eq_nil_or_concat pre with rfl | ⟨q, z, rfl⟩
    · simp [nextI]
    · unfold GoodE at h1
      rw [List.concat_eq_append] at h1 ⊢
      rw [nextI_snoc]
      have := (List.pairwise_append.1 h1).2.2 z (by simp) x (by simp)
      omega
  · intro h1
    refine List.pairwise_append.2 ⟨h, by simp, ?_⟩
    intro y hy z hz
    obtain rfl : z = x := by simpa using hz
    have := nextI_gt h y hy
    omega
theorem goodE_prefix {pre xs : List (Fin 6)} (h : pre <+: xs) (hg : GoodE xs) : GoodE pre := List.Pairwise.sublist h.sublist hg
theorem goodE_each' : ∀ a : Fin 64, (eachL a.val).Pairwise (fun x y => x.val < y.val) := by decide +kernel
theorem goodE_each {a : Nat} (ha : a < 64) : GoodE (eachL a) := goodE_each' ⟨a, ha⟩
theorem allN_snoc (pre : List (Fin 6)) (x : Fin 6) : allN (pre ++ [x]) = allN pre ||| 2 ^ x.val := by simp [allN]
theorem pow6_lt (x : Fin 6) : 2 ^ x.val < 64 := by
  have := x.isLt
  exact Nat.pow_lt_pow_right (a := 2) (n := 6) (by decide) this
theorem allN_lt (pre : List (Fin 6)) : allN pre < 64 := by
  have : ∀ (l : List (Fin 6)) (m : Nat), m < 64 → l.foldl (fun m x => m ||| 2 ^ x.val) m < 64 := by
    intro l
    induction l with
    | nil => exact fun m h => h
    | cons x l ih => exact fun m h => ih _ (Nat.or_lt_two_pow (n := 6) h (pow6_lt x))
  exact this pre 0 (by decide)
theorem allN_bit (pre : List (Fin 6)) (i : Nat) : (allN pre).testBit i = pre.any (fun x => x.val == i) := by
  have : ∀ (l : List (Fin 6)) (m : Nat), (l.foldl (fun m x => m ||| 2 ^ x.val) m).testBit i = (m.testBit i || l.any (fun x => x.val == i)) := by
    intro l
    induction l with
    | nil => intro m; simp
    | cons x l ih =>
      intro m
      rw [List.foldl_cons, ih, Nat.testBit_or, Nat.testBit_two_pow, List.any_cons, Bool.or_assoc]
      rfl
  rw [allN, this, Nat.zero_testBit, Bool.false_or]
theorem meet_new {pre : List (Fin 6)} {x : Fin 6} (h : GoodE pre) (hx : nextI pre ≤ (x.val : Int)) : meetN [allN pre, 2 ^ x.val] = 0 := by
  refine same6 (meetN_lt _) (by decide) (fun i hi => ?_)
  rw [bit_meet2, allN_bit, Nat.testBit_two_pow, Nat.zero_testBit]
  by_cases hxi : x.val = i
  · subst hxi
    have : pre.any (fun y => y.val == x.val) = false := by
      rw [List.any_eq_false]
      intro y hy
      have := nextI_gt h y hy
      simp only [beq_iff_eq]
      omega
    simp [this]
  · simp [hxi]
theorem join_new (pre : List (Fin 6)) (x : Fin 6) : joinN [allN pre, 2 ^ x.val] % 64 = allN (pre ++ [x]) := by
  rw [allN_snoc, Nat.mod_eq_of_lt]
  · simp [joinN]
  · simpa [joinN] using Nat.or_lt_two_pow (n := 6) (allN_lt pre) (pow6_lt x)
theorem each_all' : ∀ a : Fin 64, allN (eachL a.val) = a.val := by decide +kernel
theorem each_all {a : Nat} (ha : a < 64) : allN (eachL a) = a := each_all' ⟨a, ha⟩
/-- Powers of two, behind a name. -/
def pw (k : Nat) : Nat := 2 ^ k
theorem pw_succ (k : Nat) : pw (k + 1) = 2 * pw k := by unfold pw; rw [Nat.pow_succ]; omega
theorem pw_facts : ∀ k, k ≤ 6 → 1 ≤ pw k ∧ pw k ≤ 64 := by
  intro k hk
  obtain rfl | rfl | rfl | rfl | rfl | rfl | rfl : k = 0 ∨ k = 1 ∨ k = 2 ∨ k = 3 ∨ k = 4 ∨ k = 5 ∨ k = 6 := by omega
  all_goals decide
theorem countN_six' : ∀ a : Fin 64, countN a.val ≤ 6 := by decide +kernel
theorem countN_six {a : Nat} (ha : a < 64) : countN a ≤ 6 := countN_six' ⟨a, ha⟩
theorem within_len' : ∀ a : Fin 64, (withinL a.val).length = pw (countN a.val) := by decide +kernel
theorem within_len {a : Nat} (ha : a < 64) : (withinL a).length = pw (countN a) := within_len' ⟨a, ha⟩
end Go.Proofs.YtohhobmjebdfaaaDoor
