/-
  value.proper, value.size; May, Parts, Deep.
-/
import Derived.Test.YtckgmdlacaiacaaTree
namespace Go.Proofs.Ytckgmdlacaiacaa
open Go.RowKit Go.Shelf
attribute [local go_sem] Oper.semAt_some

/-- Has a value a kind, and nothing that its kind does not name? -/
def propN (k : Nat) (n : Int) (s : ByteArray) (r : Int) (len : Nat) : Bool :=
  match k with
  | 0 => n == 0 && s.toList.isEmpty && (len : Int) == 0 && r == 0
  | 1 => s.toList.isEmpty && (len : Int) == 0 && r == 0
  | 2 => n == 0 && (len : Int) == 0 && r == 0 && decide ((s.size : Int) ≤ 256)
  | 3 => n == 0 && s.toList.isEmpty && r == 0
  | 4 => n == 0 && s.toList.isEmpty && (len : Int) == 0 && decide (1 ≤ r)
  | _ => false
theorem propN_big {k : Nat} (n : Int) (s : ByteArray) (r : Int) (len : Nat) (h : 5 ≤ k) : propN k n s r len = false := by
  match k, h with
  | k + 5, _ => rfl
theorem below_drewN {B : Nat} {w W : World} (h : Below B w W) : ∀ n, Below B w (W.drewN n)
  | 0 => h
  | n + 1 => (below_drewN h n).drew

set_option maxRecDepth 100000 in
set_option maxHeartbeats 1000000 in
theorem proper_w (k : Nat) (n : Int) (s : ByteArray) (r : Int) (A : Option Addr) (len cap : Nat) (w : World) (hk : k < 256) (_hl : len ≤ maxLen) (_hs : s.size ≤ maxLen) :
    Calls Try.prog 83 #[.agg (five k n s (.slice A len cap) r)] w fun e w' => e = .returned (.bool (propN k n s r len)) ∧ Below w.heap.size w w' := by
  unfold five
  have hk4 : k = 0 ∨ k = 1 ∨ k = 2 ∨ k = 3 ∨ k = 4 ∨ 5 ≤ k := by omega
  unfold maxLen at _hl _hs
  go_enter Try.func83, Try.ntmps83
  go_wp2
  go_quiet (fail)
  rcases hk4 with rfl | rfl | rfl | rfl | rfl | hk5
  · have HP := Lib.hid (show propN 0 n s r len = (n == 0 && s.toList.isEmpty && (len : Int) == 0 && r == 0) from rfl)
    generalize (n == 0) = a at *
    generalize s.toList.isEmpty = b at *
    generalize ((len : Int) == 0) = c at *
    generalize (r == 0) = d at *
    cases a <;> cases b <;> cases c <;> cases d <;> (go_wp2; go_ret; exact ⟨by rw [HP.out]; rfl, below_drewN ((Below.refl _ _).alloc (Nat.le_refl _) _) _⟩)
  · have HP := Lib.hid (show propN 1 n s r len = (s.toList.isEmpty && (len : Int) == 0 && r == 0) from rfl)
    generalize s.toList.isEmpty = b at *
    generalize ((len : Int) == 0) = c at *
    generalize (r == 0) = d at *
    cases b <;> cases c <;> cases d <;> (go_wp2; go_ret; exact ⟨by rw [HP.out]; rfl, below_drewN ((Below.refl _ _).alloc (Nat.le_refl _) _) _⟩)
  · have HP := Lib.hid (show propN 2 n s r len = (n == 0 && (len : Int) == 0 && r == 0 && decide ((s.size : Int) ≤ 256)) from rfl)
    generalize hd : decide ((s.size : Int) ≤ 256) = e at *
    generalize (n == 0) = a at *
    generalize ((len : Int) == 0) = c at *
    generalize (r == 0) = d at *
    cases a <;> cases c <;> cases d <;> cases e <;> (go_wp2; go_ret; exact ⟨by rw [HP.out]; rfl, below_drewN ((Below.refl _ _).alloc (Nat.le_refl _) _) _⟩)
  · have HP := Lib.hid (show propN 3 n s r len = (n == 0 && s.toList.isEmpty && r == 0) from rfl)
    generalize (n == 0) = a at *
    generalize s.toList.isEmpty = b at *
    generalize (r == 0) = d at *
    cases a <;> cases b <;> cases d <;> (go_wp2; go_ret; exact ⟨by rw [HP.out]; rfl, below_drewN ((Below.refl _ _).alloc (Nat.le_refl _) _) _⟩)
  · have HP := Lib.hid (show propN 4 n s r len = (n == 0 && s.toList.isEmpty && (len : Int) == 0 && decide (1 ≤ r)) from rfl)
    generalize hd : decide (1 ≤ r) = e at *
    generalize (n == 0) = a at *
    generalize s.toList.isEmpty = b at *
    generalize ((len : Int) == 0) = c at *
    cases a <;> cases b <;> cases c <;> cases e <;> (go_wp2; go_ret; exact ⟨by rw [HP.out]; rfl, below_drewN ((Below.refl _ _).alloc (Nat.le_refl _) _) _⟩)
  · have e0 : ((k : Int) == 0) = false := by rw [beq_eq_false_iff_ne]; omega
    have e1 : ((k : Int) == 1) = false := by rw [beq_eq_false_iff_ne]; omega
    have e2 : ((k : Int) == 2) = false := by rw [beq_eq_false_iff_ne]; omega
    have e3 : ((k : Int) == 3) = false := by rw [beq_eq_false_iff_ne]; omega
    have e4 : ((k : Int) == 4) = false := by rw [beq_eq_false_iff_ne]; omega
    go_wp2
    go_ret
    rw [propN_big _ _ _ _ hk5]
    exact ⟨rfl, below_drewN ((Below.refl _ _).alloc (Nat.le_refl _) _) _⟩

theorem w64 {x : Int} (h : -9223372036854775808 ≤ x ∧ x ≤ 9223372036854775807) : wrap64 x = x := by unfold wrap64; omega
namespace VT
mutual
/-- How many parts. -/
def parts : VT → Nat
  | .mk _ _ _ _ l => 1 + partsL l
def partsL : List VT → Nat
  | [] => 0
  | t :: ts => parts t + partsL ts
end
mutual
/-- How deep. -/
def deep : VT → Nat
  | .mk k _ _ _ l => if k = 3 then 1 + deepL l else 0
def deepL : List VT → Nat
  | [] => 0
  | t :: ts => max (deep t) (deepL ts)
end
mutual
/-- Is every part proper? -/
def good : VT → Bool
  | .mk k n s r l => propN k n s r l.length && goodL l
def goodL : List VT → Bool
  | [] => true
  | t :: ts => good t && goodL ts
end
theorem partsL_nil : partsL [] = 0 := rfl
theorem deepL_nil : deepL [] = 0 := rfl
theorem goodL_nil : goodL [] = true := rfl
theorem partsL_append : ∀ (l m : List VT), partsL (l ++ m) = partsL l + partsL m
  | [], m => by simp [partsL]
  | t :: ts, m => by simp [partsL, partsL_append ts m, Nat.add_assoc]
theorem deepL_append : ∀ (l m : List VT), deepL (l ++ m) = max (deepL l) (deepL m)
  | [], m => by simp [deepL]
  | t :: ts, m => by simp only [List.cons_append, deepL, deepL_append ts m]; omega
theorem goodL_append : ∀ (l m : List VT), goodL (l ++ m) = (goodL l && goodL m)
  | [], m => by simp [goodL]
  | t :: ts, m => by simp [goodL, goodL_append ts m, Bool.and_assoc]
theorem parts_pos (t : VT) : 1 ≤ parts t := by cases t; simp only [parts]; omega
theorem partsL_len : ∀ (l : List VT), l.length ≤ partsL l
  | [] => by simp
  | t :: ts => by have := partsL_len ts; have := parts_pos t; simp [partsL]; omega
/-- May it be, with so much room? -/
def ok (t : VT) (left nest : Nat) : Bool := good t && decide (parts t ≤ left) && decide (deep t ≤ nest)
def okL (l : List VT) (left nest : Nat) : Bool := goodL l && decide (partsL l ≤ left) && decide (deepL l ≤ nest)
theorem okL_append (a b : List VT) (L N : Nat) : okL (a ++ b) L N = (okL a L N && okL b (L - partsL a) N) := by
  unfold okL
  rw [goodL_append, partsL_append, deepL_append, Bool.eq_iff_iff]
  simp only [Bool.and_eq_true, decide_eq_true_eq]
  have h1 : max (deepL a) (deepL b) ≤ N ↔ deepL a ≤ N ∧ deepL b ≤ N := by omega
  rw [h1]
  constructor
  · intro ⟨⟨⟨g1, g2⟩, g3⟩, g4, g5⟩
    exact ⟨⟨⟨g1, by omega⟩, g4⟩, ⟨g2, by omega⟩, g5⟩
  · intro ⟨⟨⟨g1, g3⟩, g4⟩, ⟨g2, g5⟩, g6⟩
    exact ⟨⟨⟨g1, g2⟩, by omega⟩, g4, g6⟩
theorem okL_one (t : VT) (L N : Nat) : okL [t] L N = t.ok L N := by
  have h1 : goodL [t] = (good t && true) := rfl
  have h2 : partsL [t] = parts t + 0 := rfl
  have h3 : deepL [t] = max (deep t) 0 := rfl
  unfold okL ok
  rw [h1, h2, h3, Bool.and_true, Nat.add_zero, Nat.max_zero]
/-- One part more. -/
theorem size_step {l : List VT} {j left nest : Nat} (h : j < l.length) (hok : okL (l.take j) (left - 1) (nest - 1) = true) :
    (partsL (l.take j) ≤ left - 1 ∧ deepL (l.take j) ≤ nest - 1) ∧ (l[j].parts + partsL (l.take j) = partsL (l.take (j + 1)) ∧ max (deepL (l.take j)) l[j].deep = deepL (l.take (j + 1))) ∧
    (l[j].ok (left - (1 + partsL (l.take j))) (nest - 1) = true → okL (l.take (j + 1)) (left - 1) (nest - 1) = true ∧ l[j].parts ≤ left - (1 + partsL (l.take j)) ∧ l[j].deep ≤ nest - 1) ∧
    (l[j].ok (left - (1 + partsL (l.take j))) (nest - 1) = false → okL l (left - 1) (nest - 1) = false) := by
  have e : l.take (j + 1) = l.take j ++ [l[j]] := List.take_succ_eq_append_getElem h
  have e1 : partsL [l[j]] = parts l[j] + 0 := rfl
  have e2 : deepL [l[j]] = max (deep l[j]) 0 := rfl
  have e3 : left - (1 + partsL (l.take j)) = left - 1 - partsL (l.take j) := by omega
  have hb := hok
  unfold okL at hb
  simp only [Bool.and_eq_true, decide_eq_true_eq] at hb
  refine ⟨⟨hb.1.2, hb.2⟩, ⟨by rw [e, partsL_append, e1]; omega, by rw [e, deepL_append, e2, Nat.max_zero]⟩, fun hk => ⟨by rw [e, okL_append, okL_one, hok, ← e3, hk]; rfl, ?_⟩, fun hk => ?_⟩
  · unfold ok at hk
    simp only [Bool.and_eq_true, decide_eq_true_eq] at hk
    exact ⟨hk.1.2, hk.2⟩
  · have := okL_append (l.take (j + 1)) (l.drop (j + 1)) (left - 1) (nest - 1)
    rw [List.take_append_drop] at this
    rw [this, e, okL_append, okL_one, hok, ← e3, hk]
    rfl
theorem parts_le : ∀ {l : List VT} {j : Nat} (h : j < l.length), l[j].parts ≤ partsL l
  | t :: ts, 0, _ => by show parts t ≤ parts t + partsL ts; omega
  | t :: ts, j + 1, h => by
    have h' : j < ts.length := by simpa using h
    have := parts_le h'
    show ts[j].parts ≤ parts t + partsL ts
    omega
end VT
theorem take_get {α : Type} {l : List α} {j : Nat} (h : j < l.length) : l.take (j + 1) = l.take j ++ [l[j]] := List.take_succ_eq_append_getElem h
/-- What size answers. -/
def sizeV (t : VT) (left nest : Nat) : Value := if t.ok left nest then .tuple #[.int .i64 (t.parts : Int), .int .i64 (t.deep : Int), .bool true] else .tuple #[.int .i64 0, .int .i64 0, .bool false]

def noSize : Value := .tuple #[.int .i64 0, .int .i64 0, .bool false]
theorem partsL_zero {l : List VT} {s : ByteArray} {k : Nat} {n r : Int} (h : propN k n s r l.length = true) (hk : k ≠ 3) : l = [] := by
  unfold propN at h
  split at h
  all_goals simp_all
/-- What size answers, way by way. -/
theorem sizeV_eq (k : Nat) (n : Int) (s : ByteArray) (r : Int) (l : List VT) (left nest : Nat) :
    (left < 1 → sizeV (.mk k n s r l) left nest = noSize) ∧
    (propN k n s r l.length = false ∨ (k = 3 ∧ nest < 1) → sizeV (.mk k n s r l) left nest = noSize) ∧
    (¬ left < 1 → propN k n s r l.length = true → k ≠ 3 → sizeV (.mk k n s r l) left nest = .tuple #[.int .i64 1, .int .i64 0, .bool true]) ∧
    (¬ left < 1 → propN k n s r l.length = true → k = 3 → ¬ nest < 1 → sizeV (.mk k n s r l) left nest = if VT.okL l (left - 1) (nest - 1) then .tuple #[.int .i64 ((1 + VT.partsL l : Nat) : Int), .int .i64 ((1 + VT.deepL l : Nat) : Int), .bool true] else noSize) := by
  have hg : VT.good (.mk k n s r l) = (propN k n s r l.length && VT.goodL l) := rfl
  have hp : VT.parts (.mk k n s r l) = 1 + VT.partsL l := rfl
  have hd : VT.deep (.mk k n s r l) = if k = 3 then 1 + VT.deepL l else 0 := rfl
  unfold sizeV VT.ok VT.okL noSize
  rw [hg, hp, hd]
  refine ⟨fun h => ?_, fun h => ?_, fun h1 h2 h3 => ?_, fun h1 h2 h3 h4 => ?_⟩
  · rw [if_neg]
    simp only [Bool.and_eq_true, decide_eq_true_eq]
    omega
  · rw [if_neg]
    simp only [Bool.and_eq_true, decide_eq_true_eq]
    rcases h with h | ⟨rfl, h⟩
    · simp [h]
    · simp only [if_true]; omega
  · obtain rfl := partsL_zero h2 h3
    rw [if_pos]
    · rw [if_neg h3, VT.partsL_nil]; rfl
    · have e0 : (if k = 3 then 1 + VT.deepL ([] : List VT) else 0) = 0 := if_neg h3
      rw [e0, VT.goodL_nil, h2]
      have e1 : VT.partsL ([] : List VT) = 0 := rfl
      simp only [Bool.and_eq_true, decide_eq_true_eq, e1]
      simp; omega
  · subst h3
    have e0 : (if 3 = 3 then 1 + VT.deepL l else 0) = 1 + VT.deepL l := if_pos rfl
    rw [e0, h2, Bool.true_and]
    have ep : decide (1 + VT.partsL l ≤ left) = decide (VT.partsL l ≤ left - 1) := decide_eq_decide.2 (by omega)
    have ed : decide (1 + VT.deepL l ≤ nest) = decide (VT.deepL l ≤ nest - 1) := decide_eq_decide.2 (by omega)
    rw [ep, ed]

set_option maxRecDepth 100000 in
set_option maxHeartbeats 4000000 in
theorem size_w (p : Nat → Prop) (m : Bool) : ∀ (t : VT) (v : Value) (left nest : Nat) (w : World), Lies w p m t v → (∀ b, p b → b < w.heap.size) → left ≤ 512 → nest ≤ 16 →
    Calls Try.prog 56 #[v, .int .i64 (left : Int), .int .i64 (nest : Int)] w fun e w' => e = .returned (sizeV t left nest) ∧ Below w.heap.size w w' := by
  refine VT.ind fun k n s r l ih v left nest w h hpw hleft hnest => ?_
  obtain ⟨A, cap, rfl, ⟨hk, hn, hr, hs, hl⟩, _, _, hL, _⟩ := h
  have HPW := Lib.hid hpw
  have HP := Lib.hid (fun W => proper_w k n s r A l.length cap W hk hl hs)
  have HL := Lib.hid hL
  have IH := Lib.hid ih
  have HV := Lib.hid (sizeV_eq k n s r l left nest)
  generalize sizeV (.mk k n s r l) left nest = sv at *
  clear hL ih hpw
  unfold five at HP
  have hlen : l.length ≤ 9223372036854775807 := by unfold maxLen at hl; omega
  go_enter Try.func56, Try.ntmps56
  by_cases h1 : left < 1
  · have q1 : decide ((left : Int) < 1) = true := decide_eq_true (by omega)
    go_wp2
    go_ret3
    exact ⟨by rw [HV.out.1 h1]; rfl, (Below.refl _ _).alloc (Nat.le_refl _) _⟩
  have q1 : decide ((left : Int) < 1) = false := decide_eq_false (by omega)
  go_wp2_with fail
  refine (HP.out _).mono ?_
  rintro e w' ⟨rfl, hb1⟩
  obtain ⟨p, hp⟩ : ∃ p, propN k n s r l.length = p := ⟨_, rfl⟩
  have X := (Five.new w (.int .u8 (k : Int)) (.int .i64 n) (.string s) (.slice A l.length cap) (.int .i64 r)).below hb1 (by simp)
  have HB := Lib.hid (((Below.refl w.heap.size w).alloc (Nat.le_refl _) _).trans (hb1.mono (by simp)))
  have Hp := Lib.hid hp
  have e0 := X.e0
  have e3 := X.e3
  rw [hp]
  have hbX := X.lt
  clear hp hb1
  cases p
  · go_wp2
    go_ret3
    exact ⟨by rw [HV.out.2.1 (.inl Hp.out)]; rfl, HB.out⟩
  by_cases hk3 : k = 3
  · subst hk3
    by_cases hn1 : nest < 1
    · have q2 : decide ((nest : Int) < 1) = true := decide_eq_true (by omega)
      go_wp2
      go_ret3
      exact ⟨by rw [HV.out.2.1 (.inr ⟨trivial, hn1⟩)]; rfl, HB.out⟩
    · have q2 : decide ((nest : Int) < 1) = false := decide_eq_false (by omega)
      go_wp2
      have HV4 := Lib.hid (HV.out.2.2.2 h1 Hp.out trivial hn1)
      clear HV
      go_loopw [6, 7, 29] (fun pv dv iv wr => ∃ j : Nat, j ≤ l.length ∧ iv = .int .i64 (j : Int) ∧ pv = .int .i64 ((1 + VT.partsL (l.take j) : Nat) : Int) ∧ dv = .int .i64 ((1 + VT.deepL (l.take j) : Nat) : Int) ∧ VT.okL (l.take j) (left - 1) (nest - 1) = true ∧ Below w.heap.size w wr) (fun _ _ iv _ => l.length - (intOf iv).toNat)
      case atStart => exact ⟨0, Nat.zero_le _, rfl, rfl, rfl, by rw [List.take_zero]; unfold VT.okL; rw [VT.goodL_nil, VT.partsL_nil, VT.deepL_nil]; simp, HB.out⟩
      case round =>
        obtain ⟨j, hj, rfl, rfl, rfl, hok, hB⟩ := hrel
        have hsz := hB.size
        by_cases hlt : j < l.length
        · obtain ⟨b, off, A', cap', rfl, hbt, hrow, hLj⟩ := HL.out.elem j hlt
          obtain ⟨g0, g1, g2, g3, g4⟩ := (hrow.same (hB.block b (HPW.out b hbt))).get
          clear hrow
          have HC := fun v => IH.out l[j] (List.getElem_mem hlt) v (left - (1 + VT.partsL (l.take j))) (nest - 1)
          obtain ⟨hp1, hp2, hp3, hp4⟩ := VT.size_step hlt hok
          have hL1 : ((left - (1 + VT.partsL (l.take j)) : Nat) : Int) = (left : Int) - ((1 + VT.partsL (l.take j) : Nat) : Int) := by omega
          have hL2 : ((nest - 1 : Nat) : Int) = (nest : Int) - 1 := by omega
          simp only [hL1, hL2] at HC
          have HH := (fun W (hW : Below w.heap.size w W) => HC _ W (hLj.below hW HPW.out) (fun b hb => Nat.lt_of_lt_of_le (HPW.out b hb) hW.size) (by omega) (by omega))
          generalize l[j].k = k' at g0 HH
          generalize l[j].n = n' at g1 HH
          generalize l[j].s = s' at g2 HH
          generalize l[j].l.length = len' at g3 HH
          generalize l[j].r = r' at g4 HH
          have HH := Lib.hid HH
          have hb : b < wr.heap.size := Nat.lt_of_lt_of_le (HPW.out b hbt) hsz
          have HOK := Lib.hid hok
          clear HC hLj hL1 hL2 hok
          generalize VT.partsL (l.take j) = P at *
          have HBr := Lib.hid hB
          clear hB
          by_cases hk : l[j].ok (left - (1 + P)) (nest - 1) = true
          · have HN := Lib.hid (hp3 hk)
            rw [sizeV, if_pos hk] at HH
            clear hp3 hp4 hk
            generalize l[j].parts = p at *
            generalize l[j].deep = d at *
            generalize VT.deepL (l.take j) = D at *
            go_wp2_with fail
            refine (HH.out _ (HBr.out.alloc hsz _)).mono ?_
            rintro e w' ⟨rfl, hb2⟩
            have HB2 := Lib.hid ((HBr.out.alloc hsz (.cells #[.int .u8 (k' : Int), .int .i64 n', .string s', .slice A' len' cap', .int .i64 r'] 26)).trans (hb2.mono (by simp; omega)))
            clear hb2 HBr
            go_wp2
            obtain ⟨n1, n2, n3⟩ := HN.out
            rw [w64 (by omega), w64 (by omega)]
            refine ⟨⟨j + 1, by omega, by go_num, congrArg (Value.int .i64) (by have := hp2.1; omega), congrArg (Value.int .i64) ?_, n1, HB2.out⟩, by simp [intOf]; omega⟩
            have := hp2.2
            split <;> omega
          · have HN := Lib.hid (hp4 (by simpa using hk))
            rw [sizeV, if_neg hk] at HH
            clear hp3 hp4 hk
            go_wp2_with fail
            refine (HH.out _ (HBr.out.alloc hsz _)).mono ?_
            rintro e w' ⟨rfl, hb2⟩
            have HB2 := Lib.hid ((HBr.out.alloc hsz (.cells #[.int .u8 (k' : Int), .int .i64 n', .string s', .slice A' len' cap', .int .i64 r'] 26)).trans (hb2.mono (by simp; omega)))
            clear hb2 HBr
            go_wp2
            go_ret3
            exact ⟨by rw [HV4.out, HN.out]; rfl, HB2.out⟩
        · obtain rfl : j = l.length := by omega
          rw [List.take_length] at hok
          have hok' := Lib.hid hok
          rw [List.take_length]
          go_wp2
          go_ret3
          exact ⟨by rw [HV4.out, hok'.out]; rfl, hB⟩
  · have q3 : ((k : Int) != 3) = true := by rw [bne_iff_ne]; omega
    go_wp2
    go_ret3
    exact ⟨by rw [HV.out.2.2.1 h1 Hp.out hk3]; rfl, HB.out⟩

theorem size_top {p : Nat → Prop} {m : Bool} (t : VT) (v : Value) (w : World) (h : Lies w p m t v) (hp : ∀ b, p b → b < w.heap.size) :
    Calls Try.prog 56 #[v, .int .i64 512, .int .i64 16] w fun e w' => e = .returned (sizeV t 512 16) ∧ Below w.heap.size w w' := size_w p m t v 512 16 w h hp (by omega) (by omega)
/-- May it be? -/
def VT.may (t : VT) : Bool := t.ok 512 16
theorem may_iff (t : VT) : (t.may = true → sizeV t 512 16 = .tuple #[.int .i64 (t.parts : Int), .int .i64 (t.deep : Int), .bool true] ∧ t.parts ≤ 512 ∧ t.deep ≤ 16) ∧ (t.may = false → sizeV t 512 16 = noSize) := by
  unfold VT.may sizeV
  refine ⟨fun h => ⟨by rw [if_pos h], ?_⟩, fun h => by rw [if_neg (by simp [h])]; rfl⟩
  unfold VT.ok at h
  simp only [Bool.and_eq_true, decide_eq_true_eq] at h
  exact ⟨h.1.2, h.2⟩
set_option maxHeartbeats 1000000 in
theorem may_w {pp : Nat → Prop} {m : Bool} (t : VT) (v : Value) (w : World) (h : Lies w pp m t v) (hpp : ∀ b, pp b → b < w.heap.size) :
    Calls Try.prog 17 #[v] w fun e w' => e = .returned (.bool t.may) ∧ Below w.heap.size w w' := by
  obtain ⟨A, cap, rfl⟩ := h.cells
  have H := fun W hW => size_top t _ W (h.below (W' := W) hW hpp) (fun b hb => Nat.lt_of_lt_of_le (hpp b hb) (Below.size hW))
  have hb0 := Lib.hid ((Below.refl w.heap.size w).alloc (Nat.le_refl _) (.cells #[.int .u8 (t.k : Int), .int .i64 t.n, .string t.s, .slice A t.l.length cap, .int .i64 t.r] 26))
  have HQ := Lib.hid (may_iff t)
  generalize t.may = q at *
  generalize sizeV t 512 16 = sv at *
  generalize t.parts = p at *
  generalize t.deep = d at *
  generalize t.k = a0 at *
  generalize t.n = a1 at *
  generalize t.s = a2 at *
  generalize t.l.length = a3 at *
  generalize t.r = a4 at *
  have H := Lib.hid H
  clear h
  go_enter Try.func17, Try.ntmps17
  go_wp2_with fail
  refine (H.out _ hb0.out).mono ?_
  rintro e w' ⟨rfl, hb⟩
  have hB := Lib.hid (hb0.out.trans (hb.mono (by simp)))
  clear hb
  cases q
  · obtain rfl := HQ.out.2 rfl
    unfold noSize
    go_wp2
    go_ret
    exact ⟨rfl, hB.out⟩
  · obtain ⟨rfl, hp, hd⟩ := HQ.out.1 rfl
    go_wp2
    go_ret
    exact ⟨rfl, hB.out⟩
set_option maxHeartbeats 1000000 in
theorem parts_w {pp : Nat → Prop} {m : Bool} (t : VT) (v : Value) (w : World) (h : Lies w pp m t v) (hpp : ∀ b, pp b → b < w.heap.size) :
    Calls Try.prog 15 #[v] w fun e w' => e = .returned (.int .i64 ((if t.may then t.parts else 0 : Nat) : Int)) ∧ Below w.heap.size w w' := by
  obtain ⟨A, cap, rfl⟩ := h.cells
  have H := fun W hW => size_top t _ W (h.below (W' := W) hW hpp) (fun b hb => Nat.lt_of_lt_of_le (hpp b hb) (Below.size hW))
  have hb0 := Lib.hid ((Below.refl w.heap.size w).alloc (Nat.le_refl _) (.cells #[.int .u8 (t.k : Int), .int .i64 t.n, .string t.s, .slice A t.l.length cap, .int .i64 t.r] 26))
  have HQ := Lib.hid (may_iff t)
  generalize t.may = q at *
  generalize sizeV t 512 16 = sv at *
  generalize t.parts = p at *
  generalize t.deep = d at *
  generalize t.k = a0 at *
  generalize t.n = a1 at *
  generalize t.s = a2 at *
  generalize t.l.length = a3 at *
  generalize t.r = a4 at *
  have H := Lib.hid H
  clear h
  go_enter Try.func15, Try.ntmps15
  go_wp2_with fail
  refine (H.out _ hb0.out).mono ?_
  rintro e w' ⟨rfl, hb⟩
  have hB := Lib.hid (hb0.out.trans (hb.mono (by simp)))
  clear hb
  cases q
  · obtain rfl := HQ.out.2 rfl
    unfold noSize
    go_wp2
    go_ret
    exact ⟨rfl, hB.out⟩
  · obtain ⟨rfl, hp, hd⟩ := HQ.out.1 rfl
    go_wp2
    go_ret
    exact ⟨rfl, hB.out⟩
set_option maxHeartbeats 1000000 in
theorem deep_w {pp : Nat → Prop} {m : Bool} (t : VT) (v : Value) (w : World) (h : Lies w pp m t v) (hpp : ∀ b, pp b → b < w.heap.size) :
    Calls Try.prog 16 #[v] w fun e w' => e = .returned (.int .i64 ((if t.may then t.deep else 0 : Nat) : Int)) ∧ Below w.heap.size w w' := by
  obtain ⟨A, cap, rfl⟩ := h.cells
  have H := fun W hW => size_top t _ W (h.below (W' := W) hW hpp) (fun b hb => Nat.lt_of_lt_of_le (hpp b hb) (Below.size hW))
  have hb0 := Lib.hid ((Below.refl w.heap.size w).alloc (Nat.le_refl _) (.cells #[.int .u8 (t.k : Int), .int .i64 t.n, .string t.s, .slice A t.l.length cap, .int .i64 t.r] 26))
  have HQ := Lib.hid (may_iff t)
  generalize t.may = q at *
  generalize sizeV t 512 16 = sv at *
  generalize t.parts = p at *
  generalize t.deep = d at *
  generalize t.k = a0 at *
  generalize t.n = a1 at *
  generalize t.s = a2 at *
  generalize t.l.length = a3 at *
  generalize t.r = a4 at *
  have H := Lib.hid H
  clear h
  go_enter Try.func16, Try.ntmps16
  go_wp2_with fail
  refine (H.out _ hb0.out).mono ?_
  rintro e w' ⟨rfl, hb⟩
  have hB := Lib.hid (hb0.out.trans (hb.mono (by simp)))
  clear hb
  cases q
  · obtain rfl := HQ.out.2 rfl
    unfold noSize
    go_wp2
    go_ret
    exact ⟨rfl, hB.out⟩
  · obtain ⟨rfl, hp, hd⟩ := HQ.out.1 rfl
    go_wp2
    go_ret
    exact ⟨rfl, hB.out⟩
end Go.Proofs.Ytckgmdlacaiacaa
