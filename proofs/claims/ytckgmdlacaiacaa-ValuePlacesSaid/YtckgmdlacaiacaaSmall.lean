/-
  The statements' own: small.
-/
import Derived.Test.YtckgmdlacaiacaaRefs0
namespace Go.Proofs.Ytckgmdlacaiacaa
open Go.RowKit Go.Shelf
attribute [local go_sem] Oper.semAt_some
namespace VT
mutual
/-- How high, one for a value without parts. -/
def hgt : VT → Nat
  | .mk _ _ _ _ l => 1 + hgtL l
def hgtL : List VT → Nat
  | [] => 0
  | t :: ts => max (hgt t) (hgtL ts)
end
theorem hgtL_append : ∀ (l m : List VT), hgtL (l ++ m) = max (hgtL l) (hgtL m)
  | [], m => by simp [hgtL]
  | t :: ts, m => by simp only [List.cons_append, hgtL, hgtL_append ts m]; omega
/-- Small enough? -/
def sm (t : VT) (room D : Nat) : Bool := decide (parts t ≤ room) && decide (hgt t ≤ D)
def smL (l : List VT) (room D : Nat) : Bool := decide (partsL l ≤ room) && decide (hgtL l ≤ D)
theorem smL_append (a b : List VT) (L N : Nat) : smL (a ++ b) L N = (smL a L N && smL b (L - partsL a) N) := by
  unfold smL
  rw [partsL_append, hgtL_append, Bool.eq_iff_iff]
  simp only [Bool.and_eq_true, decide_eq_true_eq]
  have h1 : max (hgtL a) (hgtL b) ≤ N ↔ hgtL a ≤ N ∧ hgtL b ≤ N := by omega
  rw [h1]
  constructor
  · intro ⟨g3, g4, g5⟩
    exact ⟨⟨by omega, g4⟩, by omega, g5⟩
  · intro ⟨⟨g3, g4⟩, g5, g6⟩
    exact ⟨by omega, g4, g6⟩
theorem smL_one (t : VT) (L N : Nat) : smL [t] L N = t.sm L N := by
  have h2 : partsL [t] = parts t + 0 := rfl
  have h3 : hgtL [t] = max (hgt t) 0 := rfl
  unfold smL sm
  rw [h2, h3, Nat.add_zero, Nat.max_zero]
theorem small_step {l : List VT} {j left nest : Nat} (h : j < l.length) (hok : smL (l.take j) (left - 1) (nest - 1) = true) :
    partsL (l.take j) ≤ left - 1 ∧ l[j].parts + partsL (l.take j) = partsL (l.take (j + 1)) ∧
    (l[j].sm (left - (1 + partsL (l.take j))) (nest - 1) = true → smL (l.take (j + 1)) (left - 1) (nest - 1) = true ∧ l[j].parts ≤ left - (1 + partsL (l.take j))) ∧
    (l[j].sm (left - (1 + partsL (l.take j))) (nest - 1) = false → smL l (left - 1) (nest - 1) = false) := by
  have e : l.take (j + 1) = l.take j ++ [l[j]] := List.take_succ_eq_append_getElem h
  have e1 : partsL [l[j]] = parts l[j] + 0 := rfl
  have e3 : left - (1 + partsL (l.take j)) = left - 1 - partsL (l.take j) := by omega
  have hb := hok
  unfold smL at hb
  simp only [Bool.and_eq_true, decide_eq_true_eq] at hb
  refine ⟨hb.1, by rw [e, partsL_append, e1]; omega, fun hk => ⟨by rw [e, smL_append, smL_one, hok, ← e3, hk]; rfl, ?_⟩, fun hk => ?_⟩
  · unfold sm at hk
    simp only [Bool.and_eq_true, decide_eq_true_eq] at hk
    exact hk.1
  · have := smL_append (l.take (j + 1)) (l.drop (j + 1)) (left - 1) (nest - 1)
    rw [List.take_append_drop] at this
    rw [this, e, smL_append, smL_one, hok, ← e3, hk]
    rfl
end VT
/-- What small answers. -/
def smallV (t : VT) (room D : Nat) : Value := if t.sm room D then .int .i64 (t.parts : Int) else .int .i64 (-1)
theorem smallV_eq (k : Nat) (n : Int) (s : ByteArray) (r : Int) (l : List VT) (left nest : Nat) :
    (nest < 1 ∨ left < 1 ∨ left ≤ l.length → smallV (.mk k n s r l) left nest = noLook) ∧
    (¬ nest < 1 → ¬ left < 1 → smallV (.mk k n s r l) left nest = if VT.smL l (left - 1) (nest - 1) then .int .i64 ((1 + VT.partsL l : Nat) : Int) else noLook) := by
  have hp : VT.parts (.mk k n s r l) = 1 + VT.partsL l := rfl
  have hd : VT.hgt (.mk k n s r l) = 1 + VT.hgtL l := rfl
  have hlen := VT.partsL_len l
  unfold smallV VT.sm VT.smL noLook
  rw [hp, hd]
  refine ⟨fun h => ?_, fun h1 h2 => ?_⟩
  · rw [if_neg]
    simp only [Bool.and_eq_true, decide_eq_true_eq]
    omega
  · have ep : decide (1 + VT.partsL l ≤ left) = decide (VT.partsL l ≤ left - 1) := decide_eq_decide.2 (by omega)
    have ed : decide (1 + VT.hgtL l ≤ nest) = decide (VT.hgtL l ≤ nest - 1) := decide_eq_decide.2 (by omega)
    rw [ep, ed]

set_option maxRecDepth 100000 in
set_option maxHeartbeats 8000000 in
theorem small_w (p : Nat → Prop) (m : Bool) : ∀ (t : VT) (v : Value) (left nest : Nat) (d : Int) (w : World), Lies w p m t v → (∀ b, p b → b < w.heap.size) → left ≤ 65536 → nest ≤ 65536 → d = (nest : Int) - 1 →
    Calls Try.prog 14 #[v, .int .i64 (left : Int), .int .i64 d] w fun e w' => e = .returned (smallV t left nest) ∧ Below w.heap.size w w' := by
  refine VT.ind fun k n s r l ih v left nest d w h hpw hleft hnest hd => ?_
  obtain ⟨A, cap, rfl, ⟨hk, hn, hr, hs, hl⟩, _, _, hL, _⟩ := h
  have HD := Lib.hid hd
  have hdb : -1 ≤ d ∧ d ≤ 65535 := by omega
  have HPW := Lib.hid hpw
  have HL := Lib.hid hL
  have IH := Lib.hid ih
  have HV := Lib.hid (smallV_eq k n s r l left nest)
  generalize smallV (.mk k n s r l) left nest = sv at *
  clear hL ih hpw
  have hlen : l.length ≤ 9223372036854775807 := by unfold maxLen at hl; omega
  have hB0 := Lib.hid ((Below.refl w.heap.size w).alloc (Nat.le_refl _) (.cells #[.int .u8 (k : Int), .int .i64 n, .string s, .slice A l.length cap, .int .i64 r] 26))
  have XX := Lib.hid (Five.new w (.int .u8 (k : Int)) (.int .i64 n) (.string s) (.slice A l.length cap) (.int .i64 r))
  go_enter Try.func14, Try.ntmps14
  by_cases hn1 : nest < 1
  · have q : decide (d < 0) = true := decide_eq_true (by omega)
    clear hd
    go_wp2
    go_ret
    exact ⟨by rw [HV.out.1 (.inl hn1)]; rfl, hB0.out⟩
  have q : decide (d < 0) = false := decide_eq_false (by omega)
  clear hd
  by_cases h1 : left < 1
  · have q1 : decide ((left : Int) < 1) = true := decide_eq_true (by omega)
    go_wp2
    go_ret
    exact ⟨by rw [HV.out.1 (.inr (.inl h1))]; rfl, hB0.out⟩
  have q1 : decide ((left : Int) < 1) = false := decide_eq_false (by omega)
  by_cases hl1 : left ≤ l.length
  · have q3 : decide ((left : Int) ≤ (l.length : Int)) = true := decide_eq_true (by omega)
    go_wp2
    go_ret
    exact ⟨by rw [HV.out.1 (.inr (.inr hl1))]; rfl, hB0.out⟩
  have q3 : decide ((left : Int) ≤ (l.length : Int)) = false := decide_eq_false (by omega)
  have HV4 := Lib.hid (HV.out.2 hn1 h1)
  clear HV
  go_wp2
  go_loopw [7, 8] (fun pv iv wr => ∃ j : Nat, j ≤ l.length ∧ iv = .int .i64 (j : Int) ∧ pv = .int .i64 ((1 + VT.partsL (l.take j) : Nat) : Int) ∧ VT.smL (l.take j) (left - 1) (nest - 1) = true ∧ Below w.heap.size w wr ∧ Five wr w.heap.size (.int .u8 (k : Int)) (.int .i64 n) (.string s) (.slice A l.length cap) (.int .i64 r)) (fun _ iv _ => l.length - (intOf iv).toNat)
  case atStart => exact ⟨0, Nat.zero_le _, rfl, rfl, by rw [List.take_zero]; unfold VT.smL; rw [VT.partsL_nil, show VT.hgtL [] = 0 from rfl]; simp, hB0.out, XX.out⟩
  case round =>
    obtain ⟨j, hj, rfl, rfl, hok, hB, hX⟩ := hrel
    have hsz := hB.size
    have x3 := hX.e3
    by_cases hlt : j < l.length
    · obtain ⟨b, off, A', cap', rfl, hbt, hrow, hLj⟩ := HL.out.elem j hlt
      obtain ⟨g0, g1, g2, g3, g4⟩ := (hrow.same (hB.block b (HPW.out b hbt))).get
      clear hrow
      have HC := fun v => IH.out l[j] (List.getElem_mem hlt) v (left - (1 + VT.partsL (l.take j))) (nest - 1) (d - 1)
      obtain ⟨hp1, hp2, hp3, hp4⟩ := VT.small_step hlt hok
      have hL1 : ((left - (1 + VT.partsL (l.take j)) : Nat) : Int) = (left : Int) - ((1 + VT.partsL (l.take j) : Nat) : Int) := by omega
      simp only [hL1] at HC
      have HH := (fun W (hW : Below w.heap.size w W) => HC _ W (hLj.below hW HPW.out) (fun b hb => Nat.lt_of_lt_of_le (HPW.out b hb) hW.size) (by omega) (by omega) (by have := HD.out; omega))
      generalize l[j].k = k' at g0 HH
      generalize l[j].n = n' at g1 HH
      generalize l[j].s = s' at g2 HH
      generalize l[j].l.length = len' at g3 HH
      generalize l[j].r = r' at g4 HH
      have HH := Lib.hid HH
      have hb : b < wr.heap.size := Nat.lt_of_lt_of_le (HPW.out b hbt) hsz
      have HOK := Lib.hid hok
      have HX := Lib.hid hX
      clear HC hLj hL1 hok hX
      generalize VT.partsL (l.take j) = P at *
      have HBr := Lib.hid hB
      clear hB
      by_cases hk : l[j].sm (left - (1 + P)) (nest - 1) = true
      · have HN := Lib.hid (hp3 hk)
        rw [smallV, if_pos hk] at HH
        clear hp3 hp4 hk
        generalize l[j].parts = p at *
        go_wp2_with fail
        refine (HH.out _ HBr.out).mono ?_
        rintro e w' ⟨rfl, hb2⟩
        have HB2 := Lib.hid (HBr.out.trans (hb2.mono hsz))
        have HX2 := Lib.hid (HX.out.below hb2 HX.out.lt)
        clear hb2 HBr
        go_wp2
        obtain ⟨n1, n2⟩ := HN.out
        rw [w64 (by omega)]
        refine ⟨⟨j + 1, by omega, by go_num, congrArg (Value.int .i64) (by omega), n1, HB2.out, HX2.out⟩, by simp [intOf]; omega⟩
      · have HN := Lib.hid (hp4 (by simpa using hk))
        rw [smallV, if_neg hk] at HH
        clear hp3 hp4 hk
        go_wp2_with fail
        refine (HH.out _ HBr.out).mono ?_
        rintro e w' ⟨rfl, hb2⟩
        have HB2 := Lib.hid (HBr.out.trans (hb2.mono hsz))
        clear hb2 HBr
        go_wp2
        go_ret
        exact ⟨by rw [HV4.out, HN.out]; rfl, HB2.out⟩
    · obtain rfl : j = l.length := by omega
      rw [List.take_length] at hok
      have hok' := Lib.hid hok
      clear hok
      rw [List.take_length]
      go_wp2
      go_ret
      exact ⟨by rw [HV4.out, hok'.out]; rfl, hB⟩
end Go.Proofs.Ytckgmdlacaiacaa
