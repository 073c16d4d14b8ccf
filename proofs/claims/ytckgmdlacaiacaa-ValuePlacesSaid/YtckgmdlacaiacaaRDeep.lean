/-
  The document's Deep.
-/
import Derived.Test.YtckgmdlacaiacaaHeld
namespace Go.Proofs.Ytckgmdlacaiacaa
open Go.RowKit Go.Shelf
attribute [local go_sem] Oper.semAt_some

theorem deep_le : ∀ t : VT, t.deep ≤ t.parts := by
  refine VT.ind fun k n s r l ih => ?_
  have key : ∀ (l' : List VT), (∀ t ∈ l', t ∈ l) → VT.deepL l' ≤ VT.partsL l' := by
    intro l'
    induction l' with
    | nil => intro _; exact Nat.le_refl _
    | cons t ts iht =>
      intro hm
      have h1 := ih t (hm t List.mem_cons_self)
      have h2 := iht (fun u hu => hm u (List.mem_cons_of_mem _ hu))
      show max t.deep (VT.deepL ts) ≤ t.parts + VT.partsL ts
      omega
  have := key l (fun _ h => h)
  show (if k = 3 then 1 + VT.deepL l else 0) ≤ 1 + VT.partsL l
  split <;> omega
theorem deepL_take {l : List VT} {j : Nat} (h : j < l.length) : VT.deepL (l.take (j + 1)) = max (VT.deepL (l.take j)) l[j].deep := by
  rw [take_get h, VT.deepL_append]
  show max _ (max l[j].deep 0) = _
  omega
theorem deepL_le (l : List VT) : VT.deepL l ≤ VT.partsL l := by
  have := deep_le (.mk 3 0 ⟨#[]⟩ 0 l)
  have h1 : VT.deep (.mk 3 0 ⟨#[]⟩ 0 l) = 1 + VT.deepL l := rfl
  have h2 : VT.parts (.mk 3 0 ⟨#[]⟩ 0 l) = 1 + VT.partsL l := rfl
  omega

set_option maxRecDepth 100000 in
set_option maxHeartbeats 4000000 in
theorem rdeep_w (p : Nat → Prop) (m : Bool) : ∀ (t : VT) (v : Value) (w : World), Lies w p m t v → (∀ b, p b → b < w.heap.size) → t.parts ≤ 4294967295 →
    Calls Try.prog 25 #[v] w fun e w' => e = .returned (.int .i64 (t.deep : Int)) ∧ Below w.heap.size w w' := by
  refine VT.ind fun k n s r l ih v w h hpw hparts => ?_
  obtain ⟨A, cap, rfl, ⟨hk, hn, hr, hs, hl⟩, _, _, hL, _⟩ := h
  have hpar : VT.parts (.mk k n s r l) = 1 + VT.partsL l := rfl
  have hdp : VT.deep (.mk k n s r l) = if k = 3 then 1 + VT.deepL l else 0 := rfl
  have hlen := VT.partsL_len l
  have hdl := deepL_le l
  have HPW := Lib.hid hpw
  have HL := Lib.hid hL
  have IH := Lib.hid ih
  have HDP := Lib.hid hdp
  have HPar := Lib.hid (show VT.partsL l ≤ 4294967294 by omega)
  have hll : l.length ≤ 4294967294 := by omega
  generalize VT.deep (.mk k n s r l) = DP at *
  clear hL ih hpw hpar hdp hlen hdl hparts
  have hB0 := Lib.hid ((Below.refl w.heap.size w).alloc (Nat.le_refl _) (.cells #[.int .u8 (k : Int), .int .i64 n, .string s, .slice A l.length cap, .int .i64 r] 26))
  have XX := Lib.hid (Five.new w (.int .u8 (k : Int)) (.int .i64 n) (.string s) (.slice A l.length cap) (.int .i64 r))
  go_enter Try.func25, Try.ntmps25
  by_cases hk3 : k = 3
  case neg =>
    have q : ((k : Int) != 3) = true := by rw [bne_iff_ne]; omega
    go_wp2
    go_ret
    exact ⟨by rw [HDP.out, if_neg hk3]; rfl, hB0.out⟩
  subst hk3
  have HD2 := Lib.hid (HDP.out.trans (if_pos rfl))
  clear HDP
  rw [show ((3 : Nat) : Int) = (3 : Int) from rfl] at *
  go_wp2
  go_loopw [3, 4] (fun dv iv wr => ∃ j : Nat, j ≤ l.length ∧ iv = .int .i64 (j : Int) ∧ dv = .int .i64 ((VT.deepL (l.take j) : Nat) : Int) ∧ Below w.heap.size w wr ∧ Five wr w.heap.size (.int .u8 3) (.int .i64 n) (.string s) (.slice A l.length cap) (.int .i64 r)) (fun _ iv _ => l.length - (intOf iv).toNat)
  case atStart => exact ⟨0, Nat.zero_le _, rfl, rfl, hB0.out, XX.out⟩
  case round =>
    obtain ⟨j, hj, rfl, rfl, hB, hX⟩ := hrel
    have hsz := hB.size
    have x3 := hX.e3
    by_cases hlt : j < l.length
    · obtain ⟨b, off, A', cap', rfl, hbt, hrow, hLj⟩ := HL.out.elem j hlt
      obtain ⟨g0, g1, g2, g3, g4⟩ := (hrow.same (hB.block b (HPW.out b hbt))).get
      have HH := Lib.hid (IH.out l[j] (List.getElem_mem hlt) _ wr (hLj.below hB HPW.out) (fun b hb => Nat.lt_of_lt_of_le (HPW.out b hb) hB.size) (Nat.le_trans (VT.parts_le hlt) (by have := HPar.out; omega)))
      have HT := Lib.hid (deepL_take hlt)
      have HBr := Lib.hid (And.intro hB hX)
      have hb : b < wr.heap.size := Nat.lt_of_lt_of_le (HPW.out b hbt) hsz
      clear hrow hLj hB hX
      generalize VT.deepL (l.take j) = D at *
      generalize l[j].deep = d at *
      go_wp2_with fail
      refine HH.out.mono ?_
      rintro e w' ⟨rfl, hb2⟩
      have HN := Lib.hid (And.intro (HBr.out.1.trans (hb2.mono hsz)) (HBr.out.2.below hb2 HBr.out.2.lt))
      clear hb2
      by_cases hdd : D < d
      · have q : decide ((D : Int) < (d : Int)) = true := decide_eq_true (by omega)
        have HT2 := Lib.hid (HT.out.trans (by omega : max D d = d))
        go_wp2
        go_roundw
        case rel => exact ⟨j + 1, by omega, by go_num, by rw [HT2.out], HN.out.1, HN.out.2⟩
        case measure => simp [intOf]; omega
      · have q : decide ((D : Int) < (d : Int)) = false := decide_eq_false (by omega)
        have HT2 := Lib.hid (HT.out.trans (by omega : max D d = D))
        go_wp2
        go_roundw
        case rel => exact ⟨j + 1, by omega, by go_num, by rw [HT2.out], HN.out.1, HN.out.2⟩
        case measure => simp [intOf]; omega
    · obtain rfl : j = l.length := by omega
      rw [List.take_length]
      have hdl := deepL_le l
      have hpp := HPar.out
      have HB := Lib.hid hB
      clear hB hX
      go_wp2
      go_ret
      exact ⟨by rw [HD2.out]; exact congrArg (fun z => Ending.returned (.int .i64 z)) (by omega), HB.out⟩
end Go.Proofs.Ytckgmdlacaiacaa
