/-
  ValueOfs: the walk.
-/
import Derived.Test.YtckgmdlacaiacaaOfs0
namespace Go.Proofs.Ytckgmdlacaiacaa
open Go.RowKit Go.Shelf
attribute [local go_sem] Oper.semAt_some

set_option maxRecDepth 100000 in
set_option maxHeartbeats 8000000 in
theorem Ofs_w (p : Nat → Prop) (m : Bool) (l : List VT) (A : Option Addr) (cap : Nat) (w : World) (hL0 : LiesL w p m A 0 l) (hpw : ∀ b, p b → b < w.heap.size) (hlc : l.length ≤ cap) (hcm : cap ≤ maxLen) :
    Calls Try.prog 7 #[.slice A l.length cap] w fun e w' => e = .returned (.bool true) ∧ Below w.heap.size w w' := by
  have HPW := Lib.hid hpw
  have HL := Lib.hid hL0
  have HC := Lib.hid (And.intro hlc hcm)
  have hcm9 : l.length ≤ 9223372036854775807 := by unfold maxLen at hcm; omega
  clear hL0 hpw hlc hcm
  go_enter Try.func7, Try.ntmps7
  go_wp2_with fail
  refine (smallAll_w p m l A cap w HL.out HPW.out hcm9).mono ?_
  rintro e w1 ⟨q, rfl, hq, hb⟩
  have HB1 := Lib.hid hb
  have Hq := Lib.hid hq
  have hs1 := hb.size
  clear hb hq
  cases q
  · go_wp2_with fail
    refine (awake_w _).mono ?_
    rintro e w2 ⟨rfl, hb⟩
    have HB2 := Lib.hid (HB1.out.trans (hb.mono hs1))
    clear hb
    go_wp2
    go_ret
    exact ⟨rfl, HB2.out⟩
  obtain ⟨h600, hsm⟩ := Hq.out rfl
  have HSM := Lib.hid hsm
  clear hsm Hq
  have HW := Lib.hid (fun W (hW : Below w.heap.size w W) => And.intro (HL.out.below hW HPW.out) (fun b hb => Nat.lt_of_lt_of_le (HPW.out b hb) (Below.size hW)))
  go_wp2_with fail
  refine (lentAll_w p m l A cap w1 (HW.out _ HB1.out).1 (HW.out _ HB1.out).2 (by omega) (fun t ht => Nat.le_trans (VT.sm_parts (HSM.out t ht)) (by omega))).mono ?_
  rintro e w2 ⟨A3, cap3, rfl, hall, hb⟩
  have HB2 := Lib.hid (HB1.out.trans (hb.mono hs1))
  have hs2 := HB2.out.size
  have hs12 := hb.size
  have HA := Lib.hid hall
  have h02 : 0 < w2.heap.size := by
    obtain ⟨b, _, _, hb', _⟩ := hall.mark
    have := hb'.2
    omega
  have hO := fun W (hW : Below w2.heap.size w2 W) => Of_w (fun b => w1.heap.size ≤ b ∧ b < w2.heap.size) true l A3 cap3 W (hall.lies.below hW (fun _ h => h.2)) (fun b hb => Nat.lt_of_lt_of_le hb.2 hW.size) (Nat.le_of_lt hall.lt) hall.le
  have HO := Lib.hid (fun W (hW : Below w2.heap.size w2 W) => show Calls Try.prog 45 #[.slice A3 l.length cap3] W (fun e W' => AnsT W (resT (ofRes l).1) (ofRes l).2 e W') from (hO W hW).mono fun _ _ h => h.ans)
  have HRO := Lib.hid (fun W (hW : Below w.heap.size w W) => show Calls Try.prog 46 #[.slice A l.length cap] W (fun e W' => AnsM W (resT (ofRes l).1) (ofRes l).2 e W') from rOf_w p m l A cap W (HW.out W hW).1 (HW.out W hW).2 HC.out.1 HC.out.2)
  have HMY := Lib.hid (ofRes_may l)
  have hbl : (ofRes l).2 = 0 ∨ (ofRes l).2 = 2 ∨ (ofRes l).2 = 4 := by
    unfold ofRes
    split
    · split
      · exact .inl rfl
      · exact .inr (.inr rfl)
    · exact .inr (.inl rfl)
  generalize resT (ofRes l).1 = t at *
  generalize (ofRes l).2 = n at *
  clear hb hall hO
  go_wp2_with fail
  refine (HO.out _ (Below.refl _ _)).mono ?_
  rintro e w3 ⟨hb, A5, cap5, rfl, hF⟩
  obtain ⟨F, hA⟩ := LkA.new (B3 := w2.heap.size - 1) hF (by omega)
  have hB := (HB2.out.trans (hb.mono hs2)).alloc (Nat.le_trans hs2 hb.size) (.cells #[.int .u8 (t.k : Int), .int .i64 t.n, .string t.s, .slice A5 t.l.length cap5, .int .i64 t.r] 26)
  have hB2 := (hb.alloc hb.size (.cells #[.int .u8 (t.k : Int), .int .i64 t.n, .string t.s, .slice A5 t.l.length cap5, .int .i64 t.r] 26))
  have HA4 := Lib.hid hA
  have HB4 := Lib.hid hB
  have HC4 := Lib.hid hB2
  have hs4 := hB2.size
  have hB5 : w3.heap.size < (w3.alloc (.cells #[.int .u8 (t.k : Int), .int .i64 t.n, .string t.s, .slice A5 t.l.length cap5, .int .i64 t.r] 26)).heap.size := by simp
  clear hb hF hA hB hB2
  go_wp2_with fail
  refine (HO.out _ HC4.out).mono ?_
  rintro e w4 ⟨hb, A7, cap7, rfl, hF⟩
  have HA6 := Lib.hid ((HA4.out.step hb).alloc (.cells #[.int .u8 (t.k : Int), .int .i64 t.n, .string t.s, .slice A7 t.l.length cap7, .int .i64 t.r] 26))
  have HT6 := Lib.hid (BoxT.new w4 hF.from (fun _ h => h.2))
  have hB := (HB4.out.trans (hb.mono HB4.out.size)).alloc (o := .cells #[.int .u8 (t.k : Int), .int .i64 t.n, .string t.s, .slice A7 t.l.length cap7, .int .i64 t.r] 26) (Nat.le_trans HB4.out.size hb.size)
  have hC := (HC4.out.trans (hb.mono hs4)).alloc (o := .cells #[.int .u8 (t.k : Int), .int .i64 t.n, .string t.s, .slice A7 t.l.length cap7, .int .i64 t.r] 26) (Nat.le_trans hs4 hb.size)
  have HB6 := Lib.hid hB
  have HC6 := Lib.hid hC
  have hB57 := Nat.lt_of_lt_of_le hB5 hb.size
  clear hb hF hB hC HA4 HB4 HC4
  generalize (w3.alloc (.cells #[.int .u8 (t.k : Int), .int .i64 t.n, .string t.s, .slice A5 t.l.length cap5, .int .i64 t.r] 26)).heap.size = N5 at *
  generalize w3.heap.size = B5 at *
  clear w3
  go_wp2_with fail
  refine (HRO.out _ HB6.out).mono ?_
  rintro e w5 ⟨hb, A9, cap9, rfl, hF⟩
  have HA8 := Lib.hid ((HA6.out.step hb).alloc (.cells #[.int .u8 (t.k : Int), .int .i64 t.n, .string t.s, .slice A9 t.l.length cap9, .int .i64 t.r] 26))
  have HT8 := Lib.hid ((HT6.out.step hb).alloc (.cells #[.int .u8 (t.k : Int), .int .i64 t.n, .string t.s, .slice A9 t.l.length cap9, .int .i64 t.r] 26))
  have HW8 := Lib.hid (BoxT.new w5 hF (fun _ h => h.2))
  have hB := (HB6.out.trans (hb.mono HB6.out.size)).alloc (o := .cells #[.int .u8 (t.k : Int), .int .i64 t.n, .string t.s, .slice A9 t.l.length cap9, .int .i64 t.r] 26) (Nat.le_trans HB6.out.size hb.size)
  have hC := (HC6.out.trans (hb.mono HC6.out.size)).alloc (o := .cells #[.int .u8 (t.k : Int), .int .i64 t.n, .string t.s, .slice A9 t.l.length cap9, .int .i64 t.r] 26) (Nat.le_trans HC6.out.size hb.size)
  have HB8 := Lib.hid hB
  have HC8 := Lib.hid hC
  have hB79 := HT6.out.box.lt
  clear hb hF hB hC HA6 HT6 HB6 HC6
  generalize (w4.alloc (.cells #[.int .u8 (t.k : Int), .int .i64 t.n, .string t.s, .slice A7 t.l.length cap7, .int .i64 t.r] 26)).heap.size = N7 at *
  generalize w4.heap.size = B7 at *
  clear w4
  have e0 := HA8.out.box.e0
  have e1 := HA8.out.box.e1
  have e2 := HA8.out.box.e2
  have e3 := HA8.out.box.e3
  have e4 := HA8.out.box.e4
  have f0 := HT8.out.box.e0
  have f1 := HT8.out.box.e1
  have f2 := HT8.out.box.e2
  have f3 := HT8.out.box.e3
  have f4 := HT8.out.box.e4
  have q1 : (n == n) = true := beq_self_eq_true n
  go_wp2_with fail
  refine (held_w t _ _ _ F _ HA8.out.own HA8.out.nodup HA8.out.small HT8.out.lies HW8.out.lies (fun b hb => ⟨HT8.out.small b hb, fun hm => Nat.lt_irrefl _ (Nat.lt_of_lt_of_le (HA8.out.mem b hm).2 (Nat.le_trans (Nat.le_of_lt hB5) hb.1))⟩) (fun b hb => ⟨HW8.out.small b hb, fun hm => Nat.lt_irrefl _ (Nat.lt_of_lt_of_le (Nat.lt_trans (HA8.out.mem b hm).2 hB57) (Nat.le_trans (Nat.le_of_lt hB79) hb.1))⟩) HMY.out).mono ?_
  rintro e w6 ⟨rfl, hc⟩
  have hFge : ∀ g ∈ F, w2.heap.size ≤ g := fun g hg => by have := (HA8.out.mem g hg).1; omega
  have hs8 := HC8.out.size
  have HB9 := Lib.hid (below_chg HB8.out hc HB8.out.size (fun g hg => Nat.le_trans hs2 (hFge g hg)))
  have HC9 := Lib.hid (below_chg HC8.out hc HC8.out.size hFge)
  clear hc e0 e1 e2 e3 e4 f0 f1 f2 f3 f4 HA8 HT8 HW8
  have hs9 := HB9.out.size
  go_wp2_with fail
  refine (keptAll_w (fun b => w1.heap.size ≤ b ∧ b < w2.heap.size) p m l A3 A cap3 cap w6 (HA.out.below HC9.out (fun _ h => h.2)) (HW.out _ HB9.out).1 (fun b hb => Nat.lt_of_lt_of_le hb.2 HC9.out.size) (HW.out _ HB9.out).2 (by omega)).mono ?_
  rintro e w7 ⟨rfl, hb⟩
  have HB10 := Lib.hid (HB9.out.trans (hb.mono hs9))
  clear hb
  go_wp2_with fail
  refine (awake_w _).mono ?_
  rintro e w8 ⟨rfl, hb⟩
  have HB11 := Lib.hid (HB10.out.trans (hb.mono HB10.out.size))
  clear hb
  go_wp2
  go_ret
  exact ⟨rfl, HB11.out⟩
end Go.Proofs.Ytckgmdlacaiacaa
