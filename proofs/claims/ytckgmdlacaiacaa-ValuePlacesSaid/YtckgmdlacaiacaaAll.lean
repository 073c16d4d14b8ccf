/-
  Lists of values: smallAll, MayAll, lists lent; keptAll.
-/
import Derived.Test.YtckgmdlacaiacaaLooks0
namespace Go.Proofs.Ytckgmdlacaiacaa
open Go.RowKit Go.Shelf
attribute [local go_sem] Oper.semAt_some

theorem LiesL.same {W W' : World} {p q : Nat → Prop} {m : Bool} {A : Option Addr} {l : List VT} (hq : ∀ b, p b → q b) (hb : ∀ b, p b → W'.heap[b]? = W.heap[b]?) (h : LiesL W p m A 0 l) : LiesL W' q m A 0 l :=
  LiesL.of_get fun j hj => by
    obtain ⟨b, off, c, g1, g2, g3, g4⟩ := h.get j hj
    exact ⟨b, off, c, g1, hq b g2, g3.same (hb b g2), Lies.same hq hb _ _ g4⟩
theorem LiesL.below {W W' : World} {p : Nat → Prop} {m : Bool} {A : Option Addr} {l : List VT} {B : Nat} (h : LiesL W p m A 0 l) (hb : Below B W W') (hB : ∀ b, p b → b < B) : LiesL W' p m A 0 l :=
  h.same (fun _ h => h) (fun b hp => hb.block b (hB b hp))
theorem LiesL.plain {W : World} {p : Nat → Prop} {m : Bool} {A : Option Addr} {l : List VT} (h : LiesL W p m A 0 l) : LiesL W p false A 0 l :=
  LiesL.of_get fun j hj => by
    obtain ⟨b, off, c, g1, g2, g3, g4⟩ := h.get j hj
    exact ⟨b, off, c, g1, g2, g3, Lies.plain _ _ g4⟩
/-- The list of some values. -/
def listT (l : List VT) : VT := .mk 3 0 ⟨#[]⟩ 0 l
theorem LiesL.list {W : World} {p : Nat → Prop} {m : Bool} {A : Option Addr} {l : List VT} {cap : Nat} (h : LiesL W p m A 0 l) (h1 : l.length ≤ cap) (h2 : cap ≤ maxLen) : Lies W p false (listT l) (.agg #[.int .u8 3, .int .i64 0, .string ⟨#[]⟩, .slice A l.length cap, .int .i64 0]) :=
  ⟨A, cap, rfl, ⟨by omega, by omega, by omega, Nat.zero_le _, by omega⟩, h1, h2, h.plain, fun e => by cases e⟩
/-- The row of the number behind a list of values that is lent. -/
def mark78 : Array Value := #[.int .u8 1, .int .i64 78, .string ⟨#[]⟩, .slice none 0 0, .int .i64 0]
/-- A list of values that is lent. -/
structure LiesAll (W : World) (p : Nat → Prop) (l : List VT) (A : Option Addr) (cap : Nat) : Prop where
  lies : LiesL W p true A 0 l
  mark : ∃ b off, A = some ⟨b, off, none⟩ ∧ p b ∧ RowAt W b (off + l.length * 5) mark78
  lt : l.length < cap
  le : cap ≤ maxLen
theorem LiesAll.same {W W' : World} {p q : Nat → Prop} {l : List VT} {A : Option Addr} {cap : Nat} (hq : ∀ b, p b → q b) (hb : ∀ b, p b → W'.heap[b]? = W.heap[b]?) (h : LiesAll W p l A cap) : LiesAll W' q l A cap := by
  obtain ⟨b, off, g1, g2, g3⟩ := h.mark
  exact ⟨h.lies.same hq hb, ⟨b, off, g1, hq b g2, g3.same (hb b g2)⟩, h.lt, h.le⟩
theorem LiesAll.below {W W' : World} {p : Nat → Prop} {l : List VT} {A : Option Addr} {cap B : Nat} (h : LiesAll W p l A cap) (hb : Below B W W') (hB : ∀ b, p b → b < B) : LiesAll W' p l A cap :=
  h.same (fun _ h => h) (fun b hp => hb.block b (hB b hp))

set_option maxRecDepth 100000 in
set_option maxHeartbeats 4000000 in
theorem smallAll_w (p : Nat → Prop) (m : Bool) (l : List VT) (A : Option Addr) (cap : Nat) (w : World) (hL0 : LiesL w p m A 0 l) (hpw : ∀ b, p b → b < w.heap.size) (_hl : l.length ≤ 9223372036854775807) :
    Calls Try.prog 35 #[.slice A l.length cap] w fun e w' => ∃ b, e = .returned (.bool b) ∧ (b = true → l.length ≤ 600 ∧ ∀ t ∈ l, t.sm 1200 41 = true) ∧ Below w.heap.size w w' := by
  have HPW := Lib.hid hpw
  have HL := Lib.hid hL0
  have hB0 := Lib.hid (Below.refl w.heap.size w)
  clear hL0 hpw
  go_enter Try.func35, Try.ntmps35
  by_cases h6 : 600 < l.length
  · have q1 : decide ((600 : Int) < (l.length : Int)) = true := decide_eq_true (by omega)
    go_wp2
    go_ret
    exact ⟨false, rfl, fun h => absurd h (by simp), hB0.out⟩
  have q1 : decide ((600 : Int) < (l.length : Int)) = false := decide_eq_false (by omega)
  go_wp2
  go_loopw [3, 4] (fun nv iv wr => ∃ j n : Nat, j ≤ l.length ∧ n ≤ 3600 ∧ iv = .int .i64 (j : Int) ∧ nv = .int .i64 (n : Int) ∧ (∀ q (_ : q < j) (hq : q < l.length), l[q].sm 1200 41 = true) ∧ Below w.heap.size w wr) (fun _ iv _ => l.length - (intOf iv).toNat)
  case atStart => exact ⟨0, 0, Nat.zero_le _, Nat.zero_le _, rfl, rfl, fun q h => absurd h (Nat.not_lt_zero _), hB0.out⟩
  case round =>
    obtain ⟨j, n, hj, hn, rfl, rfl, hall, hB⟩ := hrel
    have hsz := hB.size
    have HA := Lib.hid (And.intro hall hB)
    by_cases hlt : j < l.length
    · obtain ⟨b, off, A', cap', rfl, hbt, hrow, hLj⟩ := HL.out.elem j hlt
      obtain ⟨g0, g1, g2, g3, g4⟩ := (hrow.same (hB.block b (HPW.out b hbt))).get
      have HH := Lib.hid (small_w p m l[j] _ 1200 41 40 wr (hLj.below hB HPW.out) (fun b hb => Nat.lt_of_lt_of_le (HPW.out b hb) hsz) (by omega) (by omega) (by omega))
      clear hrow hLj hB hall
      go_wp2_with fail
      refine HH.out.mono ?_
      rintro e w1 ⟨rfl, hb⟩
      have HB1 := Lib.hid (HA.out.2.trans (hb.mono hsz))
      clear hb g0 g1 g2 g3 g4 HH
      obtain ⟨q, hq⟩ : ∃ q, l[j].sm 1200 41 = q := ⟨_, rfl⟩
      unfold smallV
      rw [hq]
      have Hq := Lib.hid hq
      have hpj : q = true → l[j].parts ≤ 1200 := fun e => VT.sm_parts (hq.trans e)
      clear hq
      generalize l[j].parts = pj at *
      cases q
      · rw [if_neg (by simp)]
        go_wp2
        go_ret
        exact ⟨false, rfl, fun h => absurd h (by simp), HB1.out⟩
      · rw [if_pos rfl]
        have hp := hpj rfl
        clear hpj
        by_cases h24 : 2400 < n
        · have q2 : decide ((2400 : Int) < (n : Int)) = true := decide_eq_true (by omega)
          go_wp2
          go_ret
          exact ⟨false, rfl, fun h => absurd h (by simp), HB1.out⟩
        · have q2 : decide ((2400 : Int) < (n : Int)) = false := decide_eq_false (by omega)
          go_wp2
          go_roundw
          case rel =>
            refine ⟨j + 1, n + pj, by omega, by omega, by go_num, by go_num, fun q h1 h2 => ?_, HB1.out⟩
            by_cases e : q = j
            · subst e; exact Hq.out
            · exact HA.out.1 q (by omega) h2
          case measure => simp [intOf]; omega
    · obtain rfl : j = l.length := by omega
      clear hB hall
      go_wp2
      go_ret
      refine ⟨true, rfl, fun _ => ⟨by omega, fun t ht => ?_⟩, HA.out.2⟩
      obtain ⟨q, hq, rfl⟩ := List.getElem_of_mem ht
      exact HA.out.1 q hq hq

set_option maxRecDepth 100000 in
set_option maxHeartbeats 4000000 in
theorem rmayAll_w (p : Nat → Prop) (m : Bool) (l : List VT) (A : Option Addr) (cap : Nat) (w : World) (hL0 : LiesL w p m A 0 l) (hpw : ∀ b, p b → b < w.heap.size) (_hl : l.length ≤ 9223372036854775807) :
    Calls Try.prog 73 #[.slice A l.length cap] w fun e w' => e = .returned (.bool (l.all VT.may)) ∧ Below w.heap.size w w' := by
  have HPW := Lib.hid hpw
  have HL := Lib.hid hL0
  have hB0 := Lib.hid (Below.refl w.heap.size w)
  have HV := Lib.hid (show l.all VT.may = (l.drop 0).all VT.may by rw [List.drop_zero])
  generalize l.all VT.may = av at *
  clear hL0 hpw
  go_enter Try.func73, Try.ntmps73
  go_wp2
  go_loopw [3] (fun iv wr => ∃ j : Nat, j ≤ l.length ∧ iv = .int .i64 (j : Int) ∧ av = (l.drop j).all VT.may ∧ Below w.heap.size w wr) (fun iv _ => l.length - (intOf iv).toNat)
  case atStart => exact ⟨0, Nat.zero_le _, rfl, HV.out, hB0.out⟩
  case round =>
    obtain ⟨j, hj, rfl, hall, hB⟩ := hrel
    have hsz := hB.size
    have HA := Lib.hid (And.intro hall hB)
    by_cases hlt : j < l.length
    · obtain ⟨b, off, A', cap', rfl, hbt, hrow, hLj⟩ := HL.out.elem j hlt
      obtain ⟨g0, g1, g2, g3, g4⟩ := (hrow.same (hB.block b (HPW.out b hbt))).get
      have HH := Lib.hid (rmay_w l[j] _ wr (hLj.below hB HPW.out) (fun b hb => Nat.lt_of_lt_of_le (HPW.out b hb) hsz))
      have HD := Lib.hid (show (l.drop j).all VT.may = (l[j].may && (l.drop (j + 1)).all VT.may) by rw [List.drop_eq_getElem_cons hlt]; rfl)
      generalize l[j].may = q at *
      clear hrow hLj hB hall
      go_wp2_with fail
      refine HH.out.mono ?_
      rintro e w1 ⟨rfl, hb⟩
      have HB1 := Lib.hid (HA.out.2.trans (hb.mono hsz))
      clear hb g0 g1 g2 g3 g4 HH
      cases q
      · go_wp2
        go_ret
        exact ⟨by rw [HA.out.1, HD.out]; rfl, HB1.out⟩
      · go_wp2
        go_roundw
        case rel => exact ⟨j + 1, by omega, by go_num, by rw [HA.out.1, HD.out]; rfl, HB1.out⟩
        case measure => simp [intOf]; omega
    · obtain rfl : j = l.length := by omega
      clear hB hall
      go_wp2
      go_ret
      exact ⟨by rw [HA.out.1, List.drop_length]; rfl, HA.out.2⟩
end Go.Proofs.Ytckgmdlacaiacaa
