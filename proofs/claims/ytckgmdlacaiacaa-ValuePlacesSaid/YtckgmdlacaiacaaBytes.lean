/-
  value.Bytes.
-/
import Derived.Laws.IdiomStrings
import Derived.Test.YtckgmdlacaiacaaRefs
import Derived.Test.YtckgmdlacaiacaaLay2
namespace Go.Proofs.Ytckgmdlacaiacaa
open Go.RowKit Go.Shelf
attribute [local go_sem] Oper.semAt_some

theorem goodL_mem {l : List VT} (h : VT.goodL l = true) : ∀ t ∈ l, t.good = true := by
  induction l with
  | nil => intro t ht; exact absurd ht List.not_mem_nil
  | cons x xs ih =>
    have h2 : x.good = true ∧ VT.goodL xs = true := by simpa [VT.goodL] using h
    intro t ht
    rcases List.mem_cons.1 ht with rfl | ht
    · exact h2.1
    · exact ih h2.2 t ht
theorem good_text {k : Nat} {n : Int} {s : ByteArray} {r : Int} {l : List VT} (h : VT.good (.mk k n s r l) = true) : propN k n s r l.length = true ∧ VT.goodL l = true := by
  simpa [VT.good] using h
theorem bytesT_le : ∀ t : VT, t.good = true → (bytesT t).length ≤ 259 * t.parts := by
  refine VT.ind fun k n s r l ih h => ?_
  obtain ⟨hp, hg⟩ := good_text h
  have key : ∀ (l' : List VT), (∀ t ∈ l', t ∈ l) → (bytesL l').length ≤ 259 * VT.partsL l' := by
    intro l'
    induction l' with
    | nil => intro _; exact Nat.zero_le _
    | cons t ts iht =>
      intro hm
      have h1 := ih t (hm t List.mem_cons_self) (goodL_mem hg t (hm t List.mem_cons_self))
      have h2 := iht (fun u hu => hm u (List.mem_cons_of_mem _ hu))
      show (bytesT t ++ bytesL ts).length ≤ 259 * (t.parts + VT.partsL ts)
      rw [List.length_append]
      omega
  have hl := key l (fun _ h => h)
  have hpar : VT.parts (.mk k n s r l) = 1 + VT.partsL l := rfl
  rw [hpar]
  have hk4 : k = 0 ∨ k = 1 ∨ k = 2 ∨ k = 3 ∨ k = 4 ∨ 5 ≤ k := by omega
  rcases hk4 with rfl | rfl | rfl | rfl | rfl | hk5
  · show (UInt8.ofNat 0 :: []).length ≤ _
    simp only [List.length_cons, List.length_nil]
    omega
  · show (UInt8.ofNat 1 :: wide (topN n) 8).length ≤ _
    rw [List.length_cons, wide_len]
    omega
  · show (UInt8.ofNat 2 :: (wide s.size 2 ++ s.data.toList)).length ≤ _
    have h3 : s.data.toList.length = s.size := by rw [Array.length_toList]; rfl
    have h4 : s.size ≤ 256 := by
      simp only [propN, Bool.and_eq_true, decide_eq_true_eq] at hp
      omega
    rw [List.length_cons, List.length_append, wide_len, h3]
    omega
  · show (UInt8.ofNat 3 :: (wide l.length 2 ++ bytesL l)).length ≤ _
    rw [List.length_cons, List.length_append, wide_len]
    omega
  · show (UInt8.ofNat 4 :: wide (r % 18446744073709551616).toNat 4).length ≤ _
    rw [List.length_cons, wide_len]
    omega
  · rw [lay_big _ _ _ _ hk5]
    simp only [List.length_cons, List.length_nil]
    omega

/-- A row of numbers, to be read. -/
theorem owns_read {w : World} {base : Nat} {e : TypeId} {v : Value} {R : List Int} (h : w.ownsRow base e 1 v R.length (i64s R)) :
    ∃ A cap, v = .slice A R.length cap ∧ ∀ j (hj : j < R.length), ∃ g, A = some ⟨g, 0, none⟩ ∧ g < w.heap.size ∧ w.cell? ⟨g, j, none⟩ = some (.int .i64 R[j]) := by
  have hc := h
  rcases h.2 with ⟨rfl, h0⟩ | ⟨g, cap, cur, rfl, hbg, hg, hnc, hcm, hcs, htake⟩
  · exact ⟨none, 0, by rw [h0], fun j hj => by omega⟩
  · refine ⟨some ⟨g, 0, none⟩, cap, rfl, fun j hj => ⟨g, rfl, (Array.getElem?_eq_some_iff.1 hg).1, ?_⟩⟩
    have := hc.cells (g := g) rfl j (.int .i64 R[j]) (by simp [i64s, hj])
    have hplain : (⟨g, 0, none⟩ : Addr).add j = ⟨g, j, none⟩ := by unfold Addr.add; split <;> simp_all
    rwa [hplain] at this
theorem conv_own {w : World} {base : Nat} {v : Value} {l : List UInt8} (h : w.ownsRow base 5 1 v l.length (u8s l)) : (convert 107 9 v).run Try.prog w = .ok (.string ⟨l.toArray⟩) w := by
  have hc := h
  rcases h.2 with ⟨rfl, h0⟩ | ⟨g, cap, cur, rfl, hbg, hg, hnc, hcm, hcs, htake⟩
  · rw [List.length_eq_zero_iff.1 h0]
    exact run_convert_bytes_nil w _ _ Try.underlying107 Try.underlying5 0 0 _ Try.underlying9
  · exact run_convert_bytes_back w _ _ _ _ cap l Try.underlying107 Try.underlying5 Try.underlying9 (fun j hj => hc.cells (g := g) rfl j _ (by simp [u8s, hj]))
theorem all_take {R : List Int} {j : Nat} (h : j < R.length) (hok : (R.take j).all (fun r => decide (r ≤ 4294967295)) = true) : (R[j] ≤ 4294967295 → (R.take (j + 1)).all (fun r => decide (r ≤ 4294967295)) = true) ∧ (4294967295 < R[j] → R.all (fun r => decide (r ≤ 4294967295)) = false) := by
  constructor
  · intro h1
    rw [List.take_succ_eq_append_getElem h, List.all_append, hok]
    simp [h1]
  · intro h1
    rw [Bool.eq_false_iff]
    intro h2
    have := List.all_eq_true.1 h2 R[j] (List.getElem_mem h)
    simp at this
    omega

/-- What Bytes tells. -/
def bytesV (t : VT) : Value := if t.may = true ∧ (refsT t).all (fun r => decide (r ≤ 4294967295)) = true then .tuple #[.string ⟨(bytesT t).toArray⟩, .int .i64 0] else .tuple #[.string ⟨#[]⟩, .int .i64 2]

set_option maxRecDepth 100000 in
set_option maxHeartbeats 4000000 in
theorem Bytes_w {pp : Nat → Prop} {m : Bool} (t : VT) (v : Value) (w : World) (h : Lies w pp m t v) (hpp : ∀ b, pp b → b < w.heap.size) :
    Calls Try.prog 49 #[v] w fun e w' => e = .returned (bytesV t) ∧ Below w.heap.size w w' := by
  obtain ⟨A, cap, rfl⟩ := h.cells
  have HM := Lib.hid (fun W (hW : Below w.heap.size w W) => may_w t _ W (h.below (W' := W) hW hpp) (fun b hb => Nat.lt_of_lt_of_le (hpp b hb) (Below.size hW)))
  have HR := Lib.hid (fun W (hW : Below w.heap.size w W) => Refs_w t _ W (h.below (W' := W) hW hpp) (fun b hb => Nat.lt_of_lt_of_le (hpp b hb) (Below.size hW)))
  have HL := Lib.hid (fun (hb : (bytesT t).length ≤ 4294967280) W (hW : Below w.heap.size w W) => lay_w pp m w.heap.size hpp t _ (.slice none 0 0) [] W (h.below (W' := W) hW hpp) (BInv.new (World.ownsRow_nil _ _ _ _) hW.size) (by rw [List.length_nil]; omega))
  have HG := Lib.hid (fun hm : t.may = true => show refsM t = refsT t ∧ (bytesT t).length ≤ 4294967280 from ⟨if_pos hm, by have h1 := may_good hm; have h2 := bytesT_le t h1.1; omega⟩)
  have HRl := Lib.hid (fun hm : t.may = true => show (refsT t).length ≤ 512 from Nat.le_trans (refsT_len t) (may_good hm).2)
  have HV : bytesV t = if t.may = true ∧ (refsT t).all (fun r => decide (r ≤ 4294967295)) = true then .tuple #[.string ⟨(bytesT t).toArray⟩, .int .i64 0] else .tuple #[.string ⟨#[]⟩, .int .i64 2] := rfl
  have HQ := Lib.hid HV
  have X0 := Five.new w (.int .u8 (t.k : Int)) (.int .i64 t.n) (.string t.s) (.slice A t.l.length cap) (.int .i64 t.r)
  have hb0 := Lib.hid ((Below.refl w.heap.size w).alloc (Nat.le_refl _) (.cells #[.int .u8 (t.k : Int), .int .i64 t.n, .string t.s, .slice A t.l.length cap, .int .i64 t.r] 26))
  clear HV h
  generalize bytesV t = BV at *
  generalize bytesT t = BT at *
  generalize refsM t = RM at *
  generalize refsT t = RT at *
  generalize t.may = q at *
  generalize t.k = a0 at *
  generalize t.n = a1 at *
  generalize t.s = a2 at *
  generalize t.l.length = a3 at *
  generalize t.r = a4 at *
  have HX := Lib.hid X0
  clear X0
  go_enter Try.func49, Try.ntmps49
  go_wp2_with fail
  refine (HM.out _ hb0.out).mono ?_
  rintro e w1 ⟨rfl, hb1⟩
  have HB1 := Lib.hid (hb0.out.trans (hb1.mono (by simp)))
  have X1 := HX.out.below hb1 HX.out.lt
  have HX1 := Lib.hid X1
  have e0 := X1.e0
  have e1 := X1.e1
  have e2 := X1.e2
  have e3 := X1.e3
  have e4 := X1.e4
  clear X1 hb1
  cases q
  · go_wp2
    go_ret2
    exact ⟨by rw [HQ.out, if_neg (by simp)]; rfl, HB1.out⟩
  obtain ⟨hRM, hBl⟩ := HG.out rfl
  subst hRM
  have hRl := HRl.out rfl
  go_wp2_with fail
  refine (HR.out _ HB1.out).mono ?_
  rintro e w2 ⟨rv, rfl, hown, hb2⟩
  have HB2 := Lib.hid (HB1.out.trans (hb2.mono HB1.out.size))
  have X2 := HX1.out.below hb2 HX1.out.lt
  have HX2 := Lib.hid X2
  have e0 := X2.e0
  have e1 := X2.e1
  have e2 := X2.e2
  have e3 := X2.e3
  have e4 := X2.e4
  clear X2 hb2
  obtain ⟨A2, cap2, rfl, hcell⟩ := owns_read hown
  have HC := Lib.hid hcell
  clear hown hcell
  go_wp2
  go_loopw [12] (fun iv wr => ∃ j : Nat, j ≤ RM.length ∧ iv = .int .i64 (j : Int) ∧ wr = w2 ∧ (RM.take j).all (fun r => decide (r ≤ 4294967295)) = true) (fun iv _ => RM.length - (intOf iv).toNat)
  case atStart => exact ⟨0, Nat.zero_le _, rfl, rfl, by rw [List.take_zero]; rfl⟩
  case round =>
    obtain ⟨j, hj, rfl, rfl, hok⟩ := hrel
    have HOK := Lib.hid hok
    by_cases hlt : j < RM.length
    · obtain ⟨g, rfl, hg, hc⟩ := HC.out j hlt
      obtain ⟨hy, hn⟩ := all_take hlt hok
      have HY := Lib.hid (And.intro hy hn)
      clear hok hy hn
      generalize RM[j] = x at *
      by_cases hx : x ≤ 4294967295
      · have hq : decide (4294967295 < x) = false := decide_eq_false (by omega)
        go_wp2
        go_roundw
        case rel => exact ⟨j + 1, by omega, by go_num, trivial, HY.out.1 hx⟩
        case measure => simp [intOf]; omega
      · have hq : decide (4294967295 < x) = true := decide_eq_true (by omega)
        have hV := Lib.hid (HQ.out.trans (if_neg (fun h => by rw [HY.out.2 (by omega)] at h; exact Bool.noConfusion h.2)))
        go_wp2
        go_ret2
        exact ⟨by rw [hV.out]; rfl, HB2.out⟩
    · obtain rfl : j = RM.length := by omega
      rw [List.take_length] at hok
      have hV := Lib.hid (HQ.out.trans (if_pos ⟨trivial, hok⟩))
      clear hok
      go_wp2_with fail
      refine (HL.out hBl _ HB2.out).mono ?_
      rintro e w3 ⟨v3, rfl, h3⟩
      rw [List.nil_append] at h3
      have hcv := conv_own h3.own
      have HB3 := Lib.hid (h3.below HB2.out (Nat.le_refl _))
      clear h3
      go_wp2
      go_ret2
      exact ⟨by rw [hV.out]; rfl, HB3.out⟩
end Go.Proofs.Ytckgmdlacaiacaa
