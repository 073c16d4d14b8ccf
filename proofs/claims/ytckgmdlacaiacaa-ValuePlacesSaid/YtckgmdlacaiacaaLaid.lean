/-
  posternref02.laid.
-/
import Derived.Test.YtckgmdlacaiacaaLaid0
namespace Go.Proofs.Ytckgmdlacaiacaa
open Go.RowKit Go.Shelf
attribute [local go_sem] Oper.semAt_some

theorem IntsAt.tail {W : World} {B : Nat} {x : Int} {ps : List Int} {b off : Nat} (h : IntsAt W B (some ⟨b, off, none⟩) (x :: ps)) : IntsAt W B (some ⟨b, off + 1, none⟩) ps := fun i hi => by
  obtain ⟨b', off', h1, h2, h3⟩ := h (i + 1) (by simpa using hi)
  simp only [Option.some.injEq, Addr.mk.injEq, and_true] at h1
  obtain ⟨rfl, rfl⟩ := h1
  exact ⟨b, off + 1, rfl, h2, by rw [show off + 1 + i = off + (i + 1) by omega]; exact h3⟩
/-- What the drawn region of laid reads. -/
structure LdSt (B7 B1 B2 b0 off0 bv ov : Nat) (x : Value) (s7 s1 : Value) (r0 r1 r2 r3 r4 u0 u1 u2 u3 u4 k0 k1 k2 k4 : Value) (W : World) : Prop where
  h7 : Five W B7 k0 k1 k2 s7 k4
  hc : W.cell? ⟨b0, off0, none⟩ = some x
  h1 : Five W B1 k0 k1 k2 s1 k4
  hr : RowAt W bv ov #[r0, r1, r2, r3, r4]
  h2 : Five W B2 u0 u1 u2 u3 u4
namespace LdSt
variable {B7 B1 B2 b0 off0 bv ov : Nat} {x s7 s1 r0 r1 r2 r3 r4 u0 u1 u2 u3 u4 k0 k1 k2 k4 : Value} {W W' : World}
theorem same (h : LdSt B7 B1 B2 b0 off0 bv ov x s7 s1 r0 r1 r2 r3 r4 u0 u1 u2 u3 u4 k0 k1 k2 k4 W) (e7 : W'.heap[B7]? = W.heap[B7]?) (e0 : W'.heap[b0]? = W.heap[b0]?) (e1 : W'.heap[B1]? = W.heap[B1]?) (ev : W'.heap[bv]? = W.heap[bv]?) (e2 : W'.heap[B2]? = W.heap[B2]?) :
    LdSt B7 B1 B2 b0 off0 bv ov x s7 s1 r0 r1 r2 r3 r4 u0 u1 u2 u3 u4 k0 k1 k2 k4 W' :=
  ⟨⟨e7.trans h.h7.row⟩, (World.cell?_of_block (w := W) (a := ⟨b0, off0, none⟩) e0).trans h.hc, ⟨e1.trans h.h1.row⟩, h.hr.same ev, ⟨e2.trans h.h2.row⟩⟩
theorem cells (h : LdSt B7 B1 B2 b0 off0 bv ov x s7 s1 r0 r1 r2 r3 r4 u0 u1 u2 u3 u4 k0 k1 k2 k4 W) : W.cell? ⟨B7, 3, none⟩ = some s7 ∧ W.cell? ⟨b0, off0, none⟩ = some x ∧ W.cell? ⟨B1, 3, none⟩ = some s1 ∧
    W.cell? ⟨bv, ov, none⟩ = some r0 ∧ W.cell? ⟨bv, ov + 1, none⟩ = some r1 ∧ W.cell? ⟨bv, ov + 2, none⟩ = some r2 ∧ W.cell? ⟨bv, ov + 3, none⟩ = some r3 ∧ W.cell? ⟨bv, ov + 4, none⟩ = some r4 ∧
    W.cell? ⟨B2, 0, none⟩ = some u0 ∧ W.cell? ⟨B2, 1, none⟩ = some u1 ∧ W.cell? ⟨B2, 2, none⟩ = some u2 ∧ W.cell? ⟨B2, 3, none⟩ = some u3 ∧ W.cell? ⟨B2, 4, none⟩ = some u4 :=
  ⟨h.h7.e3, h.hc, h.h1.e3, h.hr.get.1, h.hr.get.2.1, h.hr.get.2.2.1, h.hr.get.2.2.2.1, h.hr.get.2.2.2.2, h.h2.e0, h.h2.e1, h.h2.e2, h.h2.e3, h.h2.e4⟩
end LdSt
theorem IntsAt.mono {W : World} {B B' : Nat} {A : Option Addr} {ps : List Int} (h : IntsAt W B A ps) (hB : B ≤ B') : IntsAt W B' A ps := fun i hi => by
  obtain ⟨b, off, h1, h2, h3⟩ := h i hi
  exact ⟨b, off, h1, by omega, h3⟩
set_option maxRecDepth 100000 in
set_option maxHeartbeats 8000000 in
theorem laid_w (p p' : Nat → Prop) (m m' : Bool) (u : VT) (uv : Value) : ∀ (ps : List Int) (t : VT) (v : Value) (PA : Option Addr) (pc : Nat) (w : World), Lies w p m t v → Lies w p' m' u uv → (∀ b, p b → b < w.heap.size) → (∀ b, p' b → b < w.heap.size) → IntsAt w w.heap.size PA ps → atT t ps ≠ none →
    t.parts ≤ 4294967295 → ps.length ≤ 4294967295 → ps.length ≤ pc → pc ≤ maxLen → Calls Try.prog 68 #[v, uv, .slice PA ps.length pc] w fun e w' => ∃ v', e = .returned v' ∧ Lies w' (fun b => p' b ∨ (w.heap.size ≤ b ∧ b < w'.heap.size)) false (setT u t ps) v' ∧ Below w.heap.size w w' := by
  intro ps
  induction ps with
  | nil =>
    intro t v PA pc w h hu hp hp' _ _ _ _ _ _
    obtain ⟨A, cap, rfl⟩ := h.cells
    have HU := Lib.hid hu
    obtain ⟨A1, cap1, rfl⟩ := hu.cells
    have HP' := Lib.hid hp'
    clear h hu hp hp'
    have h6 := Five.new ((w.alloc (.cells #[.int .u8 (t.k : Int), .int .i64 t.n, .string t.s, .slice A t.l.length cap, .int .i64 t.r] 26)).alloc (.cells #[.int .u8 (u.k : Int), .int .i64 u.n, .string u.s, .slice A1 u.l.length cap1, .int .i64 u.r] 26)) (.int .u8 (u.k : Int)) (.int .i64 u.n) (.string u.s) (.slice A1 u.l.length cap1) (.int .i64 u.r)
    rw [World.size_alloc, World.size_alloc] at h6
    have H6 := Lib.hid h6
    have HB := Lib.hid ((((Below.refl w.heap.size w).alloc (Nat.le_refl _) (.cells #[.int .u8 (t.k : Int), .int .i64 t.n, .string t.s, .slice A t.l.length cap, .int .i64 t.r] 26)).alloc (by simp) (.cells #[.int .u8 (u.k : Int), .int .i64 u.n, .string u.s, .slice A1 u.l.length cap1, .int .i64 u.r] 26)).alloc (by simp; omega) (.cells #[.int .u8 (u.k : Int), .int .i64 u.n, .string u.s, .slice A1 u.l.length cap1, .int .i64 u.r] 26))
    clear h6
    rw [setT_nil]
    go_enter Try.func68, Try.ntmps68
    go_wp2
    refine ret_five (B := w.heap.size + 1 + 1) rfl H6.out rfl ?_
    exact ⟨_, rfl, Lies.same (fun b hb => .inl hb) (fun b hb => HB.out.block b (HP'.out b hb)) _ _ (Lies.plain _ _ HU.out), HB.out⟩
  | cons x ps ih =>
    intro t v PA pc w h hu hp hp' hps hat hparts hpl hpc hpm
    obtain ⟨i, rfl, hi⟩ := atT_some hat
    rw [atT_cons hi] at hat
    obtain ⟨k, n, s, r, l⟩ := t
    have hi2 : i < l.length := hi
    rw [setT_cons hi2]
    have hparts2 : l[i].parts ≤ 4294967295 := Nat.le_trans (VT.part_le (t := .mk k n s r l) hi) hparts
    have HAT := Lib.hid (show atT l[i] ps ≠ none from hat)
    obtain ⟨b0, off0, hPA, hb0, hc0⟩ := hps 0 (by simp)
    subst hPA
    have HPS := Lib.hid hps.tail
    rw [Nat.add_zero, show ((i : Int) :: ps)[0] = (i : Int) from rfl] at hc0
    have HV := Lib.hid h
    have HU := Lib.hid hu
    obtain ⟨A1, cap1, rfl⟩ := hu.cells
    obtain ⟨A, cap, rfl, hbn, hlc, hcm, hL, _⟩ := h
    obtain ⟨bv, ov, A', cap', rfl, hbt, hrow, hLi⟩ := hL.elem i hi2
    have HLi := Lib.hid hLi
    have HP := Lib.hid hp
    have HP' := Lib.hid hp'
    have HBN := Lib.hid hbn
    have hbvw := hp bv hbt
    rw [List.length_cons] at hpl hpc
    clear hat hps hu hL hLi hp hp' hbn
    have hW0 := ((((Below.refl w.heap.size w).alloc (Nat.le_refl _) (.cells #[.int .u8 (k : Int), .int .i64 n, .string s, .slice (some ⟨bv, ov, none⟩) l.length cap, .int .i64 r] 26)).alloc (by simp) (.cells #[.int .u8 (u.k : Int), .int .i64 u.n, .string u.s, .slice A1 u.l.length cap1, .int .i64 u.r] 26)).alloc (by simp; omega) (.cells #[.int .u8 0, .int .i64 0, .string ⟨#[]⟩, .slice none 0 0, .int .i64 0] 26))
    have x1 := ((Five.new w (.int .u8 (k : Int)) (.int .i64 n) (.string s) (.slice (some ⟨bv, ov, none⟩) l.length cap) (.int .i64 r)).alloc (.cells #[.int .u8 (u.k : Int), .int .i64 u.n, .string u.s, .slice A1 u.l.length cap1, .int .i64 u.r] 26)).alloc (.cells #[.int .u8 0, .int .i64 0, .string ⟨#[]⟩, .slice none 0 0, .int .i64 0] 26)
    have x2 := (Five.new (w.alloc (.cells #[.int .u8 (k : Int), .int .i64 n, .string s, .slice (some ⟨bv, ov, none⟩) l.length cap, .int .i64 r] 26)) (.int .u8 (u.k : Int)) (.int .i64 u.n) (.string u.s) (.slice A1 u.l.length cap1) (.int .i64 u.r)).alloc (.cells #[.int .u8 0, .int .i64 0, .string ⟨#[]⟩, .slice none 0 0, .int .i64 0] 26)
    have x6 := Five.new ((w.alloc (.cells #[.int .u8 (k : Int), .int .i64 n, .string s, .slice (some ⟨bv, ov, none⟩) l.length cap, .int .i64 r] 26)).alloc (.cells #[.int .u8 (u.k : Int), .int .i64 u.n, .string u.s, .slice A1 u.l.length cap1, .int .i64 u.r] 26)) (.int .u8 0) (.int .i64 0) (.string ⟨#[]⟩) (.slice none 0 0) (.int .i64 0)
    rw [World.size_alloc] at x2
    rw [World.size_alloc, World.size_alloc] at x6
    have HW0 := Lib.hid hW0
    have HX := Lib.hid (And.intro x1 (And.intro x2 x6))
    have hsz0 : (((w.alloc (.cells #[.int .u8 (k : Int), .int .i64 n, .string s, .slice (some ⟨bv, ov, none⟩) l.length cap, .int .i64 r] 26)).alloc (.cells #[.int .u8 (u.k : Int), .int .i64 u.n, .string u.s, .slice A1 u.l.length cap1, .int .i64 u.r] 26)).alloc (.cells #[.int .u8 0, .int .i64 0, .string ⟨#[]⟩, .slice none 0 0, .int .i64 0] 26)).heap.size = w.heap.size + 3 := by simp
    clear hW0 x1 x2 x6
    go_enter Try.func68, Try.ntmps68
    go_wp2_with fail
    refine (rOwnF_w p m (.mk k n s r l) _ _ (HV.out.below HW0.out HP.out) (fun b hb => by rw [hsz0]; have := HP.out b hb; omega) hparts).mono ?_
    rintro e w1 ⟨v', rfl, ⟨F, hO, hnd, hF⟩, hb⟩
    obtain ⟨_, ⟨rfl, _⟩ | ⟨b, capb, c, G, rfl, hlp, hlcb, hcbm, hrowb, hcs, rfl, hOL⟩⟩ := hO
    · simp at hi2
    have hbG : b ∉ G := (List.nodup_cons.1 hnd).1
    have hb3 : w.heap.size + 3 ≤ b ∧ b < w1.heap.size := by have := hF b List.mem_cons_self; omega
    have hG3 : ∀ g ∈ G, w.heap.size + 3 ≤ g ∧ g < w1.heap.size := fun g hg => by have := hF g (List.mem_cons_of_mem _ hg); omega
    have HB1 := Lib.hid (HW0.out.trans (hb.mono (by rw [hsz0]; omega)))
    have hs1 := HB1.out.size
    have X1 := HX.out.1.below hb HX.out.1.lt
    have X2 := HX.out.2.1.below hb HX.out.2.1.lt
    have X6 := HX.out.2.2.below hb HX.out.2.2.lt
    have hrw1 := hrow.same (W' := w1) (HB1.out.block bv hbvw)
    have hc1 := (World.cell?_of_block (w := w) (a := ⟨b0, off0, none⟩) (HB1.out.block b0 hb0)).trans hc0
    have h2 : LdSt w1.heap.size w.heap.size (w.heap.size + 1) b0 off0 bv (ov + i * 5) (.int .i64 (i : Int)) (.slice (some ⟨b, 0, none⟩) l.length capb) (.slice (some ⟨bv, ov, none⟩) l.length cap) (.int .u8 (l[i].k : Int)) (.int .i64 l[i].n) (.string l[i].s) (.slice A' l[i].l.length cap') (.int .i64 l[i].r) (.int .u8 (u.k : Int)) (.int .i64 u.n) (.string u.s) (.slice A1 u.l.length cap1) (.int .i64 u.r) (.int .u8 (k : Int)) (.int .i64 n) (.string s) (.int .i64 r) (w1.alloc (.cells #[.int .u8 (k : Int), .int .i64 n, .string s, .slice (some ⟨b, 0, none⟩) l.length capb, .int .i64 r] 26)) := ⟨Five.new w1 _ _ _ _ _, (World.cell?_of_block (w := w1) (a := ⟨b0, off0, none⟩) (heap_alloc_old w1 _ (show b0 < w1.heap.size by omega))).trans hc1, X1.alloc _, hrw1.same (heap_alloc_old w1 _ (by omega)), X2.alloc _⟩
    have HS2 := Lib.hid h2
    have HX6 := Lib.hid (X6.alloc (.cells #[.int .u8 (k : Int), .int .i64 n, .string s, .slice (some ⟨b, 0, none⟩) l.length capb, .int .i64 r] 26))
    have HB2 := Lib.hid (HB1.out.alloc hs1 (.cells #[.int .u8 (k : Int), .int .i64 n, .string s, .slice (some ⟨b, 0, none⟩) l.length capb, .int .i64 r] 26))
    have HR2 := Lib.hid ((heap_alloc_old w1 (.cells #[.int .u8 (k : Int), .int .i64 n, .string s, .slice (some ⟨b, 0, none⟩) l.length capb, .int .i64 r] 26) hb3.2).trans hrowb)
    have HOL := Lib.hid (OwnL.same (W' := w1.alloc (.cells #[.int .u8 (k : Int), .int .i64 n, .string s, .slice (some ⟨b, 0, none⟩) l.length capb, .int .i64 r] 26)) (fun g hg => heap_alloc_old w1 _ (hG3 g hg).2) (fun _ _ _ => rfl) hOL)
    have hsz2 : (w1.alloc (.cells #[.int .u8 (k : Int), .int .i64 n, .string s, .slice (some ⟨b, 0, none⟩) l.length capb, .int .i64 r] 26)).heap.size = w1.heap.size + 1 := by simp
    have hI1 : (i : Int) < (l.length : Int) := by omega
    have hI0 : (0 : Int) ≤ (i : Int) := by omega
    have hp0 : ((ps.length : Int) + 1 == 0) = false := by rw [beq_eq_false_iff_ne]; omega
    clear HB1 h2 X1 X2 X6 hrw1 hc1 hrow hc0 hb hrowb hOL hF hnd HX
    go_wp2_with fail
    generalize hW2 : w1.alloc (.cells #[.int .u8 (k : Int), .int .i64 n, .string s, .slice (some ⟨b, 0, none⟩) l.length capb, .int .i64 r] 26) = W2 at *
    generalize w1.heap.size = B7 at *
    clear hW2 w1
    have hbd : Below W2.heap.size W2 W2.drew := (Below.refl W2.heap.size W2).drew
    have HSd := Lib.hid (HS2.out.same (W' := W2.drew) rfl rfl rfl rfl rfl)
    have HCd := Lib.hid HSd.out.cells
    have HBd := Lib.hid (HB2.out.trans (hbd.mono HB2.out.size))
    have HPSd := Lib.hid ((HPS.out.below HBd.out (Nat.le_refl _)).mono HBd.out.size)
    have HIH := Lib.hid (fun off2 (hI : IntsAt W2.drew W2.drew.heap.size (some ⟨b0, off2, none⟩) ps) => ih l[i] _ (some ⟨b0, off2, none⟩) (pc - 1) W2.drew (HLi.out.below HBd.out HP.out) (HU.out.below HBd.out HP'.out) (fun b hb => Nat.lt_of_lt_of_le (HP.out b hb) HBd.out.size) (fun b hb => Nat.lt_of_lt_of_le (HP'.out b hb) HBd.out.size) hI HAT.out hparts2 (by omega) (by omega) (by omega))
    have HPSn := Lib.hid (fun (h : ps.length = 0) off2 => show IntsAt W2.drew W2.drew.heap.size (some ⟨b0, off2, none⟩) ps from fun q hq => by omega)
    have hB7l : B7 < W2.drew.heap.size := HSd.out.h7.lt
    have hb0l : b0 < W2.drew.heap.size := Nat.lt_of_lt_of_le hb0 HBd.out.size
    have hB1l : w.heap.size < W2.drew.heap.size := HSd.out.h1.lt
    have hB2l : w.heap.size + 1 < W2.drew.heap.size := HSd.out.h2.lt
    have hbvl : bv < W2.drew.heap.size := Nat.lt_of_lt_of_le hbvw HBd.out.size
    have hbl : b < W2.drew.heap.size := Nat.lt_trans hb3.2 hB7l
    have hci : i * 5 + 4 < c.size := by omega
    generalize hUq : setT u l[i] ps = u' at *
    have HUq := Lib.hid hUq
    clear hUq
    clear hbd
    have hl1 : (1 : Int) ≤ (ps.length : Int) + 1 := by omega
    have hl2 : (ps.length : Int) + 1 ≤ (pc : Int) := by omega
    have hX6l : w.heap.size + 1 + 1 < W2.drew.heap.size := HX6.out.lt
    have hn7 : B7 ≠ b := by omega
    have hn0 : b0 ≠ b := by omega
    have hn1 : w.heap.size ≠ b := by omega
    have hnv : bv ≠ b := by omega
    have hn2 : w.heap.size + 1 ≠ b := by omega
    have HS3f := Lib.hid (fun w3 (hb3 : Below W2.drew.heap.size W2.drew w3) => HSd.out.same (W' := w3) (hb3.block _ hB7l) (hb3.block _ hb0l) (hb3.block _ hB1l) (hb3.block _ hbvl) (hb3.block _ hB2l))
    have HC3f := Lib.hid (fun w3 (h : LdSt B7 w.heap.size (w.heap.size + 1) b0 off0 bv (ov + i * 5) (.int .i64 (i : Int)) (.slice (some ⟨b, 0, none⟩) l.length capb) (.slice (some ⟨bv, ov, none⟩) l.length cap) (.int .u8 (l[i].k : Int)) (.int .i64 l[i].n) (.string l[i].s) (.slice A' l[i].l.length cap') (.int .i64 l[i].r) (.int .u8 (u.k : Int)) (.int .i64 u.n) (.string u.s) (.slice A1 u.l.length cap1) (.int .i64 u.r) (.int .u8 (k : Int)) (.int .i64 n) (.string s) (.int .i64 r) w3) v0 v1 v2 v3 v4 => (h.same (W' := (((((w3.setCell ⟨b, i * 5, none⟩ v0).setCell ⟨b, i * 5 + 1, none⟩ v1).setCell ⟨b, i * 5 + 2, none⟩ v2).setCell ⟨b, i * 5 + 3, none⟩ v3).setCell ⟨b, i * 5 + 4, none⟩ v4)) (heap_setRow_other (b := b) v0 v1 v2 v3 v4 hn7) (heap_setRow_other (b := b) v0 v1 v2 v3 v4 hn0) (heap_setRow_other (b := b) v0 v1 v2 v3 v4 hn1) (heap_setRow_other (b := b) v0 v1 v2 v3 v4 hnv) (heap_setRow_other (b := b) v0 v1 v2 v3 v4 hn2)).cells)
    by_cases hpc1 : 1 < pc
    · have hpc2 : (1 : Int) < (pc : Int) := by omega
      have hpc3 : 0 < pc - 1 := by omega
      have hpc4 : ¬ pc = 1 := by omega
      go_region_held3 (fun w' => w'.cell? ⟨B7, 3, none⟩ = some (.slice (some ⟨b, 0, none⟩) l.length capb) ∧ w'.cell? ⟨b0, off0, none⟩ = some (.int .i64 (i : Int)) ∧ w'.cell? ⟨w.heap.size, 3, none⟩ = some (.slice (some ⟨bv, ov, none⟩) l.length cap) ∧ w'.cell? ⟨bv, ov + i * 5, none⟩ = some (.int .u8 (l[i].k : Int)) ∧ w'.cell? ⟨bv, ov + i * 5 + 1, none⟩ = some (.int .i64 l[i].n) ∧ w'.cell? ⟨bv, ov + i * 5 + 2, none⟩ = some (.string l[i].s) ∧ w'.cell? ⟨bv, ov + i * 5 + 3, none⟩ = some (.slice A' l[i].l.length cap') ∧ w'.cell? ⟨bv, ov + i * 5 + 4, none⟩ = some (.int .i64 l[i].r) ∧ w'.cell? ⟨w.heap.size + 1, 0, none⟩ = some (.int .u8 (u.k : Int)) ∧ w'.cell? ⟨w.heap.size + 1, 1, none⟩ = some (.int .i64 u.n) ∧ w'.cell? ⟨w.heap.size + 1, 2, none⟩ = some (.string u.s) ∧ w'.cell? ⟨w.heap.size + 1, 3, none⟩ = some (.slice A1 u.l.length cap1) ∧ w'.cell? ⟨w.heap.size + 1, 4, none⟩ = some (.int .i64 u.r)) (first | with_reducible exact HC3s.out _ _ _ _ _ | with_reducible exact HC3.out | with_reducible exact HCd.out) (first | (go_at_call 68; (with_reducible refine (HIH.out (off0 + 1) HPSd.out).mono ?_); rintro e w3 ⟨v3, rfl, hL3, hb3'⟩; obtain ⟨A3, cap3, rfl⟩ := hL3.cells; have HS3 := Lib.hid (HS3f.out w3 hb3'); have HC3 := Lib.hid HS3.out.cells; have hrow3 := (hb3'.block b hbl).trans HR2.out; obtain ⟨⟨t0, y0⟩, ⟨t1, y1⟩, ⟨t2, y2⟩, ⟨t3, y3⟩, ⟨t4, y4⟩⟩ := row_there (i := i) hrow3 hci; have z0 := froz_there hrow3 (i * 5); have z1 := froz_there hrow3 (i * 5 + 1); have z2 := froz_there hrow3 (i * 5 + 2); have z3 := froz_there hrow3 (i * 5 + 3); have z4 := froz_there hrow3 (i * 5 + 4); have HL3 := Lib.hid (And.intro hL3 (And.intro hb3' hrow3)); have HC3s := Lib.hid (HC3f.out w3 HS3.out); clear hL3 hb3' hrow3))
      all_goals
        obtain ⟨hL3, hb3w, hrow3⟩ := HL3.out
        have hs3 := hb3w.size
        have hOL3 := OwnL.same (W := W2) (W' := w3) (fun g hg => show w3.heap[g]? = W2.heap[g]? from hb3w.block g (show g < W2.drew.heap.size by have := (hG3 g hg).2; omega)) (fun _ _ _ => rfl) HOL.out
        have hrows := laid_rows (i := i) (Q := fun g => p' g ∨ (w.heap.size + 3 ≤ g ∧ g < w3.heap.size)) hrow3 hcs hlcb hOL3 hbG (fun g hg => .inr ⟨(hG3 g hg).1, by have := (hG3 g hg).2; omega⟩) (.inr ⟨hb3.1, by omega⟩) hi2 hL3 (fun g hg => by
          rcases hg with hg | hg
          · have := HP'.out g hg
            exact ⟨.inl hg, by omega⟩
          · exact ⟨.inr ⟨by omega, hg.2⟩, by omega⟩)
        have hch := HS3.out.same (W' := (((((w3.setCell ⟨b, i * 5, none⟩ (.int .u8 (u'.k : Int))).setCell ⟨b, i * 5 + 1, none⟩ (.int .i64 u'.n)).setCell ⟨b, i * 5 + 2, none⟩ (.string u'.s)).setCell ⟨b, i * 5 + 3, none⟩ (.slice A3 u'.l.length cap3)).setCell ⟨b, i * 5 + 4, none⟩ (.int .i64 u'.r))) (heap_setRow_other (b := b) _ _ _ _ _ (by omega)) (heap_setRow_other (b := b) _ _ _ _ _ (by omega)) (heap_setRow_other (b := b) _ _ _ _ _ (by omega)) (heap_setRow_other (b := b) _ _ _ _ _ (by omega)) (heap_setRow_other (b := b) _ _ _ _ _ (by omega))
        have hx6 : Five (((((w3.setCell ⟨b, i * 5, none⟩ (.int .u8 (u'.k : Int))).setCell ⟨b, i * 5 + 1, none⟩ (.int .i64 u'.n)).setCell ⟨b, i * 5 + 2, none⟩ (.string u'.s)).setCell ⟨b, i * 5 + 3, none⟩ (.slice A3 u'.l.length cap3)).setCell ⟨b, i * 5 + 4, none⟩ (.int .i64 u'.r)) (w.heap.size + 1 + 1) (.int .u8 0) (.int .i64 0) (.string ⟨#[]⟩) (.slice none 0 0) (.int .i64 0) := ⟨(heap_setRow_other (b := b) _ _ _ _ _ (by omega)).trans ((hb3w.block _ hX6l).trans HX6.out.row)⟩
        have hBB : Below w.heap.size w (((((w3.setCell ⟨b, i * 5, none⟩ (.int .u8 (u'.k : Int))).setCell ⟨b, i * 5 + 1, none⟩ (.int .i64 u'.n)).setCell ⟨b, i * 5 + 2, none⟩ (.string u'.s)).setCell ⟨b, i * 5 + 3, none⟩ (.slice A3 u'.l.length cap3)).setCell ⟨b, i * 5 + 4, none⟩ (.int .i64 u'.r)) := ((((((HBd.out.trans (hb3w.mono HBd.out.size)).setCell (p := ⟨b, i * 5, none⟩) (by simp; omega) _).setCell (p := ⟨b, i * 5 + 1, none⟩) (by simp; omega) _).setCell (p := ⟨b, i * 5 + 2, none⟩) (by simp; omega) _).setCell (p := ⟨b, i * 5 + 3, none⟩) (by simp; omega) _).setCell (p := ⟨b, i * 5 + 4, none⟩) (by simp; omega) _)
        have HFin := Lib.hid (And.intro hrows (And.intro hx6 hBB))
        have g0 := hch.h7.e0
        have f0 := hx6.e0
        have fz0 := hx6.froz 0
        have g1 := hch.h7.e1
        have f1 := hx6.e1
        have fz1 := hx6.froz 1
        have g2 := hch.h7.e2
        have f2 := hx6.e2
        have fz2 := hx6.froz 2
        have g3 := hch.h7.e3
        have f3 := hx6.e3
        have fz3 := hx6.froz 3
        have g4 := hch.h7.e4
        have f4 := hx6.e4
        have fz4 := hx6.froz 4
        have hx6l := hx6.lt
        clear hL3 hb3w hrow3 hOL3 hrows hch hx6 hBB y0 y1 y2 y3 y4 z0 z1 z2 z3 z4
        go_wp2
        refine ret_five (B := w.heap.size + 1 + 1) rfl (HFin.out.2.1.set5 _ _ _ _ _) rfl ?_
        rw [HUq.out]
        refine ⟨_, rfl, ⟨some ⟨b, 0, none⟩, capb, by rw [List.length_set], by rw [List.length_set]; exact HBN.out, by rw [List.length_set]; exact hlcb, hcbm, ?_, fun e => by cases e⟩, below_set5 HFin.out.2.2 (by omega) _ _ _ _ _⟩
        refine LiesL.same (fun g hg => ?_) (fun g hg => heap_set5_other _ _ _ _ _ ?_) HFin.out.1
        · rcases hg with hg | hg
          · exact .inl hg
          · exact .inr ⟨by omega, by simpa using hg.2⟩
        · rcases hg with hg | hg
          · have := HP'.out g hg; omega
          · omega

    · obtain rfl : pc = 1 := by omega
      have hps0 : ps.length = 0 := by omega
      rw [show (1 - 1 : Nat) = 0 from rfl, hps0] at HIH
      go_region_held3 (fun w' => w'.cell? ⟨B7, 3, none⟩ = some (.slice (some ⟨b, 0, none⟩) l.length capb) ∧ w'.cell? ⟨b0, off0, none⟩ = some (.int .i64 (i : Int)) ∧ w'.cell? ⟨w.heap.size, 3, none⟩ = some (.slice (some ⟨bv, ov, none⟩) l.length cap) ∧ w'.cell? ⟨bv, ov + i * 5, none⟩ = some (.int .u8 (l[i].k : Int)) ∧ w'.cell? ⟨bv, ov + i * 5 + 1, none⟩ = some (.int .i64 l[i].n) ∧ w'.cell? ⟨bv, ov + i * 5 + 2, none⟩ = some (.string l[i].s) ∧ w'.cell? ⟨bv, ov + i * 5 + 3, none⟩ = some (.slice A' l[i].l.length cap') ∧ w'.cell? ⟨bv, ov + i * 5 + 4, none⟩ = some (.int .i64 l[i].r) ∧ w'.cell? ⟨w.heap.size + 1, 0, none⟩ = some (.int .u8 (u.k : Int)) ∧ w'.cell? ⟨w.heap.size + 1, 1, none⟩ = some (.int .i64 u.n) ∧ w'.cell? ⟨w.heap.size + 1, 2, none⟩ = some (.string u.s) ∧ w'.cell? ⟨w.heap.size + 1, 3, none⟩ = some (.slice A1 u.l.length cap1) ∧ w'.cell? ⟨w.heap.size + 1, 4, none⟩ = some (.int .i64 u.r)) (first | with_reducible exact HC3s.out _ _ _ _ _ | with_reducible exact HC3.out | with_reducible exact HCd.out) (first | (go_at_call 68; (with_reducible refine (HIH.out off0 (HPSn.out hps0 _)).mono ?_); rintro e w3 ⟨v3, rfl, hL3, hb3'⟩; obtain ⟨A3, cap3, rfl⟩ := hL3.cells; have HS3 := Lib.hid (HS3f.out w3 hb3'); have HC3 := Lib.hid HS3.out.cells; have hrow3 := (hb3'.block b hbl).trans HR2.out; obtain ⟨⟨t0, y0⟩, ⟨t1, y1⟩, ⟨t2, y2⟩, ⟨t3, y3⟩, ⟨t4, y4⟩⟩ := row_there (i := i) hrow3 hci; have z0 := froz_there hrow3 (i * 5); have z1 := froz_there hrow3 (i * 5 + 1); have z2 := froz_there hrow3 (i * 5 + 2); have z3 := froz_there hrow3 (i * 5 + 3); have z4 := froz_there hrow3 (i * 5 + 4); have HL3 := Lib.hid (And.intro hL3 (And.intro hb3' hrow3)); have HC3s := Lib.hid (HC3f.out w3 HS3.out); clear hL3 hb3' hrow3))
      all_goals
        obtain ⟨hL3, hb3w, hrow3⟩ := HL3.out
        have hs3 := hb3w.size
        have hOL3 := OwnL.same (W := W2) (W' := w3) (fun g hg => show w3.heap[g]? = W2.heap[g]? from hb3w.block g (show g < W2.drew.heap.size by have := (hG3 g hg).2; omega)) (fun _ _ _ => rfl) HOL.out
        have hrows := laid_rows (i := i) (Q := fun g => p' g ∨ (w.heap.size + 3 ≤ g ∧ g < w3.heap.size)) hrow3 hcs hlcb hOL3 hbG (fun g hg => .inr ⟨(hG3 g hg).1, by have := (hG3 g hg).2; omega⟩) (.inr ⟨hb3.1, by omega⟩) hi2 hL3 (fun g hg => by
          rcases hg with hg | hg
          · have := HP'.out g hg
            exact ⟨.inl hg, by omega⟩
          · exact ⟨.inr ⟨by omega, hg.2⟩, by omega⟩)
        have hch := HS3.out.same (W' := (((((w3.setCell ⟨b, i * 5, none⟩ (.int .u8 (u'.k : Int))).setCell ⟨b, i * 5 + 1, none⟩ (.int .i64 u'.n)).setCell ⟨b, i * 5 + 2, none⟩ (.string u'.s)).setCell ⟨b, i * 5 + 3, none⟩ (.slice A3 u'.l.length cap3)).setCell ⟨b, i * 5 + 4, none⟩ (.int .i64 u'.r))) (heap_setRow_other (b := b) _ _ _ _ _ (by omega)) (heap_setRow_other (b := b) _ _ _ _ _ (by omega)) (heap_setRow_other (b := b) _ _ _ _ _ (by omega)) (heap_setRow_other (b := b) _ _ _ _ _ (by omega)) (heap_setRow_other (b := b) _ _ _ _ _ (by omega))
        have hx6 : Five (((((w3.setCell ⟨b, i * 5, none⟩ (.int .u8 (u'.k : Int))).setCell ⟨b, i * 5 + 1, none⟩ (.int .i64 u'.n)).setCell ⟨b, i * 5 + 2, none⟩ (.string u'.s)).setCell ⟨b, i * 5 + 3, none⟩ (.slice A3 u'.l.length cap3)).setCell ⟨b, i * 5 + 4, none⟩ (.int .i64 u'.r)) (w.heap.size + 1 + 1) (.int .u8 0) (.int .i64 0) (.string ⟨#[]⟩) (.slice none 0 0) (.int .i64 0) := ⟨(heap_setRow_other (b := b) _ _ _ _ _ (by omega)).trans ((hb3w.block _ hX6l).trans HX6.out.row)⟩
        have hBB : Below w.heap.size w (((((w3.setCell ⟨b, i * 5, none⟩ (.int .u8 (u'.k : Int))).setCell ⟨b, i * 5 + 1, none⟩ (.int .i64 u'.n)).setCell ⟨b, i * 5 + 2, none⟩ (.string u'.s)).setCell ⟨b, i * 5 + 3, none⟩ (.slice A3 u'.l.length cap3)).setCell ⟨b, i * 5 + 4, none⟩ (.int .i64 u'.r)) := ((((((HBd.out.trans (hb3w.mono HBd.out.size)).setCell (p := ⟨b, i * 5, none⟩) (by simp; omega) _).setCell (p := ⟨b, i * 5 + 1, none⟩) (by simp; omega) _).setCell (p := ⟨b, i * 5 + 2, none⟩) (by simp; omega) _).setCell (p := ⟨b, i * 5 + 3, none⟩) (by simp; omega) _).setCell (p := ⟨b, i * 5 + 4, none⟩) (by simp; omega) _)
        have HFin := Lib.hid (And.intro hrows (And.intro hx6 hBB))
        have g0 := hch.h7.e0
        have f0 := hx6.e0
        have fz0 := hx6.froz 0
        have g1 := hch.h7.e1
        have f1 := hx6.e1
        have fz1 := hx6.froz 1
        have g2 := hch.h7.e2
        have f2 := hx6.e2
        have fz2 := hx6.froz 2
        have g3 := hch.h7.e3
        have f3 := hx6.e3
        have fz3 := hx6.froz 3
        have g4 := hch.h7.e4
        have f4 := hx6.e4
        have fz4 := hx6.froz 4
        have hx6l := hx6.lt
        clear hL3 hb3w hrow3 hOL3 hrows hch hx6 hBB y0 y1 y2 y3 y4 z0 z1 z2 z3 z4
        go_wp2
        refine ret_five (B := w.heap.size + 1 + 1) rfl (HFin.out.2.1.set5 _ _ _ _ _) rfl ?_
        rw [HUq.out]
        refine ⟨_, rfl, ⟨some ⟨b, 0, none⟩, capb, by rw [List.length_set], by rw [List.length_set]; exact HBN.out, by rw [List.length_set]; exact hlcb, hcbm, ?_, fun e => by cases e⟩, below_set5 HFin.out.2.2 (by omega) _ _ _ _ _⟩
        refine LiesL.same (fun g hg => ?_) (fun g hg => heap_set5_other _ _ _ _ _ ?_) HFin.out.1
        · rcases hg with hg | hg
          · exact .inl hg
          · exact .inr ⟨by omega, by simpa using hg.2⟩
        · rcases hg with hg | hg
          · have := HP'.out g hg; omega
          · omega

end Go.Proofs.Ytckgmdlacaiacaa
