/-
  The statements' own: awake.
-/
import Derived.Test.YtckgmdlacaiacaaAwk0
namespace Go.Proofs.Ytckgmdlacaiacaa
open Go.RowKit Go.Shelf
attribute [local go_sem] Oper.semAt_some

theorem Lies.num (W : World) (p : Nat → Prop) (n : Int) (hn : -9223372036854775808 ≤ n ∧ n ≤ 9223372036854775807) : Lies W p false (numT n) (.agg #[.int .u8 1, .int .i64 n, .string ⟨#[]⟩, .slice none 0 0, .int .i64 0]) :=
  ⟨none, 0, rfl, ⟨by omega, hn, by omega, Nat.zero_le _, Nat.zero_le _⟩, Nat.le_refl _, Nat.zero_le _, trivial, fun h => by cases h⟩
theorem Lies.ref (W : World) (p : Nat → Prop) (n : Int) (hn : -9223372036854775808 ≤ n ∧ n ≤ 9223372036854775807) : Lies W p false (refT n) (.agg #[.int .u8 4, .int .i64 0, .string ⟨#[]⟩, .slice none 0 0, .int .i64 n]) :=
  ⟨none, 0, rfl, ⟨by omega, by omega, hn, Nat.zero_le _, Nat.zero_le _⟩, Nat.le_refl _, Nat.zero_le _, trivial, fun h => by cases h⟩
theorem rowAt_of {W : World} {b off : Nat} {c : Array Value} {t : TypeId} {a0 a1 a2 a3 a4 : Value} (h : W.heap[b]? = some (.cells c t (0, 0))) (h0 : c[off]? = some a0) (h1 : c[off + 1]? = some a1) (h2 : c[off + 2]? = some a2) (h3 : c[off + 3]? = some a3) (h4 : c[off + 4]? = some a4) : RowAt W b off #[a0, a1, a2, a3, a4] := by
  have k : ∀ o v, c[o]? = some v → W.cell? ⟨b, o, none⟩ = some v := by
    intro o v hv
    unfold World.cell?
    rw [h]
    exact hv
  exact ⟨a0, a1, a2, a3, a4, rfl, k _ _ h0, k _ _ h1, k _ _ h2, k _ _ h3, k _ _ h4⟩
theorem Lies.awT {W : World} {b1 b2 : Nat} {p : Nat → Prop} (hp : p b1 ∧ p b2) (h1 : W.heap[b1]? = some (.cells #[.int .u8 4, .int .i64 0, .string ⟨#[]⟩, .slice none 0 0, .int .i64 7] 26 (0, 0)))
    (h2 : W.heap[b2]? = some (.cells #[.int .u8 1, .int .i64 1, .string ⟨#[]⟩, .slice none 0 0, .int .i64 0, .int .u8 3, .int .i64 0, .string ⟨#[]⟩, .slice (some ⟨b1, 0, none⟩) 1 1, .int .i64 0] 26 (0, 0))) :
    Lies W p false awT (.agg #[.int .u8 3, .int .i64 0, .string ⟨#[]⟩, .slice (some ⟨b2, 0, none⟩) 2 2, .int .i64 0]) := by
  have hL : Lies W p false awL (.agg #[.int .u8 3, .int .i64 0, .string ⟨#[]⟩, .slice (some ⟨b1, 0, none⟩) 1 1, .int .i64 0]) :=
    ⟨some ⟨b1, 0, none⟩, 1, rfl, ⟨by omega, by omega, by omega, Nat.zero_le _, by decide⟩, Nat.le_refl _, by decide, ⟨⟨b1, 0, _, rfl, hp.1, rowAt_of h1 rfl rfl rfl rfl rfl, Lies.ref W p 7 (by omega)⟩, trivial⟩, fun h => by cases h⟩
  exact ⟨some ⟨b2, 0, none⟩, 2, rfl, ⟨by omega, by omega, by omega, Nat.zero_le _, by decide⟩, Nat.le_refl _, by decide, ⟨⟨b2, 0, _, rfl, hp.2, rowAt_of h2 rfl rfl rfl rfl rfl, Lies.num W p 1 (by omega)⟩, ⟨b2, 0, _, rfl, hp.2, rowAt_of h2 rfl rfl rfl rfl rfl, hL⟩, trivial⟩, fun h => by cases h⟩
theorem Fresh.lies {w W : World} {t : VT} {v : Value} (h : Fresh w W t v) : Lies W (fun b => b < W.heap.size) false t v := by
  obtain ⟨F, h1, _, h3⟩ := h
  exact Lies.same (fun b hb => (h3 b hb).2) (fun _ _ => rfl) t v (Own.lies _ _ _ h1)
/-- While awake asks. -/
structure AwSt (w : World) (B b2 : Nat) (W : World) : Prop where
  below : Below w.heap.size w W
  box : Five W B (.int .u8 3) (.int .i64 0) (.string ⟨#[]⟩) (.slice (some ⟨b2, 0, none⟩) 2 2) (.int .i64 0)
  lies : Lies W (fun b => b < B) false awT (.agg #[.int .u8 3, .int .i64 0, .string ⟨#[]⟩, .slice (some ⟨b2, 0, none⟩) 2 2, .int .i64 0])
  le : w.heap.size ≤ B
theorem AwSt.step {w W W' : World} {B b2 : Nat} (h : AwSt w B b2 W) (hb : Below W.heap.size W W') : AwSt w B b2 W' :=
  ⟨h.below.trans (hb.mono h.below.size), h.box.below hb h.box.lt, h.lies.below hb (fun _ hb => Nat.lt_trans hb h.box.lt), h.le⟩
theorem AwSt.alloc {w W : World} {B b2 : Nat} (h : AwSt w B b2 W) (o : Obj) : AwSt w B b2 (W.alloc o) := h.step ((Below.refl _ W).alloc (Nat.le_refl _) o)
theorem AwSt.small {w W : World} {B b2 : Nat} (h : AwSt w B b2 W) : ∀ b, b < B → b < W.heap.size := fun _ hb => Nat.lt_trans hb h.box.lt
theorem neq_func_nil (f : Nat) (v v' : Value) (w : World) : (binOp .neq 40 (.func (.func f) #[] #[v, v']) .nilFunc).run Try.prog w = .ok (.bool true) w := by kernel_rfl
/-- What has been read. -/
structure AwRd (B : Nat) (A : Option Addr) (cap : Nat) (W : World) : Prop where
  box : Five W B (.int .u8 3) (.int .i64 0) (.string ⟨#[]⟩) (.slice A 2 cap) (.int .i64 0)
  lies : Lies W (fun b => b < B) false awT (.agg #[.int .u8 3, .int .i64 0, .string ⟨#[]⟩, .slice A 2 cap, .int .i64 0])
theorem AwRd.step {W W' : World} {B cap : Nat} {A : Option Addr} (h : AwRd B A cap W) (hb : Below W.heap.size W W') : AwRd B A cap W' :=
  ⟨h.box.below hb h.box.lt, h.lies.below hb (fun _ hb => Nat.lt_trans hb h.box.lt)⟩
theorem AwRd.alloc {W : World} {B cap : Nat} {A : Option Addr} (h : AwRd B A cap W) (o : Obj) : AwRd B A cap (W.alloc o) := h.step ((Below.refl _ W).alloc (Nat.le_refl _) o)
theorem AwRd.small {W : World} {B cap : Nat} {A : Option Addr} (h : AwRd B A cap W) : ∀ b, b < B → b < W.heap.size := fun _ hb => Nat.lt_trans hb h.box.lt
theorem ints_two (W : World) (x y : Int) : IntsAt (W.alloc (.cells #[.int .i64 x, .int .i64 y] 3)) (W.alloc (.cells #[.int .i64 x, .int .i64 y] 3)).heap.size (some ⟨W.heap.size, 0, none⟩) [x, y] := fun i hi => by
  refine ⟨_, _, rfl, by simp, ?_⟩
  have h := heap_alloc_new W (.cells #[.int .i64 x, .int .i64 y] 3)
  unfold World.cell?
  rw [h]
  match i, hi with
  | 0, _ => rfl
  | 1, _ => rfl
set_option maxRecDepth 100000 in
set_option maxHeartbeats 8000000 in
theorem awake_w (w : World) : Calls Try.prog 19 #[] w fun e w' => e = .returned (.bool true) ∧ Below w.heap.size w w' := by
  go_enter Try.func19, Try.ntmps19
  go_wp2_with fail
  refine (num_b 1 w (by omega)).mono ?_
  rintro e w1 ⟨rfl, hb1⟩
  have HB1 := Lib.hid hb1
  have hs1 := hb1.size
  clear hb1
  go_wp2_with fail
  refine (ref_b 7 w1).mono ?_
  rintro e w2 ⟨rfl, hb⟩
  have HB2 := Lib.hid (HB1.out.trans (hb.mono hs1))
  have hs2 := HB2.out.size
  clear hb
  go_wp2_with fail
  refine (list_b _ _ _ _).mono ?_
  rintro e w3 ⟨rfl, hb⟩
  have h1 : w3.heap[w2.heap.size]? = some (.cells #[.int .u8 4, .int .i64 0, .string ⟨#[]⟩, .slice none 0 0, .int .i64 7] 26 (0, 0)) := (hb.block _ (by simp)).trans (heap_alloc_new w2 _)
  have HB3 := Lib.hid ((HB2.out.alloc hs2 (.cells #[.int .u8 4, .int .i64 0, .string ⟨#[]⟩, .slice none 0 0, .int .i64 7] 26)).trans (hb.mono (by simp; omega)))
  have hs3 := HB3.out.size
  have hs3' := hb.size
  rw [World.size_alloc] at hs3'
  have H1 := Lib.hid h1
  clear hb h1
  generalize w2.heap.size = b1 at *
  go_wp2_with fail
  refine (list_b _ _ _ _).mono ?_
  rintro e w4 ⟨rfl, hb⟩
  have h2 : w4.heap[w3.heap.size]? = some (.cells #[.int .u8 1, .int .i64 1, .string ⟨#[]⟩, .slice none 0 0, .int .i64 0, .int .u8 3, .int .i64 0, .string ⟨#[]⟩, .slice (some ⟨b1, 0, none⟩) 1 1, .int .i64 0] 26 (0, 0)) := (hb.block _ (by simp)).trans (heap_alloc_new w3 _)
  have h1 := (hb.block b1 (by simp; omega)).trans ((heap_alloc_old w3 _ (by omega)).trans H1.out)
  have HB4 := Lib.hid ((HB3.out.alloc hs3 (.cells #[.int .u8 1, .int .i64 1, .string ⟨#[]⟩, .slice none 0 0, .int .i64 0, .int .u8 3, .int .i64 0, .string ⟨#[]⟩, .slice (some ⟨b1, 0, none⟩) 1 1, .int .i64 0] 26)).trans (hb.mono (by simp; omega)))
  have hs4 := HB4.out.size
  have hs4' := hb.size
  rw [World.size_alloc] at hs4'
  have HL := Lib.hid (Lies.awT (W := w4) (b1 := b1) (b2 := w3.heap.size) (p := fun b => b < w4.heap.size) ⟨by omega, by omega⟩ h1 h2)
  clear hb h1 h2 H1 hs3'
  generalize w3.heap.size = b2 at *
  have HX := Lib.hid (Five.new w4 (.int .u8 3) (.int .i64 0) (.string ⟨#[]⟩) (.slice (some ⟨b2, 0, none⟩) 2 2) (.int .i64 0))
  have HS := Lib.hid (AwSt.mk (w := w) (B := w4.heap.size) (b2 := b2) (W := w4.alloc (.cells #[.int .u8 3, .int .i64 0, .string ⟨#[]⟩, .slice (some ⟨b2, 0, none⟩) 2 2, .int .i64 0] 26)) (HB4.out.alloc hs4 _) HX.out (HL.out.below ((Below.refl w4.heap.size w4).alloc (Nat.le_refl _) _) (fun _ h => h)) hs4)
  clear HL HB2 HB1 HB3 HB4 HX hs1 hs2 hs3 hs4 hs4'
  go_wp2_with fail
  refine (Bytes_w awT _ _ HS.out.lies HS.out.small).mono ?_
  rintro e W ⟨rfl, hb⟩
  rw [awT_bytes]
  have HS1 := Lib.hid (HS.out.step hb)
  clear hb HS
  generalize w4.heap.size = B at *
  clear w4
  go_wp2_with fail
  refine (Read_w [3, 0, 2, 1, 128, 0, 0, 0, 0, 0, 0, 1, 3, 0, 1, 4, 0, 0, 0, 7] _ (by decide)).mono ?_
  intro e W2 hR
  rw [awT_read] at hR
  obtain ⟨hb, v', rfl, hF⟩ := hR
  obtain ⟨A2, cap2, hv⟩ := hF.cells
  replace hv : v' = .agg #[.int .u8 3, .int .i64 0, .string ⟨#[]⟩, .slice A2 2 cap2, .int .i64 0] := hv
  subst hv
  have HS2 := Lib.hid (HS1.out.step hb)
  have HR := Lib.hid (AwRd.mk (Five.new W2 (.int .u8 3) (.int .i64 0) (.string ⟨#[]⟩) (.slice A2 2 cap2) (.int .i64 0)) (hF.lies.below (W' := W2.alloc (.cells #[.int .u8 3, .int .i64 0, .string ⟨#[]⟩, .slice A2 2 cap2, .int .i64 0] 26)) ((Below.refl W2.heap.size W2).alloc (Nat.le_refl _) _) (fun _ h => h)))
  have HS3 := Lib.hid (HS2.out.alloc (.cells #[.int .u8 3, .int .i64 0, .string ⟨#[]⟩, .slice A2 2 cap2, .int .i64 0] 26))
  have e0 := fun o => (HS2.out.alloc o).box.e0
  have e1 := fun o => (HS2.out.alloc o).box.e1
  have e2 := fun o => (HS2.out.alloc o).box.e2
  have e3 := fun o => (HS2.out.alloc o).box.e3
  have e4 := fun o => (HS2.out.alloc o).box.e4
  clear hb HS1 hF
  go_wp2_with fail
  have hI := ints_two (W2.alloc (.cells #[.int .u8 3, .int .i64 0, .string ⟨#[]⟩, .slice A2 2 cap2, .int .i64 0] 26)) 1 0
  have HS3' := Lib.hid (HS3.out.alloc (.cells #[.int .i64 1, .int .i64 0] 3))
  have HR3' := Lib.hid (HR.out.alloc (.cells #[.int .i64 1, .int .i64 0] 3))
  have es : (W2.alloc (.cells #[.int .u8 3, .int .i64 0, .string ⟨#[]⟩, .slice A2 2 cap2, .int .i64 0] 26)).heap.size = W2.heap.size + 1 := by simp
  rw [es] at hI
  have HA := At_w awT _ [1, 0] _ 2 _ HS3'.out.lies HS3'.out.small hI (by decide)
  have el : ([1, 0] : List Int).length = 2 := rfl
  rw [el, awT_at] at HA
  have HA1 := Lib.hid HA
  clear HA hI es el
  refine HA1.out.mono ?_
  clear e0 e1 e2 e3 e4
  intro e W3 hR
  obtain ⟨hb, v', rfl, hF⟩ := hR
  obtain ⟨A3, cap3, hv⟩ := hF.cells
  replace hv : v' = .agg #[.int .u8 4, .int .i64 0, .string ⟨#[]⟩, .slice A3 0 cap3, .int .i64 7] := hv
  subst hv
  have HS4 := Lib.hid (HS3'.out.step hb)
  have HR4 := Lib.hid (HR3'.out.step hb)
  clear hb HS2 HS3 HR HA1 HS3' HR3' hF
  generalize W2.heap.size = B4 at *
  clear W2
  have HX := Lib.hid (Five.new W3 (.int .u8 4) (.int .i64 0) (.string ⟨#[]⟩) (.slice A3 0 cap3) (.int .i64 7))
  have HS5 := Lib.hid (HS4.out.alloc (.cells #[.int .u8 4, .int .i64 0, .string ⟨#[]⟩, .slice A3 0 cap3, .int .i64 7] 26))
  have HR5 := Lib.hid (HR4.out.alloc (.cells #[.int .u8 4, .int .i64 0, .string ⟨#[]⟩, .slice A3 0 cap3, .int .i64 7] 26))
  clear HS4 HR4
  go_wp2_with fail
  refine (num_b 1 _ (by omega)).mono ?_
  rintro e W4 ⟨rfl, hb⟩
  have HS6 := Lib.hid (HS5.out.step hb)
  have HR6 := Lib.hid (HR5.out.step hb)
  have HX6 := Lib.hid (HX.out.below hb HX.out.lt)
  clear hb HS5 HR5 HX
  generalize W3.heap.size = B6 at *
  clear W3
  go_wp2_with fail
  refine (num_b 2 _ (by omega)).mono ?_
  rintro e W5 ⟨rfl, hb⟩
  have HS7 := Lib.hid (HS6.out.step hb)
  have HR7 := Lib.hid (HR6.out.step hb)
  have HX7 := Lib.hid (HX6.out.below hb HX6.out.lt)
  clear hb HS6 HR6 HX6 W4
  go_wp2_with fail
  refine (vOrder_w (pp := fun _ => False) (pp' := fun _ => False) (numT 1) (numT 2) _ _ _ (Lies.num _ _ 1 (by omega)) (Lies.num _ _ 2 (by omega)) (fun _ h => h.elim) (fun _ h => h.elim)).mono ?_
  rintro e W6 ⟨rfl, hb⟩
  rw [awT_order]
  have HS8 := Lib.hid (HS7.out.step hb)
  have HR8 := Lib.hid (HR7.out.step hb)
  have X8 := HX7.out.below hb HX7.out.lt
  have HX8 := Lib.hid X8
  have e0 := HS8.out.box.e0
  have e1 := HS8.out.box.e1
  have e2 := HS8.out.box.e2
  have e3 := HS8.out.box.e3
  have e4 := HS8.out.box.e4
  have f0 := HR8.out.box.e0
  have f1 := HR8.out.box.e1
  have f2 := HR8.out.box.e2
  have f3 := HR8.out.box.e3
  have f4 := HR8.out.box.e4
  have g4 := X8.e4
  clear hb HS7 HR7 HX7 X8
  go_wp2_with fail
  refine (vSame_w awT awT _ _ _ HR8.out.lies HS8.out.lies HR8.out.small HS8.out.small).mono ?_
  rintro e W7 ⟨rfl, hb⟩
  rw [sameT_refl awT_may]
  have HS9 := Lib.hid (HS8.out.step hb)
  have X9 := HX8.out.below hb HX8.out.lt
  clear e0 e1 e2 e3 e4 f0 f1 f2 f3 f4 g4
  have g4 := X9.e4
  have e0 := HS9.out.box.e0
  have e1 := HS9.out.box.e1
  have e2 := HS9.out.box.e2
  have e3 := HS9.out.box.e3
  have e4 := HS9.out.box.e4
  clear hb HS8 HR8 HX8 X9
  go_wp2_with fail
  refine (parts_w awT _ _ HS9.out.lies HS9.out.small).mono ?_
  rintro e W8 ⟨rfl, hb⟩
  rw [awT_may, if_pos rfl, awT_parts]
  have HS10 := Lib.hid (HS9.out.step hb)
  clear e0 e1 e2 e3 e4 g4 hb HS9
  have e0 := HS10.out.box.e0
  have e1 := HS10.out.box.e1
  have e2 := HS10.out.box.e2
  have e3 := HS10.out.box.e3
  have e4 := HS10.out.box.e4
  go_wp2_with fail
  refine (deep_w awT _ _ HS10.out.lies HS10.out.small).mono ?_
  rintro e W9 ⟨rfl, hb⟩
  rw [awT_may, if_pos rfl, awT_deep]
  have HS11 := Lib.hid (HS10.out.step hb)
  clear e0 e1 e2 e3 e4 hb HS10
  have e0 := HS11.out.box.e0
  have e1 := HS11.out.box.e1
  have e2 := HS11.out.box.e2
  have e3 := HS11.out.box.e3
  have e4 := HS11.out.box.e4
  go_wp2_with fail
  refine (may_w awT _ _ HS11.out.lies HS11.out.small).mono ?_
  rintro e W10 ⟨rfl, hb⟩
  rw [awT_may]
  have HS12 := Lib.hid (HS11.out.step hb)
  clear e0 e1 e2 e3 e4 hb HS11
  have e0 := HS12.out.box.e0
  have e1 := HS12.out.box.e1
  have e2 := HS12.out.box.e2
  have e3 := HS12.out.box.e3
  have e4 := HS12.out.box.e4
  go_wp2_with fail
  refine (Each_w awT _ _ HS12.out.lies HS12.out.small).mono ?_
  rintro e W11 ⟨eb, vb, rfl, hb, _⟩
  have HS13 := Lib.hid (HS12.out.step hb)
  clear e0 e1 e2 e3 e4 hb HS12
  have hf := neq_func_nil 64 (.pointer (some ⟨eb, 0, none⟩)) (.pointer (some ⟨vb, 0, none⟩)) W11
  go_wp2
  go_ret
  exact ⟨rfl, HS13.out.below⟩
end Go.Proofs.Ytckgmdlacaiacaa
