/-
  AbleLattice: Meet and Join make a lattice of the sets; Less and Has by them.
  CONDITIONS: the variable able.names holds what its text lays (the card ties that to the program's text).
-/
import Derived.Test.YtohhobmjebdfaaaDoorTab
import Derived.Test.YtohhobmjebdfaaaDoorLatMath
namespace Go.Proofs.YtohhobmjebdfaaaDoor
open Go.ChangeShapes Go.WideShapes Go.ChangeAt Go.RowKit

/-- A call of Meet over a list that was just laid: what lay there lies as it lay. -/
theorem meetL (n₀ : Nat) (w₀ : World) (xs : List Nat) (r : Nat) (hr : meetN xs = r) (hx : ∀ x ∈ xs, x < 256) (hl : xs.length ≤ 9223372036854775807) (hp : 0 < xs.length) (b cap : Nat) (w : World)
    (hb : Below n₀ w₀ w) (hc : Lies w b 0 xs) :
    Calls Tryd.prog 21 #[.slice (some ⟨b, 0, none⟩) xs.length cap] w fun e w' => e = .returned (.int .u8 (r : Int)) ∧ Below n₀ w₀ w' :=
  (meet_w b 0 cap xs w hc hx hl hp).mono fun _ _ h => ⟨by rw [h.1, hr], h.2 ▸ hb⟩
theorem joinL (n₀ : Nat) (w₀ : World) (xs : List Nat) (r : Nat) (hr : joinN xs % 64 = r) (hx : ∀ x ∈ xs, x < 256) (hl : xs.length ≤ 9223372036854775807) (hp : 0 < xs.length) (b cap : Nat) (w : World)
    (hb : Below n₀ w₀ w) (hc : Lies w b 0 xs) :
    Calls Tryd.prog 23 #[.slice (some ⟨b, 0, none⟩) xs.length cap] w fun e w' => e = .returned (.int .u8 (r : Int)) ∧ Below n₀ w₀ w' :=
  (join_w b 0 cap xs w hc hx hl hp).mono fun _ _ h => ⟨by rw [h.1, hr], h.2 ▸ hb⟩

theorem cell_in_row {W : World} {b i : Nat} {c : Array Value} {t : TypeId} {v : Value} (h : W.heap[b]? = some (.cells c t (0, 0))) (hv : c[i]? = some v) : W.cell? ⟨b, i, none⟩ = some v := by
  simp [World.cell?, h, hv]
theorem lies2 (w : World) (x y : Nat) : Lies (w.alloc (.cells #[.int .u8 (x : Int), .int .u8 (y : Int)] 22)) w.heap.size 0 [x, y] := by
  intro i hi
  have h := World.alloc_heap_new w (.cells #[.int .u8 (x : Int), .int .u8 (y : Int)] 22)
  obtain rfl | rfl : i = 0 ∨ i = 1 := by simp at hi; omega
  all_goals exact cell_in_row h rfl
theorem lies3 (w : World) (x y z : Nat) : Lies (w.alloc (.cells #[.int .u8 (x : Int), .int .u8 (y : Int), .int .u8 (z : Int)] 22)) w.heap.size 0 [x, y, z] := by
  intro i hi
  have h := World.alloc_heap_new w (.cells #[.int .u8 (x : Int), .int .u8 (y : Int), .int .u8 (z : Int)] 22)
  obtain rfl | rfl | rfl : i = 0 ∨ i = 1 ∨ i = 2 := by simp at hi; omega
  all_goals exact cell_in_row h rfl
theorem lt2 {x y : Nat} (hx : x < 256) (hy : y < 256) : ∀ z ∈ [x, y], z < 256 := by simp [hx, hy]
theorem lt3 {x y z : Nat} (hx : x < 256) (hy : y < 256) (hz : z < 256) : ∀ t ∈ [x, y, z], t < 256 := by simp [hx, hy, hz]
theorem lessL (x y r : Nat) (hr : lessN x y = r) (w : World) (hx : x < 256) (hy : y < 256) :
    Calls Tryd.prog 26 #[.int .u8 x, .int .u8 y] w fun e w' => e = .returned (.int .u8 (r : Int)) ∧ w = w' :=
  (less_w x y w (by omega) (by omega) (by omega) (by omega)).mono fun _ _ h => ⟨by rw [h.1, ← hr]; rfl, h.2⟩
theorem hasL (x y : Nat) (r : Bool) (hr : hasN x y = r) (w : World) (hx : x < 256) (hy : y < 256) :
    Calls Tryd.prog 28 #[.int .u8 x, .int .u8 y] w fun e w' => e = .returned (.bool r) ∧ w = w' :=
  (has_w x y w (by omega) (by omega) (by omega) (by omega)).mono fun _ _ h => ⟨by rw [h.1, ← hr]; rfl, h.2⟩

set_option maxRecDepth 100000 in
set_option maxHeartbeats 8000000 in
theorem lattice_w (A B C : Int) (a b c m j mc bc jc bcj p ac q acj n u nb lb : Nat) (h : Bool) (w : World) (hA : A % 64 = (a : Int)) (hB : B % 64 = (b : Int)) (hC : C % 64 = (c : Int)) (hN : NamesAt w)
    (bA : 0 ≤ A ∧ A ≤ 255) (bB : 0 ≤ B ∧ B ≤ 255) (bC : 0 ≤ C ∧ C ≤ 255) (_ha : a < 64) (_hb : b < 64) (_hc : c < 64) (hf : LatFacts a b c m j mc bc jc bcj p ac q acj n u nb lb h) :
    Calls Tryd.prog 7 #[.int .u8 A, .int .u8 B, .int .u8 C] w fun e W' => e = .returned (.bool true) ∧ Below w.heap.size w W' := by
  obtain ⟨lm, lj, lmc, lbc, ljc, lbcj, lp, lac, lq, lacj, ln, lu, lnb, llb⟩ := hf.lt
  have e1 := hf.f31
  have e2 := hf.f32
  have e3 := hf.f34
  have hb0 := Below.refl w.heap.size w
  go_enter Tryd.func7, Tryd.ntmps7
  go_wp2_with fail
  refine (meetL w.heap.size w [a, b] m hf.f1 (lt2 (by omega) (by omega)) (by simp) (by simp) _ _ _ (hb0.alloc hb0.size _) (lies2 _ a b)).mono ?_
  rintro e w1 ⟨rfl, hb1⟩
  clear hb0
  go_wp2_with fail
  refine (joinL w.heap.size w [a, b] j hf.f2 (lt2 (by omega) (by omega)) (by simp) (by simp) _ _ _ (hb1.alloc hb1.size _) (lies2 _ a b)).mono ?_
  rintro e w2 ⟨rfl, hb2⟩
  clear hb1
  go_wp2_with fail
  refine (meetL w.heap.size w [b, a] m hf.f3 (lt2 (by omega) (by omega)) (by simp) (by simp) _ _ _ (hb2.alloc hb2.size _) (lies2 _ b a)).mono ?_
  rintro e w3 ⟨rfl, hb3⟩
  clear hb2
  go_wp2_with fail
  refine (joinL w.heap.size w [b, a] j hf.f4 (lt2 (by omega) (by omega)) (by simp) (by simp) _ _ _ (hb3.alloc hb3.size _) (lies2 _ b a)).mono ?_
  rintro e w4 ⟨rfl, hb4⟩
  clear hb3
  go_wp2_with fail
  refine (meetL w.heap.size w [m, c] mc hf.f5 (lt2 (by omega) (by omega)) (by simp) (by simp) _ _ _ (hb4.alloc hb4.size _) (lies2 _ m c)).mono ?_
  rintro e w5 ⟨rfl, hb5⟩
  clear hb4
  go_wp2_with fail
  refine (meetL w.heap.size w [a, b, c] mc hf.f6 (lt3 (by omega) (by omega) (by omega)) (by simp) (by simp) _ _ _ (hb5.alloc hb5.size _) (lies3 _ a b c)).mono ?_
  rintro e w6 ⟨rfl, hb6⟩
  clear hb5
  go_wp2_with fail
  refine (meetL w.heap.size w [b, c] bc hf.f7 (lt2 (by omega) (by omega)) (by simp) (by simp) _ _ _ (hb6.alloc hb6.size _) (lies2 _ b c)).mono ?_
  rintro e w7 ⟨rfl, hb7⟩
  clear hb6
  go_wp2_with fail
  refine (meetL w.heap.size w [a, bc] mc hf.f8 (lt2 (by omega) (by omega)) (by simp) (by simp) _ _ _ (hb7.alloc hb7.size _) (lies2 _ a bc)).mono ?_
  rintro e w8 ⟨rfl, hb8⟩
  clear hb7
  go_wp2_with fail
  refine (meetL w.heap.size w [m, c] mc hf.f5 (lt2 (by omega) (by omega)) (by simp) (by simp) _ _ _ (hb8.alloc hb8.size _) (lies2 _ m c)).mono ?_
  rintro e w9 ⟨rfl, hb9⟩
  clear hb8
  go_wp2_with fail
  refine (joinL w.heap.size w [j, c] jc hf.f9 (lt2 (by omega) (by omega)) (by simp) (by simp) _ _ _ (hb9.alloc hb9.size _) (lies2 _ j c)).mono ?_
  rintro e w10 ⟨rfl, hb10⟩
  clear hb9
  go_wp2_with fail
  refine (joinL w.heap.size w [a, b, c] jc hf.f10 (lt3 (by omega) (by omega) (by omega)) (by simp) (by simp) _ _ _ (hb10.alloc hb10.size _) (lies3 _ a b c)).mono ?_
  rintro e w11 ⟨rfl, hb11⟩
  clear hb10
  go_wp2_with fail
  refine (joinL w.heap.size w [b, c] bcj hf.f11 (lt2 (by omega) (by omega)) (by simp) (by simp) _ _ _ (hb11.alloc hb11.size _) (lies2 _ b c)).mono ?_
  rintro e w12 ⟨rfl, hb12⟩
  clear hb11
  go_wp2_with fail
  refine (joinL w.heap.size w [a, bcj] jc hf.f12 (lt2 (by omega) (by omega)) (by simp) (by simp) _ _ _ (hb12.alloc hb12.size _) (lies2 _ a bcj)).mono ?_
  rintro e w13 ⟨rfl, hb13⟩
  clear hb12
  go_wp2_with fail
  refine (joinL w.heap.size w [j, c] jc hf.f9 (lt2 (by omega) (by omega)) (by simp) (by simp) _ _ _ (hb13.alloc hb13.size _) (lies2 _ j c)).mono ?_
  rintro e w14 ⟨rfl, hb14⟩
  clear hb13
  go_wp2_with fail
  refine (meetL w.heap.size w [a, a] a hf.f13 (lt2 (by omega) (by omega)) (by simp) (by simp) _ _ _ (hb14.alloc hb14.size _) (lies2 _ a a)).mono ?_
  rintro e w15 ⟨rfl, hb15⟩
  clear hb14
  go_wp2_with fail
  refine (joinL w.heap.size w [a, a] a hf.f14 (lt2 (by omega) (by omega)) (by simp) (by simp) _ _ _ (hb15.alloc hb15.size _) (lies2 _ a a)).mono ?_
  rintro e w16 ⟨rfl, hb16⟩
  clear hb15
  go_wp2_with fail
  refine (meetL w.heap.size w [a, j] a hf.f15 (lt2 (by omega) (by omega)) (by simp) (by simp) _ _ _ (hb16.alloc hb16.size _) (lies2 _ a j)).mono ?_
  rintro e w17 ⟨rfl, hb17⟩
  clear hb16
  go_wp2_with fail
  refine (joinL w.heap.size w [a, m] a hf.f16 (lt2 (by omega) (by omega)) (by simp) (by simp) _ _ _ (hb17.alloc hb17.size _) (lies2 _ a m)).mono ?_
  rintro e w18 ⟨rfl, hb18⟩
  clear hb17
  go_wp2_with fail
  refine (joinL w.heap.size w [b, c] bcj hf.f11 (lt2 (by omega) (by omega)) (by simp) (by simp) _ _ _ (hb18.alloc hb18.size _) (lies2 _ b c)).mono ?_
  rintro e w19 ⟨rfl, hb19⟩
  clear hb18
  go_wp2_with fail
  refine (meetL w.heap.size w [a, bcj] p hf.f17 (lt2 (by omega) (by omega)) (by simp) (by simp) _ _ _ (hb19.alloc hb19.size _) (lies2 _ a bcj)).mono ?_
  rintro e w20 ⟨rfl, hb20⟩
  clear hb19
  go_wp2_with fail
  refine (meetL w.heap.size w [a, c] ac hf.f18 (lt2 (by omega) (by omega)) (by simp) (by simp) _ _ _ (hb20.alloc hb20.size _) (lies2 _ a c)).mono ?_
  rintro e w21 ⟨rfl, hb21⟩
  clear hb20
  go_wp2_with fail
  refine (joinL w.heap.size w [m, ac] p hf.f19 (lt2 (by omega) (by omega)) (by simp) (by simp) _ _ _ (hb21.alloc hb21.size _) (lies2 _ m ac)).mono ?_
  rintro e w22 ⟨rfl, hb22⟩
  clear hb21
  go_wp2_with fail
  refine (meetL w.heap.size w [b, c] bc hf.f7 (lt2 (by omega) (by omega)) (by simp) (by simp) _ _ _ (hb22.alloc hb22.size _) (lies2 _ b c)).mono ?_
  rintro e w23 ⟨rfl, hb23⟩
  clear hb22
  go_wp2_with fail
  refine (joinL w.heap.size w [a, bc] q hf.f20 (lt2 (by omega) (by omega)) (by simp) (by simp) _ _ _ (hb23.alloc hb23.size _) (lies2 _ a bc)).mono ?_
  rintro e w24 ⟨rfl, hb24⟩
  clear hb23
  go_wp2_with fail
  refine (joinL w.heap.size w [a, c] acj hf.f21 (lt2 (by omega) (by omega)) (by simp) (by simp) _ _ _ (hb24.alloc hb24.size _) (lies2 _ a c)).mono ?_
  rintro e w25 ⟨rfl, hb25⟩
  clear hb24
  go_wp2_with fail
  refine (meetL w.heap.size w [j, acj] q hf.f22 (lt2 (by omega) (by omega)) (by simp) (by simp) _ _ _ (hb25.alloc hb25.size _) (lies2 _ j acj)).mono ?_
  rintro e w26 ⟨rfl, hb26⟩
  clear hb25
  go_wp2_with fail
  refine (lessL 63 a n hf.f23 _ (by omega) (by omega)).mono ?_
  rintro e w' ⟨rfl, rfl⟩
  go_wp2_with fail
  refine (meetL w.heap.size w [a, n] 0 hf.f24 (lt2 (by omega) (by omega)) (by simp) (by simp) _ _ _ (hb26.alloc hb26.size _) (lies2 _ a n)).mono ?_
  rintro e w27 ⟨rfl, hb27⟩
  clear hb26
  go_wp2_with fail
  refine (joinL w.heap.size w [a, n] 63 hf.f25 (lt2 (by omega) (by omega)) (by simp) (by simp) _ _ _ (hb27.alloc hb27.size _) (lies2 _ a n)).mono ?_
  rintro e w28 ⟨rfl, hb28⟩
  clear hb27
  go_wp2_with fail
  refine (lessL 63 m u hf.f26 _ (by omega) (by omega)).mono ?_
  rintro e w' ⟨rfl, rfl⟩
  go_wp2_with fail
  refine (lessL 63 b nb hf.f27 _ (by omega) (by omega)).mono ?_
  rintro e w' ⟨rfl, rfl⟩
  go_wp2_with fail
  refine (joinL w.heap.size w [n, nb] u hf.f28 (lt2 (by omega) (by omega)) (by simp) (by simp) _ _ _ (hb28.alloc hb28.size _) (lies2 _ n nb)).mono ?_
  rintro e w29 ⟨rfl, hb29⟩
  clear hb28
  go_wp2_with fail
  refine (lessL 63 n a hf.f29 _ (by omega) (by omega)).mono ?_
  rintro e w' ⟨rfl, rfl⟩
  go_wp2_with fail
  refine (hasL a b h hf.f30 _ (by omega) (by omega)).mono ?_
  rintro e w' ⟨rfl, rfl⟩
  go_wp2_with fail
  refine (lessL b a lb hf.f33 _ (by omega) (by omega)).mono ?_
  rintro e w' ⟨rfl, rfl⟩
  go_wp2_with fail
  refine (join_nil _).mono ?_
  rintro e w' ⟨rfl, rfl⟩
  go_wp2_with fail
  refine (meet_nil _).mono ?_
  rintro e w' ⟨rfl, rfl⟩
  go_wp2_with fail
  refine (lives_w _ (hN.below hb29 hN.size)).mono ?_
  rintro e w30 ⟨rfl, hbl⟩
  go_wp2
  go_ret
  exact ⟨rfl, hb29.trans (hbl.mono hb29.size)⟩

theorem lattice_all (A B C : Int) (w : World) (bA : 0 ≤ A ∧ A ≤ 255) (bB : 0 ≤ B ∧ B ≤ 255) (bC : 0 ≤ C ∧ C ≤ 255) (hN : NamesAt w) :
    Calls Tryd.prog 7 #[.int .u8 A, .int .u8 B, .int .u8 C] w fun e W' => e = .returned (.bool true) ∧ Below w.heap.size w W' := by
  obtain ⟨a, hA⟩ := Int.eq_ofNat_of_zero_le (show 0 ≤ A % 64 by omega)
  obtain ⟨b, hB⟩ := Int.eq_ofNat_of_zero_le (show 0 ≤ B % 64 by omega)
  obtain ⟨c, hC⟩ := Int.eq_ofNat_of_zero_le (show 0 ≤ C % 64 by omega)
  obtain ⟨m, j, mc, bc, jc, bcj, p, ac, q, acj, n, u, nb, lb, h, hf⟩ := latFacts a b c (by omega) (by omega)
  exact lattice_w A B C a b c m j mc bc jc bcj p ac q acj n u nb lb h w hA hB hC hN bA bB bC (by omega) (by omega) (by omega) hf

namespace AbleLattice
theorem contract (H : Type) (enc : TypeId × Value → H) (W : World) (base : Nat) (args : Array Value) (ds gs : List (DataW H)) (before : List MemPlace)
    (hval : ∀ (j : Nat) t v, Tryd.f7.params[j]? = some t → args[j]? = some v → Value.okWide Tryd.prog W .any base t v)
    (hW : DataW.Whole enc Tryd.prog Tryd.f7.params.toList Rows.ableLatticeSpec.vars false W args.toList ds gs before) (hL : laidMetH Tryd.prog Rows.ableLatticeRow.laid W) :
    Calls Tryd.prog 7 args W fun e W' => ∃ v, e = .returned v ∧ Rows.ableLatticeSpec.post enc Tryd.prog Tryd.f7 false true false false W args v W' := by
  have hW' := hW
  obtain ⟨p, q, hA0, hV, rfl, hfz, hnd⟩ := hW
  have hA : DataW.TrodAll enc Tryd.prog W 0 (fun _ => true) true Tryd.f7.params.toList args.toList ds p := hA0
  rw [Tryd.params7] at hA hval
  obtain ⟨v0, vs0, d0, ds0, p0, q0, hargs, rfl, rfl, h0, r0⟩ := trodAll_cons hA
  obtain ⟨v1, vs1, d1, ds1, p1, q1, rfl, rfl, rfl, h1, r1⟩ := trodAll_cons r0
  obtain ⟨v2, vs2, d2, ds2, p2, q2, rfl, rfl, rfl, h2, r2⟩ := trodAll_cons r1
  obtain ⟨rfl, rfl, rfl⟩ := trodAll_nil r2
  obtain rfl : args = #[v0, v1, v2] := by cases args; simp_all
  obtain ⟨rfl, rfl⟩ := trodVars_none hV
  obtain ⟨a0, rfl, rfl, rfl, w0⟩ := open_int Tryd.underlying22 (hval 0 22 v0 rfl rfl) h0
  have b0 : 0 ≤ a0 ∧ a0 ≤ 255 := by simpa [Lit.wf, IntKind.min, IntKind.max, IntKind.signed, IntKind.bits] using w0
  obtain ⟨a1, rfl, rfl, rfl, w1⟩ := open_int Tryd.underlying22 (hval 1 22 v1 rfl rfl) h1
  have b1 : 0 ≤ a1 ∧ a1 ≤ 255 := by simpa [Lit.wf, IntKind.min, IntKind.max, IntKind.signed, IntKind.bits] using w1
  obtain ⟨a2, rfl, rfl, rfl, w2⟩ := open_int Tryd.underlying22 (hval 2 22 v2 rfl rfl) h2
  have b2 : 0 ≤ a2 ∧ a2 ≤ 255 := by simpa [Lit.wf, IntKind.min, IntKind.max, IntKind.signed, IntKind.bits] using w2
  clear hA0
  refine (lattice_all a0 a1 a2 W b0 b1 b2 (namesAt hL)).mono fun e W' ⟨he, hb⟩ => ?_
  subst he
  exact ⟨_, rfl, law_post (by kernel_rfl) (by kernel_rfl) hW' rfl rfl rfl Tryd.underlying4 hb⟩

theorem laid_met (os : Os) : laidMet Tryd.prog Rows.ableLatticeRow.laid ((laidWorld os).forCall (fun _ _ => 0) ⟨#[], #[.int .u8 0, .int .u8 0, .int .u8 0], []⟩).memory :=
  laidMet_of_run' 8 (by kernel_rfl) (by kernel_rfl)
theorem reads (os : Os) {H : Type} (enc : TypeId × Value → H) : ∃ places, DataW.whole enc Tryd.prog ((laidWorld os).forCall (fun _ _ => 0) ⟨#[], #[.int .u8 0, .int .u8 0, .int .u8 0], []⟩).memory Tryd.f7.params.toList Rows.ableLatticeSpec.vars false (#[Value.int .u8 0, Value.int .u8 0, Value.int .u8 0] : Array Value).toList 8 = some ([.lit (.int .u8 0), .lit (.int .u8 0), .lit (.int .u8 0)], [], places) :=
  ⟨[], by kernel_rfl⟩

set_option maxRecDepth 100000 in
theorem lifted (os : Os) (started : os.Started) (H : Type) (enc : TypeId × Value → H) (F : Stop.Interp) :
    ReturnsInHanded {} Tryd.checked os 7 .any ((OpenSpec.ofChange Rows.ableLatticeSpec).preRow enc Tryd.prog Tryd.f7 Rows.ableLatticeRow.domain false Rows.ableLatticeRow.laid) (((OpenSpec.ofChange Rows.ableLatticeSpec).at F).post enc Tryd.prog Tryd.f7 false true false false) := by
  obtain ⟨places, hx⟩ := reads os enc
  refine returnsInHanded_of_row (C := Tryd.checked) (s := OpenSpec.ofChange Rows.ableLatticeSpec) own started (by kernel_rfl) Tryd.func7
    (witness_row_at (enc := enc) (C := Tryd.checked) false (laidWorld os) #[.int .u8 0, .int .u8 0, .int .u8 0] rfl (by kernel_rfl) (by kernel_rfl) (by kernel_rfl)
      (OpenSpec.preRow_of_cond 8 hx (by kernel_rfl) (fun k hk => by cases hk) (by kernel_rfl) (laid_met os))) ?_
  intro W base args ds gs before hval hW _ _ _ hL _ _
  exact contract H enc W base args ds gs before hval hW hL

theorem said : Rows.AbleLatticeSaid :=
  OpenClaim.holds_of_cond 7 Tryd.f7 rfl rfl rfl rfl rfl rfl rfl ⟨rfl, rfl, rfl, rfl, rfl⟩ rfl rfl rfl rfl rfl (by kernel_rfl) Tryd.func7 (by kernel_rfl)
    (of_decide_eq_true (by kernel_rfl)) (by unfold Func.isWrapper; first | (rw [if_pos (by decide +kernel)]; kernel_rfl) | (rw [if_neg (by decide +kernel)]; exact ⟨rfl, rfl⟩))
    (fun os started H enc _ F => by rw [OpenClaim.pre_eq_preRow]; exact lifted os started H enc F)

theorem plain (f : FuncId) (fn : Func) (hf : Tryd.pinned.checked.prog.funcNamed "postern/posternlaw01.AbleLattice" = some f) (hfn : Tryd.pinned.checked.prog.funcs[f]? = some fn) :
    false = Tryd.pinned.checked.prog.looks [] ∧ ∀ (j : Nat) t, fn.params[j]? = some t → Tryd.pinned.checked.prog.wantsStandIn t = false := by
  obtain rfl : f = 7 := Option.some.inj ((show Tryd.prog.funcNamed "postern/posternlaw01.AbleLattice" = some 7 by kernel_rfl).symm.trans hf) |>.symm
  obtain rfl : fn = Tryd.f7 := (Option.some.inj (Tryd.func7.symm.trans hfn)).symm
  refine ⟨by kernel_rfl, fun j t ht => ?_⟩
  rw [Tryd.params7] at ht
  have hm := Array.mem_of_getElem? ht
  simp only [List.mem_toArray, List.mem_cons, List.not_mem_nil, or_false] at hm
  rcases hm with rfl | rfl | rfl
  · exact (show Tryd.prog.wantsStandIn 22 = false by kernel_rfl)
  · exact (show Tryd.prog.wantsStandIn 22 = false by kernel_rfl)
  · exact (show Tryd.prog.wantsStandIn 22 = false by kernel_rfl)

theorem card : Rows.AbleLatticeCardSaid :=
  Claim7.holds_tied_plain_at .later [] _ _ _ _ said (fun _ h => by cases h) (by kernel_rfl) (fun _ h => by cases h) ableLattice_row_tie rfl ⟨rfl, rfl⟩ (by kernel_rfl) rfl plain (by kernel_rfl)
end AbleLattice

end Go.Proofs.YtohhobmjebdfaaaDoor
