/-
  value.layWide: the lowest n bytes of a number, the highest first.
-/
import Derived.Lib.AppendStr
import Derived.Test.YtckgmdlacaiacaaWalkR
namespace Go.Proofs.Ytckgmdlacaiacaa
open Go.RowKit Go.Shelf
attribute [local go_sem] Oper.semAt_some

/-- The lowest n bytes of x, the highest first. -/
def wide (x : Nat) : Nat → List UInt8
  | 0 => []
  | n + 1 => UInt8.ofNat (x / 2 ^ (8 * n)) :: wide x n
theorem wide_len (x : Nat) : ∀ n, (wide x n).length = n
  | 0 => rfl
  | n + 1 => by rw [wide, List.length_cons, wide_len x n]
def u8s (l : List UInt8) : List Value := l.map fun b => .int .u8 (b.toNat : Int)
theorem u8s_len (l : List UInt8) : (u8s l).length = l.length := by simp [u8s]
theorem u8s_app (l m : List UInt8) : u8s (l ++ m) = u8s l ++ u8s m := by simp [u8s]
theorem infoB : (Try.prog.info? 5).map (fun i => (i.zero, i.size, i.bytes)) = some (some (.int .u8 0), 1, 1) := by kernel_rfl
/-- Bytes of one's own: l, from v0 in w0 on. -/
structure BInv (base : Nat) (w0 : World) (v0 : Value) (l : List UInt8) (W : World) (v : Value) : Prop where
  own : W.ownsRow base 5 1 v l.length (u8s l)
  gr : w0.grownBy W v0.ownBlock
  at_ : v.ownBlock = v0.ownBlock ∨ ∃ g, v.ownBlock = some g ∧ w0.heap.size ≤ g
  lo : base ≤ w0.heap.size
  v0 : ∀ k, v0.ownBlock = some k → base ≤ k ∧ k < w0.heap.size
namespace BInv
variable {base : Nat} {w0 W W' : World} {v0 v v' : Value} {l m : List UInt8}
theorem new (h : W.ownsRow base 5 1 v l.length (u8s l)) (hb : base ≤ W.heap.size) : BInv base W v l W v :=
  ⟨h, World.grownBy.refl _ _, .inl rfl, hb, fun k hk => h.lt k hk⟩
theorem size (h : BInv base w0 v0 l W v) : w0.heap.size ≤ W.heap.size := h.gr.size
theorem hi (h : BInv base w0 v0 l W v) : base ≤ W.heap.size := Nat.le_trans h.lo h.size
theorem trans (h : BInv base w0 v0 l W v) (h2 : BInv base W v m W' v') : BInv base w0 v0 m W' v' := by
  refine ⟨h2.own, ⟨h2.gr.os.trans h.gr.os, h2.gr.tape.trans h.gr.tape, h2.gr.output.trans h.gr.output, Nat.le_trans h.gr.size h2.gr.size, fun i hi hne => ?_⟩, ?_, h.lo, h.v0⟩
  · refine (h2.gr.block i (Nat.lt_of_lt_of_le hi h.gr.size) fun e => ?_).trans (h.gr.block i hi hne)
    rcases h.at_ with h1 | ⟨g, h1, h3⟩
    · exact hne (e.trans h1)
    · rw [h1] at e
      cases e
      omega
  · rcases h2.at_ with h1 | ⟨g, h1, h3⟩
    · rw [h1]; exact h.at_
    · exact .inr ⟨g, h1, Nat.le_trans h.gr.size h3⟩
theorem alloc (h : BInv base w0 v0 l W v) (o : Obj) : BInv base w0 v0 l (W.alloc o) v :=
  ⟨h.own.alloc o, ⟨h.gr.os, h.gr.tape, h.gr.output, by rw [World.size_alloc]; exact Nat.le_succ_of_le h.gr.size, fun i hi hne => (heap_alloc_old W o (Nat.lt_of_lt_of_le hi h.gr.size)).trans (h.gr.block i hi hne)⟩, h.at_, h.lo, h.v0⟩
theorem below {B : Nat} {w : World} (h : BInv base w0 v0 l W v) (hw : Below B w w0) (hB : B ≤ base) : Below B w W :=
  hw.grown h.gr (Nat.le_trans hB h.lo) (fun k hk => Nat.le_trans hB (h.v0 k hk).1)
theorem five {b : Nat} {c0 c1 c2 c3 c4 : Value} (h : BInv base w0 v0 l W v) (hx : Five w0 b c0 c1 c2 c3 c4) (hb : some b ≠ v0.ownBlock) : Five W b c0 c1 c2 c3 c4 :=
  ⟨(h.gr.block b hx.lt hb).trans hx.row⟩
theorem step {x : Value} {o : Obj} (h : BInv base w0 v0 l W v) (hown : W'.ownsRow base 5 1 v' (l.length + 1) (u8s l ++ [x])) (hg : (W.alloc o).grownBy W' v.ownBlock) (hat : v'.ownBlock = v.ownBlock ∨ v'.ownBlock = some (W.alloc o).heap.size) (hx : u8s m = [x]) :
    BInv base w0 v0 (l ++ m) W' v' := by
  have hm : m.length = 1 := by rw [← u8s_len, hx]; rfl
  have h1 : BInv base W v (l ++ m) W' v' := by
    refine ⟨by rw [List.length_append, hm, u8s_app, hx]; exact hown, ⟨hg.os, hg.tape, hg.output, ?_, fun i hi hne => (hg.block i (by rw [World.size_alloc]; omega) hne).trans (heap_alloc_old W o hi)⟩, ?_, h.hi, fun k hk => h.own.lt k hk⟩
    · have := hg.size
      rw [World.size_alloc] at this
      omega
    · rcases hat with hat | hat
      · exact .inl hat
      · exact .inr ⟨_, hat, by rw [World.size_alloc]; omega⟩
  exact h.trans h1
end BInv
theorem wide_byte (x : Nat) (n : Nat) : ((UInt8.ofNat (x / 2 ^ (8 * n))).toNat : Int) = ((x : Int) / 2 ^ (8 * n)) % 256 := by
  rw [UInt8.toNat_ofNat']
  have : (2 : Int) ^ (8 * n) = ((2 ^ (8 * n) : Nat) : Int) := (Int.natCast_pow 2 (8 * n)).symm
  rw [this]
  omega
set_option maxRecDepth 100000 in
set_option maxHeartbeats 4000000 in
theorem layWide_w (base : Nat) (l : List UInt8) (v : Value) (x n : Nat) (w : World) (hB : BInv base w v l w v) (_hx : x < 18446744073709551616) (hn : n ≤ 8) (hl : l.length ≤ 4294967295) :
    Calls Try.prog 90 #[v, .int .u64 (x : Int), .int .i64 (n : Int)] w fun e w' => ∃ v', e = .returned v' ∧ BInv base w v (l ++ wide x n) w' v' := by
  obtain ⟨i0, hi, hz0, hz1, hz2⟩ := info_parts infoB
  have HB := Lib.hid hB
  clear hB
  go_enter Try.func90, Try.ntmps90
  go_wp2
  go_loopw [0, 2] (fun bv iv wr => ∃ (m : Nat) (pre : List UInt8), m ≤ n ∧ pre ++ wide x m = l ++ wide x n ∧ iv = .int .i64 ((m : Int) - 1) ∧ BInv base w v pre wr bv) (fun _ iv _ => (intOf iv + 1).toNat)
  case atStart => exact ⟨n, l, Nat.le_refl _, rfl, by go_num, HB.out⟩
  case round =>
    obtain ⟨m, pre, hm, he, rfl, hI⟩ := hrel
    have hlen : pre.length ≤ 4294967303 := by
      have := congrArg List.length he
      simp only [List.length_append, wide_len] at this
      omega
    have HI := Lib.hid hI
    have HE := Lib.hid he
    clear hI he
    cases m with
    | zero =>
      have HR := Lib.hid (show pre = l ++ wide x n by have := HE.out; rwa [wide, List.append_nil] at this)
      go_wp2
      go_ret
      exact ⟨_, rfl, by rw [← HR.out]; exact HI.out⟩
    | succ m =>
      have hlo := HI.out.hi
      go_wp2_with (at_builtin; refine wpList_append_own_at _ rfl (.tmp 13) (.tmp 19) 107 rfl base 5 i0 (.int .u8 0) 1 1 Try.underlying107 hi hz0 hz1 hz2 rfl (by decide) _ _ _ rfl (HI.out.own.alloc _) ⟨_, 0, none⟩ 1 1 [_] rfl rfl (one_cell _ _ (by simp)) (by simp [Value.oneCell']) (by unfold maxLen; omega) (by omega) (by simp; omega) ?_; intro v2 w2 hown2 hgrow2 hnil2 hat2; clear hnil2)
      have HN := Lib.hid (HI.out.step (m := [UInt8.ofNat (x / 2 ^ (8 * m))]) hown2 hgrow2 hat2 (by rw [u8s, List.map_singleton, wide_byte]))
      clear hown2 hgrow2 hat2
      go_roundw
      case rel => exact ⟨m, pre ++ [UInt8.ofNat (x / 2 ^ (8 * m))], by omega, by rw [List.append_assoc]; exact HE.out, by go_num, HN.out⟩
      case measure => simp [intOf]
end Go.Proofs.Ytckgmdlacaiacaa
