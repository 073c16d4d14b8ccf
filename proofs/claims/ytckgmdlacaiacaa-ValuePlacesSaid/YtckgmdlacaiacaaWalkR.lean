/-
  value.walk, as Refs goes over it; value.Refs.
-/
import Derived.Test.YtckgmdlacaiacaaRRefs
import Derived.Laws.OwnMore
namespace Go.Proofs.Ytckgmdlacaiacaa
open Go.RowKit Go.Shelf
attribute [local go_sem] Oper.semAt_some

section
variable {P : Program} (w : World)
/-- append onto a slice of one's own: what was handed in is still there. -/
theorem run_append_keep (base : Nat) (t ty e : TypeId) (i : TypeInfo) (z : Value) (size bytes : Nat) (ht : P.underlying t = some (.slice e)) (hi : P.info? e = some i) (hz : i.zero = some z)
    (hsize : i.size = size) (hby : i.bytes = bytes) (hzs : z.cells.size = size) (hsz : 0 < size)
    (v : Value) (n : Nat) (xs : List Value) (hown : w.ownsRow base e size v n xs)
    (a : Addr) (m c : Nat) (news : List Value) (hl : news.length = m * size) (hnews : ∀ j u, news[j]? = some u → w.cell? (a.add j) = some u) (h1 : ∀ u ∈ news, u.oneCell' = true)
    (h63 : n + m ≤ maxLen) (hbytes : (n + m) * bytes ≤ 140737488355328) (hbase : base ≤ w.heap.size) (hm : 0 < m) :
    ∃ v' w', (Builtin.append_ #[t, t] ty #[v, .slice (some a) m c]).run P w = .ok v' w' ∧ w'.ownsRow base e size v' (n + m) (xs ++ news) ∧ w.grownBy w' v.ownBlock ∧ w'.ownsRow base e size v n xs ∧
      ((v'.ownBlock = v.ownBlock ∧ ∀ W' : World, W'.ownsRow base e size v' (n + m) (xs ++ news) → W'.ownsRow base e size v n xs) ∨ v'.ownBlock = some w.heap.size) := by
  rcases hown.2 with ⟨rfl, rfl⟩ | ⟨g, cap, cur, rfl, hbg, hg, hnc, hcm, hcs, htake⟩
  · have hx : xs = [] := List.eq_nil_of_length_eq_zero (by simpa using hown.1)
    subst hx
    obtain ⟨v', w', hr, h2, h3, _, h5⟩ := run_append_own_at (P := P) w base t ty e i z size bytes ht hi hz hsize hby hzs hsz _ 0 [] hown a m c news hl hnews h1 h63 hbytes hbase
    refine ⟨v', w', hr, h2, h3, World.ownsRow_nil _ _ _ _, ?_⟩
    rcases h5 with h5 | h5
    · exact .inl ⟨h5, fun _ _ => World.ownsRow_nil _ _ _ _⟩
    · exact .inr h5
  · by_cases hroom : n + m ≤ cap
    · obtain ⟨w', hr, h2, h3⟩ := run_append_fits (P := P) w base t ty e i size ht hi hsize g n cap xs hown a m c news hl hnews h1 hroom
      have key : ∀ W' : World, W'.ownsRow base e size (.slice (some ⟨g, 0, none⟩) (n + m) cap) (n + m) (xs ++ news) → W'.ownsRow base e size (.slice (some ⟨g, 0, none⟩) n cap) n xs := by
        intro W' h
        rcases h.2 with ⟨h, _⟩ | ⟨g', cap', cur', e', _, k2, k3, k4, k5, k6⟩
        · simp at h
        · simp only [Value.slice.injEq, Option.some.injEq, Addr.mk.injEq, and_true, true_and] at e'
          obtain ⟨rfl, rfl⟩ := e'
          refine ⟨hown.1, .inr ⟨g, cap, cur', rfl, hbg, k2, hnc, k4, k5, ?_⟩⟩
          have h6 := congrArg (List.take (n * size)) k6
          rw [List.take_take, Nat.min_eq_left (Nat.mul_le_mul_right _ (by omega)), ← hown.1, List.take_left] at h6
          rw [← hown.1]; exact h6
      exact ⟨_, w', hr, h2, h3, key w' h2, .inl ⟨rfl, key⟩⟩
    · obtain ⟨v', w', hr, h2, h3, _, h5⟩ := run_append_own_at (P := P) w base t ty e i z size bytes ht hi hz hsize hby hzs hsz _ n xs hown a m c news hl hnews h1 h63 hbytes hbase
      subst hsize
      subst hby
      have holds : ∀ j u, xs[j]? = some u → w.cell? ((⟨g, 0, none⟩ : Addr).add j) = some u := hown.cells (g := g) rfl
      have hr2 := run_append_grow (P := P) w t ty e i z ht hi hz ⟨g, 0, none⟩ n cap xs hown.1 holds a m c news hl hnews (by omega) (by unfold maxLen at h63; omega) (growslice_fits (by omega) hbytes)
      rw [hr] at hr2
      simp only [Result.ok.injEq] at hr2
      obtain ⟨e1, e2⟩ := hr2
      refine ⟨v', w', hr, h2, h3, ?_, .inr ?_⟩
      · rw [e2]
        have : w.drew.ownsRow base e i.size (.slice (some ⟨g, 0, none⟩) n cap) n xs := hown.kept (row := none) ⟨rfl, rfl, rfl, Nat.le_refl _, fun _ _ _ => rfl⟩ (Classical.em _)
        exact this.alloc _
      · rw [e1]; rfl
end
theorem step_append_keep {P : Program} {ops : Array Oper} {o : Oper} {a : Act} {w : World} {K : Act → World → Prop} {Q : Exit → Act → World → Prop} {E : Prop}
    (hg : o.guard = none) (s x : Operand) (t : TypeId) (hop : o.op = Op.call { callee := Callee.builtin Builtin.append, args := #[s, x], argTypes := #[t, t] })
    (base : Nat) (e : TypeId) (i : TypeInfo) (z : Value) (size bytes : Nat) (h1 : P.underlying t = some (.slice e)) (h2 : P.info? e = some i) (h3 : i.zero = some z) (h4 : i.size = size) (h5 : i.bytes = bytes) (h6 : z.cells.size = size) (h7 : 0 < size)
    (v : Value) (n : Nat) (xs : List Value) (hs : a.eval s = v) (hown : w.ownsRow base e size v n xs)
    (ad : Addr) (m c : Nat) (news : List Value) (hx : a.eval x = .slice (some ad) m c) (hn : news.length = m * size) (hc : ∀ j u, news[j]? = some u → w.cell? (ad.add j) = some u) (h1c : ∀ u ∈ news, u.oneCell' = true)
    (b1 : n + m ≤ maxLen) (b2 : (n + m) * bytes ≤ 140737488355328) (hbase : base ≤ w.heap.size) (hm : 0 < m)
    (hK : ∀ v' w', w'.ownsRow base e size v' (n + m) (xs ++ news) → w.grownBy w' v.ownBlock → w'.ownsRow base e size v n xs →
      ((v'.ownBlock = v.ownBlock ∧ ∀ W' : World, W'.ownsRow base e size v' (n + m) (xs ++ news) → W'.ownsRow base e size v n xs) ∨ v'.ownBlock = some w.heap.size) → K (a.put o.dst v') w') :
    if Region.wanted o (yielded ops a.tmps) = true then Oper.wp P o a w K Q else E := by
  have hw : Region.wanted o (yielded ops a.tmps) = true := by simp [Region.wanted, hg]
  rw [if_pos hw]
  obtain ⟨v', w', hrun, r1, r2, r3, r4⟩ := run_append_keep (P := P) w base t o.type e i z size bytes h1 h2 h3 h4 h5 h6 h7 v n xs hown ad m c news hn hc h1c b1 b2 hbase hm
  unfold Oper.wp
  simp [execOp, hop, resolve, invoke, builtin, hs, hx, hrun, Result.andThen]
  exact hK v' w' r1 r2 r3 r4

theorem one_cell (w : World) (x : Value) {t : TypeId} {B : Nat} (hB : B = w.heap.size) : ∀ j u, ([x] : List Value)[j]? = some u → (w.alloc (.cells #[x] t)).cell? ((⟨B, 0, none⟩ : Addr).add j) = some u := by
  subst hB
  intro j u hu
  obtain rfl : j = 0 := by
    rcases j with _ | j
    · rfl
    · simp at hu
  have h := heap_alloc_new w (.cells #[x] t)
  show (w.alloc (.cells #[x] t)).cell? ⟨w.heap.size, 0, none⟩ = some u
  simp only [World.cell?, h]
  simpa using hu
/-- The list of references that is gathered behind a pointer. -/
structure RInv (base rb : Nat) (R : List Int) (W : World) (ov : Value) : Prop where
  box : W.heap[rb]? = some (.cells #[ov] 30 (0, 0))
  own : W.ownsRow base 24 1 ov R.length (i64s R)
  ne : ov.ownBlock ≠ some rb
  lo : base ≤ rb
theorem RInv.cell {base rb : Nat} {R : List Int} {W : World} {ov : Value} (h : RInv base rb R W ov) : W.cell? ⟨rb, 0, none⟩ = some ov := by simp [World.cell?, h.box]
theorem RInv.froz {base rb : Nat} {R : List Int} {W : World} {ov : Value} (h : RInv base rb R W ov) : W.frozen? ⟨rb, 0, none⟩ = false := by simp [World.frozen?, h.box]
theorem RInv.lt {base rb : Nat} {R : List Int} {W : World} {ov : Value} (h : RInv base rb R W ov) : rb < W.heap.size := (Array.getElem?_eq_some_iff.1 h.box).1
/-- It stands where the blocks that it has are as they were. -/
theorem RInv.kept {base rb : Nat} {R : List Int} {W W' : World} {ov : Value} {row : Option Nat} (h : RInv base rb R W ov) (hg : W.grownBy W' row) (h1 : some rb ≠ row) (h2 : ov.ownBlock = none ∨ ov.ownBlock ≠ row) : RInv base rb R W' ov :=
  ⟨(hg.block rb h.lt h1).trans h.box, h.own.kept hg h2, h.ne, h.lo⟩
theorem RInv.below {base rb : Nat} {R : List Int} {W W' : World} {ov : Value} (h : RInv base rb R W ov) (hb : Below W.heap.size W W') : RInv base rb R W' ov :=
  h.kept (grownBy_of_below hb) (by simp) (Classical.em _)

theorem owns_form {w : World} {base : Nat} {e : TypeId} {size : Nat} {v : Value} {n : Nat} {xs : List Value} (h : w.ownsRow base e size v n xs) (hn : 0 < n) : ∃ g cap, v = .slice (some ⟨g, 0, none⟩) n cap := by
  rcases h.2 with ⟨_, h0⟩ | ⟨g, cap, cur, hv, _⟩
  · omega
  · exact ⟨g, cap, hv⟩
theorem refs1_box {base rb : Nat} {R : List Int} {w w2 : World} {ov : Value} {o o' : Obj} (h : RInv base rb R w ov) (hg : ((w.alloc o).alloc o').grownBy w2 ov.ownBlock) : w2.heap[rb]? = some (.cells #[ov] 30 (0, 0)) := by
  have hlt := h.lt
  exact (hg.block rb (by simp; omega) (fun e => h.ne e.symm)).trans ((heap_alloc_old _ _ (by simp; omega)).trans ((heap_alloc_old _ _ hlt).trans h.box))
theorem refs1_step {base rb g cp : Nat} {R : List Int} {r : Int} {w w2 : World} {ov : Value} {o o' : Obj} (h : RInv base rb R w ov) (hown : w2.ownsRow base 24 1 (.slice (some ⟨g, 0, none⟩) (R.length + 1) cp) (R.length + 1) (i64s R ++ [.int .i64 r]))
    (hg : ((w.alloc o).alloc o').grownBy w2 ov.ownBlock) (hat : (Value.slice (some ⟨g, 0, none⟩) (R.length + 1) cp).ownBlock = ov.ownBlock ∨ (Value.slice (some ⟨g, 0, none⟩) (R.length + 1) cp).ownBlock = some ((w.alloc o).alloc o').heap.size) :
    RInv base rb (R ++ [r]) (w2.setCell ⟨rb, 0, none⟩ (.slice (some ⟨g, 0, none⟩) (R.length + 1) cp)) (.slice (some ⟨g, 0, none⟩) (R.length + 1) cp) ∧
      ((Value.slice (some ⟨g, 0, none⟩) (R.length + 1) cp).ownBlock = ov.ownBlock ∨ ∃ g', (Value.slice (some ⟨g, 0, none⟩) (R.length + 1) cp).ownBlock = some g' ∧ w.heap.size ≤ g') ∧ (w2.setCell ⟨rb, 0, none⟩ (.slice (some ⟨g, 0, none⟩) (R.length + 1) cp)).os = w.os ∧
      (w2.setCell ⟨rb, 0, none⟩ (.slice (some ⟨g, 0, none⟩) (R.length + 1) cp)).tape = w.tape ∧ (w2.setCell ⟨rb, 0, none⟩ (.slice (some ⟨g, 0, none⟩) (R.length + 1) cp)).output = w.output ∧ w.heap.size ≤ (w2.setCell ⟨rb, 0, none⟩ (.slice (some ⟨g, 0, none⟩) (R.length + 1) cp)).heap.size ∧
      ∀ q, q < w.heap.size → q ≠ rb → some q ≠ ov.ownBlock → (w2.setCell ⟨rb, 0, none⟩ (.slice (some ⟨g, 0, none⟩) (R.length + 1) cp)).heap[q]? = w.heap[q]? := by
  have hlt := h.lt
  have hne : g ≠ rb := by
    rintro rfl
    rcases hat with hat | hat
    · exact h.ne hat.symm
    · have : g = ((w.alloc o).alloc o').heap.size := by simpa [Value.ownBlock] using hat
      simp at this; omega
  have hbx := refs1_box h hg
  have hgs := hg.size
  simp only [World.size_alloc] at hgs
  refine ⟨⟨by simp [World.setCell, Array.getElem?_modify, hbx], ?_, fun e => hne (by simpa [Value.ownBlock] using e), h.lo⟩, ?_, hg.os, hg.tape, hg.output, by rw [World.size_setCell]; omega, fun q hq h1 h2 => ?_⟩
  · rw [List.length_append, i64s_app]
    refine hown.kept (row := some rb) ⟨rfl, rfl, rfl, by rw [World.size_setCell]; exact Nat.le_refl _, fun k _ hk => heap_setCell_other _ _ _ _ (fun e => hk (by rw [e]))⟩ (.inr fun e => hne (by simpa [Value.ownBlock] using e))
  · rcases hat with hat | hat
    · exact .inl hat
    · exact .inr ⟨_, hat, by simp; omega⟩
  · exact (heap_setCell_other _ _ _ _ h1).trans ((hg.block q (by simp; omega) h2).trans ((heap_alloc_old _ _ (by simp; omega)).trans (heap_alloc_old _ _ hq)))

set_option maxRecDepth 100000 in
set_option maxHeartbeats 4000000 in
theorem refs1_w (place : Value) (k : Nat) (n : Int) (s : ByteArray) (r : Int) (A : Option Addr) (len cap : Nat) (base rb : Nat) (R : List Int) (ov : Value) (w : World) (hk : k < 256) (hI : RInv base rb R w ov) (hbase : base ≤ w.heap.size) (hR : R.length ≤ 4294967295) :
    Calls Try.prog 58 #[place, .agg #[.int .u8 (k : Int), .int .i64 n, .string s, .slice A len cap, .int .i64 r], .pointer (some ⟨rb, 0, none⟩)] w fun e w' => e = .returned (.bool true) ∧
      ∃ ov', RInv base rb (R ++ if k = 4 then [r] else []) w' ov' ∧ (ov'.ownBlock = ov.ownBlock ∨ ∃ g, ov'.ownBlock = some g ∧ w.heap.size ≤ g) ∧ w'.os = w.os ∧ w'.tape = w.tape ∧ w'.output = w.output ∧ w.heap.size ≤ w'.heap.size ∧
        ∀ q, q < w.heap.size → q ≠ rb → some q ≠ ov.ownBlock → w'.heap[q]? = w.heap[q]? := by
  obtain ⟨i0, hi, hz0, hz1, hz2⟩ := info_parts infoR
  have hI2 := hI.below ((Below.refl w.heap.size w).alloc (Nat.le_refl _) (.cells #[.int .u8 (k : Int), .int .i64 n, .string s, .slice A len cap, .int .i64 r] 26))
  have HI := Lib.hid (And.intro hI hI2)
  have c1 := hI.cell
  have z1 := hI.froz
  have hlt := hI.lt
  clear hI hI2
  go_enter Try.func58, Try.ntmps58
  by_cases hk4 : k = 4
  · subst hk4
    go_wp2_with (at_builtin; refine wpList_append_own_at _ rfl (.tmp 9) (.tmp 12) 30 rfl base 24 i0 (.int .i64 0) 1 8 Try.underlying30 hi hz0 hz1 hz2 rfl (by decide) _ _ _ rfl ((HI.out.1.own.alloc _).alloc _) ⟨_, 0, none⟩ 1 1 [.int .i64 r] rfl rfl (one_cell _ _ (by simp)) (by simp [Value.oneCell']) (by unfold maxLen; omega) (by omega) (by simp; omega) ?_; intro v2 w2 hown2 hgrow2 hnil2 hat2; obtain ⟨g, cp, rfl⟩ := owns_form hown2 (by omega); have hbx := refs1_box HI.out.1 hgrow2; have d1 : w2.cell? ⟨rb, 0, none⟩ = some ov := by { simp [World.cell?, hbx] }; have d2 : w2.frozen? ⟨rb, 0, none⟩ = false := by { simp [World.frozen?, hbx] }; have HN := Lib.hid (refs1_step HI.out.1 hown2 hgrow2 hat2); clear hnil2 hown2 hgrow2 hat2 hbx)
    go_ret
    exact ⟨rfl, _, HN.out⟩
  · have q0 : ((k : Int) == 4) = false := by rw [beq_eq_false_iff_ne]; omega
    go_wp2
    go_ret
    refine ⟨rfl, ov, by first | exact HI.out.2 | (rw [if_neg hk4, List.append_nil]; exact HI.out.2), .inl rfl, rfl, rfl, rfl, by simp, fun q hq _ _ => heap_alloc_old _ _ hq⟩
end Go.Proofs.Ytckgmdlacaiacaa
