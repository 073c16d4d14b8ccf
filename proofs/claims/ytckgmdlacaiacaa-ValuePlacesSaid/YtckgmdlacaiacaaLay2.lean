/-
  value.lay: the bytes of a value.
-/
import Derived.Laws.Bits64
import Derived.Test.YtckgmdlacaiacaaLay
namespace Go.Proofs.Ytckgmdlacaiacaa
open Go.RowKit Go.Shelf
attribute [local go_sem] Oper.semAt_some

/-- A number as a wide word of the same order. -/
def topN (n : Int) : Nat := (n + 9223372036854775808).toNat
theorem xor_lo (a : Nat) (h : a < 2 ^ 63) : a ^^^ 2 ^ 63 = 2 ^ 63 + a := by
  apply Nat.eq_of_testBit_eq
  intro i
  rw [Nat.testBit_xor, Nat.testBit_two_pow]
  rcases Nat.lt_trichotomy i 63 with hi | rfl | hi
  · rw [Nat.testBit_two_pow_add_gt hi]
    have : decide (63 = i) = false := by simp; omega
    rw [this, Bool.xor_false]
  · rw [Nat.testBit_two_pow_add_eq, Nat.testBit_lt_two_pow h]
    rfl
  · have h1 : 2 ^ 64 ≤ 2 ^ i := Nat.pow_le_pow_right (by omega) hi
    rw [Nat.testBit_lt_two_pow (show a < 2 ^ i by omega), Nat.testBit_lt_two_pow (show 2 ^ 63 + a < 2 ^ i by omega)]
    have : decide (63 = i) = false := by simp; omega
    rw [this]
    rfl
theorem xor_hi (a : Nat) (h : a < 2 ^ 63) : (2 ^ 63 + a) ^^^ 2 ^ 63 = a := by
  rw [← xor_lo a h, Nat.xor_assoc, Nat.xor_self, Nat.xor_zero]
theorem xor_top (n : Int) (h : -9223372036854775808 ≤ n ∧ n ≤ 9223372036854775807) : bits .xor .u64 (IntKind.u64.wrap n) 9223372036854775808 = (((n + 9223372036854775808).toNat : Nat) : Int) := by
  have hw : IntKind.u64.wrap n = n % 18446744073709551616 := rfl
  rw [hw]
  have e : n % 18446744073709551616 = ((n % 18446744073709551616).toNat : Int) := by omega
  rw [e]
  have := bits_xor_u64_nat (n % 18446744073709551616).toNat 9223372036854775808 (by omega) (by omega)
  rw [show ((9223372036854775808 : Nat) : Int) = 9223372036854775808 from rfl] at this
  rw [this, show (9223372036854775808 : Nat) = 2 ^ 63 from rfl]
  rcases Int.lt_or_le n 0 with h0 | h0
  · obtain ⟨a, ha⟩ : ∃ a : Nat, (n % 18446744073709551616).toNat = 2 ^ 63 + a := ⟨(n % 18446744073709551616).toNat - 2 ^ 63, by omega⟩
    rw [ha, xor_hi a (by omega)]
    omega
  · rw [xor_lo _ (by omega)]
    omega

section
variable {P : Program} (w : World)
/-- append of a string's bytes: where the new slice lies. -/
theorem run_append_string_at (base : Nat) (t u ty e : TypeId) (i : TypeInfo) (ht : P.underlying t = some (.slice e)) (hu : P.underlying u = some .string) (hi : P.info? e = some i) (hz : i.zero = some (.int .u8 0))
    (hsize : i.size = 1) (hby : i.bytes = 1) (v : Value) (n : Nat) (xs : List Value) (hown : w.ownsRow base e 1 v n xs) (hn : 0 < n) (s : ByteArray)
    (h63 : n + s.size ≤ maxLen) (hbytes : n + s.size ≤ 140737488355328) (hbase : base ≤ w.heap.size) :
    ∃ v' w', (Builtin.append_ #[t, u] ty #[v, .string s]).run P w = .ok v' w' ∧ w'.ownsRow base e 1 v' (n + s.size) (xs ++ Lib.strCells s) ∧ w.grownBy w' v.ownBlock ∧
      (v'.ownBlock = v.ownBlock ∨ v'.ownBlock = some w.heap.size) := by
  obtain ⟨v', w', hr, h2, h3, _⟩ := Lib.run_append_own_string (P := P) w base t u ty e i ht hu hi hz hsize hby v n xs hown s h63 hbytes hbase
  refine ⟨v', w', hr, h2, h3, ?_⟩
  unfold maxLen at h63
  rcases hown.2 with ⟨_, h0⟩ | ⟨g, cap, cur, rfl, hbg, hg, hnc, hcm, hcs, htake⟩
  · omega
  · by_cases hroom : n + s.size ≤ cap
    · have hr2 := Lib.run_append_room_string (P := P) w t u ty e i ht hu hi hsize g n cap cur hg s hroom (by omega)
      rw [hr] at hr2
      simp only [Result.ok.injEq] at hr2
      exact .inl (by rw [hr2.1]; rfl)
    · have holds : ∀ j u, xs[j]? = some u → w.cell? ((⟨g, 0, none⟩ : Addr).add j) = some u := hown.cells (g := g) rfl
      have hr2 := Lib.run_append_grow_string (P := P) w t u ty e i (.int .u8 0) ht hu hi hz ⟨g, 0, none⟩ n cap xs (by rw [hsize]; simpa using hown.1) holds s (by omega) (by omega) (by rw [hby]; exact growslice_fits (by omega) (by omega))
      rw [hr] at hr2
      simp only [Result.ok.injEq] at hr2
      exact .inr (by rw [hr2.1]; rfl)
theorem wpList_append_string_at {ops : Array Oper} {rest : List Oper} {o : Oper} {a : Act} {Q : Exit → Act → World → Prop} (hgd : o.guard = none) (sl x : Operand) (t u : TypeId)
    (ho : o.op = .call { callee := .builtin .append, args := #[sl, x], argTypes := #[t, u] })
    (base : Nat) (e : TypeId) (i : TypeInfo) (ht : P.underlying t = some (.slice e)) (hu : P.underlying u = some .string) (hi : P.info? e = some i) (hz : i.zero = some (.int .u8 0))
    (hsize : i.size = 1) (hby : i.bytes = 1)
    (v : Value) (n : Nat) (xs : List Value) (hs : a.eval sl = v) (hown : w.ownsRow base e 1 v n xs) (hn : 0 < n) (s : ByteArray) (hx : a.eval x = .string s)
    (h63 : n + s.size ≤ maxLen) (hbytes : n + s.size ≤ 140737488355328) (hbase : base ≤ w.heap.size)
    (h : ∀ v' w', w'.ownsRow base e 1 v' (n + s.size) (xs ++ Lib.strCells s) → w.grownBy w' v.ownBlock → (v'.ownBlock = v.ownBlock ∨ v'.ownBlock = some w.heap.size) → wpList P ops Q rest (a.put o.dst v') w') : wpList P ops Q (o :: rest) a w := by
  refine wpList_plain hgd fun K hK => ?_
  obtain ⟨v', w', hr, h2, h3, h4⟩ := run_append_string_at (P := P) w base t u o.type e i ht hu hi hz hsize hby v n xs hown hn s h63 hbytes hbase
  unfold Oper.wp execOp
  simp only [ho, resolve, invoke, builtin, Sem.run_bind, Sem.run_pure, Result.andThen_ok, List.map_toArray, List.map_cons, List.map_nil, hs, hx, hr]
  exact hK _ _ (h v' w' h2 h3 h4)
end
theorem BInv.text {base : Nat} {w0 W W' : World} {v0 v v' : Value} {l : List UInt8} {s : ByteArray} (h : BInv base w0 v0 l W v) (hown : W'.ownsRow base 5 1 v' (l.length + s.size) (u8s l ++ Lib.strCells s)) (hg : W.grownBy W' v.ownBlock) (hat : v'.ownBlock = v.ownBlock ∨ v'.ownBlock = some W.heap.size) :
    BInv base w0 v0 (l ++ s.data.toList) W' v' := by
  have hsz : s.data.toList.length = s.size := by rw [Array.length_toList]; rfl
  refine h.trans ⟨by rw [List.length_append, hsz, u8s_app]; exact hown, hg, ?_, h.hi, fun k hk => h.own.lt k hk⟩
  rcases hat with hat | hat
  · exact .inl hat
  · exact .inr ⟨_, hat, Nat.le_refl _⟩

mutual
/-- The bytes of a value. -/
def bytesT : VT → List UInt8
  | .mk k n s r l => UInt8.ofNat k :: (match k with
    | 1 => wide (topN n) 8
    | 2 => wide s.size 2 ++ s.data.toList
    | 3 => wide l.length 2 ++ bytesL l
    | 4 => wide (r % 18446744073709551616).toNat 4
    | _ => [])
def bytesL : List VT → List UInt8
  | [] => []
  | t :: ts => bytesT t ++ bytesL ts
end
theorem bytesL_append : ∀ (l m : List VT), bytesL (l ++ m) = bytesL l ++ bytesL m
  | [], m => rfl
  | t :: ts, m => by
    show bytesT t ++ bytesL (ts ++ m) = (bytesT t ++ bytesL ts) ++ bytesL m
    rw [bytesL_append ts m, List.append_assoc]
theorem bytesL_take {l : List VT} {j : Nat} (h : j < l.length) : bytesL (l.take (j + 1)) = bytesL (l.take j) ++ bytesT l[j] := by
  rw [take_get h, bytesL_append]
  show _ ++ (bytesT l[j] ++ []) = _
  rw [List.append_nil]
theorem bytesT_pos (t : VT) : 1 ≤ (bytesT t).length := by
  cases t
  exact Nat.succ_le_succ (Nat.zero_le _)
theorem bytesL_len : ∀ l : List VT, l.length ≤ (bytesL l).length
  | [] => Nat.le_refl _
  | t :: ts => by
    have := bytesL_len ts
    have := bytesT_pos t
    show ts.length + 1 ≤ (bytesT t ++ bytesL ts).length
    rw [List.length_append]
    omega
theorem lay_big {k : Nat} (n : Int) (s : ByteArray) (r : Int) (l : List VT) (h : 5 ≤ k) : bytesT (.mk k n s r l) = [UInt8.ofNat k] := by
  match k, h with
  | k + 5, _ => rfl
theorem u8_one {k : Nat} (h : k < 256) : u8s [UInt8.ofNat k] = [.int .u8 (k : Int)] := by
  rw [u8s, List.map_singleton, UInt8.toNat_ofNat', Nat.mod_eq_of_lt (by omega)]

set_option maxRecDepth 100000 in
set_option maxHeartbeats 4000000 in
theorem lay_w (p : Nat → Prop) (m : Bool) (base : Nat) (hpb : ∀ b, p b → b < base) : ∀ (t : VT) (tv bv : Value) (pre : List UInt8) (w : World), Lies w p m t tv → BInv base w bv pre w bv → pre.length + (bytesT t).length ≤ 4294967280 →
    Calls Try.prog 78 #[bv, tv] w fun e w' => ∃ v', e = .returned v' ∧ BInv base w bv (pre ++ bytesT t) w' v' := by
  refine VT.ind fun k n s r l ih tv bv pre w h hI hlen => ?_
  obtain ⟨i0, hi, hz0, hz1, hz2⟩ := info_parts infoB
  obtain ⟨A, cap, rfl, ⟨hk, hn, hr, hs, hl⟩, _, _, hL, _⟩ := h
  have hk4 : k = 0 ∨ k = 1 ∨ k = 2 ∨ k = 3 ∨ k = 4 ∨ 5 ≤ k := by omega
  have HI := Lib.hid hI
  have HL := Lib.hid hL
  have IH := Lib.hid ih
  have HLen := Lib.hid hlen
  have hpl : pre.length ≤ 4294967280 := by omega
  clear hI hL ih hlen
  have XX := Lib.hid (Five.new w (.int .u8 (k : Int)) (.int .i64 n) (.string s) (.slice A l.length cap) (.int .i64 r))
  have HI1 := Lib.hid (BInv.new (HI.out.own.alloc (.cells #[.int .u8 (k : Int), .int .i64 n, .string s, .slice A l.length cap, .int .i64 r] 26)) (by rw [World.size_alloc]; exact Nat.le_succ_of_le HI.out.hi))
  have HT := Lib.hid (fun (l' : List UInt8) W V (h : BInv base (w.alloc (.cells #[.int .u8 (k : Int), .int .i64 n, .string s, .slice A l.length cap, .int .i64 r] 26)) bv l' W V) => (HI.out.alloc _).trans h)
  have HNE := Lib.hid (show some w.heap.size ≠ bv.ownBlock from fun e => by have := (HI.out.own.lt _ e.symm).2; omega)
  have c0 := XX.out.e0
  have hbase := HI.out.hi
  go_enter Try.func78, Try.ntmps78
  go_wp2_with (at_builtin; refine wpList_append_own_at _ rfl (.tmp 7) (.tmp 10) 107 rfl base 5 i0 (.int .u8 0) 1 1 Try.underlying107 hi hz0 hz1 hz2 rfl (by decide) _ _ _ rfl (HI1.out.own.alloc _) ⟨_, 0, none⟩ 1 1 [.int .u8 (k : Int)] rfl rfl (one_cell _ _ (by simp)) (by simp [Value.oneCell']) (by unfold maxLen; omega) (by omega) (by simp; omega) ?_; intro v2 w2 hown2 hgrow2 hnil2 hat2; have H2 := Lib.hid (HI1.out.step hown2 hgrow2 hat2 (u8_one hk)); have X2 := Lib.hid (H2.out.five XX.out HNE.out); have d0 := X2.out.e0; clear hnil2 hown2 hgrow2 hat2; refine RowKit.Hid.out ?_)
  have HB : ∀ L : List UInt8, bytesT (.mk k n s r l) = UInt8.ofNat k :: L → (pre ++ [UInt8.ofNat k]) ++ L = pre ++ bytesT (.mk k n s r l) := by
    intro L h
    rw [h, List.append_assoc]
    rfl
  have HB := Lib.hid HB
  have hpl1 : (pre ++ [UInt8.ofNat k]).length ≤ 4294967281 := by rw [List.length_append]; exact Nat.add_le_add hpl (Nat.le_refl _)
  rcases hk4 with rfl | rfl | rfl | rfl | rfl | hk5
  · have hq := Lib.hid (HB.out [] rfl)
    refine Lib.hid ?_
    go_wp2
    go_ret
    exact ⟨_, rfl, by rw [← hq.out, List.append_nil]; exact HT.out _ _ _ H2.out⟩
  · have hq := Lib.hid (HB.out (wide (topN n) 8) rfl)
    have e1 := X2.out.e1
    refine Lib.hid ?_
    go_wp2_with fail
    rw [xor_top n hn]
    refine (layWide_w base _ v2 (topN n) 8 w2 (BInv.new H2.out.own H2.out.hi) (by unfold topN; omega) (by decide) (by omega)).mono ?_
    rintro e w3 ⟨v3, rfl, h3⟩
    have H3 := Lib.hid (H2.out.trans h3)
    clear h3
    go_wp2
    go_ret
    exact ⟨_, rfl, by rw [← hq.out]; exact HT.out _ _ _ H3.out⟩
  · have hq := Lib.hid (HB.out (wide s.size 2 ++ s.data.toList) rfl)
    have e1 := X2.out.e2
    have hsl : pre.length + s.size ≤ 4294967280 := by
      have h1 : pre.length + (bytesT (.mk 2 n s r l)).length ≤ 4294967280 := HLen.out
      have h2 : (bytesT (.mk 2 n s r l)).length = s.size + 3 := by
        show (UInt8.ofNat 2 :: (wide s.size 2 ++ s.data.toList)).length = _
        have h3 : s.data.toList.length = s.size := by rw [Array.length_toList]; rfl
        rw [List.length_cons, List.length_append, wide_len, h3]
        omega
      omega
    refine Lib.hid ?_
    go_wp2_with fail
    refine (layWide_w base _ v2 s.size 2 w2 (BInv.new H2.out.own H2.out.hi) (by omega) (by decide) (by omega)).mono ?_
    rintro e w3 ⟨v3, rfl, h3⟩
    have H3 := Lib.hid (H2.out.trans h3)
    have X3 := Lib.hid (H3.out.five XX.out HNE.out)
    have e3 := X3.out.e2
    have hl3 : ((pre ++ [UInt8.ofNat 2]) ++ wide s.size 2).length = pre.length + 3 := by simp [wide_len]
    have hb3 := H3.out.hi
    clear h3 e1 d0 c0
    go_wp2_with (at_builtin; refine wpList_append_string_at _ rfl (.tmp 30) (.tmp 32) 107 9 rfl base 5 i0 Try.underlying107 Try.underlying9 hi hz0 hz1 hz2 _ _ _ rfl H3.out.own (by omega) s rfl (by unfold maxLen; omega) (by omega) hb3 ?_; intro v4 w4 hown4 hgrow4 hat4; have H4 := Lib.hid (H3.out.text hown4 hgrow4 hat4); clear hown4 hgrow4 hat4)
    go_ret
    exact ⟨_, rfl, by rw [← hq.out, ← List.append_assoc]; exact HT.out _ _ _ H4.out⟩
  · have hq := Lib.hid (HB.out (wide l.length 2 ++ bytesL l) rfl)
    have hbl : pre.length + (bytesL l).length ≤ 4294967277 := by
      have h1 : pre.length + (bytesT (.mk 3 n s r l)).length ≤ 4294967280 := HLen.out
      have h2 : (bytesT (.mk 3 n s r l)).length = (bytesL l).length + 3 := by
        show (UInt8.ofNat 3 :: (wide l.length 2 ++ bytesL l)).length = _
        rw [List.length_cons, List.length_append, wide_len]
        omega
      omega
    have hll : l.length ≤ 4294967277 := by have := bytesL_len l; omega
    have HBL := Lib.hid hbl
    clear hbl
    have e1 := X2.out.e3
    refine Lib.hid ?_
    go_wp2_with fail
    refine (layWide_w base _ v2 l.length 2 w2 (BInv.new H2.out.own H2.out.hi) (by omega) (by decide) (by omega)).mono ?_
    rintro e w3 ⟨v3, rfl, h3⟩
    have H3 := Lib.hid (H2.out.trans h3)
    have X3 := Lib.hid (H3.out.five XX.out HNE.out)
    have e3 := X3.out.e3
    have hsz := H3.out.size
    rw [World.size_alloc] at hsz
    clear h3 e1 d0 c0
    have HW := Lib.hid (fun b (hb : p b) (L : List UInt8) W V (h : BInv base (w.alloc (.cells #[.int .u8 ((3 : Nat) : Int), .int .i64 n, .string s, .slice A l.length cap, .int .i64 r] 26)) bv L W V) => show W.heap[b]? = w.heap[b]? from
      (h.gr.block b (by rw [World.size_alloc]; have := hpb b hb; omega) (fun e => by have := (h.v0 b e.symm).1; have := hpb b hb; omega)).trans (heap_alloc_old _ _ (by have := hpb b hb; omega)))
    have hbw := hbase
    go_wp2
    go_loopw [0, 45] (fun ov iv wr => ∃ j : Nat, j ≤ l.length ∧ iv = .int .i64 (j : Int) ∧ BInv base (w.alloc (.cells #[.int .u8 ((3 : Nat) : Int), .int .i64 n, .string s, .slice A l.length cap, .int .i64 r] 26)) bv ((pre ++ [UInt8.ofNat 3]) ++ wide l.length 2 ++ bytesL (l.take j)) wr ov) (fun _ iv _ => l.length - (intOf iv).toNat)
    case atStart => exact ⟨0, Nat.zero_le _, rfl, by rw [List.take_zero]; exact (List.append_nil _).symm ▸ H3.out⟩
    case round =>
      obtain ⟨j, hj, rfl, hI⟩ := hrel
      have hsz2 := hI.size
      rw [World.size_alloc] at hsz2
      by_cases hlt : j < l.length
      · obtain ⟨b, off, A', cap', rfl, hbt, hrow, hLj⟩ := HL.out.elem j hlt
        obtain ⟨g0, g1, g2, g3, g4⟩ := (hrow.same (HW.out b hbt _ _ _ hI)).get
        have hbb := hpb b hbt
        have hb : b < wr.heap.size := by omega
        have HH := fun o => IH.out l[j] (List.getElem_mem hlt) _ u0 _ (wr.alloc o) (Lies.same (fun _ h => h) (fun b hb => (heap_alloc_old wr o (by have := hpb b hb; omega)).trans (HW.out b hb _ _ _ hI)) _ _ hLj) (BInv.new (hI.own.alloc o) (by rw [World.size_alloc]; have := hI.hi; omega))
        have HT2 := Lib.hid (fun o W V L (h : BInv base (wr.alloc o) u0 L W V) => (hI.alloc o).trans h)
        have hle : ((pre ++ [UInt8.ofNat 3]) ++ wide l.length 2 ++ bytesL (l.take j)).length + (bytesT l[j]).length ≤ 4294967280 := by
          have h1 := bytesL_take hlt
          have h2 : (bytesL l).length = (bytesL (l.take (j + 1))).length + (bytesL (l.drop (j + 1))).length := by
            rw [← List.length_append, ← bytesL_append, List.take_append_drop]
          rw [h1, List.length_append] at h2
          have h3 := HBL.out
          simp only [List.length_append, wide_len, List.length_singleton]
          omega
        have HH := Lib.hid (fun o => HH o hle)
        have hT := Lib.hid (bytesL_take hlt)
        clear hrow hLj hI hle
        generalize l[j].k = k' at *
        generalize l[j].n = n' at *
        generalize l[j].s = s' at *
        generalize l[j].l.length = len' at *
        generalize l[j].r = r' at *
        go_wp2_with fail
        refine (HH.out _).mono ?_
        rintro e w4 ⟨v4, rfl, h4⟩
        have HN := Lib.hid (HT2.out _ _ _ _ h4)
        clear h4
        go_wp2
        go_roundw
        case rel => exact ⟨j + 1, by omega, by go_num, by rw [hT.out, ← List.append_assoc]; exact HN.out⟩
        case measure => simp [intOf]; omega
      · obtain rfl : j = l.length := by omega
        rw [List.take_length] at hI
        have HN := Lib.hid hI
        clear hI
        go_wp2
        go_ret
        exact ⟨_, rfl, by rw [← hq.out, ← List.append_assoc]; exact HT.out _ _ _ HN.out⟩
  · have hq := Lib.hid (HB.out (wide (r % 18446744073709551616).toNat 4) rfl)
    have e1 := X2.out.e4
    refine Lib.hid ?_
    go_wp2_with fail
    rw [IntKind.wrap_u64, show r % 18446744073709551616 = (((r % 18446744073709551616).toNat : Nat) : Int) by omega]
    refine (layWide_w base _ v2 (r % 18446744073709551616).toNat 4 w2 (BInv.new H2.out.own H2.out.hi) (by omega) (by decide) (by omega)).mono ?_
    rintro e w3 ⟨v3, rfl, h3⟩
    have H3 := Lib.hid (H2.out.trans h3)
    clear h3
    go_wp2
    go_ret
    exact ⟨_, rfl, by rw [← hq.out]; exact HT.out _ _ _ H3.out⟩
  · have q1 : ((k : Int) == 1) = false := by rw [beq_eq_false_iff_ne]; omega
    have q2 : ((k : Int) == 2) = false := by rw [beq_eq_false_iff_ne]; omega
    have q3 : ((k : Int) == 3) = false := by rw [beq_eq_false_iff_ne]; omega
    have q4 : ((k : Int) == 4) = false := by rw [beq_eq_false_iff_ne]; omega
    have hq := Lib.hid (HB.out [] (lay_big n s r l hk5))
    refine Lib.hid ?_
    go_wp2
    go_ret
    exact ⟨_, rfl, by rw [← hq.out, List.append_nil]; exact HT.out _ _ _ H2.out⟩
end Go.Proofs.Ytckgmdlacaiacaa
