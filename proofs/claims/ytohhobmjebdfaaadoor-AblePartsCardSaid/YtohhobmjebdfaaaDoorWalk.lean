/-
  The law's own 'walk': what an iterator tells, left behind some, gone over again.
-/
import Derived.Test.YtohhobmjebdfaaaDoorLists
namespace Go.Proofs.YtohhobmjebdfaaaDoor
open Go.RowKit Go.Shelf
attribute [local go_sem] Oper.semAt_some

/-- What comes, as numbers. -/
def val6 (x : Fin 6) : Nat := 2 ^ x.val
def val64 (x : Fin 64) : Nat := x.val
theorem each_stops6 (Bn : Nat) (a : Nat) (ha : a < 256) (n : Nat) (hn : 1 ≤ n) (w : World) (hBw : Bn < w.heap.size) (hc : w.cell? ⟨Bn, 0, none⟩ = some (.int .u8 (a : Int))) :
    SeqStopsK Fence.wide n Tryd.prog 46 #[.pointer (some ⟨Bn, 0, none⟩)] (fun x : Fin 6 => #[Value.int .u8 (val6 x : Int)]) (KeepsCell Bn) (fun ys => ys = eachL a) (fun pre => pre <+: eachL a) 6 w :=
  each_stops Fence.wide n trivial rfl hn Bn a ha w hBw hc
theorem within_stops64 (Bn : Nat) (m : Nat) (hm : m < 64) (n : Nat) (hn : 1 ≤ n) (w : World) (hBw : Bn < w.heap.size) (hc : w.cell? ⟨Bn, 0, none⟩ = some (.int .u8 (m : Int))) :
    SeqStopsK Fence.wide n Tryd.prog 44 #[.pointer (some ⟨Bn, 0, none⟩)] (fun x : Fin 64 => #[Value.int .u8 (val64 x : Int)]) (KeepsCell Bn) (fun ys => ys = withinL m) (fun pre => pre <+: withinL m) 64 w :=
  within_stops Fence.wide n trivial trivial rfl hn Bn m hm w hBw hc
theorem within_n (a m : Nat) (hm : a % 64 = m) (ha : a < 256) (w : World) :
    Calls Tryd.prog 36 #[.int .u8 (a : Int)] w fun e w' => e = .returned (.func (.func 44) #[] #[.pointer (some ⟨w.heap.size, 0, none⟩)]) ∧ w.alloc (.cells #[.int .u8 (m : Int)] 22) = w' :=
  (within_w a w (by omega) (by omega)).mono fun _ _ h => ⟨h.1, by rw [← h.2, ← hm]; rfl⟩
theorem eql_func_nil (f : Nat) (v : Value) (w : World) : (binOp .eql 52 (.func (.func f) #[] #[v]) .nilFunc).run Tryd.prog w = .ok (.bool false) w := by kernel_rfl

/-- Between two rounds of the first loop: what has come is how the list begins. -/
def WalkOn {α : Type} (ns : List Nat) (lv : Int) (pa : Option Addr) (cap B I C m : Nat) (f : α → Nat) (w : World) (pre : List α) (W : World) : Prop :=
  pre.map f <+: ns ∧ Boxed W B 3 (.int .i64 lv) ∧ Boxed W (B + 1) 23 (.slice pa ns.length cap) ∧ Boxed W (B + 2) 4 (.bool false) ∧ Boxed W (B + I) 3 (.int .i64 (pre.length : Int)) ∧ Boxed W (B + C) 22 (.int .u8 (m : Int)) ∧ Below B w W
/-- A round has left the first loop: the list does not go on so; or so many have come as are asked. -/
def WalkOut {α : Type} (ns : List Nat) (lv : Int) (pa : Option Addr) (cap B I C m : Nat) (f : α → Nat) (w : World) (c : Code) (pre : List α) (W : World) : Prop :=
  (c = .ret ∧ ¬ pre.map f <+: ns) ∨ (c = .exit 0 ∧ Boxed W B 3 (.int .i64 lv) ∧ Boxed W (B + 1) 23 (.slice pa ns.length cap) ∧ Boxed W (B + 2) 4 (.bool false) ∧ Boxed W (B + I) 3 (.int .i64 lv) ∧ Boxed W (B + C) 22 (.int .u8 (m : Int)) ∧ Below B w W)
theorem boxed_from {W W' : World} {row : Option Nat} {B Bx : Nat} {t : TypeId} {v : Value} (h : Boxed W Bx t v) (hg : W.grownBy W' row) (hr : ∀ r, row = some r → B ≤ r ∧ ∃ o : Obj, W.heap[r]? = some o ∧ o.isCells = false) : Boxed W' Bx t v :=
  boxed_own Bx t (fun _ : Unit => v) () W W' row h hg (fun r e => (hr r e).2)
/-- The second loop. -/
def WalkTwo {α : Type} (ns : List Nat) (pa : Option Addr) (cap B I D : Nat) (f : α → Nat) (w : World) (pre : List α) (W : World) : Prop :=
  pre.map f <+: ns ∧ Boxed W (B + 1) 23 (.slice pa ns.length cap) ∧ Boxed W (B + 2) 4 (.bool false) ∧ Boxed W (B + I) 3 (.int .i64 (pre.length : Int)) ∧ W.heap[D]? = some (.deferred (some [])) ∧ Below B w W
theorem walkTwo_own {α : Type} {ns : List Nat} {pa : Option Addr} {cap B I D : Nat} {f : α → Nat} {w : World} {B' : Nat} (hB : w.heap.size = B ∧ B ≤ B') (hD : D < B') : OwnFrom B' (WalkTwo ns pa cap B I D f w) := by
  rintro pre W W' row ⟨h1, h2, h3, h4, h5, h6⟩ hg hr
  exact ⟨h1, boxed_from h2 hg hr, boxed_from h3 hg hr, boxed_from h4 hg hr, (hg.block D (Array.getElem?_eq_some_iff.1 h5).1 (fun e => by have := (hr D e.symm).1; omega)).trans h5, ownFrom_below (β := Unit) (by omega) hB.2 () W W' row h6 hg hr⟩
theorem two_marks {n : Nat} {B D D2 : Nat} {w W : World} {tmps : Array Value} (h1 : W.heap[D]? = some (.deferred (some []))) (h2 : W.heap[D2]? = some (.deferred (some []))) (hne : D ≠ D2) (hr : Boxed W (B + 2) 4 (.bool true)) (hb : Below B w W) (hD : w.heap.size = B ∧ B ≤ D) (hD2 : B ≤ D2)
    (hs : tmps[8]? = some (.pointer (some ⟨B + 1 + 1, 0, none⟩)) := by rfl) :
    bodyPostM Fence.wide n Tryd.prog Tryd.f31 (fun e W' => e = .returned (.bool true) ∧ Below B w W') Exit.ret { tmps := tmps, defers := [{ target := .collected D2, args := #[] }, { target := .collected D, args := #[] }] } W := by
  have h1' : (W.putObj D2 (.deferred none)).heap[D]? = some (.deferred (some [])) := ((grownBy_putObj' W D2 (.deferred none)).block D (Array.getElem?_eq_some_iff.1 h1).1 (fun e => hne (by cases e; rfl))).trans h1
  refine ⟨by simp, .inl ⟨_, _, rfl, run_takeDeferred h2, ⟨by simp, .inl ⟨_, _, rfl, run_takeDeferred h1', ?_⟩⟩⟩⟩
  have c1 := cell_kept hr.cell (grownBy_putObj' _ D2 (.deferred none)) (fun r e => by cases e; exact ⟨_, h2, rfl⟩)
  have c2 := cell_kept c1 (grownBy_putObj' _ D (.deferred none)) (fun r e => by cases e; exact ⟨_, h1', rfl⟩)
  have hb2 : Below B w (W.putObj D2 (.deferred none)) := hb.trans (belowK_b (w := w) (by omega) W D2 _ _ (by omega) h2 rfl rfl)
  refine ⟨.bool true, ?_, rfl, hb2.trans (belowK_b (w := w) (by omega) _ D _ _ (by omega) h1' rfl rfl)⟩
  simp [results, Tryd.f31, go_sem, hs, c2]
theorem keeps_i {B i : Nat} {W : World} {v : Value} (h : i ≠ B) : KeepsCell B W (W.setCell ⟨i, 0, none⟩ v) := fun _ hv => (World.cell?_setCell_other _ ⟨i, 0, none⟩ ⟨B, 0, none⟩ _ (fun e => h (congrArg Addr.block e))).trans hv
theorem pre_snoc {α : Type} {f : α → Nat} {ns : List Nat} {pre : List α} {x : α} (h : pre.map f <+: ns) : (pre ++ [x]).map f <+: ns ↔ ns[pre.length]? = some (f x) := by
  obtain ⟨t, rfl⟩ := h
  rw [List.map_append, List.prefix_append_right_inj, List.getElem?_append_right (by simp)]
  cases t with
  | nil => simp
  | cons y t => simp; exact eq_comm
theorem walkOn_own {α : Type} {ns : List Nat} {lv : Int} {pa : Option Addr} {cap B I C m : Nat} {f : α → Nat} {w : World} {B' : Nat} (hB : w.heap.size = B ∧ B ≤ B') : OwnFrom B' (WalkOn ns lv pa cap B I C m f w) := by
  rintro pre W W' row ⟨h1, h2, h3, h4, h5, h7, h6⟩ hg hr
  exact ⟨h1, boxed_from h2 hg hr, boxed_from h3 hg hr, boxed_from h4 hg hr, boxed_from h5 hg hr, boxed_from h7 hg hr, ownFrom_below (β := Unit) (by omega) hB.2 () W W' row h6 hg hr⟩
theorem walkOut_own {α : Type} {ns : List Nat} {lv : Int} {pa : Option Addr} {cap B I C m : Nat} {f : α → Nat} {w : World} {B' : Nat} {c : Code} (hB : w.heap.size = B ∧ B ≤ B') : OwnFrom B' (WalkOut ns lv pa cap B I C m f w c) := by
  rintro pre W W' row (h | ⟨h1, h2, h3, h4, h5, h7, h6⟩) hg hr
  · exact .inl h
  · exact .inr ⟨h1, boxed_from h2 hg hr, boxed_from h3 hg hr, boxed_from h4 hg hr, boxed_from h5 hg hr, boxed_from h7 hg hr, ownFrom_below (β := Unit) (by omega) hB.2 () W W' row h6 hg hr⟩

set_option maxRecDepth 100000 in
set_option maxHeartbeats 8000000 in
theorem walk_each (n : Nat) (hn : 4 ≤ n) (a : Nat) (ha : a < 256) (lv : Int) (hlv : -9223372036854775808 ≤ lv ∧ lv ≤ 9223372036854775807) (pa : Option Addr) (cap : Nat) (w : World) (hl : LiesAt w pa (eachNat a 6)) :
    CallsIn Fence.wide n Tryd.prog 31 #[.int .u8 (a : Int), .bool false, .int .i64 lv, .slice pa (eachNat a 6).length cap] w fun e W' => e = .returned (.bool true) ∧ Below w.heap.size w W' := by
  have h1 : 1 ≤ n := by omega
  have hmap : (eachL a).map val6 = (eachNat a 6) := rfl
  have hlen0 : (eachNat a 6).length ≤ 6 := eachNat_len a 6
  refine callsIn_of_wp_marks Tryd.func31 rfl trivial ?_ rfl
  simp only [Tryd.ntmps31, List.size_toArray, List.length_cons, List.length_nil, Nat.reduceAdd, Nat.reduceSub, Array.replicate_succ, Array.replicate_zero, List.push_toArray, List.append_toArray, List.nil_append, List.cons_append]
  have HMap := Lib.hid hmap
  have HLies := Lib.hid hl
  clear hmap hl
  generalize (eachNat a 6) = ns at *
  generalize hxs : (eachL a) = xs at *
  have Hxs := Lib.hid hxs
  clear hxs
  have hnil := eql_func_nil
  gi_wp2_with (refine ⟨trivial, ?_⟩; gi_at_call 37; refine (callsIn_wide.2 (each_w _ _)).mono ?_; rintro e w' ⟨rfl, rfl⟩)
  obtain ⟨W0, hW0⟩ : ∃ W0, (((((w.alloc (.cells #[.int .i64 lv] 3)).alloc (.cells #[.slice pa ns.length cap] 23)).alloc (.cells #[.bool false] 4)).alloc (.cells #[.int .u8 (a : Int)] 22)).alloc (.cells #[.int .i64 0] 3)) = W0 := ⟨_, rfl⟩
  have hs0 : W0.heap.size = w.heap.size + 5 := by rw [← hW0]; simp
  have hB0 : Below w.heap.size w W0 := by
    rw [← hW0]; exact (((((Below.refl _ w).alloc (Nat.le_refl _) _).alloc (by simp <;> omega) _).alloc (by simp <;> omega) _).alloc (by simp <;> omega) _).alloc (by simp <;> omega) _
  have b0 : Boxed W0 w.heap.size 3 (.int .i64 lv) := by rw [← hW0]; have := (Boxed.new w 3 (.int .i64 lv)); exact ((((this.alloc _).alloc _).alloc _).alloc _)
  have b1 : Boxed W0 (w.heap.size + 1) 23 (.slice pa ns.length cap) := by rw [← hW0]; have := (Boxed.new (w.alloc (.cells #[.int .i64 lv] 3)) 23 (.slice pa ns.length cap)); simp only [World.size_alloc] at this; exact (((this.alloc _).alloc _).alloc _)
  have b2 : Boxed W0 (w.heap.size + 2) 4 (.bool false) := by rw [← hW0]; have := (Boxed.new ((w.alloc (.cells #[.int .i64 lv] 3)).alloc (.cells #[.slice pa ns.length cap] 23)) 4 (.bool false)); simp only [World.size_alloc] at this; exact ((this.alloc _).alloc _)
  have bc : Boxed W0 (w.heap.size + 3) 22 (.int .u8 ((a : Nat) : Int)) := by rw [← hW0]; have := (Boxed.new (((w.alloc (.cells #[.int .i64 lv] 3)).alloc (.cells #[.slice pa ns.length cap] 23)).alloc (.cells #[.bool false] 4)) 22 (.int .u8 (a : Int))); simp only [World.size_alloc] at this; exact (this.alloc _)
  have bi : Boxed W0 (w.heap.size + 4) 3 (.int .i64 0) := by rw [← hW0]; have := (Boxed.new ((((w.alloc (.cells #[.int .i64 lv] 3)).alloc (.cells #[.slice pa ns.length cap] 23)).alloc (.cells #[.bool false] 4)).alloc (.cells #[.int .u8 (a : Int)] 22)) 3 (.int .i64 0)); simp only [World.size_alloc] at this; exact this
  rw [hW0]
  clear hW0
  apply wpIn_rangeFunc_ownF (F := Fence.wide) rfl h1 (gf := 46) (lb := #[.pointer (some ⟨w.heap.size + 1 + 1 + 1, 0, none⟩)]) rfl trivial (enters_of Tryd.func46 (by kernel_rfl) rfl)
    (each_stops6 (w.heap.size + 3) a ha (n - 1) (by omega) _ (by omega) bc.cell) keepsCell_t (fun W l o o' _ h hc _ => keepsCell_b W l o o' h hc) (Below.refl _ _) (fun _ => rfl)
    (WalkOn ns lv pa cap w.heap.size 4 3 a val6 w) (WalkOut ns lv pa cap w.heap.size 4 3 a val6 w)
    (walkOn_own (by omega)) (fun c => walkOut_own (by omega)) ⟨List.nil_prefix, b0, b1, b2, bi, bc, hB0⟩ _ ?assign ?body ?done ?stop
  case assign =>
    intro l x W K hK
    gi_wp2
    exact hK
  case body =>
    rintro l pre x W ⟨hpre, c0, c1, c2, ci, cc, hB⟩ hlt
    have hlies := HLies.out.below hB
    have e0 := c0.cell
    have e1 := c1.cell
    have e2 := c2.cell
    have ei : W.cell? ⟨w.heap.size + 1 + 1 + 1 + 1, 0, none⟩ = _ := ci.cell
    have f2 := c2.frozen
    have fi : W.frozen? ⟨w.heap.size + 1 + 1 + 1 + 1, 0, none⟩ = false := ci.frozen
    have hsn := Lib.hid (pre_snoc (f := val6) (x := x) hpre)
    have Hpre := Lib.hid hpre
    clear hpre
    by_cases hi : pre.length < ns.length
    · obtain ⟨b, off, rfl, hcell⟩ := hlies pre.length hi
      have hge : decide (ns.length ≤ pre.length) = false := decide_eq_false (by omega)
      clear hlies
      by_cases hd : ns[pre.length]? = some (val6 x)
      · have Hg := Lib.hid (hsn.out.2 hd)
        rw [hd] at hcell
        simp only [Option.getD_some] at hcell
        clear hd
        generalize val6 x = d at *
        by_cases hq : (pre.length : Int) + 1 = lv
        · subst hq
          gi_wp2
          exact ⟨KeepsOthers.setCell _ _ _, .inr ⟨rfl, c0.other (by omega) _, c1.other (by omega) _, c2.other (by omega) _, ci.set _, cc.other (by omega) _, hB.setCell (p := ⟨w.heap.size + 1 + 1 + 1 + 1, 0, none⟩) (by simp <;> omega) _⟩⟩
        · have hq' : ((pre.length : Int) + 1 == lv) = false := by rw [beq_eq_false_iff_ne]; exact hq
          clear hq
          gi_wp2
          exact ⟨KeepsOthers.setCell _ _ _, keeps_i (by omega), Hg.out, c0.other (by omega) _, c1.other (by omega) _, c2.other (by omega) _, by rw [List.length_append]; exact ci.set _, cc.other (by omega) _, hB.setCell (p := ⟨w.heap.size + 1 + 1 + 1 + 1, 0, none⟩) (by simp <;> omega) _⟩
      · have Hng := Lib.hid (fun h => hd (hsn.out.1 h))
        have hne : (((val6 x : Nat) : Int) != ((ns[pre.length]?.getD 0 : Nat) : Int)) = true := by
          rw [bne_iff_ne]
          intro h
          apply hd
          rw [List.getElem?_eq_getElem hi] at h ⊢
          simp only [Option.getD_some] at h
          exact congrArg some (Int.ofNat_inj.1 h).symm
        clear hd
        generalize ns[pre.length]?.getD 0 = dd at *
        generalize val6 x = d at *
        gi_wp2
        exact ⟨KeepsOthers.setCell _ _ _, .inl ⟨rfl, Hng.out⟩⟩
    · have Hng := Lib.hid (fun h => hi (List.getElem?_eq_some_iff.1 (hsn.out.1 h)).1)
      have hge : decide (ns.length ≤ pre.length) = true := decide_eq_true (by omega)
      gi_wp2
      exact ⟨KeepsOthers.setCell _ _ _, .inl ⟨rfl, Hng.out⟩⟩
  case done =>
    rintro D ys W hD hys ⟨_, c0, c1, c2, ci, cc, hB⟩ hK
    rw [hys, show ((eachL a).length : Int) = (ns.length : Int) by rw [← HMap.out, List.length_map, ← Hxs.out]] at ci
    clear hys
    by_cases hq : (ns.length : Int) = lv
    · subst hq
      have e0 := c0.cell
      have e1 := c1.cell
      have ei : W.cell? ⟨w.heap.size + 1 + 1 + 1 + 1, 0, none⟩ = _ := ci.cell
      have fi : W.frozen? ⟨w.heap.size + 1 + 1 + 1 + 1, 0, none⟩ = false := ci.frozen
      gi_wp2
      obtain ⟨W2, hW2⟩ : ∃ W2, W.setCell ⟨w.heap.size + 1 + 1 + 1 + 1, 0, none⟩ (.int .i64 0) = W2 := ⟨_, rfl⟩
      have g1 : Boxed W2 (w.heap.size + 1) 23 (.slice pa ns.length cap) := by rw [← hW2]; exact c1.other (by omega) _
      have g2 : Boxed W2 (w.heap.size + 2) 4 (.bool false) := by rw [← hW2]; exact c2.other (by omega) _
      have gc : Boxed W2 (w.heap.size + 3) 22 (.int .u8 ((a : Nat) : Int)) := by rw [← hW2]; exact cc.other (by omega) _
      have gi : Boxed W2 (w.heap.size + 4) 3 (.int .i64 0) := by rw [← hW2]; exact ci.set _
      have gK : W2.heap[D]? = some (.deferred (some [])) := by rw [← hW2]; exact (KeepsOthers.setCell W ⟨w.heap.size + 1 + 1 + 1 + 1, 0, none⟩ (.int .i64 0)).same D _ hK rfl
      have gB : Below w.heap.size w W2 := by rw [← hW2]; exact hB.setCell (p := ⟨w.heap.size + 1 + 1 + 1 + 1, 0, none⟩) (by simp <;> omega) _
      have gD : D < W2.heap.size := (Array.getElem?_eq_some_iff.1 gK).1
      have gci := gc.lt
      rw [hW2]
      clear hW2 e0 e1 ei fi c0 c1 c2 ci cc hK hB
      apply wpIn_rangeFunc_ownF (F := Fence.wide) rfl h1 (gf := 46) (lb := #[.pointer (some ⟨w.heap.size + 1 + 1 + 1, 0, none⟩)]) rfl trivial (enters_of Tryd.func46 (by kernel_rfl) rfl)
        (each_stops6 (w.heap.size + 3) a ha (n - 1) (by omega) _ (by omega) gc.cell) keepsCell_t (fun W l o o' _ h hc _ => keepsCell_b W l o o' h hc) (Below.refl _ _) (fun _ => rfl)
        (WalkTwo ns pa cap w.heap.size 4 D val6 w) (fun c pre _ => c = .ret ∧ ¬ pre.map val6 <+: ns)
        (walkTwo_own (by have := gB.size; omega) gD) (fun c => ownFrom_pure _ _) ⟨List.nil_prefix, g1, g2, gi, gK, gB⟩ _ ?assign2 ?body2 ?done2 ?stop2
      case assign2 =>
        intro l x W K hK
        gi_wp2
        exact hK
      case body2 =>
        rintro l pre x W ⟨hpre, c1, c2, ci, hK, hB⟩ hlt
        have hlies := HLies.out.below hB
        have e1 := c1.cell
        have e2 := c2.cell
        have ei : W.cell? ⟨w.heap.size + 1 + 1 + 1 + 1, 0, none⟩ = _ := ci.cell
        have f2 := c2.frozen
        have fi : W.frozen? ⟨w.heap.size + 1 + 1 + 1 + 1, 0, none⟩ = false := ci.frozen
        have hsn := Lib.hid (pre_snoc (f := val6) (x := x) hpre)
        clear hpre
        by_cases hi : pre.length < ns.length
        · obtain ⟨b, off, rfl, hcell⟩ := hlies pre.length hi
          have hge : decide (ns.length ≤ pre.length) = false := decide_eq_false (by omega)
          clear hlies
          by_cases hd : ns[pre.length]? = some (val6 x)
          · have Hg := Lib.hid (hsn.out.2 hd)
            have HK := Lib.hid ((KeepsOthers.setCell W ⟨w.heap.size + 1 + 1 + 1 + 1, 0, none⟩ (.int .i64 ((pre.length : Int) + 1))).same D _ hK rfl)
            rw [hd] at hcell
            simp only [Option.getD_some] at hcell
            clear hd hK
            generalize val6 x = d at *
            gi_wp2
            exact ⟨KeepsOthers.setCell _ _ _, keeps_i (by omega), Hg.out, c1.other (by omega) _, c2.other (by omega) _, by rw [List.length_append]; exact ci.set _, HK.out, hB.setCell (p := ⟨w.heap.size + 1 + 1 + 1 + 1, 0, none⟩) (by simp <;> omega) _⟩
          · have Hng := Lib.hid (fun h => hd (hsn.out.1 h))
            have hne : (((val6 x : Nat) : Int) != ((ns[pre.length]?.getD 0 : Nat) : Int)) = true := by
              rw [bne_iff_ne]
              intro h
              apply hd
              rw [List.getElem?_eq_getElem hi] at h ⊢
              simp only [Option.getD_some] at h
              exact congrArg some (Int.ofNat_inj.1 h).symm
            clear hd hK
            generalize ns[pre.length]?.getD 0 = dd at *
            generalize val6 x = d at *
            gi_wp2
            exact ⟨KeepsOthers.setCell _ _ _, rfl, Hng.out⟩
        · have Hng := Lib.hid (fun h => hi (List.getElem?_eq_some_iff.1 (hsn.out.1 h)).1)
          have hge : decide (ns.length ≤ pre.length) = true := decide_eq_true (by omega)
          clear hK
          gi_wp2
          exact ⟨KeepsOthers.setCell _ _ _, rfl, Hng.out⟩
      case done2 =>
        rintro D2 ys W hD2 hys ⟨_, c1, c2, ci, hK, hB⟩ hK2
        rw [hys, show ((eachL a).length : Int) = (ns.length : Int) by rw [← HMap.out, List.length_map, ← Hxs.out]] at ci
        have e1 := c1.cell
        have e2 := c2.cell
        have ei : W.cell? ⟨w.heap.size + 1 + 1 + 1 + 1, 0, none⟩ = _ := ci.cell
        have f2 := c2.frozen
        have hset := KeepsOthers.setCell W ⟨w.heap.size + 1 + 1, 0, none⟩ (.bool true)
        have HK := Lib.hid (hset.same D _ hK rfl)
        have HK2 := Lib.hid (hset.same D2 _ hK2 rfl)
        have hBs := hB.setCell (p := ⟨w.heap.size + 1 + 1, 0, none⟩) (by simp <;> omega) (.bool true)
        have hr := c2.set (.bool true)
        clear hK hK2 hys
        gi_wp2
        refine two_marks HK.out HK2.out (by omega) hr hBs (by omega) (by have := gB.size; omega)
      case stop2 =>
        rintro D2 c pre W hD2 hp ⟨_, hno⟩ _
        exact absurd (by have := hp.map val6; rwa [Hxs.out, HMap.out] at this) hno

    · have hq' : ((ns.length : Int) != lv) = true := by rw [bne_iff_ne]; exact hq
      clear hq
      have e0 := c0.cell
      have e1 := c1.cell
      have ei : W.cell? ⟨w.heap.size + 1 + 1 + 1 + 1, 0, none⟩ = _ := ci.cell
      have fi : W.frozen? ⟨w.heap.size + 1 + 1 + 1 + 1, 0, none⟩ = false := ci.frozen
      gi_wp2
      obtain ⟨W2, hW2⟩ : ∃ W2, W.setCell ⟨w.heap.size + 1 + 1 + 1 + 1, 0, none⟩ (.int .i64 0) = W2 := ⟨_, rfl⟩
      have g1 : Boxed W2 (w.heap.size + 1) 23 (.slice pa ns.length cap) := by rw [← hW2]; exact c1.other (by omega) _
      have g2 : Boxed W2 (w.heap.size + 2) 4 (.bool false) := by rw [← hW2]; exact c2.other (by omega) _
      have gc : Boxed W2 (w.heap.size + 3) 22 (.int .u8 ((a : Nat) : Int)) := by rw [← hW2]; exact cc.other (by omega) _
      have gi : Boxed W2 (w.heap.size + 4) 3 (.int .i64 0) := by rw [← hW2]; exact ci.set _
      have gK : W2.heap[D]? = some (.deferred (some [])) := by rw [← hW2]; exact (KeepsOthers.setCell W ⟨w.heap.size + 1 + 1 + 1 + 1, 0, none⟩ (.int .i64 0)).same D _ hK rfl
      have gB : Below w.heap.size w W2 := by rw [← hW2]; exact hB.setCell (p := ⟨w.heap.size + 1 + 1 + 1 + 1, 0, none⟩) (by simp <;> omega) _
      have gD : D < W2.heap.size := (Array.getElem?_eq_some_iff.1 gK).1
      have gci := gc.lt
      rw [hW2]
      clear hW2 e0 e1 ei fi c0 c1 c2 ci cc hK hB
      apply wpIn_rangeFunc_ownF (F := Fence.wide) rfl h1 (gf := 46) (lb := #[.pointer (some ⟨w.heap.size + 1 + 1 + 1, 0, none⟩)]) rfl trivial (enters_of Tryd.func46 (by kernel_rfl) rfl)
        (each_stops6 (w.heap.size + 3) a ha (n - 1) (by omega) _ (by omega) gc.cell) keepsCell_t (fun W l o o' _ h hc _ => keepsCell_b W l o o' h hc) (Below.refl _ _) (fun _ => rfl)
        (WalkTwo ns pa cap w.heap.size 4 D val6 w) (fun c pre _ => c = .ret ∧ ¬ pre.map val6 <+: ns)
        (walkTwo_own (by have := gB.size; omega) gD) (fun c => ownFrom_pure _ _) ⟨List.nil_prefix, g1, g2, gi, gK, gB⟩ _ ?assign3 ?body3 ?done3 ?stop3
      case assign3 =>
        intro l x W K hK
        gi_wp2
        exact hK
      case body3 =>
        rintro l pre x W ⟨hpre, c1, c2, ci, hK, hB⟩ hlt
        have hlies := HLies.out.below hB
        have e1 := c1.cell
        have e2 := c2.cell
        have ei : W.cell? ⟨w.heap.size + 1 + 1 + 1 + 1, 0, none⟩ = _ := ci.cell
        have f2 := c2.frozen
        have fi : W.frozen? ⟨w.heap.size + 1 + 1 + 1 + 1, 0, none⟩ = false := ci.frozen
        have hsn := Lib.hid (pre_snoc (f := val6) (x := x) hpre)
        clear hpre
        by_cases hi : pre.length < ns.length
        · obtain ⟨b, off, rfl, hcell⟩ := hlies pre.length hi
          have hge : decide (ns.length ≤ pre.length) = false := decide_eq_false (by omega)
          clear hlies
          by_cases hd : ns[pre.length]? = some (val6 x)
          · have Hg := Lib.hid (hsn.out.2 hd)
            have HK := Lib.hid ((KeepsOthers.setCell W ⟨w.heap.size + 1 + 1 + 1 + 1, 0, none⟩ (.int .i64 ((pre.length : Int) + 1))).same D _ hK rfl)
            rw [hd] at hcell
            simp only [Option.getD_some] at hcell
            clear hd hK
            generalize val6 x = d at *
            gi_wp2
            exact ⟨KeepsOthers.setCell _ _ _, keeps_i (by omega), Hg.out, c1.other (by omega) _, c2.other (by omega) _, by rw [List.length_append]; exact ci.set _, HK.out, hB.setCell (p := ⟨w.heap.size + 1 + 1 + 1 + 1, 0, none⟩) (by simp <;> omega) _⟩
          · have Hng := Lib.hid (fun h => hd (hsn.out.1 h))
            have hne : (((val6 x : Nat) : Int) != ((ns[pre.length]?.getD 0 : Nat) : Int)) = true := by
              rw [bne_iff_ne]
              intro h
              apply hd
              rw [List.getElem?_eq_getElem hi] at h ⊢
              simp only [Option.getD_some] at h
              exact congrArg some (Int.ofNat_inj.1 h).symm
            clear hd hK
            generalize ns[pre.length]?.getD 0 = dd at *
            generalize val6 x = d at *
            gi_wp2
            exact ⟨KeepsOthers.setCell _ _ _, rfl, Hng.out⟩
        · have Hng := Lib.hid (fun h => hi (List.getElem?_eq_some_iff.1 (hsn.out.1 h)).1)
          have hge : decide (ns.length ≤ pre.length) = true := decide_eq_true (by omega)
          clear hK
          gi_wp2
          exact ⟨KeepsOthers.setCell _ _ _, rfl, Hng.out⟩
      case done3 =>
        rintro D2 ys W hD2 hys ⟨_, c1, c2, ci, hK, hB⟩ hK2
        rw [hys, show ((eachL a).length : Int) = (ns.length : Int) by rw [← HMap.out, List.length_map, ← Hxs.out]] at ci
        have e1 := c1.cell
        have e2 := c2.cell
        have ei : W.cell? ⟨w.heap.size + 1 + 1 + 1 + 1, 0, none⟩ = _ := ci.cell
        have f2 := c2.frozen
        have hset := KeepsOthers.setCell W ⟨w.heap.size + 1 + 1, 0, none⟩ (.bool true)
        have HK := Lib.hid (hset.same D _ hK rfl)
        have HK2 := Lib.hid (hset.same D2 _ hK2 rfl)
        have hBs := hB.setCell (p := ⟨w.heap.size + 1 + 1, 0, none⟩) (by simp <;> omega) (.bool true)
        have hr := c2.set (.bool true)
        clear hK hK2 hys
        gi_wp2
        refine two_marks HK.out HK2.out (by omega) hr hBs (by omega) (by have := gB.size; omega)
      case stop3 =>
        rintro D2 c pre W hD2 hp ⟨_, hno⟩ _
        exact absurd (by have := hp.map val6; rwa [Hxs.out, HMap.out] at this) hno

  case stop =>
    rintro D c pre W hD hp (⟨rfl, hno⟩ | ⟨rfl, c0, c1, c2, ci, cc, hB⟩) hK
    · exact absurd (by have := hp.map val6; rwa [Hxs.out, HMap.out] at this) hno
    · skip
      have e0 := c0.cell
      have e1 := c1.cell
      have ei : W.cell? ⟨w.heap.size + 1 + 1 + 1 + 1, 0, none⟩ = _ := ci.cell
      have fi : W.frozen? ⟨w.heap.size + 1 + 1 + 1 + 1, 0, none⟩ = false := ci.frozen
      gi_wp2
      obtain ⟨W2, hW2⟩ : ∃ W2, W.setCell ⟨w.heap.size + 1 + 1 + 1 + 1, 0, none⟩ (.int .i64 0) = W2 := ⟨_, rfl⟩
      have g1 : Boxed W2 (w.heap.size + 1) 23 (.slice pa ns.length cap) := by rw [← hW2]; exact c1.other (by omega) _
      have g2 : Boxed W2 (w.heap.size + 2) 4 (.bool false) := by rw [← hW2]; exact c2.other (by omega) _
      have gc : Boxed W2 (w.heap.size + 3) 22 (.int .u8 ((a : Nat) : Int)) := by rw [← hW2]; exact cc.other (by omega) _
      have gi : Boxed W2 (w.heap.size + 4) 3 (.int .i64 0) := by rw [← hW2]; exact ci.set _
      have gK : W2.heap[D]? = some (.deferred (some [])) := by rw [← hW2]; exact (KeepsOthers.setCell W ⟨w.heap.size + 1 + 1 + 1 + 1, 0, none⟩ (.int .i64 0)).same D _ hK rfl
      have gB : Below w.heap.size w W2 := by rw [← hW2]; exact hB.setCell (p := ⟨w.heap.size + 1 + 1 + 1 + 1, 0, none⟩) (by simp <;> omega) _
      have gD : D < W2.heap.size := (Array.getElem?_eq_some_iff.1 gK).1
      have gci := gc.lt
      rw [hW2]
      clear hW2 e0 e1 ei fi c0 c1 c2 ci cc hK hB
      apply wpIn_rangeFunc_ownF (F := Fence.wide) rfl h1 (gf := 46) (lb := #[.pointer (some ⟨w.heap.size + 1 + 1 + 1, 0, none⟩)]) rfl trivial (enters_of Tryd.func46 (by kernel_rfl) rfl)
        (each_stops6 (w.heap.size + 3) a ha (n - 1) (by omega) _ (by omega) gc.cell) keepsCell_t (fun W l o o' _ h hc _ => keepsCell_b W l o o' h hc) (Below.refl _ _) (fun _ => rfl)
        (WalkTwo ns pa cap w.heap.size 4 D val6 w) (fun c pre _ => c = .ret ∧ ¬ pre.map val6 <+: ns)
        (walkTwo_own (by have := gB.size; omega) gD) (fun c => ownFrom_pure _ _) ⟨List.nil_prefix, g1, g2, gi, gK, gB⟩ _ ?assign4 ?body4 ?done4 ?stop4
      case assign4 =>
        intro l x W K hK
        gi_wp2
        exact hK
      case body4 =>
        rintro l pre x W ⟨hpre, c1, c2, ci, hK, hB⟩ hlt
        have hlies := HLies.out.below hB
        have e1 := c1.cell
        have e2 := c2.cell
        have ei : W.cell? ⟨w.heap.size + 1 + 1 + 1 + 1, 0, none⟩ = _ := ci.cell
        have f2 := c2.frozen
        have fi : W.frozen? ⟨w.heap.size + 1 + 1 + 1 + 1, 0, none⟩ = false := ci.frozen
        have hsn := Lib.hid (pre_snoc (f := val6) (x := x) hpre)
        clear hpre
        by_cases hi : pre.length < ns.length
        · obtain ⟨b, off, rfl, hcell⟩ := hlies pre.length hi
          have hge : decide (ns.length ≤ pre.length) = false := decide_eq_false (by omega)
          clear hlies
          by_cases hd : ns[pre.length]? = some (val6 x)
          · have Hg := Lib.hid (hsn.out.2 hd)
            have HK := Lib.hid ((KeepsOthers.setCell W ⟨w.heap.size + 1 + 1 + 1 + 1, 0, none⟩ (.int .i64 ((pre.length : Int) + 1))).same D _ hK rfl)
            rw [hd] at hcell
            simp only [Option.getD_some] at hcell
            clear hd hK
            generalize val6 x = d at *
            gi_wp2
            exact ⟨KeepsOthers.setCell _ _ _, keeps_i (by omega), Hg.out, c1.other (by omega) _, c2.other (by omega) _, by rw [List.length_append]; exact ci.set _, HK.out, hB.setCell (p := ⟨w.heap.size + 1 + 1 + 1 + 1, 0, none⟩) (by simp <;> omega) _⟩
          · have Hng := Lib.hid (fun h => hd (hsn.out.1 h))
            have hne : (((val6 x : Nat) : Int) != ((ns[pre.length]?.getD 0 : Nat) : Int)) = true := by
              rw [bne_iff_ne]
              intro h
              apply hd
              rw [List.getElem?_eq_getElem hi] at h ⊢
              simp only [Option.getD_some] at h
              exact congrArg some (Int.ofNat_inj.1 h).symm
            clear hd hK
            generalize ns[pre.length]?.getD 0 = dd at *
            generalize val6 x = d at *
            gi_wp2
            exact ⟨KeepsOthers.setCell _ _ _, rfl, Hng.out⟩
        · have Hng := Lib.hid (fun h => hi (List.getElem?_eq_some_iff.1 (hsn.out.1 h)).1)
          have hge : decide (ns.length ≤ pre.length) = true := decide_eq_true (by omega)
          clear hK
          gi_wp2
          exact ⟨KeepsOthers.setCell _ _ _, rfl, Hng.out⟩
      case done4 =>
        rintro D2 ys W hD2 hys ⟨_, c1, c2, ci, hK, hB⟩ hK2
        rw [hys, show ((eachL a).length : Int) = (ns.length : Int) by rw [← HMap.out, List.length_map, ← Hxs.out]] at ci
        have e1 := c1.cell
        have e2 := c2.cell
        have ei : W.cell? ⟨w.heap.size + 1 + 1 + 1 + 1, 0, none⟩ = _ := ci.cell
        have f2 := c2.frozen
        have hset := KeepsOthers.setCell W ⟨w.heap.size + 1 + 1, 0, none⟩ (.bool true)
        have HK := Lib.hid (hset.same D _ hK rfl)
        have HK2 := Lib.hid (hset.same D2 _ hK2 rfl)
        have hBs := hB.setCell (p := ⟨w.heap.size + 1 + 1, 0, none⟩) (by simp <;> omega) (.bool true)
        have hr := c2.set (.bool true)
        clear hK hK2 hys
        gi_wp2
        refine two_marks HK.out HK2.out (by omega) hr hBs (by omega) (by have := gB.size; omega)
      case stop4 =>
        rintro D2 c pre W hD2 hp ⟨_, hno⟩ _
        exact absurd (by have := hp.map val6; rwa [Hxs.out, HMap.out] at this) hno


set_option maxRecDepth 100000 in
set_option maxHeartbeats 8000000 in
theorem walk_within (n : Nat) (hn : 4 ≤ n) (a m : Nat) (ha : a < 256) (hm : Hid (a % 64 = m)) (hm64 : m < 64) (lv : Int) (hlv : -9223372036854775808 ≤ lv ∧ lv ≤ 9223372036854775807) (pa : Option Addr) (cap : Nat) (w : World) (hl : LiesAt w pa (withinNat a 64)) :
    CallsIn Fence.wide n Tryd.prog 31 #[.int .u8 (a : Int), .bool true, .int .i64 lv, .slice pa (withinNat a 64).length cap] w fun e W' => e = .returned (.bool true) ∧ Below w.heap.size w W' := by
  have h1 : 1 ≤ n := by omega
  have hmap : (withinL m).map val64 = (withinNat a 64) := by rw [← hm.out]; exact within_same ⟨a, ha⟩
  have hlen0 : (withinNat a 64).length ≤ 64 := withinNat_len a 64
  refine callsIn_of_wp_marks Tryd.func31 rfl trivial ?_ rfl
  simp only [Tryd.ntmps31, List.size_toArray, List.length_cons, List.length_nil, Nat.reduceAdd, Nat.reduceSub, Array.replicate_succ, Array.replicate_zero, List.push_toArray, List.append_toArray, List.nil_append, List.cons_append]
  have HMap := Lib.hid hmap
  have HLies := Lib.hid hl
  clear hmap hl
  generalize (withinNat a 64) = ns at *
  generalize hxs : (withinL m) = xs at *
  have Hxs := Lib.hid hxs
  clear hxs
  have hnil := eql_func_nil
  gi_wp2_with (first | (refine ⟨trivial, ?_⟩; gi_at_call 37; refine (callsIn_wide.2 (each_w _ _)).mono ?_; rintro e w' ⟨rfl, rfl⟩) | (refine ⟨trivial, ?_⟩; gi_at_call 36; refine (callsIn_wide.2 (within_n a m hm.out ha _)).mono ?_; rintro e w' ⟨rfl, rfl⟩))
  obtain ⟨W0, hW0⟩ : ∃ W0, ((((((w.alloc (.cells #[.int .i64 lv] 3)).alloc (.cells #[.slice pa ns.length cap] 23)).alloc (.cells #[.bool false] 4)).alloc (.cells #[.int .u8 (a : Int)] 22)).alloc (.cells #[.int .u8 (m : Int)] 22)).alloc (.cells #[.int .i64 0] 3)) = W0 := ⟨_, rfl⟩
  have hs0 : W0.heap.size = w.heap.size + 6 := by rw [← hW0]; simp
  have hB0 : Below w.heap.size w W0 := by
    rw [← hW0]; exact ((((((Below.refl _ w).alloc (Nat.le_refl _) _).alloc (by simp <;> omega) _).alloc (by simp <;> omega) _).alloc (by simp <;> omega) _).alloc (by simp <;> omega) _).alloc (by simp <;> omega) _
  have b0 : Boxed W0 w.heap.size 3 (.int .i64 lv) := by rw [← hW0]; have := (Boxed.new w 3 (.int .i64 lv)); exact (((((this.alloc _).alloc _).alloc _).alloc _).alloc _)
  have b1 : Boxed W0 (w.heap.size + 1) 23 (.slice pa ns.length cap) := by rw [← hW0]; have := (Boxed.new (w.alloc (.cells #[.int .i64 lv] 3)) 23 (.slice pa ns.length cap)); simp only [World.size_alloc] at this; exact ((((this.alloc _).alloc _).alloc _).alloc _)
  have b2 : Boxed W0 (w.heap.size + 2) 4 (.bool false) := by rw [← hW0]; have := (Boxed.new ((w.alloc (.cells #[.int .i64 lv] 3)).alloc (.cells #[.slice pa ns.length cap] 23)) 4 (.bool false)); simp only [World.size_alloc] at this; exact (((this.alloc _).alloc _).alloc _)
  have bc : Boxed W0 (w.heap.size + 4) 22 (.int .u8 ((m : Nat) : Int)) := by rw [← hW0]; have := (Boxed.new ((((w.alloc (.cells #[.int .i64 lv] 3)).alloc (.cells #[.slice pa ns.length cap] 23)).alloc (.cells #[.bool false] 4)).alloc (.cells #[.int .u8 (a : Int)] 22)) 22 (.int .u8 (m : Int))); simp only [World.size_alloc] at this; exact (this.alloc _)
  have bi : Boxed W0 (w.heap.size + 5) 3 (.int .i64 0) := by rw [← hW0]; have := (Boxed.new (((((w.alloc (.cells #[.int .i64 lv] 3)).alloc (.cells #[.slice pa ns.length cap] 23)).alloc (.cells #[.bool false] 4)).alloc (.cells #[.int .u8 (a : Int)] 22)).alloc (.cells #[.int .u8 (m : Int)] 22)) 3 (.int .i64 0)); simp only [World.size_alloc] at this; exact this
  rw [hW0]
  clear hW0
  apply wpIn_rangeFunc_ownF (F := Fence.wide) rfl h1 (gf := 44) (lb := #[.pointer (some ⟨w.heap.size + 1 + 1 + 1 + 1, 0, none⟩)]) rfl trivial (enters_of Tryd.func44 (by kernel_rfl) rfl)
    (within_stops64 (w.heap.size + 4) m hm64 (n - 1) (by omega) _ (by omega) bc.cell) keepsCell_t (fun W l o o' _ h hc _ => keepsCell_b W l o o' h hc) (Below.refl _ _) (fun _ => rfl)
    (WalkOn ns lv pa cap w.heap.size 5 4 m val64 w) (WalkOut ns lv pa cap w.heap.size 5 4 m val64 w)
    (walkOn_own (by omega)) (fun c => walkOut_own (by omega)) ⟨List.nil_prefix, b0, b1, b2, bi, bc, hB0⟩ _ ?assign ?body ?done ?stop
  case assign =>
    intro l x W K hK
    gi_wp2
    exact hK
  case body =>
    rintro l pre x W ⟨hpre, c0, c1, c2, ci, cc, hB⟩ hlt
    have hlies := HLies.out.below hB
    have e0 := c0.cell
    have e1 := c1.cell
    have e2 := c2.cell
    have ei : W.cell? ⟨w.heap.size + 1 + 1 + 1 + 1 + 1, 0, none⟩ = _ := ci.cell
    have f2 := c2.frozen
    have fi : W.frozen? ⟨w.heap.size + 1 + 1 + 1 + 1 + 1, 0, none⟩ = false := ci.frozen
    have hsn := Lib.hid (pre_snoc (f := val64) (x := x) hpre)
    have Hpre := Lib.hid hpre
    clear hpre
    by_cases hi : pre.length < ns.length
    · obtain ⟨b, off, rfl, hcell⟩ := hlies pre.length hi
      have hge : decide (ns.length ≤ pre.length) = false := decide_eq_false (by omega)
      clear hlies
      by_cases hd : ns[pre.length]? = some (val64 x)
      · have Hg := Lib.hid (hsn.out.2 hd)
        rw [hd] at hcell
        simp only [Option.getD_some] at hcell
        clear hd
        generalize val64 x = d at *
        by_cases hq : (pre.length : Int) + 1 = lv
        · subst hq
          gi_wp2
          exact ⟨KeepsOthers.setCell _ _ _, .inr ⟨rfl, c0.other (by omega) _, c1.other (by omega) _, c2.other (by omega) _, ci.set _, cc.other (by omega) _, hB.setCell (p := ⟨w.heap.size + 1 + 1 + 1 + 1 + 1, 0, none⟩) (by simp <;> omega) _⟩⟩
        · have hq' : ((pre.length : Int) + 1 == lv) = false := by rw [beq_eq_false_iff_ne]; exact hq
          clear hq
          gi_wp2
          exact ⟨KeepsOthers.setCell _ _ _, keeps_i (by omega), Hg.out, c0.other (by omega) _, c1.other (by omega) _, c2.other (by omega) _, by rw [List.length_append]; exact ci.set _, cc.other (by omega) _, hB.setCell (p := ⟨w.heap.size + 1 + 1 + 1 + 1 + 1, 0, none⟩) (by simp <;> omega) _⟩
      · have Hng := Lib.hid (fun h => hd (hsn.out.1 h))
        have hne : (((val64 x : Nat) : Int) != ((ns[pre.length]?.getD 0 : Nat) : Int)) = true := by
          rw [bne_iff_ne]
          intro h
          apply hd
          rw [List.getElem?_eq_getElem hi] at h ⊢
          simp only [Option.getD_some] at h
          exact congrArg some (Int.ofNat_inj.1 h).symm
        clear hd
        generalize ns[pre.length]?.getD 0 = dd at *
        generalize val64 x = d at *
        gi_wp2
        exact ⟨KeepsOthers.setCell _ _ _, .inl ⟨rfl, Hng.out⟩⟩
    · have Hng := Lib.hid (fun h => hi (List.getElem?_eq_some_iff.1 (hsn.out.1 h)).1)
      have hge : decide (ns.length ≤ pre.length) = true := decide_eq_true (by omega)
      gi_wp2
      exact ⟨KeepsOthers.setCell _ _ _, .inl ⟨rfl, Hng.out⟩⟩
  case done =>
    rintro D ys W hD hys ⟨_, c0, c1, c2, ci, cc, hB⟩ hK
    rw [hys, show ((withinL m).length : Int) = (ns.length : Int) by rw [← HMap.out, List.length_map, ← Hxs.out]] at ci
    clear hys
    by_cases hq : (ns.length : Int) = lv
    · subst hq
      have e0 := c0.cell
      have e1 := c1.cell
      have ei : W.cell? ⟨w.heap.size + 1 + 1 + 1 + 1 + 1, 0, none⟩ = _ := ci.cell
      have fi : W.frozen? ⟨w.heap.size + 1 + 1 + 1 + 1 + 1, 0, none⟩ = false := ci.frozen
      gi_wp2
      obtain ⟨W2, hW2⟩ : ∃ W2, W.setCell ⟨w.heap.size + 1 + 1 + 1 + 1 + 1, 0, none⟩ (.int .i64 0) = W2 := ⟨_, rfl⟩
      have g1 : Boxed W2 (w.heap.size + 1) 23 (.slice pa ns.length cap) := by rw [← hW2]; exact c1.other (by omega) _
      have g2 : Boxed W2 (w.heap.size + 2) 4 (.bool false) := by rw [← hW2]; exact c2.other (by omega) _
      have gc : Boxed W2 (w.heap.size + 4) 22 (.int .u8 ((m : Nat) : Int)) := by rw [← hW2]; exact cc.other (by omega) _
      have gi : Boxed W2 (w.heap.size + 5) 3 (.int .i64 0) := by rw [← hW2]; exact ci.set _
      have gK : W2.heap[D]? = some (.deferred (some [])) := by rw [← hW2]; exact (KeepsOthers.setCell W ⟨w.heap.size + 1 + 1 + 1 + 1 + 1, 0, none⟩ (.int .i64 0)).same D _ hK rfl
      have gB : Below w.heap.size w W2 := by rw [← hW2]; exact hB.setCell (p := ⟨w.heap.size + 1 + 1 + 1 + 1 + 1, 0, none⟩) (by simp <;> omega) _
      have gD : D < W2.heap.size := (Array.getElem?_eq_some_iff.1 gK).1
      have gci := gc.lt
      rw [hW2]
      clear hW2 e0 e1 ei fi c0 c1 c2 ci cc hK hB
      apply wpIn_rangeFunc_ownF (F := Fence.wide) rfl h1 (gf := 44) (lb := #[.pointer (some ⟨w.heap.size + 1 + 1 + 1 + 1, 0, none⟩)]) rfl trivial (enters_of Tryd.func44 (by kernel_rfl) rfl)
        (within_stops64 (w.heap.size + 4) m hm64 (n - 1) (by omega) _ (by omega) gc.cell) keepsCell_t (fun W l o o' _ h hc _ => keepsCell_b W l o o' h hc) (Below.refl _ _) (fun _ => rfl)
        (WalkTwo ns pa cap w.heap.size 5 D val64 w) (fun c pre _ => c = .ret ∧ ¬ pre.map val64 <+: ns)
        (walkTwo_own (by have := gB.size; omega) gD) (fun c => ownFrom_pure _ _) ⟨List.nil_prefix, g1, g2, gi, gK, gB⟩ _ ?assign2 ?body2 ?done2 ?stop2
      case assign2 =>
        intro l x W K hK
        gi_wp2
        exact hK
      case body2 =>
        rintro l pre x W ⟨hpre, c1, c2, ci, hK, hB⟩ hlt
        have hlies := HLies.out.below hB
        have e1 := c1.cell
        have e2 := c2.cell
        have ei : W.cell? ⟨w.heap.size + 1 + 1 + 1 + 1 + 1, 0, none⟩ = _ := ci.cell
        have f2 := c2.frozen
        have fi : W.frozen? ⟨w.heap.size + 1 + 1 + 1 + 1 + 1, 0, none⟩ = false := ci.frozen
        have hsn := Lib.hid (pre_snoc (f := val64) (x := x) hpre)
        clear hpre
        by_cases hi : pre.length < ns.length
        · obtain ⟨b, off, rfl, hcell⟩ := hlies pre.length hi
          have hge : decide (ns.length ≤ pre.length) = false := decide_eq_false (by omega)
          clear hlies
          by_cases hd : ns[pre.length]? = some (val64 x)
          · have Hg := Lib.hid (hsn.out.2 hd)
            have HK := Lib.hid ((KeepsOthers.setCell W ⟨w.heap.size + 1 + 1 + 1 + 1 + 1, 0, none⟩ (.int .i64 ((pre.length : Int) + 1))).same D _ hK rfl)
            rw [hd] at hcell
            simp only [Option.getD_some] at hcell
            clear hd hK
            generalize val64 x = d at *
            gi_wp2
            exact ⟨KeepsOthers.setCell _ _ _, keeps_i (by omega), Hg.out, c1.other (by omega) _, c2.other (by omega) _, by rw [List.length_append]; exact ci.set _, HK.out, hB.setCell (p := ⟨w.heap.size + 1 + 1 + 1 + 1 + 1, 0, none⟩) (by simp <;> omega) _⟩
          · have Hng := Lib.hid (fun h => hd (hsn.out.1 h))
            have hne : (((val64 x : Nat) : Int) != ((ns[pre.length]?.getD 0 : Nat) : Int)) = true := by
              rw [bne_iff_ne]
              intro h
              apply hd
              rw [List.getElem?_eq_getElem hi] at h ⊢
              simp only [Option.getD_some] at h
              exact congrArg some (Int.ofNat_inj.1 h).symm
            clear hd hK
            generalize ns[pre.length]?.getD 0 = dd at *
            generalize val64 x = d at *
            gi_wp2
            exact ⟨KeepsOthers.setCell _ _ _, rfl, Hng.out⟩
        · have Hng := Lib.hid (fun h => hi (List.getElem?_eq_some_iff.1 (hsn.out.1 h)).1)
          have hge : decide (ns.length ≤ pre.length) = true := decide_eq_true (by omega)
          clear hK
          gi_wp2
          exact ⟨KeepsOthers.setCell _ _ _, rfl, Hng.out⟩
      case done2 =>
        rintro D2 ys W hD2 hys ⟨_, c1, c2, ci, hK, hB⟩ hK2
        rw [hys, show ((withinL m).length : Int) = (ns.length : Int) by rw [← HMap.out, List.length_map, ← Hxs.out]] at ci
        have e1 := c1.cell
        have e2 := c2.cell
        have ei : W.cell? ⟨w.heap.size + 1 + 1 + 1 + 1 + 1, 0, none⟩ = _ := ci.cell
        have f2 := c2.frozen
        have hset := KeepsOthers.setCell W ⟨w.heap.size + 1 + 1, 0, none⟩ (.bool true)
        have HK := Lib.hid (hset.same D _ hK rfl)
        have HK2 := Lib.hid (hset.same D2 _ hK2 rfl)
        have hBs := hB.setCell (p := ⟨w.heap.size + 1 + 1, 0, none⟩) (by simp <;> omega) (.bool true)
        have hr := c2.set (.bool true)
        clear hK hK2 hys
        gi_wp2
        refine two_marks HK.out HK2.out (by omega) hr hBs (by omega) (by have := gB.size; omega)
      case stop2 =>
        rintro D2 c pre W hD2 hp ⟨_, hno⟩ _
        exact absurd (by have := hp.map val64; rwa [Hxs.out, HMap.out] at this) hno

    · have hq' : ((ns.length : Int) != lv) = true := by rw [bne_iff_ne]; exact hq
      clear hq
      have e0 := c0.cell
      have e1 := c1.cell
      have ei : W.cell? ⟨w.heap.size + 1 + 1 + 1 + 1 + 1, 0, none⟩ = _ := ci.cell
      have fi : W.frozen? ⟨w.heap.size + 1 + 1 + 1 + 1 + 1, 0, none⟩ = false := ci.frozen
      gi_wp2
      obtain ⟨W2, hW2⟩ : ∃ W2, W.setCell ⟨w.heap.size + 1 + 1 + 1 + 1 + 1, 0, none⟩ (.int .i64 0) = W2 := ⟨_, rfl⟩
      have g1 : Boxed W2 (w.heap.size + 1) 23 (.slice pa ns.length cap) := by rw [← hW2]; exact c1.other (by omega) _
      have g2 : Boxed W2 (w.heap.size + 2) 4 (.bool false) := by rw [← hW2]; exact c2.other (by omega) _
      have gc : Boxed W2 (w.heap.size + 4) 22 (.int .u8 ((m : Nat) : Int)) := by rw [← hW2]; exact cc.other (by omega) _
      have gi : Boxed W2 (w.heap.size + 5) 3 (.int .i64 0) := by rw [← hW2]; exact ci.set _
      have gK : W2.heap[D]? = some (.deferred (some [])) := by rw [← hW2]; exact (KeepsOthers.setCell W ⟨w.heap.size + 1 + 1 + 1 + 1 + 1, 0, none⟩ (.int .i64 0)).same D _ hK rfl
      have gB : Below w.heap.size w W2 := by rw [← hW2]; exact hB.setCell (p := ⟨w.heap.size + 1 + 1 + 1 + 1 + 1, 0, none⟩) (by simp <;> omega) _
      have gD : D < W2.heap.size := (Array.getElem?_eq_some_iff.1 gK).1
      have gci := gc.lt
      rw [hW2]
      clear hW2 e0 e1 ei fi c0 c1 c2 ci cc hK hB
      apply wpIn_rangeFunc_ownF (F := Fence.wide) rfl h1 (gf := 44) (lb := #[.pointer (some ⟨w.heap.size + 1 + 1 + 1 + 1, 0, none⟩)]) rfl trivial (enters_of Tryd.func44 (by kernel_rfl) rfl)
        (within_stops64 (w.heap.size + 4) m hm64 (n - 1) (by omega) _ (by omega) gc.cell) keepsCell_t (fun W l o o' _ h hc _ => keepsCell_b W l o o' h hc) (Below.refl _ _) (fun _ => rfl)
        (WalkTwo ns pa cap w.heap.size 5 D val64 w) (fun c pre _ => c = .ret ∧ ¬ pre.map val64 <+: ns)
        (walkTwo_own (by have := gB.size; omega) gD) (fun c => ownFrom_pure _ _) ⟨List.nil_prefix, g1, g2, gi, gK, gB⟩ _ ?assign3 ?body3 ?done3 ?stop3
      case assign3 =>
        intro l x W K hK
        gi_wp2
        exact hK
      case body3 =>
        rintro l pre x W ⟨hpre, c1, c2, ci, hK, hB⟩ hlt
        have hlies := HLies.out.below hB
        have e1 := c1.cell
        have e2 := c2.cell
        have ei : W.cell? ⟨w.heap.size + 1 + 1 + 1 + 1 + 1, 0, none⟩ = _ := ci.cell
        have f2 := c2.frozen
        have fi : W.frozen? ⟨w.heap.size + 1 + 1 + 1 + 1 + 1, 0, none⟩ = false := ci.frozen
        have hsn := Lib.hid (pre_snoc (f := val64) (x := x) hpre)
        clear hpre
        by_cases hi : pre.length < ns.length
        · obtain ⟨b, off, rfl, hcell⟩ := hlies pre.length hi
          have hge : decide (ns.length ≤ pre.length) = false := decide_eq_false (by omega)
          clear hlies
          by_cases hd : ns[pre.length]? = some (val64 x)
          · have Hg := Lib.hid (hsn.out.2 hd)
            have HK := Lib.hid ((KeepsOthers.setCell W ⟨w.heap.size + 1 + 1 + 1 + 1 + 1, 0, none⟩ (.int .i64 ((pre.length : Int) + 1))).same D _ hK rfl)
            rw [hd] at hcell
            simp only [Option.getD_some] at hcell
            clear hd hK
            generalize val64 x = d at *
            gi_wp2
            exact ⟨KeepsOthers.setCell _ _ _, keeps_i (by omega), Hg.out, c1.other (by omega) _, c2.other (by omega) _, by rw [List.length_append]; exact ci.set _, HK.out, hB.setCell (p := ⟨w.heap.size + 1 + 1 + 1 + 1 + 1, 0, none⟩) (by simp <;> omega) _⟩
          · have Hng := Lib.hid (fun h => hd (hsn.out.1 h))
            have hne : (((val64 x : Nat) : Int) != ((ns[pre.length]?.getD 0 : Nat) : Int)) = true := by
              rw [bne_iff_ne]
              intro h
              apply hd
              rw [List.getElem?_eq_getElem hi] at h ⊢
              simp only [Option.getD_some] at h
              exact congrArg some (Int.ofNat_inj.1 h).symm
            clear hd hK
            generalize ns[pre.length]?.getD 0 = dd at *
            generalize val64 x = d at *
            gi_wp2
            exact ⟨KeepsOthers.setCell _ _ _, rfl, Hng.out⟩
        · have Hng := Lib.hid (fun h => hi (List.getElem?_eq_some_iff.1 (hsn.out.1 h)).1)
          have hge : decide (ns.length ≤ pre.length) = true := decide_eq_true (by omega)
          clear hK
          gi_wp2
          exact ⟨KeepsOthers.setCell _ _ _, rfl, Hng.out⟩
      case done3 =>
        rintro D2 ys W hD2 hys ⟨_, c1, c2, ci, hK, hB⟩ hK2
        rw [hys, show ((withinL m).length : Int) = (ns.length : Int) by rw [← HMap.out, List.length_map, ← Hxs.out]] at ci
        have e1 := c1.cell
        have e2 := c2.cell
        have ei : W.cell? ⟨w.heap.size + 1 + 1 + 1 + 1 + 1, 0, none⟩ = _ := ci.cell
        have f2 := c2.frozen
        have hset := KeepsOthers.setCell W ⟨w.heap.size + 1 + 1, 0, none⟩ (.bool true)
        have HK := Lib.hid (hset.same D _ hK rfl)
        have HK2 := Lib.hid (hset.same D2 _ hK2 rfl)
        have hBs := hB.setCell (p := ⟨w.heap.size + 1 + 1, 0, none⟩) (by simp <;> omega) (.bool true)
        have hr := c2.set (.bool true)
        clear hK hK2 hys
        gi_wp2
        refine two_marks HK.out HK2.out (by omega) hr hBs (by omega) (by have := gB.size; omega)
      case stop3 =>
        rintro D2 c pre W hD2 hp ⟨_, hno⟩ _
        exact absurd (by have := hp.map val64; rwa [Hxs.out, HMap.out] at this) hno

  case stop =>
    rintro D c pre W hD hp (⟨rfl, hno⟩ | ⟨rfl, c0, c1, c2, ci, cc, hB⟩) hK
    · exact absurd (by have := hp.map val64; rwa [Hxs.out, HMap.out] at this) hno
    · skip
      have e0 := c0.cell
      have e1 := c1.cell
      have ei : W.cell? ⟨w.heap.size + 1 + 1 + 1 + 1 + 1, 0, none⟩ = _ := ci.cell
      have fi : W.frozen? ⟨w.heap.size + 1 + 1 + 1 + 1 + 1, 0, none⟩ = false := ci.frozen
      gi_wp2
      obtain ⟨W2, hW2⟩ : ∃ W2, W.setCell ⟨w.heap.size + 1 + 1 + 1 + 1 + 1, 0, none⟩ (.int .i64 0) = W2 := ⟨_, rfl⟩
      have g1 : Boxed W2 (w.heap.size + 1) 23 (.slice pa ns.length cap) := by rw [← hW2]; exact c1.other (by omega) _
      have g2 : Boxed W2 (w.heap.size + 2) 4 (.bool false) := by rw [← hW2]; exact c2.other (by omega) _
      have gc : Boxed W2 (w.heap.size + 4) 22 (.int .u8 ((m : Nat) : Int)) := by rw [← hW2]; exact cc.other (by omega) _
      have gi : Boxed W2 (w.heap.size + 5) 3 (.int .i64 0) := by rw [← hW2]; exact ci.set _
      have gK : W2.heap[D]? = some (.deferred (some [])) := by rw [← hW2]; exact (KeepsOthers.setCell W ⟨w.heap.size + 1 + 1 + 1 + 1 + 1, 0, none⟩ (.int .i64 0)).same D _ hK rfl
      have gB : Below w.heap.size w W2 := by rw [← hW2]; exact hB.setCell (p := ⟨w.heap.size + 1 + 1 + 1 + 1 + 1, 0, none⟩) (by simp <;> omega) _
      have gD : D < W2.heap.size := (Array.getElem?_eq_some_iff.1 gK).1
      have gci := gc.lt
      rw [hW2]
      clear hW2 e0 e1 ei fi c0 c1 c2 ci cc hK hB
      apply wpIn_rangeFunc_ownF (F := Fence.wide) rfl h1 (gf := 44) (lb := #[.pointer (some ⟨w.heap.size + 1 + 1 + 1 + 1, 0, none⟩)]) rfl trivial (enters_of Tryd.func44 (by kernel_rfl) rfl)
        (within_stops64 (w.heap.size + 4) m hm64 (n - 1) (by omega) _ (by omega) gc.cell) keepsCell_t (fun W l o o' _ h hc _ => keepsCell_b W l o o' h hc) (Below.refl _ _) (fun _ => rfl)
        (WalkTwo ns pa cap w.heap.size 5 D val64 w) (fun c pre _ => c = .ret ∧ ¬ pre.map val64 <+: ns)
        (walkTwo_own (by have := gB.size; omega) gD) (fun c => ownFrom_pure _ _) ⟨List.nil_prefix, g1, g2, gi, gK, gB⟩ _ ?assign4 ?body4 ?done4 ?stop4
      case assign4 =>
        intro l x W K hK
        gi_wp2
        exact hK
      case body4 =>
        rintro l pre x W ⟨hpre, c1, c2, ci, hK, hB⟩ hlt
        have hlies := HLies.out.below hB
        have e1 := c1.cell
        have e2 := c2.cell
        have ei : W.cell? ⟨w.heap.size + 1 + 1 + 1 + 1 + 1, 0, none⟩ = _ := ci.cell
        have f2 := c2.frozen
        have fi : W.frozen? ⟨w.heap.size + 1 + 1 + 1 + 1 + 1, 0, none⟩ = false := ci.frozen
        have hsn := Lib.hid (pre_snoc (f := val64) (x := x) hpre)
        clear hpre
        by_cases hi : pre.length < ns.length
        · obtain ⟨b, off, rfl, hcell⟩ := hlies pre.length hi
          have hge : decide (ns.length ≤ pre.length) = false := decide_eq_false (by omega)
          clear hlies
          by_cases hd : ns[pre.length]? = some (val64 x)
          · have Hg := Lib.hid (hsn.out.2 hd)
            have HK := Lib.hid ((KeepsOthers.setCell W ⟨w.heap.size + 1 + 1 + 1 + 1 + 1, 0, none⟩ (.int .i64 ((pre.length : Int) + 1))).same D _ hK rfl)
            rw [hd] at hcell
            simp only [Option.getD_some] at hcell
            clear hd hK
            generalize val64 x = d at *
            gi_wp2
            exact ⟨KeepsOthers.setCell _ _ _, keeps_i (by omega), Hg.out, c1.other (by omega) _, c2.other (by omega) _, by rw [List.length_append]; exact ci.set _, HK.out, hB.setCell (p := ⟨w.heap.size + 1 + 1 + 1 + 1 + 1, 0, none⟩) (by simp <;> omega) _⟩
          · have Hng := Lib.hid (fun h => hd (hsn.out.1 h))
            have hne : (((val64 x : Nat) : Int) != ((ns[pre.length]?.getD 0 : Nat) : Int)) = true := by
              rw [bne_iff_ne]
              intro h
              apply hd
              rw [List.getElem?_eq_getElem hi] at h ⊢
              simp only [Option.getD_some] at h
              exact congrArg some (Int.ofNat_inj.1 h).symm
            clear hd hK
            generalize ns[pre.length]?.getD 0 = dd at *
            generalize val64 x = d at *
            gi_wp2
            exact ⟨KeepsOthers.setCell _ _ _, rfl, Hng.out⟩
        · have Hng := Lib.hid (fun h => hi (List.getElem?_eq_some_iff.1 (hsn.out.1 h)).1)
          have hge : decide (ns.length ≤ pre.length) = true := decide_eq_true (by omega)
          clear hK
          gi_wp2
          exact ⟨KeepsOthers.setCell _ _ _, rfl, Hng.out⟩
      case done4 =>
        rintro D2 ys W hD2 hys ⟨_, c1, c2, ci, hK, hB⟩ hK2
        rw [hys, show ((withinL m).length : Int) = (ns.length : Int) by rw [← HMap.out, List.length_map, ← Hxs.out]] at ci
        have e1 := c1.cell
        have e2 := c2.cell
        have ei : W.cell? ⟨w.heap.size + 1 + 1 + 1 + 1 + 1, 0, none⟩ = _ := ci.cell
        have f2 := c2.frozen
        have hset := KeepsOthers.setCell W ⟨w.heap.size + 1 + 1, 0, none⟩ (.bool true)
        have HK := Lib.hid (hset.same D _ hK rfl)
        have HK2 := Lib.hid (hset.same D2 _ hK2 rfl)
        have hBs := hB.setCell (p := ⟨w.heap.size + 1 + 1, 0, none⟩) (by simp <;> omega) (.bool true)
        have hr := c2.set (.bool true)
        clear hK hK2 hys
        gi_wp2
        refine two_marks HK.out HK2.out (by omega) hr hBs (by omega) (by have := gB.size; omega)
      case stop4 =>
        rintro D2 c pre W hD2 hp ⟨_, hno⟩ _
        exact absurd (by have := hp.map val64; rwa [Hxs.out, HMap.out] at this) hno

end Go.Proofs.YtohhobmjebdfaaaDoor
