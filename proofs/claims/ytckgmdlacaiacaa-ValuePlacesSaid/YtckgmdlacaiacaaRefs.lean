/-
  value.Refs.
-/
import Derived.Test.YtckgmdlacaiacaaWalkR2
namespace Go.Proofs.Ytckgmdlacaiacaa
open Go.RowKit Go.Shelf
attribute [local go_sem] Oper.semAt_some

/-- The references of a value that may be; none of one that may not. -/
def refsM (t : VT) : List Int := if t.may then refsT t else []
theorem may_good {t : VT} (h : t.may = true) : t.good = true ∧ t.parts ≤ 512 := by
  unfold VT.may VT.ok at h
  simp only [Bool.and_eq_true, decide_eq_true_eq] at h
  exact ⟨h.1.1, h.1.2⟩
set_option maxRecDepth 100000 in
set_option maxHeartbeats 4000000 in
theorem Refs_w {pp : Nat → Prop} {m : Bool} (t : VT) (v : Value) (w : World) (h : Lies w pp m t v) (hpp : ∀ b, pp b → b < w.heap.size) :
    Calls Try.prog 18 #[v] w fun e w' => ∃ v', e = .returned v' ∧ w'.ownsRow w.heap.size 24 1 v' (refsM t).length (i64s (refsM t)) ∧ Below w.heap.size w w' := by
  obtain ⟨A, cap, rfl⟩ := h.cells
  have HM := Lib.hid (fun W hW => may_w t _ W (h.below (W' := W) hW hpp) (fun b hb => Nat.lt_of_lt_of_le (hpp b hb) (Below.size hW)))
  have HW := Lib.hid (fun (hg : t.good = true) (hp : t.parts ≤ 512) (place : Value) ps ov W (hB : Below w.heap.size w W) hw => walkR_w pp m w.heap.size (w.heap.size + 1) hpp t _ place 0 ps [] ov W (h.below (W' := W) hB hpp) hg hw (by omega) (by rw [List.length_nil]; omega))
  have HQ : refsM t = if t.may then refsT t else [] := rfl
  have HQ := Lib.hid HQ
  have HG := Lib.hid (fun hm : t.may = true => may_good hm)
  generalize refsM t = RM at *
  generalize refsT t = RT at *
  generalize t.may = q at *
  clear h
  generalize t.k = a0 at *
  generalize t.n = a1 at *
  generalize t.s = a2 at *
  generalize t.l.length = a3 at *
  generalize t.r = a4 at *
  have X0 := (Five.new w (.int .u8 (a0 : Int)) (.int .i64 a1) (.string a2) (.slice A a3 cap) (.int .i64 a4)).alloc (.cells #[.slice none 0 0] 30)
  have HX := Lib.hid X0
  have hbx : ((w.alloc (.cells #[.int .u8 (a0 : Int), .int .i64 a1, .string a2, .slice A a3 cap, .int .i64 a4] 26)).alloc (.cells #[.slice none 0 0] 30)).heap[w.heap.size + 1]? = some (.cells #[.slice none 0 0] 30 (0, 0)) := by
    have := heap_alloc_new (w.alloc (.cells #[.int .u8 (a0 : Int), .int .i64 a1, .string a2, .slice A a3 cap, .int .i64 a4] 26)) (.cells #[.slice none 0 0] 30)
    rw [World.size_alloc] at this
    exact this
  have HBX := Lib.hid hbx
  have hb0 := Lib.hid (((Below.refl w.heap.size w).alloc (Nat.le_refl _) (.cells #[.int .u8 (a0 : Int), .int .i64 a1, .string a2, .slice A a3 cap, .int .i64 a4] 26)).alloc (by simp) (.cells #[.slice none 0 0] 30))
  clear X0 hbx
  go_enter Try.func18, Try.ntmps18
  go_wp2_with fail
  refine (HM.out _ hb0.out).mono ?_
  rintro e w1 ⟨rfl, hb⟩
  have Y := HX.out.below hb HX.out.lt
  have hrow := (hb.block (w.heap.size + 1) (by simp)).trans HBX.out
  have hlt := (Array.getElem?_eq_some_iff.1 hrow).1
  have HB1 := Lib.hid (hb0.out.trans (hb.mono hb0.out.size))
  have e0 := Y.e0
  have e1 := Y.e1
  have e2 := Y.e2
  have e3 := Y.e3
  have e4 := Y.e4
  have r0 : w1.cell? ⟨w.heap.size + 1, 0, none⟩ = some (.slice none 0 0) := by simp [World.cell?, hrow]
  have HROW := Lib.hid hrow
  clear hb Y hrow
  cases q
  · go_wp2
    go_ret
    refine ⟨_, rfl, ?_, HB1.out⟩
    rw [HQ.out]
    exact World.ownsRow_nil _ _ _ _
  · obtain ⟨hg, hp⟩ := HG.out rfl
    go_wp2_with fail
    have hpre : WPre w.heap.size (w.heap.size + 1) (.slice none 0 0) 0 [] w1 [] (.slice none 0 0) :=
      ⟨⟨HROW.out, World.ownsRow_nil _ _ _ _, by simp [Value.ownBlock], by omega⟩, HB1.out.size, World.ownsRow_nil _ _ _ _, by simp [Value.ownBlock], .inl rfl⟩
    have HPRE := Lib.hid hpre
    refine (HW.out hg hp (.slice none 0 0) [] (.slice none 0 0) w1 HB1.out hpre).mono ?_
    rintro e w2 ⟨rfl, ov', hP⟩
    have hc := hP.inv.cell
    have HP := Lib.hid hP
    clear hP r0 hpre
    go_wp2
    go_ret
    refine ⟨_, rfl, ?_, ?_⟩
    · rw [HQ.out]
      exact HP.out.inv.own
    · exact HB1.out.trans (HP.out.below HPRE.out)
end Go.Proofs.Ytckgmdlacaiacaa
