/-
  value.read as a function of bytes.
-/
import Derived.Test.YtckgmdlacaiacaaTake
namespace Go.Proofs.Ytckgmdlacaiacaa
open Go.RowKit Go.Shelf
attribute [local go_sem] Oper.semAt_some

/-- Several values, one behind the other, of no more than so many parts. -/
def readMany (f : Nat → List UInt8 → Option (VT × List UInt8)) : Nat → Nat → List UInt8 → Option (List VT × List UInt8)
  | 0, _, s => some ([], s)
  | n + 1, L, s => match f L s with
    | none => none
    | some (t, r) => match readMany f n (L - t.parts) r with
      | none => none
      | some (ts, r2) => some (t :: ts, r2)
/-- What stands behind the kind of a list. -/
def readBody (f : Nat → List UInt8 → Option (VT × List UInt8)) (left : Nat) (s : List UInt8) : Option (VT × List UInt8) :=
  if 2 ≤ s.length ∧ numL (s.take 2) ≤ left - 1 then
    match readMany f (numL (s.take 2)) (left - 1) (s.drop 2) with
    | none => none
    | some (l, r) => some (.mk 3 0 ⟨#[]⟩ 0 l, r)
  else none
/-- A value, from the front of bytes. -/
def readK (rl : List UInt8 → Option (VT × List UInt8)) (left : Nat) (s : List UInt8) : Option (VT × List UInt8) :=
  if 1 ≤ s.length ∧ 1 ≤ left then
    match numL (s.take 1) with
    | 0 => some (.mk 0 0 ⟨#[]⟩ 0 [], s.drop 1)
    | 1 => if 8 ≤ (s.drop 1).length then some (.mk 1 ((numL ((s.drop 1).take 8) : Int) - 9223372036854775808) ⟨#[]⟩ 0 [], (s.drop 1).drop 8) else none
    | 2 => if 2 ≤ (s.drop 1).length ∧ numL ((s.drop 1).take 2) ≤ ((s.drop 1).drop 2).length ∧ numL ((s.drop 1).take 2) ≤ 256 then some (.mk 2 0 (strL (((s.drop 1).drop 2).take (numL ((s.drop 1).take 2)))) 0 [], ((s.drop 1).drop 2).drop (numL ((s.drop 1).take 2))) else none
    | 3 => rl (s.drop 1)
    | 4 => if 4 ≤ (s.drop 1).length ∧ 1 ≤ numL ((s.drop 1).take 4) then some (.mk 4 0 ⟨#[]⟩ (numL ((s.drop 1).take 4) : Int) [], (s.drop 1).drop 4) else none
    | _ => none
  else none
def readT : Nat → Nat → List UInt8 → Option (VT × List UInt8)
  | 0 => fun left s => readK (fun _ => none) left s
  | nest + 1 => fun left s => readK (readBody (readT nest) left) left s
/-- What several values are, some of them read. -/
def behind (ts : List VT) : Option (List VT × List UInt8) → Option (List VT × List UInt8)
  | none => none
  | some (us, r) => some (ts ++ us, r)
theorem behind_nil (o : Option (List VT × List UInt8)) : behind [] o = o := by
  cases o <;> rfl
theorem behind_fail {f : Nat → List UInt8 → Option (VT × List UInt8)} {n L : Nat} {s : List UInt8} {ts : List VT} (h : f L s = none) : behind ts (readMany f (n + 1) L s) = none := by
  simp [readMany, h, behind]
theorem behind_step {f : Nat → List UInt8 → Option (VT × List UInt8)} {n L : Nat} {s r : List UInt8} {ts : List VT} {t : VT} (h : f L s = some (t, r)) : behind ts (readMany f (n + 1) L s) = behind (ts ++ [t]) (readMany f n (L - t.parts) r) := by
  simp only [readMany, h]
  cases readMany f n (L - t.parts) r with
  | none => rfl
  | some x => simp [behind]
theorem Left.same {W W' : World} {cb : Nat} {l : List UInt8} (h : Left W cb l) (hb : W'.heap[cb]? = W.heap[cb]?) : Left W' cb l := ⟨hb.trans h.box⟩
theorem Left.alloc {W : World} {cb : Nat} {l : List UInt8} (h : Left W cb l) (o : Obj) : Left (W.alloc o) cb l := h.same (heap_alloc_old W o h.lt)
def zeroVal : Value := .agg #[.int .u8 0, .int .i64 0, .string ⟨#[]⟩, .slice none 0 0, .int .i64 0]
/-- What read leaves. -/
def ReadPost (w : World) (cb : Nat) (res : Option (VT × List UInt8)) (e : Ending) (W : World) : Prop :=
  Chg [cb] w W ∧ match res with
    | none => e = .returned (.tuple #[zeroVal, .int .i64 0, .bool false])
    | some (t, r) => Left W cb r ∧ ∃ v, e = .returned (.tuple #[v, .int .i64 (t.parts : Int), .bool true]) ∧ Fresh w W t v
/-- Three results, of which the first one stands in a box of five cells. -/
theorem ret_five3 {fn : Func} {u x y : Tmp} (h : fn.results = #[.cell u 26, .tmp x, .tmp y]) {R : Ending → World → Prop} {tmps : Array Value} {W : World} {B : Nat} {c0 c1 c2 c3 c4 : Value} {a b : Value} (hF : Five W B c0 c1 c2 c3 c4)
    (hs : tmps[u]? = some (.pointer (some ⟨B, 0, none⟩))) (hx : tmps[x]? = some a) (hy : tmps[y]? = some b) (hR : R (.returned (.tuple #[.agg #[c0, c1, c2, c3, c4], a, b])) W) : bodyPost Try.prog fn R Exit.ret { tmps := tmps, defers := [] } W := by
  refine bodyPost_ret (v := .tuple #[.agg #[c0, c1, c2, c3, c4], a, b]) ?_ rfl hR
  have e0 := hF.e0
  have e1 := hF.e1
  have e2 := hF.e2
  have e3 := hF.e3
  have e4 := hF.e4
  simp [results, h, go_sem, hs, hx, hy, e0, e1, e2, e3, e4]
end Go.Proofs.Ytckgmdlacaiacaa
