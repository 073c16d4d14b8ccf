/-
  NARROWER THAN 'FOR EVERY INPUT', by the rows' own cells (each row's printed sentence says how): ValueLooks: loops · ValueEach: loops · ValuePlaces: loops · ValueOrders: loops · ValueOfs: loops · ValueRenames: loops · ValueBytes: loops · ValueTotal: loops · ValueWalks: loops · ValueRenamed: loops · ValueBack: loops.
  DERIVED. THE GIVEN ROWS OF THIS SEAT. 11 by the template 'for every input the law returns true; each argument reads behind the call as it read before'; 0 by the template 'total and deterministic' (their statements: YtckgmdlacaiacaaTotals.lean).
  GIVEN WITH THE SEED: the statements are not yours to turn. If you find one false, say at which input.
  Laid BY PROGRAM, IN A SANDBOX (cutbox-rows.mjs): the forced cells as the released guide's own fill.sh prints them over the translation 99ae49f0dec336ae… (all of the seat's roots in one cut). By AI agents, Wed Nov 11 2026. No macro, syntax, notation, axiom, sorry.
-/
import Derived.Test.YtckgmdlacaiacaaChecked
import GoSem.Claim
import GoSem.ClaimJoined
import GoSem.ClaimMapViews
import Derived.JoinedTies
import Derived.KernelRfl
namespace Go.Proofs.Ytckgmdlacaiacaa
/- THE CELL 'sum', in the pinned program and in every row, IS THE sha256 OF THE DUMP (.gsa) THAT YtckgmdlacaiacaaProg.lean LOADS. Nothing in Lean hashes anything: it is a label: what it is worth is what the hold of that sum in a sandbox is worth. -/
noncomputable def Try.pinned : Pinned := { name := "ytckgmdlacaiacaa", sum := "99ae49f0dec336ae0c2a2aa5c81c6552d541f1b23917ce3f8d556084ad388a3d", checked := Try.checked }
namespace Rows
def none {H : Type} : Left H := { results := [], args := [] }

/-- 'posternlaw02.ValueLooks': WHATEVER THE INPUT: true; the input reads as it did. -/
def valueLooksSpec : ChangeSpec := { name := "valueLooks", fn := fun _ => fun
  | [d] => { results := [.lit (.bool true)], args := [d] }
  | _ => none }
def valueLooksRow : OpenClaim := { program := "ytckgmdlacaiacaa", sum := "99ae49f0dec336ae0c2a2aa5c81c6552d541f1b23917ce3f8d556084ad388a3d", func := "postern/posternlaw02.ValueLooks", spec := "valueLooks", inPlace := ["internal/bytealg.abigen_runtime_cmpstring"], unfollowed := true, recurses := true, loops := true, apart := false }
def ValueLooksSaid : Prop := valueLooksRow.holds Try.pinned (OpenSpec.ofChange valueLooksSpec)

/-- ITS FALSE NEIGHBOUR: 'it returns false'. Refute it at one input. -/
def valueLooksWrong : ChangeSpec := { name := "valueLooks", fn := fun _ => fun
  | [d] => { results := [.lit (.bool false)], args := [d] }
  | _ => none }
def ValueLooksWrongFalsely : Prop := valueLooksRow.holds Try.pinned (OpenSpec.ofChange valueLooksWrong)

/-- 'posternlaw02.ValueEach': WHATEVER THE INPUT: true; the input reads as it did. -/
def valueEachSpec : ChangeSpec := { name := "valueEach", fn := fun _ => fun
  | [d1, d2] => { results := [.lit (.bool true)], args := [d1, d2] }
  | _ => none }
def valueEachRow : OpenClaim := { program := "ytckgmdlacaiacaa", sum := "99ae49f0dec336ae0c2a2aa5c81c6552d541f1b23917ce3f8d556084ad388a3d", func := "postern/posternlaw02.ValueEach", spec := "valueEach", inPlace := ["internal/bytealg.abigen_runtime_cmpstring"], unfollowed := true, recurses := true, loops := true, apart := false }
def ValueEachSaid : Prop := valueEachRow.holds Try.pinned (OpenSpec.ofChange valueEachSpec)

/-- ITS FALSE NEIGHBOUR: 'it returns false'. Refute it at one input. -/
def valueEachWrong : ChangeSpec := { name := "valueEach", fn := fun _ => fun
  | [d1, d2] => { results := [.lit (.bool false)], args := [d1, d2] }
  | _ => none }
def ValueEachWrongFalsely : Prop := valueEachRow.holds Try.pinned (OpenSpec.ofChange valueEachWrong)

/-- 'posternlaw02.ValuePlaces': WHATEVER THE INPUT: true; the input reads as it did. -/
def valuePlacesSpec : ChangeSpec := { name := "valuePlaces", fn := fun _ => fun
  | [d1, d2, d3] => { results := [.lit (.bool true)], args := [d1, d2, d3] }
  | _ => none }
def valuePlacesRow : OpenClaim := { program := "ytckgmdlacaiacaa", sum := "99ae49f0dec336ae0c2a2aa5c81c6552d541f1b23917ce3f8d556084ad388a3d", func := "postern/posternlaw02.ValuePlaces", spec := "valuePlaces", inPlace := ["internal/bytealg.abigen_runtime_cmpstring"], unfollowed := true, recurses := true, loops := true, apart := false }
def ValuePlacesSaid : Prop := valuePlacesRow.holds Try.pinned (OpenSpec.ofChange valuePlacesSpec)

/-- ITS FALSE NEIGHBOUR: 'it returns false'. Refute it at one input. -/
def valuePlacesWrong : ChangeSpec := { name := "valuePlaces", fn := fun _ => fun
  | [d1, d2, d3] => { results := [.lit (.bool false)], args := [d1, d2, d3] }
  | _ => none }
def ValuePlacesWrongFalsely : Prop := valuePlacesRow.holds Try.pinned (OpenSpec.ofChange valuePlacesWrong)

/-- 'posternlaw02.ValueOrders': WHATEVER THE INPUT: true; the input reads as it did. -/
def valueOrdersSpec : ChangeSpec := { name := "valueOrders", fn := fun _ => fun
  | [d1, d2, d3] => { results := [.lit (.bool true)], args := [d1, d2, d3] }
  | _ => none }
def valueOrdersRow : OpenClaim := { program := "ytckgmdlacaiacaa", sum := "99ae49f0dec336ae0c2a2aa5c81c6552d541f1b23917ce3f8d556084ad388a3d", func := "postern/posternlaw02.ValueOrders", spec := "valueOrders", inPlace := ["internal/bytealg.abigen_runtime_cmpstring"], unfollowed := true, recurses := true, loops := true, apart := false }
def ValueOrdersSaid : Prop := valueOrdersRow.holds Try.pinned (OpenSpec.ofChange valueOrdersSpec)

/-- ITS FALSE NEIGHBOUR: 'it returns false'. Refute it at one input. -/
def valueOrdersWrong : ChangeSpec := { name := "valueOrders", fn := fun _ => fun
  | [d1, d2, d3] => { results := [.lit (.bool false)], args := [d1, d2, d3] }
  | _ => none }
def ValueOrdersWrongFalsely : Prop := valueOrdersRow.holds Try.pinned (OpenSpec.ofChange valueOrdersWrong)

/-- 'posternlaw02.ValueOfs': WHATEVER THE INPUT: true; the input reads as it did. -/
def valueOfsSpec : ChangeSpec := { name := "valueOfs", fn := fun _ => fun
  | [d] => { results := [.lit (.bool true)], args := [d] }
  | _ => none }
def valueOfsRow : OpenClaim := { program := "ytckgmdlacaiacaa", sum := "99ae49f0dec336ae0c2a2aa5c81c6552d541f1b23917ce3f8d556084ad388a3d", func := "postern/posternlaw02.ValueOfs", spec := "valueOfs", inPlace := ["internal/bytealg.abigen_runtime_cmpstring"], unfollowed := true, recurses := true, loops := true, apart := false }
def ValueOfsSaid : Prop := valueOfsRow.holds Try.pinned (OpenSpec.ofChange valueOfsSpec)

/-- ITS FALSE NEIGHBOUR: 'it returns false'. Refute it at one input. -/
def valueOfsWrong : ChangeSpec := { name := "valueOfs", fn := fun _ => fun
  | [d] => { results := [.lit (.bool false)], args := [d] }
  | _ => none }
def ValueOfsWrongFalsely : Prop := valueOfsRow.holds Try.pinned (OpenSpec.ofChange valueOfsWrong)

/-- 'posternlaw02.ValueRenames': WHATEVER THE INPUT: true; the input reads as it did. -/
def valueRenamesSpec : ChangeSpec := { name := "valueRenames", fn := fun _ => fun
  | [d1, d2, d3] => { results := [.lit (.bool true)], args := [d1, d2, d3] }
  | _ => none }
def valueRenamesRow : OpenClaim := { program := "ytckgmdlacaiacaa", sum := "99ae49f0dec336ae0c2a2aa5c81c6552d541f1b23917ce3f8d556084ad388a3d", func := "postern/posternlaw02.ValueRenames", spec := "valueRenames", inPlace := ["internal/bytealg.abigen_runtime_cmpstring"], unfollowed := true, recurses := true, loops := true, apart := false }
def ValueRenamesSaid : Prop := valueRenamesRow.holds Try.pinned (OpenSpec.ofChange valueRenamesSpec)

/-- ITS FALSE NEIGHBOUR: 'it returns false'. Refute it at one input. -/
def valueRenamesWrong : ChangeSpec := { name := "valueRenames", fn := fun _ => fun
  | [d1, d2, d3] => { results := [.lit (.bool false)], args := [d1, d2, d3] }
  | _ => none }
def ValueRenamesWrongFalsely : Prop := valueRenamesRow.holds Try.pinned (OpenSpec.ofChange valueRenamesWrong)

/-- 'posternlaw02.ValueBytes': WHATEVER THE INPUT: true; the input reads as it did. -/
def valueBytesSpec : ChangeSpec := { name := "valueBytes", fn := fun _ => fun
  | [d1, d2] => { results := [.lit (.bool true)], args := [d1, d2] }
  | _ => none }
def valueBytesRow : OpenClaim := { program := "ytckgmdlacaiacaa", sum := "99ae49f0dec336ae0c2a2aa5c81c6552d541f1b23917ce3f8d556084ad388a3d", func := "postern/posternlaw02.ValueBytes", spec := "valueBytes", inPlace := ["internal/bytealg.abigen_runtime_cmpstring"], unfollowed := true, recurses := true, loops := true, apart := false }
def ValueBytesSaid : Prop := valueBytesRow.holds Try.pinned (OpenSpec.ofChange valueBytesSpec)

/-- ITS FALSE NEIGHBOUR: 'it returns false'. Refute it at one input. -/
def valueBytesWrong : ChangeSpec := { name := "valueBytes", fn := fun _ => fun
  | [d1, d2] => { results := [.lit (.bool false)], args := [d1, d2] }
  | _ => none }
def ValueBytesWrongFalsely : Prop := valueBytesRow.holds Try.pinned (OpenSpec.ofChange valueBytesWrong)

/-- 'posternlaw02.ValueTotal': WHATEVER THE INPUT: true; the input reads as it did. -/
def valueTotalSpec : ChangeSpec := { name := "valueTotal", fn := fun _ => fun
  | [d1, d2, d3, d4] => { results := [.lit (.bool true)], args := [d1, d2, d3, d4] }
  | _ => none }
def valueTotalRow : OpenClaim := { program := "ytckgmdlacaiacaa", sum := "99ae49f0dec336ae0c2a2aa5c81c6552d541f1b23917ce3f8d556084ad388a3d", func := "postern/posternlaw02.ValueTotal", spec := "valueTotal", inPlace := ["internal/bytealg.abigen_runtime_cmpstring"], unfollowed := true, recurses := true, loops := true, apart := false }
def ValueTotalSaid : Prop := valueTotalRow.holds Try.pinned (OpenSpec.ofChange valueTotalSpec)

/-- ITS FALSE NEIGHBOUR: 'it returns false'. Refute it at one input. -/
def valueTotalWrong : ChangeSpec := { name := "valueTotal", fn := fun _ => fun
  | [d1, d2, d3, d4] => { results := [.lit (.bool false)], args := [d1, d2, d3, d4] }
  | _ => none }
def ValueTotalWrongFalsely : Prop := valueTotalRow.holds Try.pinned (OpenSpec.ofChange valueTotalWrong)

/-- 'posternlaw02.ValueWalks': WHATEVER THE INPUT: true; the input reads as it did. -/
def valueWalksSpec : ChangeSpec := { name := "valueWalks", fn := fun _ => fun
  | [d] => { results := [.lit (.bool true)], args := [d] }
  | _ => none }
def valueWalksRow : OpenClaim := { program := "ytckgmdlacaiacaa", sum := "99ae49f0dec336ae0c2a2aa5c81c6552d541f1b23917ce3f8d556084ad388a3d", func := "postern/posternlaw02.ValueWalks", spec := "valueWalks", inPlace := ["internal/bytealg.abigen_runtime_cmpstring"], unfollowed := true, recurses := true, loops := true, apart := false }
def ValueWalksSaid : Prop := valueWalksRow.holds Try.pinned (OpenSpec.ofChange valueWalksSpec)

/-- ITS FALSE NEIGHBOUR: 'it returns false'. Refute it at one input. -/
def valueWalksWrong : ChangeSpec := { name := "valueWalks", fn := fun _ => fun
  | [d] => { results := [.lit (.bool false)], args := [d] }
  | _ => none }
def ValueWalksWrongFalsely : Prop := valueWalksRow.holds Try.pinned (OpenSpec.ofChange valueWalksWrong)

/-- 'posternlaw02.ValueRenamed': WHATEVER THE INPUT: true; the input reads as it did. -/
def valueRenamedSpec : ChangeSpec := { name := "valueRenamed", fn := fun _ => fun
  | [d1, d2, d3, d4] => { results := [.lit (.bool true)], args := [d1, d2, d3, d4] }
  | _ => none }
def valueRenamedRow : OpenClaim := { program := "ytckgmdlacaiacaa", sum := "99ae49f0dec336ae0c2a2aa5c81c6552d541f1b23917ce3f8d556084ad388a3d", func := "postern/posternlaw02.ValueRenamed", spec := "valueRenamed", inPlace := ["internal/bytealg.abigen_runtime_cmpstring"], unfollowed := true, recurses := true, loops := true, apart := false }
def ValueRenamedSaid : Prop := valueRenamedRow.holds Try.pinned (OpenSpec.ofChange valueRenamedSpec)

/-- ITS FALSE NEIGHBOUR: 'it returns false'. Refute it at one input. -/
def valueRenamedWrong : ChangeSpec := { name := "valueRenamed", fn := fun _ => fun
  | [d1, d2, d3, d4] => { results := [.lit (.bool false)], args := [d1, d2, d3, d4] }
  | _ => none }
def ValueRenamedWrongFalsely : Prop := valueRenamedRow.holds Try.pinned (OpenSpec.ofChange valueRenamedWrong)

/-- 'posternlaw02.ValueBack': WHATEVER THE INPUT: true; the input reads as it did. -/
def valueBackSpec : ChangeSpec := { name := "valueBack", fn := fun _ => fun
  | [d1, d2, d3] => { results := [.lit (.bool true)], args := [d1, d2, d3] }
  | _ => none }
def valueBackRow : OpenClaim := { program := "ytckgmdlacaiacaa", sum := "99ae49f0dec336ae0c2a2aa5c81c6552d541f1b23917ce3f8d556084ad388a3d", func := "postern/posternlaw02.ValueBack", spec := "valueBack", inPlace := ["internal/bytealg.abigen_runtime_cmpstring"], unfollowed := true, recurses := true, loops := true, apart := false }
def ValueBackSaid : Prop := valueBackRow.holds Try.pinned (OpenSpec.ofChange valueBackSpec)

/-- ITS FALSE NEIGHBOUR: 'it returns false'. Refute it at one input. -/
def valueBackWrong : ChangeSpec := { name := "valueBack", fn := fun _ => fun
  | [d1, d2, d3] => { results := [.lit (.bool false)], args := [d1, d2, d3] }
  | _ => none }
def ValueBackWrongFalsely : Prop := valueBackRow.holds Try.pinned (OpenSpec.ofChange valueBackWrong)

/- THE SECOND FORM. 'bulk': how many values and letters a reading holds, each counted each time it is reached (what is shared counts as often as it is met; a slice's spare places count too). A statement '..UptoSaid' is the law's where the arguments, and the package variables that the reading takes, are together of bulk at most 1048576: NARROWER than '..Said'. Prove '..Said' where nothing that the law and all that it calls make is longer than what came in: it says more and counts as full. Else prove '..UptoSaid'. A law counts once. -/
mutual
def uptoBulk {H : Type} : DataW H → Nat
  | .lit (.string bytes) => bytes.length + 1
  | .lit _ => 1
  | .nil => 1
  | .ptr d => uptoBulk d + 1
  | .slice elems spare => uptoBulkAll elems + uptoBulkAll spare + 1
  | .agg parts => uptoBulkAll parts + 1
  | .iface _ d => uptoBulk d + 1
  | .map entries => uptoBulkEntries entries + 1
  | .held _ => 1
def uptoBulkAll {H : Type} : List (DataW H) → Nat
  | [] => 0
  | d :: r => uptoBulk d + uptoBulkAll r
def uptoBulkEntries {H : Type} : List (Lit × DataW H) → Nat
  | [] => 0
  | x :: r => uptoBulkEntry x + uptoBulkEntries r
def uptoBulkEntry {H : Type} : Lit × DataW H → Nat
  | (.string bytes, d) => bytes.length + uptoBulk d + 1
  | (_, d) => uptoBulk d + 1
 end
def uptoSmall : (H : Type) → List (DataW H) → Bool := fun _ ds => decide (uptoBulkAll ds ≤ 1048576)
def OpenSpec.upto (s : _root_.Go.ChangeSpec) : _root_.Go.OpenSpec := { _root_.Go.OpenSpec.ofChange s with cond := some uptoSmall }

/-- 'posternlaw02.ValueLooks', WHERE WHAT IT READS IS OF BULK AT MOST 1048576: true; the input reads as it did. -/
def valueLooksUptoRow : OpenClaim := { program := "ytckgmdlacaiacaa", sum := "99ae49f0dec336ae0c2a2aa5c81c6552d541f1b23917ce3f8d556084ad388a3d", func := "postern/posternlaw02.ValueLooks", spec := "valueLooks", inPlace := ["internal/bytealg.abigen_runtime_cmpstring"], unfollowed := true, recurses := true, loops := true, apart := false, narrowed := true }
def ValueLooksUptoSaid : Prop := valueLooksUptoRow.holds Try.pinned (OpenSpec.upto valueLooksSpec)

/-- 'posternlaw02.ValueEach', WHERE WHAT IT READS IS OF BULK AT MOST 1048576: true; the input reads as it did. -/
def valueEachUptoRow : OpenClaim := { program := "ytckgmdlacaiacaa", sum := "99ae49f0dec336ae0c2a2aa5c81c6552d541f1b23917ce3f8d556084ad388a3d", func := "postern/posternlaw02.ValueEach", spec := "valueEach", inPlace := ["internal/bytealg.abigen_runtime_cmpstring"], unfollowed := true, recurses := true, loops := true, apart := false, narrowed := true }
def ValueEachUptoSaid : Prop := valueEachUptoRow.holds Try.pinned (OpenSpec.upto valueEachSpec)

/-- 'posternlaw02.ValuePlaces', WHERE WHAT IT READS IS OF BULK AT MOST 1048576: true; the input reads as it did. -/
def valuePlacesUptoRow : OpenClaim := { program := "ytckgmdlacaiacaa", sum := "99ae49f0dec336ae0c2a2aa5c81c6552d541f1b23917ce3f8d556084ad388a3d", func := "postern/posternlaw02.ValuePlaces", spec := "valuePlaces", inPlace := ["internal/bytealg.abigen_runtime_cmpstring"], unfollowed := true, recurses := true, loops := true, apart := false, narrowed := true }
def ValuePlacesUptoSaid : Prop := valuePlacesUptoRow.holds Try.pinned (OpenSpec.upto valuePlacesSpec)

/-- 'posternlaw02.ValueOrders', WHERE WHAT IT READS IS OF BULK AT MOST 1048576: true; the input reads as it did. -/
def valueOrdersUptoRow : OpenClaim := { program := "ytckgmdlacaiacaa", sum := "99ae49f0dec336ae0c2a2aa5c81c6552d541f1b23917ce3f8d556084ad388a3d", func := "postern/posternlaw02.ValueOrders", spec := "valueOrders", inPlace := ["internal/bytealg.abigen_runtime_cmpstring"], unfollowed := true, recurses := true, loops := true, apart := false, narrowed := true }
def ValueOrdersUptoSaid : Prop := valueOrdersUptoRow.holds Try.pinned (OpenSpec.upto valueOrdersSpec)

/-- 'posternlaw02.ValueOfs', WHERE WHAT IT READS IS OF BULK AT MOST 1048576: true; the input reads as it did. -/
def valueOfsUptoRow : OpenClaim := { program := "ytckgmdlacaiacaa", sum := "99ae49f0dec336ae0c2a2aa5c81c6552d541f1b23917ce3f8d556084ad388a3d", func := "postern/posternlaw02.ValueOfs", spec := "valueOfs", inPlace := ["internal/bytealg.abigen_runtime_cmpstring"], unfollowed := true, recurses := true, loops := true, apart := false, narrowed := true }
def ValueOfsUptoSaid : Prop := valueOfsUptoRow.holds Try.pinned (OpenSpec.upto valueOfsSpec)

/-- 'posternlaw02.ValueRenames', WHERE WHAT IT READS IS OF BULK AT MOST 1048576: true; the input reads as it did. -/
def valueRenamesUptoRow : OpenClaim := { program := "ytckgmdlacaiacaa", sum := "99ae49f0dec336ae0c2a2aa5c81c6552d541f1b23917ce3f8d556084ad388a3d", func := "postern/posternlaw02.ValueRenames", spec := "valueRenames", inPlace := ["internal/bytealg.abigen_runtime_cmpstring"], unfollowed := true, recurses := true, loops := true, apart := false, narrowed := true }
def ValueRenamesUptoSaid : Prop := valueRenamesUptoRow.holds Try.pinned (OpenSpec.upto valueRenamesSpec)

/-- 'posternlaw02.ValueBytes', WHERE WHAT IT READS IS OF BULK AT MOST 1048576: true; the input reads as it did. -/
def valueBytesUptoRow : OpenClaim := { program := "ytckgmdlacaiacaa", sum := "99ae49f0dec336ae0c2a2aa5c81c6552d541f1b23917ce3f8d556084ad388a3d", func := "postern/posternlaw02.ValueBytes", spec := "valueBytes", inPlace := ["internal/bytealg.abigen_runtime_cmpstring"], unfollowed := true, recurses := true, loops := true, apart := false, narrowed := true }
def ValueBytesUptoSaid : Prop := valueBytesUptoRow.holds Try.pinned (OpenSpec.upto valueBytesSpec)

/-- 'posternlaw02.ValueTotal', WHERE WHAT IT READS IS OF BULK AT MOST 1048576: true; the input reads as it did. -/
def valueTotalUptoRow : OpenClaim := { program := "ytckgmdlacaiacaa", sum := "99ae49f0dec336ae0c2a2aa5c81c6552d541f1b23917ce3f8d556084ad388a3d", func := "postern/posternlaw02.ValueTotal", spec := "valueTotal", inPlace := ["internal/bytealg.abigen_runtime_cmpstring"], unfollowed := true, recurses := true, loops := true, apart := false, narrowed := true }
def ValueTotalUptoSaid : Prop := valueTotalUptoRow.holds Try.pinned (OpenSpec.upto valueTotalSpec)

/-- 'posternlaw02.ValueWalks', WHERE WHAT IT READS IS OF BULK AT MOST 1048576: true; the input reads as it did. -/
def valueWalksUptoRow : OpenClaim := { program := "ytckgmdlacaiacaa", sum := "99ae49f0dec336ae0c2a2aa5c81c6552d541f1b23917ce3f8d556084ad388a3d", func := "postern/posternlaw02.ValueWalks", spec := "valueWalks", inPlace := ["internal/bytealg.abigen_runtime_cmpstring"], unfollowed := true, recurses := true, loops := true, apart := false, narrowed := true }
def ValueWalksUptoSaid : Prop := valueWalksUptoRow.holds Try.pinned (OpenSpec.upto valueWalksSpec)

/-- 'posternlaw02.ValueRenamed', WHERE WHAT IT READS IS OF BULK AT MOST 1048576: true; the input reads as it did. -/
def valueRenamedUptoRow : OpenClaim := { program := "ytckgmdlacaiacaa", sum := "99ae49f0dec336ae0c2a2aa5c81c6552d541f1b23917ce3f8d556084ad388a3d", func := "postern/posternlaw02.ValueRenamed", spec := "valueRenamed", inPlace := ["internal/bytealg.abigen_runtime_cmpstring"], unfollowed := true, recurses := true, loops := true, apart := false, narrowed := true }
def ValueRenamedUptoSaid : Prop := valueRenamedUptoRow.holds Try.pinned (OpenSpec.upto valueRenamedSpec)

/-- 'posternlaw02.ValueBack', WHERE WHAT IT READS IS OF BULK AT MOST 1048576: true; the input reads as it did. -/
def valueBackUptoRow : OpenClaim := { program := "ytckgmdlacaiacaa", sum := "99ae49f0dec336ae0c2a2aa5c81c6552d541f1b23917ce3f8d556084ad388a3d", func := "postern/posternlaw02.ValueBack", spec := "valueBack", inPlace := ["internal/bytealg.abigen_runtime_cmpstring"], unfollowed := true, recurses := true, loops := true, apart := false, narrowed := true }
def ValueBackUptoSaid : Prop := valueBackUptoRow.holds Try.pinned (OpenSpec.upto valueBackSpec)

end Rows
end Go.Proofs.Ytckgmdlacaiacaa
