/-
  No cell of these rows narrows 'for every input' (looked for: loops, veiled, ifaces, maps, wideKeys, modest, calm, conditions, laid).
  DERIVED. THE GIVEN ROWS OF THIS SEAT. 3 by the template 'for every input the law returns true; each argument reads behind the call as it read before'; 0 by the template 'total and deterministic' (their statements: YtikccmgpmbnkfaaTotals.lean).
  GIVEN WITH THE SEED: the statements are not yours to turn. If you find one false, say at which input.
  Laid BY PROGRAM, IN A SANDBOX (cutbox-rows.mjs): the forced cells as the released guide's own fill.sh prints them over the translation af636290b2de235f… (all of the seat's roots in one cut). By AI agents, Wed Nov 11 2026. No macro, syntax, notation, axiom, sorry.
-/
import Derived.Test.YtikccmgpmbnkfaaChecked
import GoSem.Claim
import GoSem.ClaimJoined
import GoSem.ClaimMapViews
import Derived.JoinedTies
import Derived.KernelRfl
namespace Go.Proofs.Ytikccmgpmbnkfaa
/- THE CELL 'sum', in the pinned program and in every row, IS THE sha256 OF THE DUMP (.gsa) THAT YtikccmgpmbnkfaaProg.lean LOADS. Nothing in Lean hashes anything: it is a label: what it is worth is what the hold of that sum in a sandbox is worth. -/
noncomputable def Try.pinned : Pinned := { name := "ytikccmgpmbnkfaa", sum := "af636290b2de235f95c4caf4e9394f24fca959d26e20d401a9bf986b47047783", checked := Try.checked }
namespace Rows
def none {H : Type} : Left H := { results := [], args := [] }

/-- 'laws.FnExactBatchOk': WHATEVER THE INPUT: true; the input reads as it did. -/
def fnExactBatchOkSpec : ChangeSpec := { name := "fnExactBatchOk", fn := fun _ => fun
  | [d] => { results := [.lit (.bool true)], args := [d] }
  | _ => none }
def fnExactBatchOkRow : OpenClaim := { program := "ytikccmgpmbnkfaa", sum := "af636290b2de235f95c4caf4e9394f24fca959d26e20d401a9bf986b47047783", func := "loop.example/g00462/laws.FnExactBatchOk", spec := "fnExactBatchOk", unfollowed := true, recurses := true, apart := false }
def FnExactBatchOkSaid : Prop := fnExactBatchOkRow.holds Try.pinned (OpenSpec.ofChange fnExactBatchOkSpec)

/-- ITS FALSE NEIGHBOUR: 'it returns false'. Refute it at one input. -/
def fnExactBatchOkWrong : ChangeSpec := { name := "fnExactBatchOk", fn := fun _ => fun
  | [d] => { results := [.lit (.bool false)], args := [d] }
  | _ => none }
def FnExactBatchOkWrongFalsely : Prop := fnExactBatchOkRow.holds Try.pinned (OpenSpec.ofChange fnExactBatchOkWrong)

/-- 'laws.FnExactPackCut': WHATEVER THE INPUT: true; the input reads as it did. -/
def fnExactPackCutSpec : ChangeSpec := { name := "fnExactPackCut", fn := fun _ => fun
  | [d1, d2] => { results := [.lit (.bool true)], args := [d1, d2] }
  | _ => none }
def fnExactPackCutRow : OpenClaim := { program := "ytikccmgpmbnkfaa", sum := "af636290b2de235f95c4caf4e9394f24fca959d26e20d401a9bf986b47047783", func := "loop.example/g00462/laws.FnExactPackCut", spec := "fnExactPackCut", apart := false }
def FnExactPackCutSaid : Prop := fnExactPackCutRow.holds Try.pinned (OpenSpec.ofChange fnExactPackCutSpec)

/-- ITS FALSE NEIGHBOUR: 'it returns false'. Refute it at one input. -/
def fnExactPackCutWrong : ChangeSpec := { name := "fnExactPackCut", fn := fun _ => fun
  | [d1, d2] => { results := [.lit (.bool false)], args := [d1, d2] }
  | _ => none }
def FnExactPackCutWrongFalsely : Prop := fnExactPackCutRow.holds Try.pinned (OpenSpec.ofChange fnExactPackCutWrong)

/-- 'laws.FnExactStmtBytes': WHATEVER THE INPUT: true; the input reads as it did. -/
def fnExactStmtBytesSpec : ChangeSpec := { name := "fnExactStmtBytes", fn := fun _ => fun
  | [d] => { results := [.lit (.bool true)], args := [d] }
  | _ => none }
def fnExactStmtBytesRow : OpenClaim := { program := "ytikccmgpmbnkfaa", sum := "af636290b2de235f95c4caf4e9394f24fca959d26e20d401a9bf986b47047783", func := "loop.example/g00462/laws.FnExactStmtBytes", spec := "fnExactStmtBytes", apart := false }
def FnExactStmtBytesSaid : Prop := fnExactStmtBytesRow.holds Try.pinned (OpenSpec.ofChange fnExactStmtBytesSpec)

/-- ITS FALSE NEIGHBOUR: 'it returns false'. Refute it at one input. -/
def fnExactStmtBytesWrong : ChangeSpec := { name := "fnExactStmtBytes", fn := fun _ => fun
  | [d] => { results := [.lit (.bool false)], args := [d] }
  | _ => none }
def FnExactStmtBytesWrongFalsely : Prop := fnExactStmtBytesRow.holds Try.pinned (OpenSpec.ofChange fnExactStmtBytesWrong)

/- THE SECOND FORM. 'bulk': how many values and letters a reading holds, each counted each time it is reached (what is shared counts as often as it is met; a slice's spare places count too). A statement '..UptoSaid' is the law's where the arguments, and the package variables that the reading takes, are together of bulk at most 1048576: NARROWER than '..Said'. Prove '..Said' where nothing that the law and all that it calls make is longer than what came in: it says more and counts as full. Else prove '..UptoSaid'. A law counts once. -/
mutual
def uptoBulk {H : Type} : DataW H → Nat
  | .lit (.string bytes) => bytes.length + 1
  | .lit _ => 1
  | .nil => 1
  | .ptr d => uptoBulk d + 1
  | .slice elems spare => uptoBulkAll elems + uptoBulkAll spare + 1
  | .agg parts => uptoBulkAll parts + 1
  | .iface _ d => uptoBulk d + 1
  | .map entries => uptoBulkEntries entries + 1
  | .held _ => 1
def uptoBulkAll {H : Type} : List (DataW H) → Nat
  | [] => 0
  | d :: r => uptoBulk d + uptoBulkAll r
def uptoBulkEntries {H : Type} : List (Lit × DataW H) → Nat
  | [] => 0
  | x :: r => uptoBulkEntry x + uptoBulkEntries r
def uptoBulkEntry {H : Type} : Lit × DataW H → Nat
  | (.string bytes, d) => bytes.length + uptoBulk d + 1
  | (_, d) => uptoBulk d + 1
 end
def uptoSmall : (H : Type) → List (DataW H) → Bool := fun _ ds => decide (uptoBulkAll ds ≤ 1048576)
def OpenSpec.upto (s : _root_.Go.ChangeSpec) : _root_.Go.OpenSpec := { _root_.Go.OpenSpec.ofChange s with cond := some uptoSmall }

/-- 'laws.FnExactBatchOk', WHERE WHAT IT READS IS OF BULK AT MOST 1048576: true; the input reads as it did. -/
def fnExactBatchOkUptoRow : OpenClaim := { program := "ytikccmgpmbnkfaa", sum := "af636290b2de235f95c4caf4e9394f24fca959d26e20d401a9bf986b47047783", func := "loop.example/g00462/laws.FnExactBatchOk", spec := "fnExactBatchOk", unfollowed := true, recurses := true, apart := false, narrowed := true }
def FnExactBatchOkUptoSaid : Prop := fnExactBatchOkUptoRow.holds Try.pinned (OpenSpec.upto fnExactBatchOkSpec)

/-- 'laws.FnExactPackCut', WHERE WHAT IT READS IS OF BULK AT MOST 1048576: true; the input reads as it did. -/
def fnExactPackCutUptoRow : OpenClaim := { program := "ytikccmgpmbnkfaa", sum := "af636290b2de235f95c4caf4e9394f24fca959d26e20d401a9bf986b47047783", func := "loop.example/g00462/laws.FnExactPackCut", spec := "fnExactPackCut", apart := false, narrowed := true }
def FnExactPackCutUptoSaid : Prop := fnExactPackCutUptoRow.holds Try.pinned (OpenSpec.upto fnExactPackCutSpec)

/-- 'laws.FnExactStmtBytes', WHERE WHAT IT READS IS OF BULK AT MOST 1048576: true; the input reads as it did. -/
def fnExactStmtBytesUptoRow : OpenClaim := { program := "ytikccmgpmbnkfaa", sum := "af636290b2de235f95c4caf4e9394f24fca959d26e20d401a9bf986b47047783", func := "loop.example/g00462/laws.FnExactStmtBytes", spec := "fnExactStmtBytes", apart := false, narrowed := true }
def FnExactStmtBytesUptoSaid : Prop := fnExactStmtBytesUptoRow.holds Try.pinned (OpenSpec.upto fnExactStmtBytesSpec)

end Rows
end Go.Proofs.Ytikccmgpmbnkfaa
