/-
  No cell of these rows narrows 'for every input' (looked for: loops, veiled, ifaces, maps, wideKeys, modest, calm, conditions, laid).
  DERIVED. THE GIVEN ROWS OF THIS SEAT. 4 by the template 'for every input the law returns true; each argument reads behind the call as it read before'; 0 by the template 'total and deterministic' (their statements: YtmdohdibpifckaaTotals.lean).
  GIVEN WITH THE SEED: the statements are not yours to turn. If you find one false, say at which input.
  Laid BY PROGRAM, IN A SANDBOX (cutbox-rows.mjs): the forced cells as the released guide's own fill.sh prints them over the translation 85f1d428e03df65b… (all of the seat's roots in one cut). By AI agents, Wed Nov 11 2026. No macro, syntax, notation, axiom, sorry.
-/
import Derived.Test.YtmdohdibpifckaaChecked
import GoSem.Claim
import GoSem.ClaimJoined
import GoSem.ClaimMapViews
import Derived.JoinedTies
import Derived.KernelRfl
namespace Go.Proofs.Ytmdohdibpifckaa
/- THE CELL 'sum', in the pinned program and in every row, IS THE sha256 OF THE DUMP (.gsa) THAT YtmdohdibpifckaaProg.lean LOADS. Nothing in Lean hashes anything: it is a label: what it is worth is what the hold of that sum in a sandbox is worth. -/
noncomputable def Try.pinned : Pinned := { name := "ytmdohdibpifckaa", sum := "85f1d428e03df65bc50c27779b881e9ea4fcf3806c85602f3475d7ebcd8d8290", checked := Try.checked }
namespace Rows
def none {H : Type} : Left H := { results := [], args := [] }

/-- 'caissonlaw11.Remaps': WHATEVER THE INPUT: true; the input reads as it did. -/
def remapsSpec : ChangeSpec := { name := "remaps", fn := fun _ => fun
  | [d1, d2] => { results := [.lit (.bool true)], args := [d1, d2] }
  | _ => none }
def remapsRow : OpenClaim := { program := "ytmdohdibpifckaa", sum := "85f1d428e03df65bc50c27779b881e9ea4fcf3806c85602f3475d7ebcd8d8290", func := "caisson/caissonlaw11.Remaps", spec := "remaps", apart := false }
def RemapsSaid : Prop := remapsRow.holds Try.pinned (OpenSpec.ofChange remapsSpec)

/-- ITS FALSE NEIGHBOUR: 'it returns false'. Refute it at one input. -/
def remapsWrong : ChangeSpec := { name := "remaps", fn := fun _ => fun
  | [d1, d2] => { results := [.lit (.bool false)], args := [d1, d2] }
  | _ => none }
def RemapsWrongFalsely : Prop := remapsRow.holds Try.pinned (OpenSpec.ofChange remapsWrong)

/-- 'caissonlaw11.RemapLast': WHATEVER THE INPUT: true; the input reads as it did. -/
def remapLastSpec : ChangeSpec := { name := "remapLast", fn := fun _ => fun
  | [d] => { results := [.lit (.bool true)], args := [d] }
  | _ => none }
def remapLastRow : OpenClaim := { program := "ytmdohdibpifckaa", sum := "85f1d428e03df65bc50c27779b881e9ea4fcf3806c85602f3475d7ebcd8d8290", func := "caisson/caissonlaw11.RemapLast", spec := "remapLast", apart := false }
def RemapLastSaid : Prop := remapLastRow.holds Try.pinned (OpenSpec.ofChange remapLastSpec)

/-- ITS FALSE NEIGHBOUR: 'it returns false'. Refute it at one input. -/
def remapLastWrong : ChangeSpec := { name := "remapLast", fn := fun _ => fun
  | [d] => { results := [.lit (.bool false)], args := [d] }
  | _ => none }
def RemapLastWrongFalsely : Prop := remapLastRow.holds Try.pinned (OpenSpec.ofChange remapLastWrong)

/-- 'caissonlaw11.RemapForms': WHATEVER THE INPUT: true; the input reads as it did. -/
def remapFormsSpec : ChangeSpec := { name := "remapForms", fn := fun _ => fun
  | [d1, d2] => { results := [.lit (.bool true)], args := [d1, d2] }
  | _ => none }
def remapFormsRow : OpenClaim := { program := "ytmdohdibpifckaa", sum := "85f1d428e03df65bc50c27779b881e9ea4fcf3806c85602f3475d7ebcd8d8290", func := "caisson/caissonlaw11.RemapForms", spec := "remapForms", apart := false }
def RemapFormsSaid : Prop := remapFormsRow.holds Try.pinned (OpenSpec.ofChange remapFormsSpec)

/-- ITS FALSE NEIGHBOUR: 'it returns false'. Refute it at one input. -/
def remapFormsWrong : ChangeSpec := { name := "remapForms", fn := fun _ => fun
  | [d1, d2] => { results := [.lit (.bool false)], args := [d1, d2] }
  | _ => none }
def RemapFormsWrongFalsely : Prop := remapFormsRow.holds Try.pinned (OpenSpec.ofChange remapFormsWrong)

/-- 'caissonlaw11.RemapClears': WHATEVER THE INPUT: true; the input reads as it did. -/
def remapClearsSpec : ChangeSpec := { name := "remapClears", fn := fun _ => fun
  | [d1, d2] => { results := [.lit (.bool true)], args := [d1, d2] }
  | _ => none }
def remapClearsRow : OpenClaim := { program := "ytmdohdibpifckaa", sum := "85f1d428e03df65bc50c27779b881e9ea4fcf3806c85602f3475d7ebcd8d8290", func := "caisson/caissonlaw11.RemapClears", spec := "remapClears", apart := false }
def RemapClearsSaid : Prop := remapClearsRow.holds Try.pinned (OpenSpec.ofChange remapClearsSpec)

/-- ITS FALSE NEIGHBOUR: 'it returns false'. Refute it at one input. -/
def remapClearsWrong : ChangeSpec := { name := "remapClears", fn := fun _ => fun
  | [d1, d2] => { results := [.lit (.bool false)], args := [d1, d2] }
  | _ => none }
def RemapClearsWrongFalsely : Prop := remapClearsRow.holds Try.pinned (OpenSpec.ofChange remapClearsWrong)

/- THE SECOND FORM. 'bulk': how many values and letters a reading holds, each counted each time it is reached (what is shared counts as often as it is met; a slice's spare places count too). A statement '..UptoSaid' is the law's where the arguments, and the package variables that the reading takes, are together of bulk at most 1048576: NARROWER than '..Said'. Prove '..Said' where nothing that the law and all that it calls make is longer than what came in: it says more and counts as full. Else prove '..UptoSaid'. A law counts once. -/
mutual
def uptoBulk {H : Type} : DataW H → Nat
  | .lit (.string bytes) => bytes.length + 1
  | .lit _ => 1
  | .nil => 1
  | .ptr d => uptoBulk d + 1
  | .slice elems spare => uptoBulkAll elems + uptoBulkAll spare + 1
  | .agg parts => uptoBulkAll parts + 1
  | .iface _ d => uptoBulk d + 1
  | .map entries => uptoBulkEntries entries + 1
  | .held _ => 1
def uptoBulkAll {H : Type} : List (DataW H) → Nat
  | [] => 0
  | d :: r => uptoBulk d + uptoBulkAll r
def uptoBulkEntries {H : Type} : List (Lit × DataW H) → Nat
  | [] => 0
  | x :: r => uptoBulkEntry x + uptoBulkEntries r
def uptoBulkEntry {H : Type} : Lit × DataW H → Nat
  | (.string bytes, d) => bytes.length + uptoBulk d + 1
  | (_, d) => uptoBulk d + 1
 end
def uptoSmall : (H : Type) → List (DataW H) → Bool := fun _ ds => decide (uptoBulkAll ds ≤ 1048576)
def OpenSpec.upto (s : _root_.Go.ChangeSpec) : _root_.Go.OpenSpec := { _root_.Go.OpenSpec.ofChange s with cond := some uptoSmall }

/-- 'caissonlaw11.Remaps', WHERE WHAT IT READS IS OF BULK AT MOST 1048576: true; the input reads as it did. -/
def remapsUptoRow : OpenClaim := { program := "ytmdohdibpifckaa", sum := "85f1d428e03df65bc50c27779b881e9ea4fcf3806c85602f3475d7ebcd8d8290", func := "caisson/caissonlaw11.Remaps", spec := "remaps", apart := false, narrowed := true }
def RemapsUptoSaid : Prop := remapsUptoRow.holds Try.pinned (OpenSpec.upto remapsSpec)

/-- 'caissonlaw11.RemapLast', WHERE WHAT IT READS IS OF BULK AT MOST 1048576: true; the input reads as it did. -/
def remapLastUptoRow : OpenClaim := { program := "ytmdohdibpifckaa", sum := "85f1d428e03df65bc50c27779b881e9ea4fcf3806c85602f3475d7ebcd8d8290", func := "caisson/caissonlaw11.RemapLast", spec := "remapLast", apart := false, narrowed := true }
def RemapLastUptoSaid : Prop := remapLastUptoRow.holds Try.pinned (OpenSpec.upto remapLastSpec)

/-- 'caissonlaw11.RemapForms', WHERE WHAT IT READS IS OF BULK AT MOST 1048576: true; the input reads as it did. -/
def remapFormsUptoRow : OpenClaim := { program := "ytmdohdibpifckaa", sum := "85f1d428e03df65bc50c27779b881e9ea4fcf3806c85602f3475d7ebcd8d8290", func := "caisson/caissonlaw11.RemapForms", spec := "remapForms", apart := false, narrowed := true }
def RemapFormsUptoSaid : Prop := remapFormsUptoRow.holds Try.pinned (OpenSpec.upto remapFormsSpec)

/-- 'caissonlaw11.RemapClears', WHERE WHAT IT READS IS OF BULK AT MOST 1048576: true; the input reads as it did. -/
def remapClearsUptoRow : OpenClaim := { program := "ytmdohdibpifckaa", sum := "85f1d428e03df65bc50c27779b881e9ea4fcf3806c85602f3475d7ebcd8d8290", func := "caisson/caissonlaw11.RemapClears", spec := "remapClears", apart := false, narrowed := true }
def RemapClearsUptoSaid : Prop := remapClearsUptoRow.holds Try.pinned (OpenSpec.upto remapClearsSpec)

end Rows
end Go.Proofs.Ytmdohdibpifckaa
