/-
  No cell of these rows narrows 'for every input' (looked for: loops, veiled, ifaces, maps, wideKeys, modest, calm, conditions, laid).
  DERIVED. THE GIVEN ROWS OF THIS SEAT. 5 by the template 'for every input the law returns true; each argument reads behind the call as it read before'; 0 by the template 'total and deterministic' (their statements: YtjmdgjpepogogaaTotals.lean).
  GIVEN WITH THE SEED: the statements are not yours to turn. If you find one false, say at which input.
  Laid BY PROGRAM, IN A SANDBOX (cutbox-rows.mjs): the forced cells as the released guide's own fill.sh prints them over the translation 7a7fca9940336ec7… (all of the seat's roots in one cut). By AI agents, Wed Nov 11 2026. No macro, syntax, notation, axiom, sorry.
-/
import Derived.Test.YtjmdgjpepogogaaChecked
import GoSem.Claim
import GoSem.ClaimJoined
import GoSem.ClaimMapViews
import Derived.JoinedTies
import Derived.KernelRfl
namespace Go.Proofs.Ytjmdgjpepogogaa
/- THE CELL 'sum', in the pinned program and in every row, IS THE sha256 OF THE DUMP (.gsa) THAT YtjmdgjpepogogaaProg.lean LOADS. Nothing in Lean hashes anything: it is a label: what it is worth is what the hold of that sum in a sandbox is worth. -/
noncomputable def Try.pinned : Pinned := { name := "ytjmdgjpepogogaa", sum := "7a7fca9940336ec709412a147daa8cdf726c073d59292259d36078fc43a346fc", checked := Try.checked }
namespace Rows
def none {H : Type} : Left H := { results := [], args := [] }

/-- 'caissonlaw13.Units': WHATEVER THE INPUT: true; the input reads as it did. -/
def unitsSpec : ChangeSpec := { name := "units", fn := fun _ => fun
  | [d1, d2, d3] => { results := [.lit (.bool true)], args := [d1, d2, d3] }
  | _ => none }
def unitsRow : OpenClaim := { program := "ytjmdgjpepogogaa", sum := "7a7fca9940336ec709412a147daa8cdf726c073d59292259d36078fc43a346fc", func := "caisson/caissonlaw13.Units", spec := "units", unfollowed := true, recurses := true, plainKeys := false, apart := false }
def UnitsSaid : Prop := unitsRow.holds Try.pinned (OpenSpec.ofChange unitsSpec)

/-- ITS FALSE NEIGHBOUR: 'it returns false'. Refute it at one input. -/
def unitsWrong : ChangeSpec := { name := "units", fn := fun _ => fun
  | [d1, d2, d3] => { results := [.lit (.bool false)], args := [d1, d2, d3] }
  | _ => none }
def UnitsWrongFalsely : Prop := unitsRow.holds Try.pinned (OpenSpec.ofChange unitsWrong)

/-- 'caissonlaw13.IrqWalks': WHATEVER THE INPUT: true; the input reads as it did. -/
def irqWalksSpec : ChangeSpec := { name := "irqWalks", fn := fun _ => fun
  | [d] => { results := [.lit (.bool true)], args := [d] }
  | _ => none }
def irqWalksRow : OpenClaim := { program := "ytjmdgjpepogogaa", sum := "7a7fca9940336ec709412a147daa8cdf726c073d59292259d36078fc43a346fc", func := "caisson/caissonlaw13.IrqWalks", spec := "irqWalks", unfollowed := true, recurses := true, plainKeys := false, apart := false }
def IrqWalksSaid : Prop := irqWalksRow.holds Try.pinned (OpenSpec.ofChange irqWalksSpec)

/-- ITS FALSE NEIGHBOUR: 'it returns false'. Refute it at one input. -/
def irqWalksWrong : ChangeSpec := { name := "irqWalks", fn := fun _ => fun
  | [d] => { results := [.lit (.bool false)], args := [d] }
  | _ => none }
def IrqWalksWrongFalsely : Prop := irqWalksRow.holds Try.pinned (OpenSpec.ofChange irqWalksWrong)

/-- 'caissonlaw13.IrqForms': WHATEVER THE INPUT: true; the input reads as it did. -/
def irqFormsSpec : ChangeSpec := { name := "irqForms", fn := fun _ => fun
  | [d1, d2] => { results := [.lit (.bool true)], args := [d1, d2] }
  | _ => none }
def irqFormsRow : OpenClaim := { program := "ytjmdgjpepogogaa", sum := "7a7fca9940336ec709412a147daa8cdf726c073d59292259d36078fc43a346fc", func := "caisson/caissonlaw13.IrqForms", spec := "irqForms", unfollowed := true, recurses := true, plainKeys := false, apart := false }
def IrqFormsSaid : Prop := irqFormsRow.holds Try.pinned (OpenSpec.ofChange irqFormsSpec)

/-- ITS FALSE NEIGHBOUR: 'it returns false'. Refute it at one input. -/
def irqFormsWrong : ChangeSpec := { name := "irqForms", fn := fun _ => fun
  | [d1, d2] => { results := [.lit (.bool false)], args := [d1, d2] }
  | _ => none }
def IrqFormsWrongFalsely : Prop := irqFormsRow.holds Try.pinned (OpenSpec.ofChange irqFormsWrong)

/-- 'caissonlaw13.IrqClears': WHATEVER THE INPUT: true; the input reads as it did. -/
def irqClearsSpec : ChangeSpec := { name := "irqClears", fn := fun _ => fun
  | [d] => { results := [.lit (.bool true)], args := [d] }
  | _ => none }
def irqClearsRow : OpenClaim := { program := "ytjmdgjpepogogaa", sum := "7a7fca9940336ec709412a147daa8cdf726c073d59292259d36078fc43a346fc", func := "caisson/caissonlaw13.IrqClears", spec := "irqClears", unfollowed := true, recurses := true, plainKeys := false, apart := false }
def IrqClearsSaid : Prop := irqClearsRow.holds Try.pinned (OpenSpec.ofChange irqClearsSpec)

/-- ITS FALSE NEIGHBOUR: 'it returns false'. Refute it at one input. -/
def irqClearsWrong : ChangeSpec := { name := "irqClears", fn := fun _ => fun
  | [d] => { results := [.lit (.bool false)], args := [d] }
  | _ => none }
def IrqClearsWrongFalsely : Prop := irqClearsRow.holds Try.pinned (OpenSpec.ofChange irqClearsWrong)

/-- 'caissonlaw13.IrqApart': WHATEVER THE INPUT: true; the input reads as it did. -/
def irqApartSpec : ChangeSpec := { name := "irqApart", fn := fun _ => fun
  | [d] => { results := [.lit (.bool true)], args := [d] }
  | _ => none }
def irqApartRow : OpenClaim := { program := "ytjmdgjpepogogaa", sum := "7a7fca9940336ec709412a147daa8cdf726c073d59292259d36078fc43a346fc", func := "caisson/caissonlaw13.IrqApart", spec := "irqApart", unfollowed := true, recurses := true, plainKeys := false, apart := false }
def IrqApartSaid : Prop := irqApartRow.holds Try.pinned (OpenSpec.ofChange irqApartSpec)

/-- ITS FALSE NEIGHBOUR: 'it returns false'. Refute it at one input. -/
def irqApartWrong : ChangeSpec := { name := "irqApart", fn := fun _ => fun
  | [d] => { results := [.lit (.bool false)], args := [d] }
  | _ => none }
def IrqApartWrongFalsely : Prop := irqApartRow.holds Try.pinned (OpenSpec.ofChange irqApartWrong)

/- THE SECOND FORM. 'bulk': how many values and letters a reading holds, each counted each time it is reached (what is shared counts as often as it is met; a slice's spare places count too). A statement '..UptoSaid' is the law's where the arguments, and the package variables that the reading takes, are together of bulk at most 1048576: NARROWER than '..Said'. Prove '..Said' where nothing that the law and all that it calls make is longer than what came in: it says more and counts as full. Else prove '..UptoSaid'. A law counts once. -/
mutual
def uptoBulk {H : Type} : DataW H → Nat
  | .lit (.string bytes) => bytes.length + 1
  | .lit _ => 1
  | .nil => 1
  | .ptr d => uptoBulk d + 1
  | .slice elems spare => uptoBulkAll elems + uptoBulkAll spare + 1
  | .agg parts => uptoBulkAll parts + 1
  | .iface _ d => uptoBulk d + 1
  | .map entries => uptoBulkEntries entries + 1
  | .held _ => 1
def uptoBulkAll {H : Type} : List (DataW H) → Nat
  | [] => 0
  | d :: r => uptoBulk d + uptoBulkAll r
def uptoBulkEntries {H : Type} : List (Lit × DataW H) → Nat
  | [] => 0
  | x :: r => uptoBulkEntry x + uptoBulkEntries r
def uptoBulkEntry {H : Type} : Lit × DataW H → Nat
  | (.string bytes, d) => bytes.length + uptoBulk d + 1
  | (_, d) => uptoBulk d + 1
 end
def uptoSmall : (H : Type) → List (DataW H) → Bool := fun _ ds => decide (uptoBulkAll ds ≤ 1048576)
def OpenSpec.upto (s : _root_.Go.ChangeSpec) : _root_.Go.OpenSpec := { _root_.Go.OpenSpec.ofChange s with cond := some uptoSmall }

/-- 'caissonlaw13.Units', WHERE WHAT IT READS IS OF BULK AT MOST 1048576: true; the input reads as it did. -/
def unitsUptoRow : OpenClaim := { program := "ytjmdgjpepogogaa", sum := "7a7fca9940336ec709412a147daa8cdf726c073d59292259d36078fc43a346fc", func := "caisson/caissonlaw13.Units", spec := "units", unfollowed := true, recurses := true, plainKeys := false, apart := false, narrowed := true }
def UnitsUptoSaid : Prop := unitsUptoRow.holds Try.pinned (OpenSpec.upto unitsSpec)

/-- 'caissonlaw13.IrqWalks', WHERE WHAT IT READS IS OF BULK AT MOST 1048576: true; the input reads as it did. -/
def irqWalksUptoRow : OpenClaim := { program := "ytjmdgjpepogogaa", sum := "7a7fca9940336ec709412a147daa8cdf726c073d59292259d36078fc43a346fc", func := "caisson/caissonlaw13.IrqWalks", spec := "irqWalks", unfollowed := true, recurses := true, plainKeys := false, apart := false, narrowed := true }
def IrqWalksUptoSaid : Prop := irqWalksUptoRow.holds Try.pinned (OpenSpec.upto irqWalksSpec)

/-- 'caissonlaw13.IrqForms', WHERE WHAT IT READS IS OF BULK AT MOST 1048576: true; the input reads as it did. -/
def irqFormsUptoRow : OpenClaim := { program := "ytjmdgjpepogogaa", sum := "7a7fca9940336ec709412a147daa8cdf726c073d59292259d36078fc43a346fc", func := "caisson/caissonlaw13.IrqForms", spec := "irqForms", unfollowed := true, recurses := true, plainKeys := false, apart := false, narrowed := true }
def IrqFormsUptoSaid : Prop := irqFormsUptoRow.holds Try.pinned (OpenSpec.upto irqFormsSpec)

/-- 'caissonlaw13.IrqClears', WHERE WHAT IT READS IS OF BULK AT MOST 1048576: true; the input reads as it did. -/
def irqClearsUptoRow : OpenClaim := { program := "ytjmdgjpepogogaa", sum := "7a7fca9940336ec709412a147daa8cdf726c073d59292259d36078fc43a346fc", func := "caisson/caissonlaw13.IrqClears", spec := "irqClears", unfollowed := true, recurses := true, plainKeys := false, apart := false, narrowed := true }
def IrqClearsUptoSaid : Prop := irqClearsUptoRow.holds Try.pinned (OpenSpec.upto irqClearsSpec)

/-- 'caissonlaw13.IrqApart', WHERE WHAT IT READS IS OF BULK AT MOST 1048576: true; the input reads as it did. -/
def irqApartUptoRow : OpenClaim := { program := "ytjmdgjpepogogaa", sum := "7a7fca9940336ec709412a147daa8cdf726c073d59292259d36078fc43a346fc", func := "caisson/caissonlaw13.IrqApart", spec := "irqApart", unfollowed := true, recurses := true, plainKeys := false, apart := false, narrowed := true }
def IrqApartUptoSaid : Prop := irqApartUptoRow.holds Try.pinned (OpenSpec.upto irqApartSpec)

end Rows
end Go.Proofs.Ytjmdgjpepogogaa
