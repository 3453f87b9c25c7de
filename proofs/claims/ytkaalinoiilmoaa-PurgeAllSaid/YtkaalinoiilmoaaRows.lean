/-
  No cell of these rows narrows 'for every input' (looked for: loops, veiled, ifaces, maps, wideKeys, modest, calm, conditions, laid).
  DERIVED. THE GIVEN ROWS OF THIS SEAT. 7 by the template 'for every input the law returns true; each argument reads behind the call as it read before'; 0 by the template 'total and deterministic' (their statements: YtkaalinoiilmoaaTotals.lean).
  GIVEN WITH THE SEED: the statements are not yours to turn. If you find one false, say at which input.
  Laid BY PROGRAM, IN A SANDBOX (cutbox-rows.mjs): the forced cells as the released guide's own fill.sh prints them over the translation fb457c69226c501e… (all of the seat's roots in one cut). By AI agents, Wed Nov 11 2026. No macro, syntax, notation, axiom, sorry.
-/
import Derived.Test.YtkaalinoiilmoaaChecked
import GoSem.Claim
import GoSem.ClaimJoined
import GoSem.ClaimMapViews
import Derived.JoinedTies
import Derived.KernelRfl
namespace Go.Proofs.Ytkaalinoiilmoaa
/- THE CELL 'sum', in the pinned program and in every row, IS THE sha256 OF THE DUMP (.gsa) THAT YtkaalinoiilmoaaProg.lean LOADS. Nothing in Lean hashes anything: it is a label: what it is worth is what the hold of that sum in a sandbox is worth. -/
noncomputable def Try.pinned : Pinned := { name := "ytkaalinoiilmoaa", sum := "fb457c69226c501ef99bb90f22ba264a4e4d2db6127d59313b6da336c6635fc9", checked := Try.checked }
namespace Rows
def none {H : Type} : Left H := { results := [], args := [] }

/-- 'caissonlaw23.FlowOrder': WHATEVER THE INPUT: true; the input reads as it did. -/
def flowOrderSpec : ChangeSpec := { name := "flowOrder", fn := fun _ => fun
  | [d1, d2, d3, d4] => { results := [.lit (.bool true)], args := [d1, d2, d3, d4] }
  | _ => none }
def flowOrderRow : OpenClaim := { program := "ytkaalinoiilmoaa", sum := "fb457c69226c501ef99bb90f22ba264a4e4d2db6127d59313b6da336c6635fc9", func := "caisson/caissonlaw23.FlowOrder", spec := "flowOrder", unfollowed := true, recurses := true, apart := false }
def FlowOrderSaid : Prop := flowOrderRow.holds Try.pinned (OpenSpec.ofChange flowOrderSpec)

/-- ITS FALSE NEIGHBOUR: 'it returns false'. Refute it at one input. -/
def flowOrderWrong : ChangeSpec := { name := "flowOrder", fn := fun _ => fun
  | [d1, d2, d3, d4] => { results := [.lit (.bool false)], args := [d1, d2, d3, d4] }
  | _ => none }
def FlowOrderWrongFalsely : Prop := flowOrderRow.holds Try.pinned (OpenSpec.ofChange flowOrderWrong)

/-- 'caissonlaw23.PurgeAgain': WHATEVER THE INPUT: true; the input reads as it did. -/
def purgeAgainSpec : ChangeSpec := { name := "purgeAgain", fn := fun _ => fun
  | [d1, d2, d3] => { results := [.lit (.bool true)], args := [d1, d2, d3] }
  | _ => none }
def purgeAgainRow : OpenClaim := { program := "ytkaalinoiilmoaa", sum := "fb457c69226c501ef99bb90f22ba264a4e4d2db6127d59313b6da336c6635fc9", func := "caisson/caissonlaw23.PurgeAgain", spec := "purgeAgain", unfollowed := true, recurses := true, apart := false }
def PurgeAgainSaid : Prop := purgeAgainRow.holds Try.pinned (OpenSpec.ofChange purgeAgainSpec)

/-- ITS FALSE NEIGHBOUR: 'it returns false'. Refute it at one input. -/
def purgeAgainWrong : ChangeSpec := { name := "purgeAgain", fn := fun _ => fun
  | [d1, d2, d3] => { results := [.lit (.bool false)], args := [d1, d2, d3] }
  | _ => none }
def PurgeAgainWrongFalsely : Prop := purgeAgainRow.holds Try.pinned (OpenSpec.ofChange purgeAgainWrong)

/-- 'caissonlaw23.FlowPlain': WHATEVER THE INPUT: true; the input reads as it did. -/
def flowPlainSpec : ChangeSpec := { name := "flowPlain", fn := fun _ => fun
  | [d1, d2] => { results := [.lit (.bool true)], args := [d1, d2] }
  | _ => none }
def flowPlainRow : OpenClaim := { program := "ytkaalinoiilmoaa", sum := "fb457c69226c501ef99bb90f22ba264a4e4d2db6127d59313b6da336c6635fc9", func := "caisson/caissonlaw23.FlowPlain", spec := "flowPlain", unfollowed := true, recurses := true, apart := false }
def FlowPlainSaid : Prop := flowPlainRow.holds Try.pinned (OpenSpec.ofChange flowPlainSpec)

/-- ITS FALSE NEIGHBOUR: 'it returns false'. Refute it at one input. -/
def flowPlainWrong : ChangeSpec := { name := "flowPlain", fn := fun _ => fun
  | [d1, d2] => { results := [.lit (.bool false)], args := [d1, d2] }
  | _ => none }
def FlowPlainWrongFalsely : Prop := flowPlainRow.holds Try.pinned (OpenSpec.ofChange flowPlainWrong)

/-- 'caissonlaw23.PurgeCalls': WHATEVER THE INPUT: true; the input reads as it did. -/
def purgeCallsSpec : ChangeSpec := { name := "purgeCalls", fn := fun _ => fun
  | [d1, d2] => { results := [.lit (.bool true)], args := [d1, d2] }
  | _ => none }
def purgeCallsRow : OpenClaim := { program := "ytkaalinoiilmoaa", sum := "fb457c69226c501ef99bb90f22ba264a4e4d2db6127d59313b6da336c6635fc9", func := "caisson/caissonlaw23.PurgeCalls", spec := "purgeCalls", unfollowed := true, recurses := true, apart := false }
def PurgeCallsSaid : Prop := purgeCallsRow.holds Try.pinned (OpenSpec.ofChange purgeCallsSpec)

/-- ITS FALSE NEIGHBOUR: 'it returns false'. Refute it at one input. -/
def purgeCallsWrong : ChangeSpec := { name := "purgeCalls", fn := fun _ => fun
  | [d1, d2] => { results := [.lit (.bool false)], args := [d1, d2] }
  | _ => none }
def PurgeCallsWrongFalsely : Prop := purgeCallsRow.holds Try.pinned (OpenSpec.ofChange purgeCallsWrong)

/-- 'caissonlaw23.PurgeOwners': WHATEVER THE INPUT: true; the input reads as it did. -/
def purgeOwnersSpec : ChangeSpec := { name := "purgeOwners", fn := fun _ => fun
  | [d] => { results := [.lit (.bool true)], args := [d] }
  | _ => none }
def purgeOwnersRow : OpenClaim := { program := "ytkaalinoiilmoaa", sum := "fb457c69226c501ef99bb90f22ba264a4e4d2db6127d59313b6da336c6635fc9", func := "caisson/caissonlaw23.PurgeOwners", spec := "purgeOwners", unfollowed := true, recurses := true, apart := false }
def PurgeOwnersSaid : Prop := purgeOwnersRow.holds Try.pinned (OpenSpec.ofChange purgeOwnersSpec)

/-- ITS FALSE NEIGHBOUR: 'it returns false'. Refute it at one input. -/
def purgeOwnersWrong : ChangeSpec := { name := "purgeOwners", fn := fun _ => fun
  | [d] => { results := [.lit (.bool false)], args := [d] }
  | _ => none }
def PurgeOwnersWrongFalsely : Prop := purgeOwnersRow.holds Try.pinned (OpenSpec.ofChange purgeOwnersWrong)

/-- 'caissonlaw23.PurgeParts': WHATEVER THE INPUT: true; the input reads as it did. -/
def purgePartsSpec : ChangeSpec := { name := "purgeParts", fn := fun _ => fun
  | [d1, d2, d3, d4] => { results := [.lit (.bool true)], args := [d1, d2, d3, d4] }
  | _ => none }
def purgePartsRow : OpenClaim := { program := "ytkaalinoiilmoaa", sum := "fb457c69226c501ef99bb90f22ba264a4e4d2db6127d59313b6da336c6635fc9", func := "caisson/caissonlaw23.PurgeParts", spec := "purgeParts", unfollowed := true, recurses := true, apart := false }
def PurgePartsSaid : Prop := purgePartsRow.holds Try.pinned (OpenSpec.ofChange purgePartsSpec)

/-- ITS FALSE NEIGHBOUR: 'it returns false'. Refute it at one input. -/
def purgePartsWrong : ChangeSpec := { name := "purgeParts", fn := fun _ => fun
  | [d1, d2, d3, d4] => { results := [.lit (.bool false)], args := [d1, d2, d3, d4] }
  | _ => none }
def PurgePartsWrongFalsely : Prop := purgePartsRow.holds Try.pinned (OpenSpec.ofChange purgePartsWrong)

/-- 'caissonlaw23.PurgeAll': WHATEVER THE INPUT: true; the input reads as it did. -/
def purgeAllSpec : ChangeSpec := { name := "purgeAll", fn := fun _ => fun
  | [d] => { results := [.lit (.bool true)], args := [d] }
  | _ => none }
def purgeAllRow : OpenClaim := { program := "ytkaalinoiilmoaa", sum := "fb457c69226c501ef99bb90f22ba264a4e4d2db6127d59313b6da336c6635fc9", func := "caisson/caissonlaw23.PurgeAll", spec := "purgeAll", unfollowed := true, recurses := true, apart := false }
def PurgeAllSaid : Prop := purgeAllRow.holds Try.pinned (OpenSpec.ofChange purgeAllSpec)

/-- ITS FALSE NEIGHBOUR: 'it returns false'. Refute it at one input. -/
def purgeAllWrong : ChangeSpec := { name := "purgeAll", fn := fun _ => fun
  | [d] => { results := [.lit (.bool false)], args := [d] }
  | _ => none }
def PurgeAllWrongFalsely : Prop := purgeAllRow.holds Try.pinned (OpenSpec.ofChange purgeAllWrong)

/- THE SECOND FORM. 'bulk': how many values and letters a reading holds, each counted each time it is reached (what is shared counts as often as it is met; a slice's spare places count too). A statement '..UptoSaid' is the law's where the arguments, and the package variables that the reading takes, are together of bulk at most 1048576: NARROWER than '..Said'. Prove '..Said' where nothing that the law and all that it calls make is longer than what came in: it says more and counts as full. Else prove '..UptoSaid'. A law counts once. -/
mutual
def uptoBulk {H : Type} : DataW H → Nat
  | .lit (.string bytes) => bytes.length + 1
  | .lit _ => 1
  | .nil => 1
  | .ptr d => uptoBulk d + 1
  | .slice elems spare => uptoBulkAll elems + uptoBulkAll spare + 1
  | .agg parts => uptoBulkAll parts + 1
  | .iface _ d => uptoBulk d + 1
  | .map entries => uptoBulkEntries entries + 1
  | .held _ => 1
def uptoBulkAll {H : Type} : List (DataW H) → Nat
  | [] => 0
  | d :: r => uptoBulk d + uptoBulkAll r
def uptoBulkEntries {H : Type} : List (Lit × DataW H) → Nat
  | [] => 0
  | x :: r => uptoBulkEntry x + uptoBulkEntries r
def uptoBulkEntry {H : Type} : Lit × DataW H → Nat
  | (.string bytes, d) => bytes.length + uptoBulk d + 1
  | (_, d) => uptoBulk d + 1
 end
def uptoSmall : (H : Type) → List (DataW H) → Bool := fun _ ds => decide (uptoBulkAll ds ≤ 1048576)
def OpenSpec.upto (s : _root_.Go.ChangeSpec) : _root_.Go.OpenSpec := { _root_.Go.OpenSpec.ofChange s with cond := some uptoSmall }

/-- 'caissonlaw23.FlowOrder', WHERE WHAT IT READS IS OF BULK AT MOST 1048576: true; the input reads as it did. -/
def flowOrderUptoRow : OpenClaim := { program := "ytkaalinoiilmoaa", sum := "fb457c69226c501ef99bb90f22ba264a4e4d2db6127d59313b6da336c6635fc9", func := "caisson/caissonlaw23.FlowOrder", spec := "flowOrder", unfollowed := true, recurses := true, apart := false, narrowed := true }
def FlowOrderUptoSaid : Prop := flowOrderUptoRow.holds Try.pinned (OpenSpec.upto flowOrderSpec)

/-- 'caissonlaw23.PurgeAgain', WHERE WHAT IT READS IS OF BULK AT MOST 1048576: true; the input reads as it did. -/
def purgeAgainUptoRow : OpenClaim := { program := "ytkaalinoiilmoaa", sum := "fb457c69226c501ef99bb90f22ba264a4e4d2db6127d59313b6da336c6635fc9", func := "caisson/caissonlaw23.PurgeAgain", spec := "purgeAgain", unfollowed := true, recurses := true, apart := false, narrowed := true }
def PurgeAgainUptoSaid : Prop := purgeAgainUptoRow.holds Try.pinned (OpenSpec.upto purgeAgainSpec)

/-- 'caissonlaw23.FlowPlain', WHERE WHAT IT READS IS OF BULK AT MOST 1048576: true; the input reads as it did. -/
def flowPlainUptoRow : OpenClaim := { program := "ytkaalinoiilmoaa", sum := "fb457c69226c501ef99bb90f22ba264a4e4d2db6127d59313b6da336c6635fc9", func := "caisson/caissonlaw23.FlowPlain", spec := "flowPlain", unfollowed := true, recurses := true, apart := false, narrowed := true }
def FlowPlainUptoSaid : Prop := flowPlainUptoRow.holds Try.pinned (OpenSpec.upto flowPlainSpec)

/-- 'caissonlaw23.PurgeCalls', WHERE WHAT IT READS IS OF BULK AT MOST 1048576: true; the input reads as it did. -/
def purgeCallsUptoRow : OpenClaim := { program := "ytkaalinoiilmoaa", sum := "fb457c69226c501ef99bb90f22ba264a4e4d2db6127d59313b6da336c6635fc9", func := "caisson/caissonlaw23.PurgeCalls", spec := "purgeCalls", unfollowed := true, recurses := true, apart := false, narrowed := true }
def PurgeCallsUptoSaid : Prop := purgeCallsUptoRow.holds Try.pinned (OpenSpec.upto purgeCallsSpec)

/-- 'caissonlaw23.PurgeOwners', WHERE WHAT IT READS IS OF BULK AT MOST 1048576: true; the input reads as it did. -/
def purgeOwnersUptoRow : OpenClaim := { program := "ytkaalinoiilmoaa", sum := "fb457c69226c501ef99bb90f22ba264a4e4d2db6127d59313b6da336c6635fc9", func := "caisson/caissonlaw23.PurgeOwners", spec := "purgeOwners", unfollowed := true, recurses := true, apart := false, narrowed := true }
def PurgeOwnersUptoSaid : Prop := purgeOwnersUptoRow.holds Try.pinned (OpenSpec.upto purgeOwnersSpec)

/-- 'caissonlaw23.PurgeParts', WHERE WHAT IT READS IS OF BULK AT MOST 1048576: true; the input reads as it did. -/
def purgePartsUptoRow : OpenClaim := { program := "ytkaalinoiilmoaa", sum := "fb457c69226c501ef99bb90f22ba264a4e4d2db6127d59313b6da336c6635fc9", func := "caisson/caissonlaw23.PurgeParts", spec := "purgeParts", unfollowed := true, recurses := true, apart := false, narrowed := true }
def PurgePartsUptoSaid : Prop := purgePartsUptoRow.holds Try.pinned (OpenSpec.upto purgePartsSpec)

/-- 'caissonlaw23.PurgeAll', WHERE WHAT IT READS IS OF BULK AT MOST 1048576: true; the input reads as it did. -/
def purgeAllUptoRow : OpenClaim := { program := "ytkaalinoiilmoaa", sum := "fb457c69226c501ef99bb90f22ba264a4e4d2db6127d59313b6da336c6635fc9", func := "caisson/caissonlaw23.PurgeAll", spec := "purgeAll", unfollowed := true, recurses := true, apart := false, narrowed := true }
def PurgeAllUptoSaid : Prop := purgeAllUptoRow.holds Try.pinned (OpenSpec.upto purgeAllSpec)

end Rows
end Go.Proofs.Ytkaalinoiilmoaa
