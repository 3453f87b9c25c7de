/-
  No cell of these rows narrows 'for every input' (looked for: loops, veiled, ifaces, maps, wideKeys, modest, calm, conditions, laid).
  DERIVED. THE GIVEN ROWS OF THIS SEAT. 5 by the template 'for every input the law returns true; each argument reads behind the call as it read before'; 0 by the template 'total and deterministic' (their statements: YtffdjdllnajfcaaTotals.lean).
  GIVEN WITH THE SEED: the statements are not yours to turn. If you find one false, say at which input.
  Laid BY PROGRAM, IN A SANDBOX (cutbox-rows.mjs): the forced cells as the released guide's own fill.sh prints them over the translation f2fe744b4292ca75… (all of the seat's roots in one cut). By AI agents, Wed Nov 11 2026. No macro, syntax, notation, axiom, sorry.
-/
import Derived.Test.YtffdjdllnajfcaaChecked
import GoSem.Claim
import GoSem.ClaimJoined
import GoSem.ClaimMapViews
import Derived.JoinedTies
import Derived.KernelRfl
namespace Go.Proofs.Ytffdjdllnajfcaa
/- THE CELL 'sum', in the pinned program and in every row, IS THE sha256 OF THE DUMP (.gsa) THAT YtffdjdllnajfcaaProg.lean LOADS. Nothing in Lean hashes anything: it is a label: what it is worth is what the hold of that sum in a sandbox is worth. -/
noncomputable def Try.pinned : Pinned := { name := "ytffdjdllnajfcaa", sum := "f2fe744b4292ca75afb0cfc1dedd2e502996411b4b492ca007ab210d6b2bc7d9", checked := Try.checked }
namespace Rows
def none {H : Type} : Left H := { results := [], args := [] }

/-- 'caissonlaw12.Pendings': WHATEVER THE INPUT: true; the input reads as it did. -/
def pendingsSpec : ChangeSpec := { name := "pendings", fn := fun _ => fun
  | [d1, d2] => { results := [.lit (.bool true)], args := [d1, d2] }
  | _ => none }
def pendingsRow : OpenClaim := { program := "ytffdjdllnajfcaa", sum := "f2fe744b4292ca75afb0cfc1dedd2e502996411b4b492ca007ab210d6b2bc7d9", func := "caisson/caissonlaw12.Pendings", spec := "pendings", unfollowed := true, recurses := true, plainKeys := false, apart := false }
def PendingsSaid : Prop := pendingsRow.holds Try.pinned (OpenSpec.ofChange pendingsSpec)

/-- ITS FALSE NEIGHBOUR: 'it returns false'. Refute it at one input. -/
def pendingsWrong : ChangeSpec := { name := "pendings", fn := fun _ => fun
  | [d1, d2] => { results := [.lit (.bool false)], args := [d1, d2] }
  | _ => none }
def PendingsWrongFalsely : Prop := pendingsRow.holds Try.pinned (OpenSpec.ofChange pendingsWrong)

/-- 'caissonlaw12.PendingOnce': WHATEVER THE INPUT: true; the input reads as it did. -/
def pendingOnceSpec : ChangeSpec := { name := "pendingOnce", fn := fun _ => fun
  | [d1, d2] => { results := [.lit (.bool true)], args := [d1, d2] }
  | _ => none }
def pendingOnceRow : OpenClaim := { program := "ytffdjdllnajfcaa", sum := "f2fe744b4292ca75afb0cfc1dedd2e502996411b4b492ca007ab210d6b2bc7d9", func := "caisson/caissonlaw12.PendingOnce", spec := "pendingOnce", unfollowed := true, recurses := true, plainKeys := false, apart := false }
def PendingOnceSaid : Prop := pendingOnceRow.holds Try.pinned (OpenSpec.ofChange pendingOnceSpec)

/-- ITS FALSE NEIGHBOUR: 'it returns false'. Refute it at one input. -/
def pendingOnceWrong : ChangeSpec := { name := "pendingOnce", fn := fun _ => fun
  | [d1, d2] => { results := [.lit (.bool false)], args := [d1, d2] }
  | _ => none }
def PendingOnceWrongFalsely : Prop := pendingOnceRow.holds Try.pinned (OpenSpec.ofChange pendingOnceWrong)

/-- 'caissonlaw12.PendingMasked': WHATEVER THE INPUT: true; the input reads as it did. -/
def pendingMaskedSpec : ChangeSpec := { name := "pendingMasked", fn := fun _ => fun
  | [d1, d2] => { results := [.lit (.bool true)], args := [d1, d2] }
  | _ => none }
def pendingMaskedRow : OpenClaim := { program := "ytffdjdllnajfcaa", sum := "f2fe744b4292ca75afb0cfc1dedd2e502996411b4b492ca007ab210d6b2bc7d9", func := "caisson/caissonlaw12.PendingMasked", spec := "pendingMasked", unfollowed := true, recurses := true, plainKeys := false, apart := false }
def PendingMaskedSaid : Prop := pendingMaskedRow.holds Try.pinned (OpenSpec.ofChange pendingMaskedSpec)

/-- ITS FALSE NEIGHBOUR: 'it returns false'. Refute it at one input. -/
def pendingMaskedWrong : ChangeSpec := { name := "pendingMasked", fn := fun _ => fun
  | [d1, d2] => { results := [.lit (.bool false)], args := [d1, d2] }
  | _ => none }
def PendingMaskedWrongFalsely : Prop := pendingMaskedRow.holds Try.pinned (OpenSpec.ofChange pendingMaskedWrong)

/-- 'caissonlaw12.PendingForms': WHATEVER THE INPUT: true; the input reads as it did. -/
def pendingFormsSpec : ChangeSpec := { name := "pendingForms", fn := fun _ => fun
  | [d1, d2] => { results := [.lit (.bool true)], args := [d1, d2] }
  | _ => none }
def pendingFormsRow : OpenClaim := { program := "ytffdjdllnajfcaa", sum := "f2fe744b4292ca75afb0cfc1dedd2e502996411b4b492ca007ab210d6b2bc7d9", func := "caisson/caissonlaw12.PendingForms", spec := "pendingForms", unfollowed := true, recurses := true, plainKeys := false, apart := false }
def PendingFormsSaid : Prop := pendingFormsRow.holds Try.pinned (OpenSpec.ofChange pendingFormsSpec)

/-- ITS FALSE NEIGHBOUR: 'it returns false'. Refute it at one input. -/
def pendingFormsWrong : ChangeSpec := { name := "pendingForms", fn := fun _ => fun
  | [d1, d2] => { results := [.lit (.bool false)], args := [d1, d2] }
  | _ => none }
def PendingFormsWrongFalsely : Prop := pendingFormsRow.holds Try.pinned (OpenSpec.ofChange pendingFormsWrong)

/-- 'caissonlaw12.PendingApart': WHATEVER THE INPUT: true; the input reads as it did. -/
def pendingApartSpec : ChangeSpec := { name := "pendingApart", fn := fun _ => fun
  | [d] => { results := [.lit (.bool true)], args := [d] }
  | _ => none }
def pendingApartRow : OpenClaim := { program := "ytffdjdllnajfcaa", sum := "f2fe744b4292ca75afb0cfc1dedd2e502996411b4b492ca007ab210d6b2bc7d9", func := "caisson/caissonlaw12.PendingApart", spec := "pendingApart", unfollowed := true, recurses := true, plainKeys := false, apart := false }
def PendingApartSaid : Prop := pendingApartRow.holds Try.pinned (OpenSpec.ofChange pendingApartSpec)

/-- ITS FALSE NEIGHBOUR: 'it returns false'. Refute it at one input. -/
def pendingApartWrong : ChangeSpec := { name := "pendingApart", fn := fun _ => fun
  | [d] => { results := [.lit (.bool false)], args := [d] }
  | _ => none }
def PendingApartWrongFalsely : Prop := pendingApartRow.holds Try.pinned (OpenSpec.ofChange pendingApartWrong)

/- THE SECOND FORM. 'bulk': how many values and letters a reading holds, each counted each time it is reached (what is shared counts as often as it is met; a slice's spare places count too). A statement '..UptoSaid' is the law's where the arguments, and the package variables that the reading takes, are together of bulk at most 1048576: NARROWER than '..Said'. Prove '..Said' where nothing that the law and all that it calls make is longer than what came in: it says more and counts as full. Else prove '..UptoSaid'. A law counts once. -/
mutual
def uptoBulk {H : Type} : DataW H → Nat
  | .lit (.string bytes) => bytes.length + 1
  | .lit _ => 1
  | .nil => 1
  | .ptr d => uptoBulk d + 1
  | .slice elems spare => uptoBulkAll elems + uptoBulkAll spare + 1
  | .agg parts => uptoBulkAll parts + 1
  | .iface _ d => uptoBulk d + 1
  | .map entries => uptoBulkEntries entries + 1
  | .held _ => 1
def uptoBulkAll {H : Type} : List (DataW H) → Nat
  | [] => 0
  | d :: r => uptoBulk d + uptoBulkAll r
def uptoBulkEntries {H : Type} : List (Lit × DataW H) → Nat
  | [] => 0
  | x :: r => uptoBulkEntry x + uptoBulkEntries r
def uptoBulkEntry {H : Type} : Lit × DataW H → Nat
  | (.string bytes, d) => bytes.length + uptoBulk d + 1
  | (_, d) => uptoBulk d + 1
 end
def uptoSmall : (H : Type) → List (DataW H) → Bool := fun _ ds => decide (uptoBulkAll ds ≤ 1048576)
def OpenSpec.upto (s : _root_.Go.ChangeSpec) : _root_.Go.OpenSpec := { _root_.Go.OpenSpec.ofChange s with cond := some uptoSmall }

/-- 'caissonlaw12.Pendings', WHERE WHAT IT READS IS OF BULK AT MOST 1048576: true; the input reads as it did. -/
def pendingsUptoRow : OpenClaim := { program := "ytffdjdllnajfcaa", sum := "f2fe744b4292ca75afb0cfc1dedd2e502996411b4b492ca007ab210d6b2bc7d9", func := "caisson/caissonlaw12.Pendings", spec := "pendings", unfollowed := true, recurses := true, plainKeys := false, apart := false, narrowed := true }
def PendingsUptoSaid : Prop := pendingsUptoRow.holds Try.pinned (OpenSpec.upto pendingsSpec)

/-- 'caissonlaw12.PendingOnce', WHERE WHAT IT READS IS OF BULK AT MOST 1048576: true; the input reads as it did. -/
def pendingOnceUptoRow : OpenClaim := { program := "ytffdjdllnajfcaa", sum := "f2fe744b4292ca75afb0cfc1dedd2e502996411b4b492ca007ab210d6b2bc7d9", func := "caisson/caissonlaw12.PendingOnce", spec := "pendingOnce", unfollowed := true, recurses := true, plainKeys := false, apart := false, narrowed := true }
def PendingOnceUptoSaid : Prop := pendingOnceUptoRow.holds Try.pinned (OpenSpec.upto pendingOnceSpec)

/-- 'caissonlaw12.PendingMasked', WHERE WHAT IT READS IS OF BULK AT MOST 1048576: true; the input reads as it did. -/
def pendingMaskedUptoRow : OpenClaim := { program := "ytffdjdllnajfcaa", sum := "f2fe744b4292ca75afb0cfc1dedd2e502996411b4b492ca007ab210d6b2bc7d9", func := "caisson/caissonlaw12.PendingMasked", spec := "pendingMasked", unfollowed := true, recurses := true, plainKeys := false, apart := false, narrowed := true }
def PendingMaskedUptoSaid : Prop := pendingMaskedUptoRow.holds Try.pinned (OpenSpec.upto pendingMaskedSpec)

/-- 'caissonlaw12.PendingForms', WHERE WHAT IT READS IS OF BULK AT MOST 1048576: true; the input reads as it did. -/
def pendingFormsUptoRow : OpenClaim := { program := "ytffdjdllnajfcaa", sum := "f2fe744b4292ca75afb0cfc1dedd2e502996411b4b492ca007ab210d6b2bc7d9", func := "caisson/caissonlaw12.PendingForms", spec := "pendingForms", unfollowed := true, recurses := true, plainKeys := false, apart := false, narrowed := true }
def PendingFormsUptoSaid : Prop := pendingFormsUptoRow.holds Try.pinned (OpenSpec.upto pendingFormsSpec)

/-- 'caissonlaw12.PendingApart', WHERE WHAT IT READS IS OF BULK AT MOST 1048576: true; the input reads as it did. -/
def pendingApartUptoRow : OpenClaim := { program := "ytffdjdllnajfcaa", sum := "f2fe744b4292ca75afb0cfc1dedd2e502996411b4b492ca007ab210d6b2bc7d9", func := "caisson/caissonlaw12.PendingApart", spec := "pendingApart", unfollowed := true, recurses := true, plainKeys := false, apart := false, narrowed := true }
def PendingApartUptoSaid : Prop := pendingApartUptoRow.holds Try.pinned (OpenSpec.upto pendingApartSpec)

end Rows
end Go.Proofs.Ytffdjdllnajfcaa
