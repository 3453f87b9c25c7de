/-
  No cell of these rows narrows 'for every input' (looked for: loops, veiled, ifaces, maps, wideKeys, modest, calm, conditions, laid).
  DERIVED. THE GIVEN ROWS OF THIS SEAT. 5 by the template 'for every input the law returns true; each argument reads behind the call as it read before'; 0 by the template 'total and deterministic' (their statements: YtcljcjlfbeplcaaTotals.lean).
  GIVEN WITH THE SEED: the statements are not yours to turn. If you find one false, say at which input.
  Laid BY PROGRAM, IN A SANDBOX (cutbox-rows.mjs): the forced cells as the released guide's own fill.sh prints them over the translation 4ddcdd33590c584a… (all of the seat's roots in one cut). By AI agents, Wed Nov 11 2026. No macro, syntax, notation, axiom, sorry.
-/
import Derived.Test.YtcljcjlfbeplcaaChecked
import GoSem.Claim
import GoSem.ClaimJoined
import GoSem.ClaimMapViews
import Derived.JoinedTies
import Derived.KernelRfl
namespace Go.Proofs.Ytcljcjlfbeplcaa
/- THE CELL 'sum', in the pinned program and in every row, IS THE sha256 OF THE DUMP (.gsa) THAT YtcljcjlfbeplcaaProg.lean LOADS. Nothing in Lean hashes anything: it is a label: what it is worth is what the hold of that sum in a sandbox is worth. -/
noncomputable def Try.pinned : Pinned := { name := "ytcljcjlfbeplcaa", sum := "4ddcdd33590c584a1d61df363c7bf1227479ba4169b8f1331af4b1f31bcca344", checked := Try.checked }
namespace Rows
def none {H : Type} : Left H := { results := [], args := [] }

/-- 'caissonlaw3.Mems': WHATEVER THE INPUT: true; the input reads as it did. -/
def memsSpec : ChangeSpec := { name := "mems", fn := fun _ => fun
  | [d1, d2] => { results := [.lit (.bool true)], args := [d1, d2] }
  | _ => none }
def memsRow : OpenClaim := { program := "ytcljcjlfbeplcaa", sum := "4ddcdd33590c584a1d61df363c7bf1227479ba4169b8f1331af4b1f31bcca344", func := "caisson/caissonlaw3.Mems", spec := "mems", unfollowed := true, recurses := true, apart := false }
def MemsSaid : Prop := memsRow.holds Try.pinned (OpenSpec.ofChange memsSpec)

/-- ITS FALSE NEIGHBOUR: 'it returns false'. Refute it at one input. -/
def memsWrong : ChangeSpec := { name := "mems", fn := fun _ => fun
  | [d1, d2] => { results := [.lit (.bool false)], args := [d1, d2] }
  | _ => none }
def MemsWrongFalsely : Prop := memsRow.holds Try.pinned (OpenSpec.ofChange memsWrong)

/-- 'caissonlaw3.MemBack': WHATEVER THE INPUT: true; the input reads as it did. -/
def memBackSpec : ChangeSpec := { name := "memBack", fn := fun _ => fun
  | [d1, d2, d3] => { results := [.lit (.bool true)], args := [d1, d2, d3] }
  | _ => none }
def memBackRow : OpenClaim := { program := "ytcljcjlfbeplcaa", sum := "4ddcdd33590c584a1d61df363c7bf1227479ba4169b8f1331af4b1f31bcca344", func := "caisson/caissonlaw3.MemBack", spec := "memBack", unfollowed := true, recurses := true, apart := false }
def MemBackSaid : Prop := memBackRow.holds Try.pinned (OpenSpec.ofChange memBackSpec)

/-- ITS FALSE NEIGHBOUR: 'it returns false'. Refute it at one input. -/
def memBackWrong : ChangeSpec := { name := "memBack", fn := fun _ => fun
  | [d1, d2, d3] => { results := [.lit (.bool false)], args := [d1, d2, d3] }
  | _ => none }
def MemBackWrongFalsely : Prop := memBackRow.holds Try.pinned (OpenSpec.ofChange memBackWrong)

/-- 'caissonlaw3.MemWords': WHATEVER THE INPUT: true; the input reads as it did. -/
def memWordsSpec : ChangeSpec := { name := "memWords", fn := fun _ => fun
  | [d1, d2] => { results := [.lit (.bool true)], args := [d1, d2] }
  | _ => none }
def memWordsRow : OpenClaim := { program := "ytcljcjlfbeplcaa", sum := "4ddcdd33590c584a1d61df363c7bf1227479ba4169b8f1331af4b1f31bcca344", func := "caisson/caissonlaw3.MemWords", spec := "memWords", unfollowed := true, recurses := true, apart := false }
def MemWordsSaid : Prop := memWordsRow.holds Try.pinned (OpenSpec.ofChange memWordsSpec)

/-- ITS FALSE NEIGHBOUR: 'it returns false'. Refute it at one input. -/
def memWordsWrong : ChangeSpec := { name := "memWords", fn := fun _ => fun
  | [d1, d2] => { results := [.lit (.bool false)], args := [d1, d2] }
  | _ => none }
def MemWordsWrongFalsely : Prop := memWordsRow.holds Try.pinned (OpenSpec.ofChange memWordsWrong)

/-- 'caissonlaw3.MemForms': WHATEVER THE INPUT: true; the input reads as it did. -/
def memFormsSpec : ChangeSpec := { name := "memForms", fn := fun _ => fun
  | [d1, d2] => { results := [.lit (.bool true)], args := [d1, d2] }
  | _ => none }
def memFormsRow : OpenClaim := { program := "ytcljcjlfbeplcaa", sum := "4ddcdd33590c584a1d61df363c7bf1227479ba4169b8f1331af4b1f31bcca344", func := "caisson/caissonlaw3.MemForms", spec := "memForms", unfollowed := true, recurses := true, apart := false }
def MemFormsSaid : Prop := memFormsRow.holds Try.pinned (OpenSpec.ofChange memFormsSpec)

/-- ITS FALSE NEIGHBOUR: 'it returns false'. Refute it at one input. -/
def memFormsWrong : ChangeSpec := { name := "memForms", fn := fun _ => fun
  | [d1, d2] => { results := [.lit (.bool false)], args := [d1, d2] }
  | _ => none }
def MemFormsWrongFalsely : Prop := memFormsRow.holds Try.pinned (OpenSpec.ofChange memFormsWrong)

/-- 'caissonlaw3.MemZeroes': WHATEVER THE INPUT: true; the input reads as it did. -/
def memZeroesSpec : ChangeSpec := { name := "memZeroes", fn := fun _ => fun
  | [d1, d2] => { results := [.lit (.bool true)], args := [d1, d2] }
  | _ => none }
def memZeroesRow : OpenClaim := { program := "ytcljcjlfbeplcaa", sum := "4ddcdd33590c584a1d61df363c7bf1227479ba4169b8f1331af4b1f31bcca344", func := "caisson/caissonlaw3.MemZeroes", spec := "memZeroes", unfollowed := true, recurses := true, apart := false }
def MemZeroesSaid : Prop := memZeroesRow.holds Try.pinned (OpenSpec.ofChange memZeroesSpec)

/-- ITS FALSE NEIGHBOUR: 'it returns false'. Refute it at one input. -/
def memZeroesWrong : ChangeSpec := { name := "memZeroes", fn := fun _ => fun
  | [d1, d2] => { results := [.lit (.bool false)], args := [d1, d2] }
  | _ => none }
def MemZeroesWrongFalsely : Prop := memZeroesRow.holds Try.pinned (OpenSpec.ofChange memZeroesWrong)

/- THE SECOND FORM. 'bulk': how many values and letters a reading holds, each counted each time it is reached (what is shared counts as often as it is met; a slice's spare places count too). A statement '..UptoSaid' is the law's where the arguments, and the package variables that the reading takes, are together of bulk at most 1048576: NARROWER than '..Said'. Prove '..Said' where nothing that the law and all that it calls make is longer than what came in: it says more and counts as full. Else prove '..UptoSaid'. A law counts once. -/
mutual
def uptoBulk {H : Type} : DataW H → Nat
  | .lit (.string bytes) => bytes.length + 1
  | .lit _ => 1
  | .nil => 1
  | .ptr d => uptoBulk d + 1
  | .slice elems spare => uptoBulkAll elems + uptoBulkAll spare + 1
  | .agg parts => uptoBulkAll parts + 1
  | .iface _ d => uptoBulk d + 1
  | .map entries => uptoBulkEntries entries + 1
  | .held _ => 1
def uptoBulkAll {H : Type} : List (DataW H) → Nat
  | [] => 0
  | d :: r => uptoBulk d + uptoBulkAll r
def uptoBulkEntries {H : Type} : List (Lit × DataW H) → Nat
  | [] => 0
  | x :: r => uptoBulkEntry x + uptoBulkEntries r
def uptoBulkEntry {H : Type} : Lit × DataW H → Nat
  | (.string bytes, d) => bytes.length + uptoBulk d + 1
  | (_, d) => uptoBulk d + 1
 end
def uptoSmall : (H : Type) → List (DataW H) → Bool := fun _ ds => decide (uptoBulkAll ds ≤ 1048576)
def OpenSpec.upto (s : _root_.Go.ChangeSpec) : _root_.Go.OpenSpec := { _root_.Go.OpenSpec.ofChange s with cond := some uptoSmall }

/-- 'caissonlaw3.Mems', WHERE WHAT IT READS IS OF BULK AT MOST 1048576: true; the input reads as it did. -/
def memsUptoRow : OpenClaim := { program := "ytcljcjlfbeplcaa", sum := "4ddcdd33590c584a1d61df363c7bf1227479ba4169b8f1331af4b1f31bcca344", func := "caisson/caissonlaw3.Mems", spec := "mems", unfollowed := true, recurses := true, apart := false, narrowed := true }
def MemsUptoSaid : Prop := memsUptoRow.holds Try.pinned (OpenSpec.upto memsSpec)

/-- 'caissonlaw3.MemBack', WHERE WHAT IT READS IS OF BULK AT MOST 1048576: true; the input reads as it did. -/
def memBackUptoRow : OpenClaim := { program := "ytcljcjlfbeplcaa", sum := "4ddcdd33590c584a1d61df363c7bf1227479ba4169b8f1331af4b1f31bcca344", func := "caisson/caissonlaw3.MemBack", spec := "memBack", unfollowed := true, recurses := true, apart := false, narrowed := true }
def MemBackUptoSaid : Prop := memBackUptoRow.holds Try.pinned (OpenSpec.upto memBackSpec)

/-- 'caissonlaw3.MemWords', WHERE WHAT IT READS IS OF BULK AT MOST 1048576: true; the input reads as it did. -/
def memWordsUptoRow : OpenClaim := { program := "ytcljcjlfbeplcaa", sum := "4ddcdd33590c584a1d61df363c7bf1227479ba4169b8f1331af4b1f31bcca344", func := "caisson/caissonlaw3.MemWords", spec := "memWords", unfollowed := true, recurses := true, apart := false, narrowed := true }
def MemWordsUptoSaid : Prop := memWordsUptoRow.holds Try.pinned (OpenSpec.upto memWordsSpec)

/-- 'caissonlaw3.MemForms', WHERE WHAT IT READS IS OF BULK AT MOST 1048576: true; the input reads as it did. -/
def memFormsUptoRow : OpenClaim := { program := "ytcljcjlfbeplcaa", sum := "4ddcdd33590c584a1d61df363c7bf1227479ba4169b8f1331af4b1f31bcca344", func := "caisson/caissonlaw3.MemForms", spec := "memForms", unfollowed := true, recurses := true, apart := false, narrowed := true }
def MemFormsUptoSaid : Prop := memFormsUptoRow.holds Try.pinned (OpenSpec.upto memFormsSpec)

/-- 'caissonlaw3.MemZeroes', WHERE WHAT IT READS IS OF BULK AT MOST 1048576: true; the input reads as it did. -/
def memZeroesUptoRow : OpenClaim := { program := "ytcljcjlfbeplcaa", sum := "4ddcdd33590c584a1d61df363c7bf1227479ba4169b8f1331af4b1f31bcca344", func := "caisson/caissonlaw3.MemZeroes", spec := "memZeroes", unfollowed := true, recurses := true, apart := false, narrowed := true }
def MemZeroesUptoSaid : Prop := memZeroesUptoRow.holds Try.pinned (OpenSpec.upto memZeroesSpec)

end Rows
end Go.Proofs.Ytcljcjlfbeplcaa
