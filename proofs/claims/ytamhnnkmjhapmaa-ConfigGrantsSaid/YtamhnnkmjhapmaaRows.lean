/-
  No cell of these rows narrows 'for every input' (looked for: loops, veiled, ifaces, maps, wideKeys, modest, calm, conditions, laid).
  DERIVED. THE GIVEN ROWS OF THIS SEAT. 5 by the template 'for every input the law returns true; each argument reads behind the call as it read before'; 0 by the template 'total and deterministic' (their statements: YtamhnnkmjhapmaaTotals.lean).
  GIVEN WITH THE SEED: the statements are not yours to turn. If you find one false, say at which input.
  Laid BY PROGRAM, IN A SANDBOX (cutbox-rows.mjs): the forced cells as the released guide's own fill.sh prints them over the translation a794c79ab13a3319… (all of the seat's roots in one cut). By AI agents, Wed Nov 11 2026. No macro, syntax, notation, axiom, sorry.
-/
import Derived.Test.YtamhnnkmjhapmaaChecked
import GoSem.Claim
import GoSem.ClaimJoined
import GoSem.ClaimMapViews
import Derived.JoinedTies
import Derived.KernelRfl
namespace Go.Proofs.Ytamhnnkmjhapmaa
/- THE CELL 'sum', in the pinned program and in every row, IS THE sha256 OF THE DUMP (.gsa) THAT YtamhnnkmjhapmaaProg.lean LOADS. Nothing in Lean hashes anything: it is a label: what it is worth is what the hold of that sum in a sandbox is worth. -/
noncomputable def Try.pinned : Pinned := { name := "ytamhnnkmjhapmaa", sum := "a794c79ab13a331987e045048a8e4322bc0cb6d29badf010355aefe91e033da9", checked := Try.checked }
namespace Rows
def none {H : Type} : Left H := { results := [], args := [] }

/-- 'caissonlaw21.Configs': WHATEVER THE INPUT: true; the input reads as it did. -/
def configsSpec : ChangeSpec := { name := "configs", fn := fun _ => fun
  | [d1, d2, d3, d4] => { results := [.lit (.bool true)], args := [d1, d2, d3, d4] }
  | _ => none }
def configsRow : OpenClaim := { program := "ytamhnnkmjhapmaa", sum := "a794c79ab13a331987e045048a8e4322bc0cb6d29badf010355aefe91e033da9", func := "caisson/caissonlaw21.Configs", spec := "configs", unfollowed := true, recurses := true, apart := false }
def ConfigsSaid : Prop := configsRow.holds Try.pinned (OpenSpec.ofChange configsSpec)

/-- ITS FALSE NEIGHBOUR: 'it returns false'. Refute it at one input. -/
def configsWrong : ChangeSpec := { name := "configs", fn := fun _ => fun
  | [d1, d2, d3, d4] => { results := [.lit (.bool false)], args := [d1, d2, d3, d4] }
  | _ => none }
def ConfigsWrongFalsely : Prop := configsRow.holds Try.pinned (OpenSpec.ofChange configsWrong)

/-- 'caissonlaw21.ConfigApart': WHATEVER THE INPUT: true; the input reads as it did. -/
def configApartSpec : ChangeSpec := { name := "configApart", fn := fun _ => fun
  | [d1, d2, d3] => { results := [.lit (.bool true)], args := [d1, d2, d3] }
  | _ => none }
def configApartRow : OpenClaim := { program := "ytamhnnkmjhapmaa", sum := "a794c79ab13a331987e045048a8e4322bc0cb6d29badf010355aefe91e033da9", func := "caisson/caissonlaw21.ConfigApart", spec := "configApart", unfollowed := true, recurses := true, apart := false }
def ConfigApartSaid : Prop := configApartRow.holds Try.pinned (OpenSpec.ofChange configApartSpec)

/-- ITS FALSE NEIGHBOUR: 'it returns false'. Refute it at one input. -/
def configApartWrong : ChangeSpec := { name := "configApart", fn := fun _ => fun
  | [d1, d2, d3] => { results := [.lit (.bool false)], args := [d1, d2, d3] }
  | _ => none }
def ConfigApartWrongFalsely : Prop := configApartRow.holds Try.pinned (OpenSpec.ofChange configApartWrong)

/-- 'caissonlaw21.ConfigForms': WHATEVER THE INPUT: true; the input reads as it did. -/
def configFormsSpec : ChangeSpec := { name := "configForms", fn := fun _ => fun
  | [d1, d2] => { results := [.lit (.bool true)], args := [d1, d2] }
  | _ => none }
def configFormsRow : OpenClaim := { program := "ytamhnnkmjhapmaa", sum := "a794c79ab13a331987e045048a8e4322bc0cb6d29badf010355aefe91e033da9", func := "caisson/caissonlaw21.ConfigForms", spec := "configForms", unfollowed := true, recurses := true, apart := false }
def ConfigFormsSaid : Prop := configFormsRow.holds Try.pinned (OpenSpec.ofChange configFormsSpec)

/-- ITS FALSE NEIGHBOUR: 'it returns false'. Refute it at one input. -/
def configFormsWrong : ChangeSpec := { name := "configForms", fn := fun _ => fun
  | [d1, d2] => { results := [.lit (.bool false)], args := [d1, d2] }
  | _ => none }
def ConfigFormsWrongFalsely : Prop := configFormsRow.holds Try.pinned (OpenSpec.ofChange configFormsWrong)

/-- 'caissonlaw21.ConfigRuns': WHATEVER THE INPUT: true; the input reads as it did. -/
def configRunsSpec : ChangeSpec := { name := "configRuns", fn := fun _ => fun
  | [d1, d2, d3, d4] => { results := [.lit (.bool true)], args := [d1, d2, d3, d4] }
  | _ => none }
def configRunsRow : OpenClaim := { program := "ytamhnnkmjhapmaa", sum := "a794c79ab13a331987e045048a8e4322bc0cb6d29badf010355aefe91e033da9", func := "caisson/caissonlaw21.ConfigRuns", spec := "configRuns", unfollowed := true, recurses := true, apart := false }
def ConfigRunsSaid : Prop := configRunsRow.holds Try.pinned (OpenSpec.ofChange configRunsSpec)

/-- ITS FALSE NEIGHBOUR: 'it returns false'. Refute it at one input. -/
def configRunsWrong : ChangeSpec := { name := "configRuns", fn := fun _ => fun
  | [d1, d2, d3, d4] => { results := [.lit (.bool false)], args := [d1, d2, d3, d4] }
  | _ => none }
def ConfigRunsWrongFalsely : Prop := configRunsRow.holds Try.pinned (OpenSpec.ofChange configRunsWrong)

/-- 'caissonlaw21.ConfigGrants': WHATEVER THE INPUT: true; the input reads as it did. -/
def configGrantsSpec : ChangeSpec := { name := "configGrants", fn := fun _ => fun
  | [d1, d2, d3] => { results := [.lit (.bool true)], args := [d1, d2, d3] }
  | _ => none }
def configGrantsRow : OpenClaim := { program := "ytamhnnkmjhapmaa", sum := "a794c79ab13a331987e045048a8e4322bc0cb6d29badf010355aefe91e033da9", func := "caisson/caissonlaw21.ConfigGrants", spec := "configGrants", unfollowed := true, recurses := true, apart := false }
def ConfigGrantsSaid : Prop := configGrantsRow.holds Try.pinned (OpenSpec.ofChange configGrantsSpec)

/-- ITS FALSE NEIGHBOUR: 'it returns false'. Refute it at one input. -/
def configGrantsWrong : ChangeSpec := { name := "configGrants", fn := fun _ => fun
  | [d1, d2, d3] => { results := [.lit (.bool false)], args := [d1, d2, d3] }
  | _ => none }
def ConfigGrantsWrongFalsely : Prop := configGrantsRow.holds Try.pinned (OpenSpec.ofChange configGrantsWrong)

/- THE SECOND FORM. 'bulk': how many values and letters a reading holds, each counted each time it is reached (what is shared counts as often as it is met; a slice's spare places count too). A statement '..UptoSaid' is the law's where the arguments, and the package variables that the reading takes, are together of bulk at most 1048576: NARROWER than '..Said'. Prove '..Said' where nothing that the law and all that it calls make is longer than what came in: it says more and counts as full. Else prove '..UptoSaid'. A law counts once. -/
mutual
def uptoBulk {H : Type} : DataW H → Nat
  | .lit (.string bytes) => bytes.length + 1
  | .lit _ => 1
  | .nil => 1
  | .ptr d => uptoBulk d + 1
  | .slice elems spare => uptoBulkAll elems + uptoBulkAll spare + 1
  | .agg parts => uptoBulkAll parts + 1
  | .iface _ d => uptoBulk d + 1
  | .map entries => uptoBulkEntries entries + 1
  | .held _ => 1
def uptoBulkAll {H : Type} : List (DataW H) → Nat
  | [] => 0
  | d :: r => uptoBulk d + uptoBulkAll r
def uptoBulkEntries {H : Type} : List (Lit × DataW H) → Nat
  | [] => 0
  | x :: r => uptoBulkEntry x + uptoBulkEntries r
def uptoBulkEntry {H : Type} : Lit × DataW H → Nat
  | (.string bytes, d) => bytes.length + uptoBulk d + 1
  | (_, d) => uptoBulk d + 1
 end
def uptoSmall : (H : Type) → List (DataW H) → Bool := fun _ ds => decide (uptoBulkAll ds ≤ 1048576)
def OpenSpec.upto (s : _root_.Go.ChangeSpec) : _root_.Go.OpenSpec := { _root_.Go.OpenSpec.ofChange s with cond := some uptoSmall }

/-- 'caissonlaw21.Configs', WHERE WHAT IT READS IS OF BULK AT MOST 1048576: true; the input reads as it did. -/
def configsUptoRow : OpenClaim := { program := "ytamhnnkmjhapmaa", sum := "a794c79ab13a331987e045048a8e4322bc0cb6d29badf010355aefe91e033da9", func := "caisson/caissonlaw21.Configs", spec := "configs", unfollowed := true, recurses := true, apart := false, narrowed := true }
def ConfigsUptoSaid : Prop := configsUptoRow.holds Try.pinned (OpenSpec.upto configsSpec)

/-- 'caissonlaw21.ConfigApart', WHERE WHAT IT READS IS OF BULK AT MOST 1048576: true; the input reads as it did. -/
def configApartUptoRow : OpenClaim := { program := "ytamhnnkmjhapmaa", sum := "a794c79ab13a331987e045048a8e4322bc0cb6d29badf010355aefe91e033da9", func := "caisson/caissonlaw21.ConfigApart", spec := "configApart", unfollowed := true, recurses := true, apart := false, narrowed := true }
def ConfigApartUptoSaid : Prop := configApartUptoRow.holds Try.pinned (OpenSpec.upto configApartSpec)

/-- 'caissonlaw21.ConfigForms', WHERE WHAT IT READS IS OF BULK AT MOST 1048576: true; the input reads as it did. -/
def configFormsUptoRow : OpenClaim := { program := "ytamhnnkmjhapmaa", sum := "a794c79ab13a331987e045048a8e4322bc0cb6d29badf010355aefe91e033da9", func := "caisson/caissonlaw21.ConfigForms", spec := "configForms", unfollowed := true, recurses := true, apart := false, narrowed := true }
def ConfigFormsUptoSaid : Prop := configFormsUptoRow.holds Try.pinned (OpenSpec.upto configFormsSpec)

/-- 'caissonlaw21.ConfigRuns', WHERE WHAT IT READS IS OF BULK AT MOST 1048576: true; the input reads as it did. -/
def configRunsUptoRow : OpenClaim := { program := "ytamhnnkmjhapmaa", sum := "a794c79ab13a331987e045048a8e4322bc0cb6d29badf010355aefe91e033da9", func := "caisson/caissonlaw21.ConfigRuns", spec := "configRuns", unfollowed := true, recurses := true, apart := false, narrowed := true }
def ConfigRunsUptoSaid : Prop := configRunsUptoRow.holds Try.pinned (OpenSpec.upto configRunsSpec)

/-- 'caissonlaw21.ConfigGrants', WHERE WHAT IT READS IS OF BULK AT MOST 1048576: true; the input reads as it did. -/
def configGrantsUptoRow : OpenClaim := { program := "ytamhnnkmjhapmaa", sum := "a794c79ab13a331987e045048a8e4322bc0cb6d29badf010355aefe91e033da9", func := "caisson/caissonlaw21.ConfigGrants", spec := "configGrants", unfollowed := true, recurses := true, apart := false, narrowed := true }
def ConfigGrantsUptoSaid : Prop := configGrantsUptoRow.holds Try.pinned (OpenSpec.upto configGrantsSpec)

end Rows
end Go.Proofs.Ytamhnnkmjhapmaa
