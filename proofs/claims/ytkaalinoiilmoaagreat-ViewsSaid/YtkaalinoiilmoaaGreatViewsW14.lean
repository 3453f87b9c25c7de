/-
  What the proofs lean on: contracts of the program's functions, plain facts.
-/
import Derived.Test.YtkaalinoiilmoaaGreatViewsW13
import Derived.Test.YtkaalinoiilmoaaGreatViewsW6
import Derived.BigQuiet
import Derived.Test.YtkaalinoiilmoaaGreatViewsW11
import Derived.Test.YtkaalinoiilmoaaGreatViewsW1
import Derived.Deep.Slices
import Derived.Deep.Fields
import Derived.ChangeSame
import Derived.WideKeyArgs
import Derived.OpenShut
import Derived.Test.YtkaalinoiilmoaaGreatChecked
import Derived.Test.YtkaalinoiilmoaaGreatViewsW5
namespace Go.Proofs.YtkaalinoiilmoaaGreat
open Go.RowKit
set_option linter.unusedVariables false
set_option maxRecDepth 100000
set_option maxHeartbeats 1000000 in
theorem plain23_any (w : World) : Calls Tryz.prog 32 #[] w (PlainIs w) := by
  go_enter Tryz.func32, Tryz.ntmps32
  go_wp2_with fail
  have h0 : Blk ((((((((((w.alloc (.cells #[.int .i64 16, .slice (some ⟨w.heap.size + 1 + 1 + 1 + 1, 0, none⟩) 3 3, .slice (some ⟨w.heap.size + 1 + 1 + 1 + 1 + 1 + 1 + 1, 0, none⟩) 2 2, .int .i64 6, .slice (some ⟨w.heap.size + 1 + 1 + 1 + 1 + 1 + 1 + 1 + 1, 0, none⟩) 3 3, .slice (some ⟨w.heap.size + 1 + 1 + 1 + 1 + 1 + 1 + 1 + 1 + 1, 0, none⟩) 1 1, .int .i64 10, .int .i64 6, .int .i64 2] 27)).alloc (.cells #[.int .i64 0, .int .i64 1, .int .i64 2] 3)).alloc (.cells #[.int .i64 3, .int .i64 4] 3)).alloc (.cells #[.int .i64 5, .int .i64 6] 3)).alloc (.cells #[.int .i64 0, .int .i64 0, .slice (some ⟨w.heap.size + 1, 0, none⟩) 3 3, .int .i64 0, .int .i64 4, .int .i64 2, .int .i64 0, .slice (some ⟨w.heap.size + 1 + 1, 0, none⟩) 2 2, .int .i64 4, .int .i64 4, .int .i64 1, .int .i64 2, .slice (some ⟨w.heap.size + 1 + 1 + 1, 0, none⟩) 2 2, .int .i64 8, .int .i64 2] 70)).alloc (.cells #[.int .i64 8, .int .i64 9, .int .i64 10] 3)).alloc (.cells #[.int .i64 11, .int .i64 12] 3)).alloc (.cells #[.int .i64 0, .slice (some ⟨w.heap.size + 1 + 1 + 1 + 1 + 1, 0, none⟩) 3 3, .int .i64 2, .slice (some ⟨w.heap.size + 1 + 1 + 1 + 1 + 1 + 1, 0, none⟩) 2 2] 46)).alloc (.cells #[.int .i64 0, .int .i64 0, .int .i64 2, .int .i64 1, .int .i64 1, .int .i64 2, .int .i64 2, .int .i64 2, .int .i64 2, .int .i64 4, .int .i64 2, .int .i64 5] 82)).alloc (.cells #[.int .i64 2, .int .i64 2, .bool false] 65)) (w.heap.size) 27 [.int .i64 16, .slice (some ⟨w.heap.size + 1 + 1 + 1 + 1, 0, none⟩) 3 3, .slice (some ⟨w.heap.size + 1 + 1 + 1 + 1 + 1 + 1 + 1, 0, none⟩) 2 2, .int .i64 6, .slice (some ⟨w.heap.size + 1 + 1 + 1 + 1 + 1 + 1 + 1 + 1, 0, none⟩) 3 3, .slice (some ⟨w.heap.size + 1 + 1 + 1 + 1 + 1 + 1 + 1 + 1 + 1, 0, none⟩) 1 1, .int .i64 10, .int .i64 6, .int .i64 2] := by
    have := (((((((((Blk.new w 27 [.int .i64 16, .slice (some ⟨w.heap.size + 1 + 1 + 1 + 1, 0, none⟩) 3 3, .slice (some ⟨w.heap.size + 1 + 1 + 1 + 1 + 1 + 1 + 1, 0, none⟩) 2 2, .int .i64 6, .slice (some ⟨w.heap.size + 1 + 1 + 1 + 1 + 1 + 1 + 1 + 1, 0, none⟩) 3 3, .slice (some ⟨w.heap.size + 1 + 1 + 1 + 1 + 1 + 1 + 1 + 1 + 1, 0, none⟩) 1 1, .int .i64 10, .int .i64 6, .int .i64 2]).alloc (.cells #[.int .i64 0, .int .i64 1, .int .i64 2] 3)).alloc (.cells #[.int .i64 3, .int .i64 4] 3)).alloc (.cells #[.int .i64 5, .int .i64 6] 3)).alloc (.cells #[.int .i64 0, .int .i64 0, .slice (some ⟨w.heap.size + 1, 0, none⟩) 3 3, .int .i64 0, .int .i64 4, .int .i64 2, .int .i64 0, .slice (some ⟨w.heap.size + 1 + 1, 0, none⟩) 2 2, .int .i64 4, .int .i64 4, .int .i64 1, .int .i64 2, .slice (some ⟨w.heap.size + 1 + 1 + 1, 0, none⟩) 2 2, .int .i64 8, .int .i64 2] 70)).alloc (.cells #[.int .i64 8, .int .i64 9, .int .i64 10] 3)).alloc (.cells #[.int .i64 11, .int .i64 12] 3)).alloc (.cells #[.int .i64 0, .slice (some ⟨w.heap.size + 1 + 1 + 1 + 1 + 1, 0, none⟩) 3 3, .int .i64 2, .slice (some ⟨w.heap.size + 1 + 1 + 1 + 1 + 1 + 1, 0, none⟩) 2 2] 46)).alloc (.cells #[.int .i64 0, .int .i64 0, .int .i64 2, .int .i64 1, .int .i64 1, .int .i64 2, .int .i64 2, .int .i64 2, .int .i64 2, .int .i64 4, .int .i64 2, .int .i64 5] 82)).alloc (.cells #[.int .i64 2, .int .i64 2, .bool false] 65)
    try simp only [World.size_alloc] at this
    exact this
  have h1 : Blk ((((((((((w.alloc (.cells #[.int .i64 16, .slice (some ⟨w.heap.size + 1 + 1 + 1 + 1, 0, none⟩) 3 3, .slice (some ⟨w.heap.size + 1 + 1 + 1 + 1 + 1 + 1 + 1, 0, none⟩) 2 2, .int .i64 6, .slice (some ⟨w.heap.size + 1 + 1 + 1 + 1 + 1 + 1 + 1 + 1, 0, none⟩) 3 3, .slice (some ⟨w.heap.size + 1 + 1 + 1 + 1 + 1 + 1 + 1 + 1 + 1, 0, none⟩) 1 1, .int .i64 10, .int .i64 6, .int .i64 2] 27)).alloc (.cells #[.int .i64 0, .int .i64 1, .int .i64 2] 3)).alloc (.cells #[.int .i64 3, .int .i64 4] 3)).alloc (.cells #[.int .i64 5, .int .i64 6] 3)).alloc (.cells #[.int .i64 0, .int .i64 0, .slice (some ⟨w.heap.size + 1, 0, none⟩) 3 3, .int .i64 0, .int .i64 4, .int .i64 2, .int .i64 0, .slice (some ⟨w.heap.size + 1 + 1, 0, none⟩) 2 2, .int .i64 4, .int .i64 4, .int .i64 1, .int .i64 2, .slice (some ⟨w.heap.size + 1 + 1 + 1, 0, none⟩) 2 2, .int .i64 8, .int .i64 2] 70)).alloc (.cells #[.int .i64 8, .int .i64 9, .int .i64 10] 3)).alloc (.cells #[.int .i64 11, .int .i64 12] 3)).alloc (.cells #[.int .i64 0, .slice (some ⟨w.heap.size + 1 + 1 + 1 + 1 + 1, 0, none⟩) 3 3, .int .i64 2, .slice (some ⟨w.heap.size + 1 + 1 + 1 + 1 + 1 + 1, 0, none⟩) 2 2] 46)).alloc (.cells #[.int .i64 0, .int .i64 0, .int .i64 2, .int .i64 1, .int .i64 1, .int .i64 2, .int .i64 2, .int .i64 2, .int .i64 2, .int .i64 4, .int .i64 2, .int .i64 5] 82)).alloc (.cells #[.int .i64 2, .int .i64 2, .bool false] 65)) (w.heap.size + 1) 3 [.int .i64 0, .int .i64 1, .int .i64 2] := by
    have := ((((((((Blk.new (w.alloc (.cells #[.int .i64 16, .slice (some ⟨w.heap.size + 1 + 1 + 1 + 1, 0, none⟩) 3 3, .slice (some ⟨w.heap.size + 1 + 1 + 1 + 1 + 1 + 1 + 1, 0, none⟩) 2 2, .int .i64 6, .slice (some ⟨w.heap.size + 1 + 1 + 1 + 1 + 1 + 1 + 1 + 1, 0, none⟩) 3 3, .slice (some ⟨w.heap.size + 1 + 1 + 1 + 1 + 1 + 1 + 1 + 1 + 1, 0, none⟩) 1 1, .int .i64 10, .int .i64 6, .int .i64 2] 27)) 3 [.int .i64 0, .int .i64 1, .int .i64 2]).alloc (.cells #[.int .i64 3, .int .i64 4] 3)).alloc (.cells #[.int .i64 5, .int .i64 6] 3)).alloc (.cells #[.int .i64 0, .int .i64 0, .slice (some ⟨w.heap.size + 1, 0, none⟩) 3 3, .int .i64 0, .int .i64 4, .int .i64 2, .int .i64 0, .slice (some ⟨w.heap.size + 1 + 1, 0, none⟩) 2 2, .int .i64 4, .int .i64 4, .int .i64 1, .int .i64 2, .slice (some ⟨w.heap.size + 1 + 1 + 1, 0, none⟩) 2 2, .int .i64 8, .int .i64 2] 70)).alloc (.cells #[.int .i64 8, .int .i64 9, .int .i64 10] 3)).alloc (.cells #[.int .i64 11, .int .i64 12] 3)).alloc (.cells #[.int .i64 0, .slice (some ⟨w.heap.size + 1 + 1 + 1 + 1 + 1, 0, none⟩) 3 3, .int .i64 2, .slice (some ⟨w.heap.size + 1 + 1 + 1 + 1 + 1 + 1, 0, none⟩) 2 2] 46)).alloc (.cells #[.int .i64 0, .int .i64 0, .int .i64 2, .int .i64 1, .int .i64 1, .int .i64 2, .int .i64 2, .int .i64 2, .int .i64 2, .int .i64 4, .int .i64 2, .int .i64 5] 82)).alloc (.cells #[.int .i64 2, .int .i64 2, .bool false] 65)
    try simp only [World.size_alloc] at this
    exact this
  have h2 : Blk ((((((((((w.alloc (.cells #[.int .i64 16, .slice (some ⟨w.heap.size + 1 + 1 + 1 + 1, 0, none⟩) 3 3, .slice (some ⟨w.heap.size + 1 + 1 + 1 + 1 + 1 + 1 + 1, 0, none⟩) 2 2, .int .i64 6, .slice (some ⟨w.heap.size + 1 + 1 + 1 + 1 + 1 + 1 + 1 + 1, 0, none⟩) 3 3, .slice (some ⟨w.heap.size + 1 + 1 + 1 + 1 + 1 + 1 + 1 + 1 + 1, 0, none⟩) 1 1, .int .i64 10, .int .i64 6, .int .i64 2] 27)).alloc (.cells #[.int .i64 0, .int .i64 1, .int .i64 2] 3)).alloc (.cells #[.int .i64 3, .int .i64 4] 3)).alloc (.cells #[.int .i64 5, .int .i64 6] 3)).alloc (.cells #[.int .i64 0, .int .i64 0, .slice (some ⟨w.heap.size + 1, 0, none⟩) 3 3, .int .i64 0, .int .i64 4, .int .i64 2, .int .i64 0, .slice (some ⟨w.heap.size + 1 + 1, 0, none⟩) 2 2, .int .i64 4, .int .i64 4, .int .i64 1, .int .i64 2, .slice (some ⟨w.heap.size + 1 + 1 + 1, 0, none⟩) 2 2, .int .i64 8, .int .i64 2] 70)).alloc (.cells #[.int .i64 8, .int .i64 9, .int .i64 10] 3)).alloc (.cells #[.int .i64 11, .int .i64 12] 3)).alloc (.cells #[.int .i64 0, .slice (some ⟨w.heap.size + 1 + 1 + 1 + 1 + 1, 0, none⟩) 3 3, .int .i64 2, .slice (some ⟨w.heap.size + 1 + 1 + 1 + 1 + 1 + 1, 0, none⟩) 2 2] 46)).alloc (.cells #[.int .i64 0, .int .i64 0, .int .i64 2, .int .i64 1, .int .i64 1, .int .i64 2, .int .i64 2, .int .i64 2, .int .i64 2, .int .i64 4, .int .i64 2, .int .i64 5] 82)).alloc (.cells #[.int .i64 2, .int .i64 2, .bool false] 65)) (w.heap.size + 1 + 1) 3 [.int .i64 3, .int .i64 4] := by
    have := (((((((Blk.new ((w.alloc (.cells #[.int .i64 16, .slice (some ⟨w.heap.size + 1 + 1 + 1 + 1, 0, none⟩) 3 3, .slice (some ⟨w.heap.size + 1 + 1 + 1 + 1 + 1 + 1 + 1, 0, none⟩) 2 2, .int .i64 6, .slice (some ⟨w.heap.size + 1 + 1 + 1 + 1 + 1 + 1 + 1 + 1, 0, none⟩) 3 3, .slice (some ⟨w.heap.size + 1 + 1 + 1 + 1 + 1 + 1 + 1 + 1 + 1, 0, none⟩) 1 1, .int .i64 10, .int .i64 6, .int .i64 2] 27)).alloc (.cells #[.int .i64 0, .int .i64 1, .int .i64 2] 3)) 3 [.int .i64 3, .int .i64 4]).alloc (.cells #[.int .i64 5, .int .i64 6] 3)).alloc (.cells #[.int .i64 0, .int .i64 0, .slice (some ⟨w.heap.size + 1, 0, none⟩) 3 3, .int .i64 0, .int .i64 4, .int .i64 2, .int .i64 0, .slice (some ⟨w.heap.size + 1 + 1, 0, none⟩) 2 2, .int .i64 4, .int .i64 4, .int .i64 1, .int .i64 2, .slice (some ⟨w.heap.size + 1 + 1 + 1, 0, none⟩) 2 2, .int .i64 8, .int .i64 2] 70)).alloc (.cells #[.int .i64 8, .int .i64 9, .int .i64 10] 3)).alloc (.cells #[.int .i64 11, .int .i64 12] 3)).alloc (.cells #[.int .i64 0, .slice (some ⟨w.heap.size + 1 + 1 + 1 + 1 + 1, 0, none⟩) 3 3, .int .i64 2, .slice (some ⟨w.heap.size + 1 + 1 + 1 + 1 + 1 + 1, 0, none⟩) 2 2] 46)).alloc (.cells #[.int .i64 0, .int .i64 0, .int .i64 2, .int .i64 1, .int .i64 1, .int .i64 2, .int .i64 2, .int .i64 2, .int .i64 2, .int .i64 4, .int .i64 2, .int .i64 5] 82)).alloc (.cells #[.int .i64 2, .int .i64 2, .bool false] 65)
    try simp only [World.size_alloc] at this
    exact this
  have h3 : Blk ((((((((((w.alloc (.cells #[.int .i64 16, .slice (some ⟨w.heap.size + 1 + 1 + 1 + 1, 0, none⟩) 3 3, .slice (some ⟨w.heap.size + 1 + 1 + 1 + 1 + 1 + 1 + 1, 0, none⟩) 2 2, .int .i64 6, .slice (some ⟨w.heap.size + 1 + 1 + 1 + 1 + 1 + 1 + 1 + 1, 0, none⟩) 3 3, .slice (some ⟨w.heap.size + 1 + 1 + 1 + 1 + 1 + 1 + 1 + 1 + 1, 0, none⟩) 1 1, .int .i64 10, .int .i64 6, .int .i64 2] 27)).alloc (.cells #[.int .i64 0, .int .i64 1, .int .i64 2] 3)).alloc (.cells #[.int .i64 3, .int .i64 4] 3)).alloc (.cells #[.int .i64 5, .int .i64 6] 3)).alloc (.cells #[.int .i64 0, .int .i64 0, .slice (some ⟨w.heap.size + 1, 0, none⟩) 3 3, .int .i64 0, .int .i64 4, .int .i64 2, .int .i64 0, .slice (some ⟨w.heap.size + 1 + 1, 0, none⟩) 2 2, .int .i64 4, .int .i64 4, .int .i64 1, .int .i64 2, .slice (some ⟨w.heap.size + 1 + 1 + 1, 0, none⟩) 2 2, .int .i64 8, .int .i64 2] 70)).alloc (.cells #[.int .i64 8, .int .i64 9, .int .i64 10] 3)).alloc (.cells #[.int .i64 11, .int .i64 12] 3)).alloc (.cells #[.int .i64 0, .slice (some ⟨w.heap.size + 1 + 1 + 1 + 1 + 1, 0, none⟩) 3 3, .int .i64 2, .slice (some ⟨w.heap.size + 1 + 1 + 1 + 1 + 1 + 1, 0, none⟩) 2 2] 46)).alloc (.cells #[.int .i64 0, .int .i64 0, .int .i64 2, .int .i64 1, .int .i64 1, .int .i64 2, .int .i64 2, .int .i64 2, .int .i64 2, .int .i64 4, .int .i64 2, .int .i64 5] 82)).alloc (.cells #[.int .i64 2, .int .i64 2, .bool false] 65)) (w.heap.size + 1 + 1 + 1) 3 [.int .i64 5, .int .i64 6] := by
    have := ((((((Blk.new (((w.alloc (.cells #[.int .i64 16, .slice (some ⟨w.heap.size + 1 + 1 + 1 + 1, 0, none⟩) 3 3, .slice (some ⟨w.heap.size + 1 + 1 + 1 + 1 + 1 + 1 + 1, 0, none⟩) 2 2, .int .i64 6, .slice (some ⟨w.heap.size + 1 + 1 + 1 + 1 + 1 + 1 + 1 + 1, 0, none⟩) 3 3, .slice (some ⟨w.heap.size + 1 + 1 + 1 + 1 + 1 + 1 + 1 + 1 + 1, 0, none⟩) 1 1, .int .i64 10, .int .i64 6, .int .i64 2] 27)).alloc (.cells #[.int .i64 0, .int .i64 1, .int .i64 2] 3)).alloc (.cells #[.int .i64 3, .int .i64 4] 3)) 3 [.int .i64 5, .int .i64 6]).alloc (.cells #[.int .i64 0, .int .i64 0, .slice (some ⟨w.heap.size + 1, 0, none⟩) 3 3, .int .i64 0, .int .i64 4, .int .i64 2, .int .i64 0, .slice (some ⟨w.heap.size + 1 + 1, 0, none⟩) 2 2, .int .i64 4, .int .i64 4, .int .i64 1, .int .i64 2, .slice (some ⟨w.heap.size + 1 + 1 + 1, 0, none⟩) 2 2, .int .i64 8, .int .i64 2] 70)).alloc (.cells #[.int .i64 8, .int .i64 9, .int .i64 10] 3)).alloc (.cells #[.int .i64 11, .int .i64 12] 3)).alloc (.cells #[.int .i64 0, .slice (some ⟨w.heap.size + 1 + 1 + 1 + 1 + 1, 0, none⟩) 3 3, .int .i64 2, .slice (some ⟨w.heap.size + 1 + 1 + 1 + 1 + 1 + 1, 0, none⟩) 2 2] 46)).alloc (.cells #[.int .i64 0, .int .i64 0, .int .i64 2, .int .i64 1, .int .i64 1, .int .i64 2, .int .i64 2, .int .i64 2, .int .i64 2, .int .i64 4, .int .i64 2, .int .i64 5] 82)).alloc (.cells #[.int .i64 2, .int .i64 2, .bool false] 65)
    try simp only [World.size_alloc] at this
    exact this
  have h4 : Blk ((((((((((w.alloc (.cells #[.int .i64 16, .slice (some ⟨w.heap.size + 1 + 1 + 1 + 1, 0, none⟩) 3 3, .slice (some ⟨w.heap.size + 1 + 1 + 1 + 1 + 1 + 1 + 1, 0, none⟩) 2 2, .int .i64 6, .slice (some ⟨w.heap.size + 1 + 1 + 1 + 1 + 1 + 1 + 1 + 1, 0, none⟩) 3 3, .slice (some ⟨w.heap.size + 1 + 1 + 1 + 1 + 1 + 1 + 1 + 1 + 1, 0, none⟩) 1 1, .int .i64 10, .int .i64 6, .int .i64 2] 27)).alloc (.cells #[.int .i64 0, .int .i64 1, .int .i64 2] 3)).alloc (.cells #[.int .i64 3, .int .i64 4] 3)).alloc (.cells #[.int .i64 5, .int .i64 6] 3)).alloc (.cells #[.int .i64 0, .int .i64 0, .slice (some ⟨w.heap.size + 1, 0, none⟩) 3 3, .int .i64 0, .int .i64 4, .int .i64 2, .int .i64 0, .slice (some ⟨w.heap.size + 1 + 1, 0, none⟩) 2 2, .int .i64 4, .int .i64 4, .int .i64 1, .int .i64 2, .slice (some ⟨w.heap.size + 1 + 1 + 1, 0, none⟩) 2 2, .int .i64 8, .int .i64 2] 70)).alloc (.cells #[.int .i64 8, .int .i64 9, .int .i64 10] 3)).alloc (.cells #[.int .i64 11, .int .i64 12] 3)).alloc (.cells #[.int .i64 0, .slice (some ⟨w.heap.size + 1 + 1 + 1 + 1 + 1, 0, none⟩) 3 3, .int .i64 2, .slice (some ⟨w.heap.size + 1 + 1 + 1 + 1 + 1 + 1, 0, none⟩) 2 2] 46)).alloc (.cells #[.int .i64 0, .int .i64 0, .int .i64 2, .int .i64 1, .int .i64 1, .int .i64 2, .int .i64 2, .int .i64 2, .int .i64 2, .int .i64 4, .int .i64 2, .int .i64 5] 82)).alloc (.cells #[.int .i64 2, .int .i64 2, .bool false] 65)) (w.heap.size + 1 + 1 + 1 + 1) 70 [.int .i64 0, .int .i64 0, .slice (some ⟨w.heap.size + 1, 0, none⟩) 3 3, .int .i64 0, .int .i64 4, .int .i64 2, .int .i64 0, .slice (some ⟨w.heap.size + 1 + 1, 0, none⟩) 2 2, .int .i64 4, .int .i64 4, .int .i64 1, .int .i64 2, .slice (some ⟨w.heap.size + 1 + 1 + 1, 0, none⟩) 2 2, .int .i64 8, .int .i64 2] := by
    have := (((((Blk.new ((((w.alloc (.cells #[.int .i64 16, .slice (some ⟨w.heap.size + 1 + 1 + 1 + 1, 0, none⟩) 3 3, .slice (some ⟨w.heap.size + 1 + 1 + 1 + 1 + 1 + 1 + 1, 0, none⟩) 2 2, .int .i64 6, .slice (some ⟨w.heap.size + 1 + 1 + 1 + 1 + 1 + 1 + 1 + 1, 0, none⟩) 3 3, .slice (some ⟨w.heap.size + 1 + 1 + 1 + 1 + 1 + 1 + 1 + 1 + 1, 0, none⟩) 1 1, .int .i64 10, .int .i64 6, .int .i64 2] 27)).alloc (.cells #[.int .i64 0, .int .i64 1, .int .i64 2] 3)).alloc (.cells #[.int .i64 3, .int .i64 4] 3)).alloc (.cells #[.int .i64 5, .int .i64 6] 3)) 70 [.int .i64 0, .int .i64 0, .slice (some ⟨w.heap.size + 1, 0, none⟩) 3 3, .int .i64 0, .int .i64 4, .int .i64 2, .int .i64 0, .slice (some ⟨w.heap.size + 1 + 1, 0, none⟩) 2 2, .int .i64 4, .int .i64 4, .int .i64 1, .int .i64 2, .slice (some ⟨w.heap.size + 1 + 1 + 1, 0, none⟩) 2 2, .int .i64 8, .int .i64 2]).alloc (.cells #[.int .i64 8, .int .i64 9, .int .i64 10] 3)).alloc (.cells #[.int .i64 11, .int .i64 12] 3)).alloc (.cells #[.int .i64 0, .slice (some ⟨w.heap.size + 1 + 1 + 1 + 1 + 1, 0, none⟩) 3 3, .int .i64 2, .slice (some ⟨w.heap.size + 1 + 1 + 1 + 1 + 1 + 1, 0, none⟩) 2 2] 46)).alloc (.cells #[.int .i64 0, .int .i64 0, .int .i64 2, .int .i64 1, .int .i64 1, .int .i64 2, .int .i64 2, .int .i64 2, .int .i64 2, .int .i64 4, .int .i64 2, .int .i64 5] 82)).alloc (.cells #[.int .i64 2, .int .i64 2, .bool false] 65)
    try simp only [World.size_alloc] at this
    exact this
  have h5 : Blk ((((((((((w.alloc (.cells #[.int .i64 16, .slice (some ⟨w.heap.size + 1 + 1 + 1 + 1, 0, none⟩) 3 3, .slice (some ⟨w.heap.size + 1 + 1 + 1 + 1 + 1 + 1 + 1, 0, none⟩) 2 2, .int .i64 6, .slice (some ⟨w.heap.size + 1 + 1 + 1 + 1 + 1 + 1 + 1 + 1, 0, none⟩) 3 3, .slice (some ⟨w.heap.size + 1 + 1 + 1 + 1 + 1 + 1 + 1 + 1 + 1, 0, none⟩) 1 1, .int .i64 10, .int .i64 6, .int .i64 2] 27)).alloc (.cells #[.int .i64 0, .int .i64 1, .int .i64 2] 3)).alloc (.cells #[.int .i64 3, .int .i64 4] 3)).alloc (.cells #[.int .i64 5, .int .i64 6] 3)).alloc (.cells #[.int .i64 0, .int .i64 0, .slice (some ⟨w.heap.size + 1, 0, none⟩) 3 3, .int .i64 0, .int .i64 4, .int .i64 2, .int .i64 0, .slice (some ⟨w.heap.size + 1 + 1, 0, none⟩) 2 2, .int .i64 4, .int .i64 4, .int .i64 1, .int .i64 2, .slice (some ⟨w.heap.size + 1 + 1 + 1, 0, none⟩) 2 2, .int .i64 8, .int .i64 2] 70)).alloc (.cells #[.int .i64 8, .int .i64 9, .int .i64 10] 3)).alloc (.cells #[.int .i64 11, .int .i64 12] 3)).alloc (.cells #[.int .i64 0, .slice (some ⟨w.heap.size + 1 + 1 + 1 + 1 + 1, 0, none⟩) 3 3, .int .i64 2, .slice (some ⟨w.heap.size + 1 + 1 + 1 + 1 + 1 + 1, 0, none⟩) 2 2] 46)).alloc (.cells #[.int .i64 0, .int .i64 0, .int .i64 2, .int .i64 1, .int .i64 1, .int .i64 2, .int .i64 2, .int .i64 2, .int .i64 2, .int .i64 4, .int .i64 2, .int .i64 5] 82)).alloc (.cells #[.int .i64 2, .int .i64 2, .bool false] 65)) (w.heap.size + 1 + 1 + 1 + 1 + 1) 3 [.int .i64 8, .int .i64 9, .int .i64 10] := by
    have := ((((Blk.new (((((w.alloc (.cells #[.int .i64 16, .slice (some ⟨w.heap.size + 1 + 1 + 1 + 1, 0, none⟩) 3 3, .slice (some ⟨w.heap.size + 1 + 1 + 1 + 1 + 1 + 1 + 1, 0, none⟩) 2 2, .int .i64 6, .slice (some ⟨w.heap.size + 1 + 1 + 1 + 1 + 1 + 1 + 1 + 1, 0, none⟩) 3 3, .slice (some ⟨w.heap.size + 1 + 1 + 1 + 1 + 1 + 1 + 1 + 1 + 1, 0, none⟩) 1 1, .int .i64 10, .int .i64 6, .int .i64 2] 27)).alloc (.cells #[.int .i64 0, .int .i64 1, .int .i64 2] 3)).alloc (.cells #[.int .i64 3, .int .i64 4] 3)).alloc (.cells #[.int .i64 5, .int .i64 6] 3)).alloc (.cells #[.int .i64 0, .int .i64 0, .slice (some ⟨w.heap.size + 1, 0, none⟩) 3 3, .int .i64 0, .int .i64 4, .int .i64 2, .int .i64 0, .slice (some ⟨w.heap.size + 1 + 1, 0, none⟩) 2 2, .int .i64 4, .int .i64 4, .int .i64 1, .int .i64 2, .slice (some ⟨w.heap.size + 1 + 1 + 1, 0, none⟩) 2 2, .int .i64 8, .int .i64 2] 70)) 3 [.int .i64 8, .int .i64 9, .int .i64 10]).alloc (.cells #[.int .i64 11, .int .i64 12] 3)).alloc (.cells #[.int .i64 0, .slice (some ⟨w.heap.size + 1 + 1 + 1 + 1 + 1, 0, none⟩) 3 3, .int .i64 2, .slice (some ⟨w.heap.size + 1 + 1 + 1 + 1 + 1 + 1, 0, none⟩) 2 2] 46)).alloc (.cells #[.int .i64 0, .int .i64 0, .int .i64 2, .int .i64 1, .int .i64 1, .int .i64 2, .int .i64 2, .int .i64 2, .int .i64 2, .int .i64 4, .int .i64 2, .int .i64 5] 82)).alloc (.cells #[.int .i64 2, .int .i64 2, .bool false] 65)
    try simp only [World.size_alloc] at this
    exact this
  have h6 : Blk ((((((((((w.alloc (.cells #[.int .i64 16, .slice (some ⟨w.heap.size + 1 + 1 + 1 + 1, 0, none⟩) 3 3, .slice (some ⟨w.heap.size + 1 + 1 + 1 + 1 + 1 + 1 + 1, 0, none⟩) 2 2, .int .i64 6, .slice (some ⟨w.heap.size + 1 + 1 + 1 + 1 + 1 + 1 + 1 + 1, 0, none⟩) 3 3, .slice (some ⟨w.heap.size + 1 + 1 + 1 + 1 + 1 + 1 + 1 + 1 + 1, 0, none⟩) 1 1, .int .i64 10, .int .i64 6, .int .i64 2] 27)).alloc (.cells #[.int .i64 0, .int .i64 1, .int .i64 2] 3)).alloc (.cells #[.int .i64 3, .int .i64 4] 3)).alloc (.cells #[.int .i64 5, .int .i64 6] 3)).alloc (.cells #[.int .i64 0, .int .i64 0, .slice (some ⟨w.heap.size + 1, 0, none⟩) 3 3, .int .i64 0, .int .i64 4, .int .i64 2, .int .i64 0, .slice (some ⟨w.heap.size + 1 + 1, 0, none⟩) 2 2, .int .i64 4, .int .i64 4, .int .i64 1, .int .i64 2, .slice (some ⟨w.heap.size + 1 + 1 + 1, 0, none⟩) 2 2, .int .i64 8, .int .i64 2] 70)).alloc (.cells #[.int .i64 8, .int .i64 9, .int .i64 10] 3)).alloc (.cells #[.int .i64 11, .int .i64 12] 3)).alloc (.cells #[.int .i64 0, .slice (some ⟨w.heap.size + 1 + 1 + 1 + 1 + 1, 0, none⟩) 3 3, .int .i64 2, .slice (some ⟨w.heap.size + 1 + 1 + 1 + 1 + 1 + 1, 0, none⟩) 2 2] 46)).alloc (.cells #[.int .i64 0, .int .i64 0, .int .i64 2, .int .i64 1, .int .i64 1, .int .i64 2, .int .i64 2, .int .i64 2, .int .i64 2, .int .i64 4, .int .i64 2, .int .i64 5] 82)).alloc (.cells #[.int .i64 2, .int .i64 2, .bool false] 65)) (w.heap.size + 1 + 1 + 1 + 1 + 1 + 1) 3 [.int .i64 11, .int .i64 12] := by
    have := (((Blk.new ((((((w.alloc (.cells #[.int .i64 16, .slice (some ⟨w.heap.size + 1 + 1 + 1 + 1, 0, none⟩) 3 3, .slice (some ⟨w.heap.size + 1 + 1 + 1 + 1 + 1 + 1 + 1, 0, none⟩) 2 2, .int .i64 6, .slice (some ⟨w.heap.size + 1 + 1 + 1 + 1 + 1 + 1 + 1 + 1, 0, none⟩) 3 3, .slice (some ⟨w.heap.size + 1 + 1 + 1 + 1 + 1 + 1 + 1 + 1 + 1, 0, none⟩) 1 1, .int .i64 10, .int .i64 6, .int .i64 2] 27)).alloc (.cells #[.int .i64 0, .int .i64 1, .int .i64 2] 3)).alloc (.cells #[.int .i64 3, .int .i64 4] 3)).alloc (.cells #[.int .i64 5, .int .i64 6] 3)).alloc (.cells #[.int .i64 0, .int .i64 0, .slice (some ⟨w.heap.size + 1, 0, none⟩) 3 3, .int .i64 0, .int .i64 4, .int .i64 2, .int .i64 0, .slice (some ⟨w.heap.size + 1 + 1, 0, none⟩) 2 2, .int .i64 4, .int .i64 4, .int .i64 1, .int .i64 2, .slice (some ⟨w.heap.size + 1 + 1 + 1, 0, none⟩) 2 2, .int .i64 8, .int .i64 2] 70)).alloc (.cells #[.int .i64 8, .int .i64 9, .int .i64 10] 3)) 3 [.int .i64 11, .int .i64 12]).alloc (.cells #[.int .i64 0, .slice (some ⟨w.heap.size + 1 + 1 + 1 + 1 + 1, 0, none⟩) 3 3, .int .i64 2, .slice (some ⟨w.heap.size + 1 + 1 + 1 + 1 + 1 + 1, 0, none⟩) 2 2] 46)).alloc (.cells #[.int .i64 0, .int .i64 0, .int .i64 2, .int .i64 1, .int .i64 1, .int .i64 2, .int .i64 2, .int .i64 2, .int .i64 2, .int .i64 4, .int .i64 2, .int .i64 5] 82)).alloc (.cells #[.int .i64 2, .int .i64 2, .bool false] 65)
    try simp only [World.size_alloc] at this
    exact this
  have h7 : Blk ((((((((((w.alloc (.cells #[.int .i64 16, .slice (some ⟨w.heap.size + 1 + 1 + 1 + 1, 0, none⟩) 3 3, .slice (some ⟨w.heap.size + 1 + 1 + 1 + 1 + 1 + 1 + 1, 0, none⟩) 2 2, .int .i64 6, .slice (some ⟨w.heap.size + 1 + 1 + 1 + 1 + 1 + 1 + 1 + 1, 0, none⟩) 3 3, .slice (some ⟨w.heap.size + 1 + 1 + 1 + 1 + 1 + 1 + 1 + 1 + 1, 0, none⟩) 1 1, .int .i64 10, .int .i64 6, .int .i64 2] 27)).alloc (.cells #[.int .i64 0, .int .i64 1, .int .i64 2] 3)).alloc (.cells #[.int .i64 3, .int .i64 4] 3)).alloc (.cells #[.int .i64 5, .int .i64 6] 3)).alloc (.cells #[.int .i64 0, .int .i64 0, .slice (some ⟨w.heap.size + 1, 0, none⟩) 3 3, .int .i64 0, .int .i64 4, .int .i64 2, .int .i64 0, .slice (some ⟨w.heap.size + 1 + 1, 0, none⟩) 2 2, .int .i64 4, .int .i64 4, .int .i64 1, .int .i64 2, .slice (some ⟨w.heap.size + 1 + 1 + 1, 0, none⟩) 2 2, .int .i64 8, .int .i64 2] 70)).alloc (.cells #[.int .i64 8, .int .i64 9, .int .i64 10] 3)).alloc (.cells #[.int .i64 11, .int .i64 12] 3)).alloc (.cells #[.int .i64 0, .slice (some ⟨w.heap.size + 1 + 1 + 1 + 1 + 1, 0, none⟩) 3 3, .int .i64 2, .slice (some ⟨w.heap.size + 1 + 1 + 1 + 1 + 1 + 1, 0, none⟩) 2 2] 46)).alloc (.cells #[.int .i64 0, .int .i64 0, .int .i64 2, .int .i64 1, .int .i64 1, .int .i64 2, .int .i64 2, .int .i64 2, .int .i64 2, .int .i64 4, .int .i64 2, .int .i64 5] 82)).alloc (.cells #[.int .i64 2, .int .i64 2, .bool false] 65)) (w.heap.size + 1 + 1 + 1 + 1 + 1 + 1 + 1) 46 [.int .i64 0, .slice (some ⟨w.heap.size + 1 + 1 + 1 + 1 + 1, 0, none⟩) 3 3, .int .i64 2, .slice (some ⟨w.heap.size + 1 + 1 + 1 + 1 + 1 + 1, 0, none⟩) 2 2] := by
    have := ((Blk.new (((((((w.alloc (.cells #[.int .i64 16, .slice (some ⟨w.heap.size + 1 + 1 + 1 + 1, 0, none⟩) 3 3, .slice (some ⟨w.heap.size + 1 + 1 + 1 + 1 + 1 + 1 + 1, 0, none⟩) 2 2, .int .i64 6, .slice (some ⟨w.heap.size + 1 + 1 + 1 + 1 + 1 + 1 + 1 + 1, 0, none⟩) 3 3, .slice (some ⟨w.heap.size + 1 + 1 + 1 + 1 + 1 + 1 + 1 + 1 + 1, 0, none⟩) 1 1, .int .i64 10, .int .i64 6, .int .i64 2] 27)).alloc (.cells #[.int .i64 0, .int .i64 1, .int .i64 2] 3)).alloc (.cells #[.int .i64 3, .int .i64 4] 3)).alloc (.cells #[.int .i64 5, .int .i64 6] 3)).alloc (.cells #[.int .i64 0, .int .i64 0, .slice (some ⟨w.heap.size + 1, 0, none⟩) 3 3, .int .i64 0, .int .i64 4, .int .i64 2, .int .i64 0, .slice (some ⟨w.heap.size + 1 + 1, 0, none⟩) 2 2, .int .i64 4, .int .i64 4, .int .i64 1, .int .i64 2, .slice (some ⟨w.heap.size + 1 + 1 + 1, 0, none⟩) 2 2, .int .i64 8, .int .i64 2] 70)).alloc (.cells #[.int .i64 8, .int .i64 9, .int .i64 10] 3)).alloc (.cells #[.int .i64 11, .int .i64 12] 3)) 46 [.int .i64 0, .slice (some ⟨w.heap.size + 1 + 1 + 1 + 1 + 1, 0, none⟩) 3 3, .int .i64 2, .slice (some ⟨w.heap.size + 1 + 1 + 1 + 1 + 1 + 1, 0, none⟩) 2 2]).alloc (.cells #[.int .i64 0, .int .i64 0, .int .i64 2, .int .i64 1, .int .i64 1, .int .i64 2, .int .i64 2, .int .i64 2, .int .i64 2, .int .i64 4, .int .i64 2, .int .i64 5] 82)).alloc (.cells #[.int .i64 2, .int .i64 2, .bool false] 65)
    try simp only [World.size_alloc] at this
    exact this
  have h8 : Blk ((((((((((w.alloc (.cells #[.int .i64 16, .slice (some ⟨w.heap.size + 1 + 1 + 1 + 1, 0, none⟩) 3 3, .slice (some ⟨w.heap.size + 1 + 1 + 1 + 1 + 1 + 1 + 1, 0, none⟩) 2 2, .int .i64 6, .slice (some ⟨w.heap.size + 1 + 1 + 1 + 1 + 1 + 1 + 1 + 1, 0, none⟩) 3 3, .slice (some ⟨w.heap.size + 1 + 1 + 1 + 1 + 1 + 1 + 1 + 1 + 1, 0, none⟩) 1 1, .int .i64 10, .int .i64 6, .int .i64 2] 27)).alloc (.cells #[.int .i64 0, .int .i64 1, .int .i64 2] 3)).alloc (.cells #[.int .i64 3, .int .i64 4] 3)).alloc (.cells #[.int .i64 5, .int .i64 6] 3)).alloc (.cells #[.int .i64 0, .int .i64 0, .slice (some ⟨w.heap.size + 1, 0, none⟩) 3 3, .int .i64 0, .int .i64 4, .int .i64 2, .int .i64 0, .slice (some ⟨w.heap.size + 1 + 1, 0, none⟩) 2 2, .int .i64 4, .int .i64 4, .int .i64 1, .int .i64 2, .slice (some ⟨w.heap.size + 1 + 1 + 1, 0, none⟩) 2 2, .int .i64 8, .int .i64 2] 70)).alloc (.cells #[.int .i64 8, .int .i64 9, .int .i64 10] 3)).alloc (.cells #[.int .i64 11, .int .i64 12] 3)).alloc (.cells #[.int .i64 0, .slice (some ⟨w.heap.size + 1 + 1 + 1 + 1 + 1, 0, none⟩) 3 3, .int .i64 2, .slice (some ⟨w.heap.size + 1 + 1 + 1 + 1 + 1 + 1, 0, none⟩) 2 2] 46)).alloc (.cells #[.int .i64 0, .int .i64 0, .int .i64 2, .int .i64 1, .int .i64 1, .int .i64 2, .int .i64 2, .int .i64 2, .int .i64 2, .int .i64 4, .int .i64 2, .int .i64 5] 82)).alloc (.cells #[.int .i64 2, .int .i64 2, .bool false] 65)) (w.heap.size + 1 + 1 + 1 + 1 + 1 + 1 + 1 + 1) 82 [.int .i64 0, .int .i64 0, .int .i64 2, .int .i64 1, .int .i64 1, .int .i64 2, .int .i64 2, .int .i64 2, .int .i64 2, .int .i64 4, .int .i64 2, .int .i64 5] := by
    have := (Blk.new ((((((((w.alloc (.cells #[.int .i64 16, .slice (some ⟨w.heap.size + 1 + 1 + 1 + 1, 0, none⟩) 3 3, .slice (some ⟨w.heap.size + 1 + 1 + 1 + 1 + 1 + 1 + 1, 0, none⟩) 2 2, .int .i64 6, .slice (some ⟨w.heap.size + 1 + 1 + 1 + 1 + 1 + 1 + 1 + 1, 0, none⟩) 3 3, .slice (some ⟨w.heap.size + 1 + 1 + 1 + 1 + 1 + 1 + 1 + 1 + 1, 0, none⟩) 1 1, .int .i64 10, .int .i64 6, .int .i64 2] 27)).alloc (.cells #[.int .i64 0, .int .i64 1, .int .i64 2] 3)).alloc (.cells #[.int .i64 3, .int .i64 4] 3)).alloc (.cells #[.int .i64 5, .int .i64 6] 3)).alloc (.cells #[.int .i64 0, .int .i64 0, .slice (some ⟨w.heap.size + 1, 0, none⟩) 3 3, .int .i64 0, .int .i64 4, .int .i64 2, .int .i64 0, .slice (some ⟨w.heap.size + 1 + 1, 0, none⟩) 2 2, .int .i64 4, .int .i64 4, .int .i64 1, .int .i64 2, .slice (some ⟨w.heap.size + 1 + 1 + 1, 0, none⟩) 2 2, .int .i64 8, .int .i64 2] 70)).alloc (.cells #[.int .i64 8, .int .i64 9, .int .i64 10] 3)).alloc (.cells #[.int .i64 11, .int .i64 12] 3)).alloc (.cells #[.int .i64 0, .slice (some ⟨w.heap.size + 1 + 1 + 1 + 1 + 1, 0, none⟩) 3 3, .int .i64 2, .slice (some ⟨w.heap.size + 1 + 1 + 1 + 1 + 1 + 1, 0, none⟩) 2 2] 46)) 82 [.int .i64 0, .int .i64 0, .int .i64 2, .int .i64 1, .int .i64 1, .int .i64 2, .int .i64 2, .int .i64 2, .int .i64 2, .int .i64 4, .int .i64 2, .int .i64 5]).alloc (.cells #[.int .i64 2, .int .i64 2, .bool false] 65)
    try simp only [World.size_alloc] at this
    exact this
  have h9 : Blk ((((((((((w.alloc (.cells #[.int .i64 16, .slice (some ⟨w.heap.size + 1 + 1 + 1 + 1, 0, none⟩) 3 3, .slice (some ⟨w.heap.size + 1 + 1 + 1 + 1 + 1 + 1 + 1, 0, none⟩) 2 2, .int .i64 6, .slice (some ⟨w.heap.size + 1 + 1 + 1 + 1 + 1 + 1 + 1 + 1, 0, none⟩) 3 3, .slice (some ⟨w.heap.size + 1 + 1 + 1 + 1 + 1 + 1 + 1 + 1 + 1, 0, none⟩) 1 1, .int .i64 10, .int .i64 6, .int .i64 2] 27)).alloc (.cells #[.int .i64 0, .int .i64 1, .int .i64 2] 3)).alloc (.cells #[.int .i64 3, .int .i64 4] 3)).alloc (.cells #[.int .i64 5, .int .i64 6] 3)).alloc (.cells #[.int .i64 0, .int .i64 0, .slice (some ⟨w.heap.size + 1, 0, none⟩) 3 3, .int .i64 0, .int .i64 4, .int .i64 2, .int .i64 0, .slice (some ⟨w.heap.size + 1 + 1, 0, none⟩) 2 2, .int .i64 4, .int .i64 4, .int .i64 1, .int .i64 2, .slice (some ⟨w.heap.size + 1 + 1 + 1, 0, none⟩) 2 2, .int .i64 8, .int .i64 2] 70)).alloc (.cells #[.int .i64 8, .int .i64 9, .int .i64 10] 3)).alloc (.cells #[.int .i64 11, .int .i64 12] 3)).alloc (.cells #[.int .i64 0, .slice (some ⟨w.heap.size + 1 + 1 + 1 + 1 + 1, 0, none⟩) 3 3, .int .i64 2, .slice (some ⟨w.heap.size + 1 + 1 + 1 + 1 + 1 + 1, 0, none⟩) 2 2] 46)).alloc (.cells #[.int .i64 0, .int .i64 0, .int .i64 2, .int .i64 1, .int .i64 1, .int .i64 2, .int .i64 2, .int .i64 2, .int .i64 2, .int .i64 4, .int .i64 2, .int .i64 5] 82)).alloc (.cells #[.int .i64 2, .int .i64 2, .bool false] 65)) (w.heap.size + 1 + 1 + 1 + 1 + 1 + 1 + 1 + 1 + 1) 65 [.int .i64 2, .int .i64 2, .bool false] := by
    have := Blk.new (((((((((w.alloc (.cells #[.int .i64 16, .slice (some ⟨w.heap.size + 1 + 1 + 1 + 1, 0, none⟩) 3 3, .slice (some ⟨w.heap.size + 1 + 1 + 1 + 1 + 1 + 1 + 1, 0, none⟩) 2 2, .int .i64 6, .slice (some ⟨w.heap.size + 1 + 1 + 1 + 1 + 1 + 1 + 1 + 1, 0, none⟩) 3 3, .slice (some ⟨w.heap.size + 1 + 1 + 1 + 1 + 1 + 1 + 1 + 1 + 1, 0, none⟩) 1 1, .int .i64 10, .int .i64 6, .int .i64 2] 27)).alloc (.cells #[.int .i64 0, .int .i64 1, .int .i64 2] 3)).alloc (.cells #[.int .i64 3, .int .i64 4] 3)).alloc (.cells #[.int .i64 5, .int .i64 6] 3)).alloc (.cells #[.int .i64 0, .int .i64 0, .slice (some ⟨w.heap.size + 1, 0, none⟩) 3 3, .int .i64 0, .int .i64 4, .int .i64 2, .int .i64 0, .slice (some ⟨w.heap.size + 1 + 1, 0, none⟩) 2 2, .int .i64 4, .int .i64 4, .int .i64 1, .int .i64 2, .slice (some ⟨w.heap.size + 1 + 1 + 1, 0, none⟩) 2 2, .int .i64 8, .int .i64 2] 70)).alloc (.cells #[.int .i64 8, .int .i64 9, .int .i64 10] 3)).alloc (.cells #[.int .i64 11, .int .i64 12] 3)).alloc (.cells #[.int .i64 0, .slice (some ⟨w.heap.size + 1 + 1 + 1 + 1 + 1, 0, none⟩) 3 3, .int .i64 2, .slice (some ⟨w.heap.size + 1 + 1 + 1 + 1 + 1 + 1, 0, none⟩) 2 2] 46)).alloc (.cells #[.int .i64 0, .int .i64 0, .int .i64 2, .int .i64 1, .int .i64 1, .int .i64 2, .int .i64 2, .int .i64 2, .int .i64 2, .int .i64 4, .int .i64 2, .int .i64 5] 82)) 65 [.int .i64 2, .int .i64 2, .bool false]
    try simp only [World.size_alloc] at this
    exact this
  have hB : Below w.heap.size w ((((((((((w.alloc (.cells #[.int .i64 16, .slice (some ⟨w.heap.size + 1 + 1 + 1 + 1, 0, none⟩) 3 3, .slice (some ⟨w.heap.size + 1 + 1 + 1 + 1 + 1 + 1 + 1, 0, none⟩) 2 2, .int .i64 6, .slice (some ⟨w.heap.size + 1 + 1 + 1 + 1 + 1 + 1 + 1 + 1, 0, none⟩) 3 3, .slice (some ⟨w.heap.size + 1 + 1 + 1 + 1 + 1 + 1 + 1 + 1 + 1, 0, none⟩) 1 1, .int .i64 10, .int .i64 6, .int .i64 2] 27)).alloc (.cells #[.int .i64 0, .int .i64 1, .int .i64 2] 3)).alloc (.cells #[.int .i64 3, .int .i64 4] 3)).alloc (.cells #[.int .i64 5, .int .i64 6] 3)).alloc (.cells #[.int .i64 0, .int .i64 0, .slice (some ⟨w.heap.size + 1, 0, none⟩) 3 3, .int .i64 0, .int .i64 4, .int .i64 2, .int .i64 0, .slice (some ⟨w.heap.size + 1 + 1, 0, none⟩) 2 2, .int .i64 4, .int .i64 4, .int .i64 1, .int .i64 2, .slice (some ⟨w.heap.size + 1 + 1 + 1, 0, none⟩) 2 2, .int .i64 8, .int .i64 2] 70)).alloc (.cells #[.int .i64 8, .int .i64 9, .int .i64 10] 3)).alloc (.cells #[.int .i64 11, .int .i64 12] 3)).alloc (.cells #[.int .i64 0, .slice (some ⟨w.heap.size + 1 + 1 + 1 + 1 + 1, 0, none⟩) 3 3, .int .i64 2, .slice (some ⟨w.heap.size + 1 + 1 + 1 + 1 + 1 + 1, 0, none⟩) 2 2] 46)).alloc (.cells #[.int .i64 0, .int .i64 0, .int .i64 2, .int .i64 1, .int .i64 1, .int .i64 2, .int .i64 2, .int .i64 2, .int .i64 2, .int .i64 4, .int .i64 2, .int .i64 5] 82)).alloc (.cells #[.int .i64 2, .int .i64 2, .bool false] 65)) := (((((((((((Below.refl w.heap.size w).alloc (by first | omega | (simp only [World.size_alloc]; omega)) (.cells #[.int .i64 16, .slice (some ⟨w.heap.size + 1 + 1 + 1 + 1, 0, none⟩) 3 3, .slice (some ⟨w.heap.size + 1 + 1 + 1 + 1 + 1 + 1 + 1, 0, none⟩) 2 2, .int .i64 6, .slice (some ⟨w.heap.size + 1 + 1 + 1 + 1 + 1 + 1 + 1 + 1, 0, none⟩) 3 3, .slice (some ⟨w.heap.size + 1 + 1 + 1 + 1 + 1 + 1 + 1 + 1 + 1, 0, none⟩) 1 1, .int .i64 10, .int .i64 6, .int .i64 2] 27)).alloc (by first | omega | (simp only [World.size_alloc]; omega)) (.cells #[.int .i64 0, .int .i64 1, .int .i64 2] 3)).alloc (by first | omega | (simp only [World.size_alloc]; omega)) (.cells #[.int .i64 3, .int .i64 4] 3)).alloc (by first | omega | (simp only [World.size_alloc]; omega)) (.cells #[.int .i64 5, .int .i64 6] 3)).alloc (by first | omega | (simp only [World.size_alloc]; omega)) (.cells #[.int .i64 0, .int .i64 0, .slice (some ⟨w.heap.size + 1, 0, none⟩) 3 3, .int .i64 0, .int .i64 4, .int .i64 2, .int .i64 0, .slice (some ⟨w.heap.size + 1 + 1, 0, none⟩) 2 2, .int .i64 4, .int .i64 4, .int .i64 1, .int .i64 2, .slice (some ⟨w.heap.size + 1 + 1 + 1, 0, none⟩) 2 2, .int .i64 8, .int .i64 2] 70)).alloc (by first | omega | (simp only [World.size_alloc]; omega)) (.cells #[.int .i64 8, .int .i64 9, .int .i64 10] 3)).alloc (by first | omega | (simp only [World.size_alloc]; omega)) (.cells #[.int .i64 11, .int .i64 12] 3)).alloc (by first | omega | (simp only [World.size_alloc]; omega)) (.cells #[.int .i64 0, .slice (some ⟨w.heap.size + 1 + 1 + 1 + 1 + 1, 0, none⟩) 3 3, .int .i64 2, .slice (some ⟨w.heap.size + 1 + 1 + 1 + 1 + 1 + 1, 0, none⟩) 2 2] 46)).alloc (by first | omega | (simp only [World.size_alloc]; omega)) (.cells #[.int .i64 0, .int .i64 0, .int .i64 2, .int .i64 1, .int .i64 1, .int .i64 2, .int .i64 2, .int .i64 2, .int .i64 2, .int .i64 4, .int .i64 2, .int .i64 5] 82)).alloc (by first | omega | (simp only [World.size_alloc]; omega)) (.cells #[.int .i64 2, .int .i64 2, .bool false] 65))
  have hsz : ((((((((((w.alloc (.cells #[.int .i64 16, .slice (some ⟨w.heap.size + 1 + 1 + 1 + 1, 0, none⟩) 3 3, .slice (some ⟨w.heap.size + 1 + 1 + 1 + 1 + 1 + 1 + 1, 0, none⟩) 2 2, .int .i64 6, .slice (some ⟨w.heap.size + 1 + 1 + 1 + 1 + 1 + 1 + 1 + 1, 0, none⟩) 3 3, .slice (some ⟨w.heap.size + 1 + 1 + 1 + 1 + 1 + 1 + 1 + 1 + 1, 0, none⟩) 1 1, .int .i64 10, .int .i64 6, .int .i64 2] 27)).alloc (.cells #[.int .i64 0, .int .i64 1, .int .i64 2] 3)).alloc (.cells #[.int .i64 3, .int .i64 4] 3)).alloc (.cells #[.int .i64 5, .int .i64 6] 3)).alloc (.cells #[.int .i64 0, .int .i64 0, .slice (some ⟨w.heap.size + 1, 0, none⟩) 3 3, .int .i64 0, .int .i64 4, .int .i64 2, .int .i64 0, .slice (some ⟨w.heap.size + 1 + 1, 0, none⟩) 2 2, .int .i64 4, .int .i64 4, .int .i64 1, .int .i64 2, .slice (some ⟨w.heap.size + 1 + 1 + 1, 0, none⟩) 2 2, .int .i64 8, .int .i64 2] 70)).alloc (.cells #[.int .i64 8, .int .i64 9, .int .i64 10] 3)).alloc (.cells #[.int .i64 11, .int .i64 12] 3)).alloc (.cells #[.int .i64 0, .slice (some ⟨w.heap.size + 1 + 1 + 1 + 1 + 1, 0, none⟩) 3 3, .int .i64 2, .slice (some ⟨w.heap.size + 1 + 1 + 1 + 1 + 1 + 1, 0, none⟩) 2 2] 46)).alloc (.cells #[.int .i64 0, .int .i64 0, .int .i64 2, .int .i64 1, .int .i64 1, .int .i64 2, .int .i64 2, .int .i64 2, .int .i64 2, .int .i64 4, .int .i64 2, .int .i64 5] 82)).alloc (.cells #[.int .i64 2, .int .i64 2, .bool false] 65)).heap.size = w.heap.size + 1 + 1 + 1 + 1 + 1 + 1 + 1 + 1 + 1 + 1 := by simp only [World.size_alloc]
  generalize ((((((((((w.alloc (.cells #[.int .i64 16, .slice (some ⟨w.heap.size + 1 + 1 + 1 + 1, 0, none⟩) 3 3, .slice (some ⟨w.heap.size + 1 + 1 + 1 + 1 + 1 + 1 + 1, 0, none⟩) 2 2, .int .i64 6, .slice (some ⟨w.heap.size + 1 + 1 + 1 + 1 + 1 + 1 + 1 + 1, 0, none⟩) 3 3, .slice (some ⟨w.heap.size + 1 + 1 + 1 + 1 + 1 + 1 + 1 + 1 + 1, 0, none⟩) 1 1, .int .i64 10, .int .i64 6, .int .i64 2] 27)).alloc (.cells #[.int .i64 0, .int .i64 1, .int .i64 2] 3)).alloc (.cells #[.int .i64 3, .int .i64 4] 3)).alloc (.cells #[.int .i64 5, .int .i64 6] 3)).alloc (.cells #[.int .i64 0, .int .i64 0, .slice (some ⟨w.heap.size + 1, 0, none⟩) 3 3, .int .i64 0, .int .i64 4, .int .i64 2, .int .i64 0, .slice (some ⟨w.heap.size + 1 + 1, 0, none⟩) 2 2, .int .i64 4, .int .i64 4, .int .i64 1, .int .i64 2, .slice (some ⟨w.heap.size + 1 + 1 + 1, 0, none⟩) 2 2, .int .i64 8, .int .i64 2] 70)).alloc (.cells #[.int .i64 8, .int .i64 9, .int .i64 10] 3)).alloc (.cells #[.int .i64 11, .int .i64 12] 3)).alloc (.cells #[.int .i64 0, .slice (some ⟨w.heap.size + 1 + 1 + 1 + 1 + 1, 0, none⟩) 3 3, .int .i64 2, .slice (some ⟨w.heap.size + 1 + 1 + 1 + 1 + 1 + 1, 0, none⟩) 2 2] 46)).alloc (.cells #[.int .i64 0, .int .i64 0, .int .i64 2, .int .i64 1, .int .i64 1, .int .i64 2, .int .i64 2, .int .i64 2, .int .i64 2, .int .i64 4, .int .i64 2, .int .i64 5] 82)).alloc (.cells #[.int .i64 2, .int .i64 2, .bool false] 65)) = w9 at *
  have x0 := h0.cell 0
  have x1 := h0.cell 1
  have x2 := h0.cell 2
  have x3 := h0.cell 3
  have x4 := h0.cell 4
  have x5 := h0.cell 5
  have x6 := h0.cell 6
  have x7 := h0.cell 7
  have x8 := h0.cell 8
  simp only [List.getElem?_cons_zero, List.getElem?_cons_succ] at x0 x1 x2 x3 x4 x5 x6 x7 x8
  refine bodyPost_ret (v := .agg #[.int .i64 16, .slice (some ⟨w.heap.size + 1 + 1 + 1 + 1, 0, none⟩) 3 3, .slice (some ⟨w.heap.size + 1 + 1 + 1 + 1 + 1 + 1 + 1, 0, none⟩) 2 2, .int .i64 6, .slice (some ⟨w.heap.size + 1 + 1 + 1 + 1 + 1 + 1 + 1 + 1, 0, none⟩) 3 3, .slice (some ⟨w.heap.size + 1 + 1 + 1 + 1 + 1 + 1 + 1 + 1 + 1, 0, none⟩) 1 1, .int .i64 10, .int .i64 6, .int .i64 2]) (by simp [results, Tryz.results32, go_sem, x0, x1, x2, x3, x4, x5, x6, x7, x8]) rfl ⟨w.heap.size + 1, w.heap.size + 1 + 1, w.heap.size + 1 + 1 + 1, w.heap.size + 1 + 1 + 1 + 1, w.heap.size + 1 + 1 + 1 + 1 + 1, w.heap.size + 1 + 1 + 1 + 1 + 1 + 1, w.heap.size + 1 + 1 + 1 + 1 + 1 + 1 + 1, w.heap.size + 1 + 1 + 1 + 1 + 1 + 1 + 1 + 1, w.heap.size + 1 + 1 + 1 + 1 + 1 + 1 + 1 + 1 + 1, rfl, ⟨h1, h2, h3, h4, h5, h6, h7, h8, h9, by omega⟩, by omega, by rw [hsz]; omega, hB⟩
end Go.Proofs.YtkaalinoiilmoaaGreat
namespace Go.Proofs.YtkaalinoiilmoaaGreat
open Go.RowKit
set_option linter.unusedVariables false
set_option maxRecDepth 100000
theorem pl_mayV : cfMay plC = true := by kernel_rfl
theorem pl_dN {i j : Nat} (hi : i < 3) (hj : j < 3) : dN plC i j = (decide (i = j) || decide (i = 0)) := by
  have h : (List.range 3).all (fun i => (List.range 3).all (fun j => dN plC i j == (decide (i = j) || decide (i = 0)))) = true := by kernel_rfl
  rw [range_all_iff] at h
  have h2 := h i hi
  rw [range_all_iff] at h2
  simpa using h2 j hj
theorem pl_FL {i j : Nat} (hi : i < 3) (hj : j < 3) : FL plC i j = (decide (i = j) || decide (i = 0)) := by
  have e : ∀ a b : Nat, (decide (a = b) || decide (a = 0)) = true ↔ a = b ∨ a = 0 := by intro a b; simp
  rw [Bool.eq_iff_iff, FL_iff, e]
  constructor
  · intro r
    refine r.closed (fun a => a = j ∨ a = 0) (fun a b ha hb hP hd => ?_) (.inl rfl)
    rw [pl_dN ha hb, e] at hd
    rcases hd with rfl | rfl
    · exact hP
    · exact .inr rfl
  · rintro (rfl | rfl)
    · exact .refl _ hi
    · exact .one (by decide) hj (by rw [pl_dN (by decide) hj]; simp)
def flC (x : Int) (p : Nat) : Bool := inP 3 x && (decide (x.toNat = p) || decide (x.toNat = 0))
theorem pl_flI (x : Int) {p : Nat} (hp : p < 3) : flI plC x p = flC x p := by
  unfold flI flC
  rw [show plC.ps.length = 3 from rfl]
  cases h : inP 3 x with
  | false => rfl
  | true =>
    obtain ⟨k, rfl, hk⟩ := (inP_iff _ _).1 h
    rw [pl_FL (by simpa using hk) hp]
theorem pl_flB (x y : Int) : flB plC x y = (inP 3 y && flC x y.toNat) := by
  unfold flB
  rw [pl_mayV, show plC.ps.length = 3 from rfl, Bool.true_and]
  cases h : inP 3 y with
  | false => rfl
  | true =>
    obtain ⟨k, rfl, hk⟩ := (inP_iff _ _).1 h
    rw [pl_flI _ (by simpa using hk)]
def hdC (p : Nat) (h : Hs) (s : Stp) : Bool :=
  if s.k = 3 ∨ s.k = 4 then flC (aoX 2 h.O h.L s.d) p else if 5 ≤ s.k ∧ s.k ≤ 16 then flC s.p p else true
theorem pl_hdB {p : Nat} (hp : p < 3) (h : Hs) (s : Stp) : hdB plC p h s = hdC p h s := by
  unfold hdB hdC
  rw [pl_flI _ hp, pl_flI _ hp]
  rfl
def pgC (p : Nat) : Hs → List Stp → List Stp
  | _, [] => []
  | h, s :: l => (if hdC p h s then s else stD) :: pgC p (hdS plC h s) l
theorem pl_pgL {p : Nat} (hp : p < 3) : ∀ (l : List Stp) (h : Hs), pgL plC p h l = pgC p h l := by
  intro l
  induction l with
  | nil => intro h; rfl
  | cons s l ih => intro h; simp only [pgL, pgC, ih, pl_hdB hp]
end Go.Proofs.YtkaalinoiilmoaaGreat
namespace Go.Proofs.YtkaalinoiilmoaaGreat
open Go.RowKit
set_option linter.unusedVariables false
set_option linter.unusedSimpArgs false
set_option maxRecDepth 100000
theorem same_steps (x y : Value) (n : Nat) (q : List Stp) (w : World) (hx : Sl w x n 7 (stcs q)) (hy : Sl w y n 7 (stcs q)) (hl : q.length = n) (hn : n ≤ maxLen) :
    Calls Tryz.prog 8 #[x, y] w fun e w' => e = .returned (.bool true) ∧ ∃ k, w' = w.drewN k := by
  obtain ⟨A, c, rfl, hc, _, _⟩ := id hx
  obtain ⟨B, d, rfl, hd, _, _⟩ := id hy
  have HX := Lib.hid hx; have HY := Lib.hid hy; have HL := Lib.hid hl
  unfold maxLen at hn
  clear hx hy hl
  go_enter Tryz.func8, Tryz.ntmps8
  go_wp2
  go_loopw [5] (fun i wr => ∃ k q : Nat, k ≤ n ∧ i = .int .i64 k ∧ wr = w.drewN q) (fun i _ => n - (intOf i).toNat)
  case atStart => exact ⟨0, 0, by omega, rfl, rfl⟩
  case round =>
    obtain ⟨k, q', hk, rfl, rfl⟩ := hrel
    by_cases hlt : k < n
    · obtain ⟨b, o, rfl, -, c0, c1, c2, c3, c4, c5, c6⟩ := stcs_at HX.out HL.out k hlt
      obtain ⟨b', o', rfl, -, d0, d1, d2, d3, d4, d5, d6⟩ := stcs_at HY.out HL.out k hlt
      generalize q.getD k stD = m at *
      obtain ⟨x0, x1, x2, x3, x4, x5, s⟩ := m
      simp only at c0 c1 c2 c3 c4 c5 c6 d0 d1 d2 d3 d4 d5 d6
      have e0 : (x0 == x0) = true := by simp
      have e1 : (x1 == x1) = true := by simp
      have e2 : (x2 == x2) = true := by simp
      have e3 : (x3 == x3) = true := by simp
      have e4 : (x4 == x4) = true := by simp
      have e5 : (x5 == x5) = true := by simp
      have e6 : (s.toList == s.toList) = true := by simp
      go_wp2
      go_quiet (fail)
      go_wp2
      go_roundw
      case rel => exact ⟨k + 1, _, by omega, by go_num, rfl⟩
      case measure => simp [intOf]; omega
    · go_wp2
      go_ret
      exact ⟨rfl, _, rfl⟩
theorem sl_whole {w : World} {g : Nat} {t : TypeId} {cs : List Value} (h : Blk w g t cs) (n size : Nat) (hl : cs.length = n * size) : Sl w (.slice (some ⟨g, 0, none⟩) n n) n size cs :=
  ⟨_, n, rfl, Nat.le_refl _, hl, fun _ => ⟨g, 0, rfl, h.lt, fun j u hu => by rw [Nat.zero_add]; exact (h.cell j).trans hu⟩⟩
def plV (b4 b7 b8 b9 : Nat) : List Value := [.int .i64 16, .slice (some ⟨b4, 0, none⟩) 3 3, .slice (some ⟨b7, 0, none⟩) 2 2, .int .i64 6, .slice (some ⟨b8, 0, none⟩) 3 3, .slice (some ⟨b9, 0, none⟩) 1 1, .int .i64 10, .int .i64 6, .int .i64 2]
theorem plV_at {w : World} {y b4 b7 b8 b9 : Nat} (h : Blk w y 27 (plV b4 b7 b8 b9)) : w.cell? ⟨y, 0, none⟩ = some (.int .i64 16) ∧ w.cell? ⟨y, 1, none⟩ = some (.slice (some ⟨b4, 0, none⟩) 3 3) ∧ w.cell? ⟨y, 2, none⟩ = some (.slice (some ⟨b7, 0, none⟩) 2 2) ∧ w.cell? ⟨y, 3, none⟩ = some (.int .i64 6) ∧ w.cell? ⟨y, 4, none⟩ = some (.slice (some ⟨b8, 0, none⟩) 3 3) ∧ w.cell? ⟨y, 5, none⟩ = some (.slice (some ⟨b9, 0, none⟩) 1 1) ∧ w.cell? ⟨y, 6, none⟩ = some (.int .i64 10) ∧ w.cell? ⟨y, 7, none⟩ = some (.int .i64 6) ∧ w.cell? ⟨y, 8, none⟩ = some (.int .i64 2) :=
  ⟨(h.cell 0).trans rfl, (h.cell 1).trans rfl, (h.cell 2).trans rfl, (h.cell 3).trans rfl, (h.cell 4).trans rfl, (h.cell 5).trans rfl, (h.cell 6).trans rfl, (h.cell 7).trans rfl, (h.cell 8).trans rfl⟩
def PlAt (w : World) (b4 b7 b8 b9 : Nat) : Prop := CfAt w (.slice (some ⟨b4, 0, none⟩) 3 3) (.slice (some ⟨b7, 0, none⟩) 2 2) (.slice (some ⟨b8, 0, none⟩) 3 3) (.slice (some ⟨b9, 0, none⟩) 1 1) plC
section
variable {w : World} {b4 b7 b8 b9 : Nat}
theorem PlAt.below {w' : World} (h : PlAt w b4 b7 b8 b9) (hb : Below w.heap.size w w') : PlAt w' b4 b7 b8 b9 := CfAt.below h hb
theorem pl_flow (h : PlAt w b4 b7 b8 b9) (x y : Int) (b : Bool) (hb : (inP 3 y && flC x y.toNat) = b) : Calls Tryz.prog 10 #[.agg #[.int .i64 16, .slice (some ⟨b4, 0, none⟩) 3 3, .slice (some ⟨b7, 0, none⟩) 2 2, .int .i64 6, .slice (some ⟨b8, 0, none⟩) 3 3, .slice (some ⟨b9, 0, none⟩) 1 1, .int .i64 10, .int .i64 6, .int .i64 2], .int .i64 x, .int .i64 y] w fun e w' => e = .returned (.bool b) ∧ Below w.heap.size w w' := by
  have := vflows_any h x y
  rw [pl_flB, hb] at this
  exact this
theorem pl_purge (h : PlAt w b4 b7 b8 b9) (v : Value) (n p : Nat) (l : List Stp) (hv : Sl w v n 7 (stcs l)) (hl : l.length = n) (hn : n * 64 ≤ 140737488351232) (hp : p < 3) (r : List Stp) (hr : pgC p (hsNew plC) l = r) :
    Calls Tryz.prog 6 #[.agg #[.int .i64 16, .slice (some ⟨b4, 0, none⟩) 3 3, .slice (some ⟨b7, 0, none⟩) 2 2, .int .i64 6, .slice (some ⟨b8, 0, none⟩) 3 3, .slice (some ⟨b9, 0, none⟩) 1 1, .int .i64 10, .int .i64 6, .int .i64 2], v, .int .i64 (p : Int)] w fun e w' => ∃ g, e = .returned (.tuple #[.slice (some ⟨g, 0, none⟩) n n, .int .i64 0]) ∧ Tk nos w [obB g 48 (stcs r)] w' := by
  subst hl
  have := vpurge_yes h pl_mayV p hp v l hv hn
  rw [pl_pgL hp, hr] at this
  exact this
theorem pl_purge3 (h : PlAt w b4 b7 b8 b9) (v : Value) : Calls Tryz.prog 6 #[.agg #[.int .i64 16, .slice (some ⟨b4, 0, none⟩) 3 3, .slice (some ⟨b7, 0, none⟩) 2 2, .int .i64 6, .slice (some ⟨b8, 0, none⟩) 3 3, .slice (some ⟨b9, 0, none⟩) 1 1, .int .i64 10, .int .i64 6, .int .i64 2], v, .int .i64 3] w fun e w' => e = .returned (.tuple #[.slice none 0 0, .int .i64 2300]) ∧ Below w.heap.size w w' :=
  vpurge_no h v 3 (fun hh => by have := hh.2; exact absurd this (by decide))
end
theorem pl_plain (w : World) : Calls Tryz.prog 32 #[] w fun e w' => ∃ b4 b7 b8 b9, e = .returned (.agg #[.int .i64 16, .slice (some ⟨b4, 0, none⟩) 3 3, .slice (some ⟨b7, 0, none⟩) 2 2, .int .i64 6, .slice (some ⟨b8, 0, none⟩) 3 3, .slice (some ⟨b9, 0, none⟩) 1 1, .int .i64 10, .int .i64 6, .int .i64 2]) ∧ PlAt w' b4 b7 b8 b9 ∧ Below w.heap.size w w' :=
  (plain23_any w).mono fun e w' ⟨b1, b2, b3, b4, b5, b6, b7, b8, b9, he, hpl, _, _, hb⟩ => ⟨b4, b7, b8, b9, he, hpl.cf, hb⟩
def awS : List Stp := [⟨9, 1, 0, 0, 0, 0, ⟨#[]⟩⟩, ⟨1, 0, 0, 0, 0, 0, ⟨#[]⟩⟩, ⟨3, 0, 1, 0, 0, 0, ⟨#[]⟩⟩, ⟨3, 0, 0, 0, 0, 0, ⟨#[]⟩⟩, ⟨99, 0, 0, 0, 0, 0, ⟨#[]⟩⟩]
def awR : List Stp := [stD, ⟨1, 0, 0, 0, 0, 0, ⟨#[]⟩⟩, stD, ⟨3, 0, 0, 0, 0, 0, ⟨#[]⟩⟩, ⟨99, 0, 0, 0, 0, 0, ⟨#[]⟩⟩]
theorem awR_is : pgC 0 (hsNew plC) awS = awR := by kernel_rfl
set_option maxHeartbeats 2000000 in
theorem vawake_any (w : World) : Calls Tryz.prog 15 #[] w fun e w' => e = .returned (.bool true) ∧ Below w.heap.size w w' := by
  go_enter Tryz.func15, Tryz.ntmps15
  go_wp2_with fail
  refine (pl_plain _).mono ?_
  rintro e w1 ⟨b4, b7, b8, b9, rfl, hc, hbel⟩
  have HB := Lib.hid hbel; have HC := Lib.hid hc
  clear hbel hc
  have t1 := (Tk.empty w1).alloc 27 (plV b4 b7 b8 b9)
  obtain ⟨q0, q1, q2, q3, q4, q5, q6, q7, q8⟩ := plV_at (t1.blk (i := 0) rfl)
  have T1 := Lib.hid t1
  clear t1
  unfold plV at *
  go_wp2_with fail
  have T2 : Hid (Tk nos w1 [obB (w1.heap.size + 1) 48 (stcs awS), obB w1.heap.size 27 (plV b4 b7 b8 b9)] _) := Lib.hid (by
    have := T1.out.alloc 48 (stcs awS)
    simp only [World.size_alloc] at this
    exact this)
  clear q0 q1 q2 q3 q4 q5 q6 q7 q8 T1
  refine (pl_purge (HC.out.below T2.out.below) _ 5 0 awS (sl_whole (T2.out.blk (i := 0) rfl) 5 7 rfl) rfl (by omega) (by decide) awR awR_is).mono ?_
  rintro e w3 ⟨gx, rfl, t3⟩
  have T3 := Lib.hid (show Tk nos w1 [obB gx 48 (stcs awR), obB (w1.heap.size + 1) 48 (stcs awS), obB w1.heap.size 27 (plV b4 b7 b8 b9)] w3 from T2.out.add t3)
  clear t3 T2
  generalize w1.heap.size + 1 = g2 at *
  generalize w1.heap.size = y at *
  obtain ⟨q0, q1, q2, q3, q4, q5, q6, q7, q8⟩ := plV_at (T3.out.blk (i := 2) rfl)
  go_wp2_with fail
  refine (pl_purge3 (HC.out.below T3.out.below) _).mono ?_
  rintro e wa ⟨rfl, ba⟩
  have T4 := Lib.hid (T3.out.next ba)
  clear ba T3 q0 q1 q2 q3 q4 q5 q6 q7 q8
  obtain ⟨q0, q1, q2, q3, q4, q5, q6, q7, q8⟩ := plV_at (T4.out.blk (i := 2) rfl)
  go_wp2_with fail
  refine (pl_flow (HC.out.below T4.out.below) 0 1 true rfl).mono ?_
  rintro e wb0 ⟨rfl, ba⟩
  replace T4 := Lib.hid (T4.out.next ba)
  clear ba q0 q1 q2 q3 q4 q5 q6 q7 q8
  obtain ⟨q0, q1, q2, q3, q4, q5, q6, q7, q8⟩ := plV_at (T4.out.blk (i := 2) rfl)
  go_wp2_with fail
  refine (pl_flow (HC.out.below T4.out.below) 1 0 false rfl).mono ?_
  rintro e wb1 ⟨rfl, ba⟩
  replace T4 := Lib.hid (T4.out.next ba)
  clear ba q0 q1 q2 q3 q4 q5 q6 q7 q8
  obtain ⟨q0, q1, q2, q3, q4, q5, q6, q7, q8⟩ := plV_at (T4.out.blk (i := 2) rfl)
  go_wp2_with fail
  refine (pl_flow (HC.out.below T4.out.below) 0 2 true rfl).mono ?_
  rintro e wb2 ⟨rfl, ba⟩
  replace T4 := Lib.hid (T4.out.next ba)
  clear ba q0 q1 q2 q3 q4 q5 q6 q7 q8
  obtain ⟨q0, q1, q2, q3, q4, q5, q6, q7, q8⟩ := plV_at (T4.out.blk (i := 2) rfl)
  go_wp2_with fail
  refine (pl_flow (HC.out.below T4.out.below) 2 0 false rfl).mono ?_
  rintro e wb3 ⟨rfl, ba⟩
  replace T4 := Lib.hid (T4.out.next ba)
  clear ba q0 q1 q2 q3 q4 q5 q6 q7 q8
  obtain ⟨q0, q1, q2, q3, q4, q5, q6, q7, q8⟩ := plV_at (T4.out.blk (i := 2) rfl)
  go_wp2_with fail
  refine (pl_flow (HC.out.below T4.out.below) 2 2 true rfl).mono ?_
  rintro e wb4 ⟨rfl, ba⟩
  replace T4 := Lib.hid (T4.out.next ba)
  clear ba q0 q1 q2 q3 q4 q5 q6 q7 q8
  obtain ⟨q0, q1, q2, q3, q4, q5, q6, q7, q8⟩ := plV_at (T4.out.blk (i := 2) rfl)
  go_wp2_with fail
  refine (pl_flow (HC.out.below T4.out.below) 1 2 false rfl).mono ?_
  rintro e wb5 ⟨rfl, ba⟩
  replace T4 := Lib.hid (T4.out.next ba)
  clear ba q0 q1 q2 q3 q4 q5 q6 q7 q8
  obtain ⟨q0, q1, q2, q3, q4, q5, q6, q7, q8⟩ := plV_at (T4.out.blk (i := 2) rfl)
  go_wp2_with fail
  refine (pl_flow (HC.out.below T4.out.below) 3 3 false rfl).mono ?_
  rintro e wb6 ⟨rfl, ba⟩
  replace T4 := Lib.hid (T4.out.next ba)
  clear ba q0 q1 q2 q3 q4 q5 q6 q7 q8
  go_wp2_with fail
  have T5 : Hid (Tk nos w1 [obB wb6.heap.size 48 (stcs awR), obB gx 48 (stcs awR), obB g2 48 (stcs awS), obB y 27 (plV b4 b7 b8 b9)] _) := Lib.hid (T4.out.alloc 48 (stcs awR))
  refine (same_steps _ _ 5 awR _ (sl_whole (T5.out.blk (i := 1) rfl) 5 7 rfl) (sl_whole (T5.out.blk (i := 0) rfl) 5 7 rfl) rfl (by decide)).mono ?_
  rintro e wd ⟨rfl, kk, rfl⟩
  have T6 := Lib.hid (T5.out.drewN kk)
  clear T5 T4
  generalize World.drewN _ kk = wd at *
  go_wp2_with fail
  refine (num_any _ _).mono ?_
  rintro e we ⟨rfl, rfl⟩
  go_wp2_with fail
  refine (num_any _ _).mono ?_
  rintro e we ⟨rfl, rfl⟩
  go_wp2_with fail
  go_ret
  exact ⟨rfl, Below.down HB.out T6.out.below HB.out.size⟩
end Go.Proofs.YtkaalinoiilmoaaGreat
namespace Go.Proofs.YtkaalinoiilmoaaGreat
open Go.RowKit
set_option linter.unusedVariables false
set_option linter.unusedSimpArgs false
set_option maxRecDepth 100000
theorem one_stcT (x : Stp) : ∀ u ∈ stc x, u.oneCell' = true := by
  intro u hu
  simp only [stc, List.mem_cons, List.not_mem_nil, or_false] at hu
  rcases hu with rfl | rfl | rfl | rfl | rfl | rfl | rfl <;> rfl
theorem one_stcs (l : List Stp) : ∀ u ∈ stcs l, u.oneCell' = true := by
  intro u hu
  obtain ⟨x, _, hx⟩ := List.mem_flatMap.1 hu
  exact one_stcT x u hx
theorem copy_steps (u : Value) (n : Nat) (l : List Stp) (w : World) (h : Sl w u n 7 (stcs l)) (hll : l.length = n) (hn : n * 64 ≤ 140737488351232) (hnil : ∀ m c, u = .slice none m c → c = 0) :
    Calls Tryz.prog 17 #[u] w fun e w' => ∃ u', e = .returned u' ∧ w'.ownsRow w.heap.size 48 7 u' n (stcs l) ∧ Below w.heap.size w w' := by
  obtain ⟨A, cap, rfl, hc, hl, hA⟩ := h
  obtain ⟨i0, hi, hz0, hz1, hz2⟩ := info_parts infoStep
  have HI := Lib.hid hi; have HZ0 := Lib.hid hz0; have HZ1 := Lib.hid hz1; have HZ2 := Lib.hid hz2; have HA := Lib.hid hA
  clear hi hz0 hz1 hz2 hA
  have hmade : (w.alloc (.cells #[] 48)).ownsRow w.heap.size 48 7 (.slice (some ⟨w.heap.size, 0, none⟩) 0 0) 0 [] := World.ownsRow_made w #[] 0 (Nat.le_refl _) (Nat.zero_le _) rfl
  have HM := Lib.hid hmade; clear hmade
  have H1 := Lib.hid (one_stcs l)
  have fin : ∀ (v' : Value) (w1 : World), (w.alloc (.cells #[] 48)).grownBy w1 (Value.slice (some ⟨w.heap.size, 0, none⟩) 0 0).ownBlock → Below w.heap.size w w1 := fun v' w1 hg => ((Below.refl _ w).alloc (Nat.le_refl _) _).grown hg (by simp) (by intro k hk; simp [Value.ownBlock] at hk; omega)
  have FIN := Lib.hid fin; clear fin
  by_cases h0 : 0 < n
  · obtain ⟨b, o, rfl, hb, hcell⟩ := HA.out h0
    have HC := Lib.hid hcell; clear hcell
    go_enter Tryz.func17, Tryz.ntmps17
    go_wp2_with (at_builtin; refine wpList_append_own _ rfl _ _ 28 rfl w.heap.size 48 i0 _ 7 64 Tryz.underlying28 HI.out HZ0.out HZ1.out HZ2.out rfl (by decide) _ 0 [] rfl HM.out ⟨b, o, none⟩ n cap (stcs l) rfl hl ?q2 H1.out ?q4 ?q5 ?q6 ?_)
    case q2 =>
      intro j u hj
      rw [add_none]
      exact (Below.cell ((Below.refl _ w).alloc (Nat.le_refl _) _) (p := ⟨b, o + j, none⟩) hb).trans (HC.out j u hj)
    case q4 => unfold maxLen; omega
    case q5 => omega
    case q6 => simp
    intro v' w1 hown hgrow _
    go_wp2
    go_ret
    exact ⟨_, rfl, by simpa using hown, FIN.out v' w1 hgrow⟩
  · obtain rfl : n = 0 := by omega
    have hfs : stcs l = [] := List.length_eq_zero_iff.1 (by simpa using hl)
    rw [hfs]
    cases A with
    | none =>
      have hc0 : cap = 0 := hnil 0 cap rfl
      subst hc0
      go_enter Tryz.func17, Tryz.ntmps17
      go_wp2_with (at_builtin; refine wpList_append_own_none rfl _ _ 28 rfl w.heap.size 48 i0 7 Tryz.underlying28 HI.out _ 0 [] rfl HM.out rfl ?_)
      go_wp2
      go_ret
      exact ⟨_, rfl, HM.out, (Below.refl _ w).alloc (Nat.le_refl _) _⟩
    | some ad =>
      go_enter Tryz.func17, Tryz.ntmps17
      go_wp2_with (at_builtin; refine wpList_append_own _ rfl _ _ 28 rfl w.heap.size 48 i0 _ 7 64 Tryz.underlying28 HI.out HZ0.out HZ1.out HZ2.out rfl (by decide) _ 0 [] rfl HM.out ad 0 cap [] rfl rfl (by intro j u hj; simp at hj) (by intro u hu; cases hu) (by unfold maxLen; omega) (by omega) (by simp) ?_)
      intro v' w1 hown hgrow _
      go_wp2
      go_ret
      exact ⟨_, rfl, by simpa using hown, FIN.out v' w1 hgrow⟩
def roomT : List Value := stc ⟨77777, 0, 0, 0, 0, 0, ⟨#[]⟩⟩ ++ stc ⟨77777, 0, 0, 0, 0, 0, ⟨#[]⟩⟩
theorem one_roomT : ∀ u ∈ roomT, u.oneCell' = true := by
  intro u hu
  rcases List.mem_append.1 hu with h | h
  · exact one_stcT _ u h
  · exact one_stcT _ u h
def LentT (B : Nat) (w : World) (v : Value) (n : Nat) (l : List Stp) : Prop :=
  ∃ g cap, v = .slice (some ⟨g, 0, none⟩) n cap ∧ n + 2 ≤ cap ∧ w.ownsRow B 48 7 (.slice (some ⟨g, 0, none⟩) (n + 2) cap) (n + 2) (stcs l ++ roomT)
theorem LentT.below {B : Nat} {w w' : World} {v : Value} {n : Nat} {l : List Stp} (h : LentT B w v n l) (hb : Below w.heap.size w w') : LentT B w' v n l := by
  obtain ⟨g, cap, hv, hc, ho⟩ := h
  exact ⟨g, cap, hv, hc, own_below ho hb⟩
theorem LentT.sl {B : Nat} {w : World} {v : Value} {n : Nat} {l : List Stp} (h : LentT B w v n l) (hl : l.length = n) : Sl w v n 7 (stcs l) := by
  obtain ⟨g, cap, rfl, hc, ho⟩ := h
  obtain ⟨A, c, e, _, hxl, hA⟩ := Sl.own ho
  simp only [Value.slice.injEq] at e
  obtain ⟨rfl, _, rfl⟩ := e
  refine ⟨_, cap, rfl, by omega, by rw [stcs_len, hl], fun _ => ?_⟩
  obtain ⟨b, o, e, hb, hcell⟩ := hA (by omega)
  refine ⟨b, o, e, hb, fun j u hu => hcell j u ?_⟩
  rw [List.getElem?_append_left (List.getElem?_eq_some_iff.1 hu).1]
  exact hu
set_option maxHeartbeats 2000000 in
theorem lend_steps (u : Value) (n : Nat) (l : List Stp) (w : World) (h : Sl w u n 7 (stcs l)) (hll : l.length = n) (hn : n * 64 ≤ 140737488351232) (hnil : ∀ m c, u = .slice none m c → c = 0) :
    Calls Tryz.prog 5 #[u] w fun e w' => ∃ u', e = .returned u' ∧ LentT w.heap.size w' u' n l ∧ Below w.heap.size w w' := by
  have HC := Lib.hid (copy_steps u n l w h hll hn hnil)
  obtain ⟨A, cap, rfl, hc, hl, hA⟩ := h
  obtain ⟨i0, hi, hz0, hz1, hz2⟩ := info_parts infoStep
  have HI := Lib.hid hi; have HZ0 := Lib.hid hz0; have HZ1 := Lib.hid hz1; have HZ2 := Lib.hid hz2
  clear hi hz0 hz1 hz2 hA hnil hl
  go_enter Tryz.func5, Tryz.ntmps5
  go_wp2_with fail
  refine HC.out.mono ?_
  rintro e w1 ⟨u', rfl, ho, hb⟩
  have H1 := Lib.hid (one_roomT)
  have hs1 := hb.size
  go_wp2_with (at_builtin; refine wpList_append_own _ rfl _ _ 28 rfl w.heap.size 48 i0 _ 7 64 Tryz.underlying28 HI.out HZ0.out HZ1.out HZ2.out rfl (by decide) _ n (stcs l) rfl (ho.alloc _) ⟨w1.heap.size, 0, none⟩ 2 2 roomT rfl rfl (by exact row_new w1 roomT _) H1.out (by unfold maxLen; omega) (by omega) (by simp; omega) ?_)
  intro v' w2 hown hgrow hnn
  have hb2 : Below w.heap.size w w2 := below_one _ ho hs1 hb hgrow
  obtain ⟨g, cap', cur, rfl, hcap⟩ : ∃ g cap' cur, v' = .slice (some ⟨g, 0, none⟩) (n + 2) cap' ∧ n + 2 ≤ cap' ∧ cur = 0 := by
    rcases hown.2 with ⟨_, h0⟩ | ⟨g, cap', cur, h1, _, _, h2, _⟩
    · omega
    · exact ⟨g, cap', 0, h1, h2, rfl⟩
  obtain ⟨hcap, rfl⟩ := hcap
  clear hgrow ho hb hnn HC
  have hc0 : (0 : Int) ≤ (n : Int) := by omega
  have hc1 : (n : Int) ≤ (cap' : Int) := by omega
  go_wp2_with fail
  go_ret
  exact ⟨_, rfl, ⟨g, cap', rfl, hcap, hown⟩, hb2⟩
set_option maxHeartbeats 2000000 in
theorem kept_steps (B : Nat) (v u : Value) (n : Nat) (l : List Stp) (w : World) (h : LentT B w v n l) (hu : Sl w u n 7 (stcs l)) (hl : l.length = n) (hn : n * 64 ≤ 140737488351232) :
    Calls Tryz.prog 14 #[v, u] w fun e w' => e = .returned (.bool true) ∧ Below w.heap.size w w' := by
  have hs := h.sl hl
  have HSM := Lib.hid (same_steps v u n l w hs hu hl (by unfold maxLen; omega))
  obtain ⟨g, cap, rfl, hc, ho⟩ := h
  obtain ⟨A, d, rfl, hd, _, _⟩ := hu
  obtain ⟨A', c', e, _, hxl, hA⟩ := Sl.own ho
  simp only [Value.slice.injEq] at e
  obtain ⟨rfl, _, rfl⟩ := e
  obtain ⟨b, o, e, hb, hcell⟩ := hA (by omega)
  simp only [Option.some.injEq, Addr.mk.injEq] at e
  obtain ⟨rfl, rfl, _⟩ := e
  have key : ∀ j x, roomT[j]? = some x → w.cell? ⟨g, (n * 7 + j), none⟩ = some x := by
    intro j x hx
    have := hcell (n * 7 + j) x (by
      rw [List.getElem?_append_right (by rw [stcs_len, hl]; omega), stcs_len, hl, show n * 7 + j - n * 7 = j by omega]
      exact hx)
    simpa using this
  have a0 := key 0 (.int .i64 77777) rfl
  have a1 := key 1 (.int .i64 0) rfl
  have a2 := key 2 (.int .i64 0) rfl
  have a3 := key 3 (.int .i64 0) rfl
  have a4 := key 4 (.int .i64 0) rfl
  have a5 := key 5 (.int .i64 0) rfl
  have a6 := key 6 (.string ⟨#[]⟩) rfl
  have b0 := key 7 (.int .i64 77777) rfl
  have b1 := key 8 (.int .i64 0) rfl
  have b2 := key 9 (.int .i64 0) rfl
  have b3 := key 10 (.int .i64 0) rfl
  have b4 := key 11 (.int .i64 0) rfl
  have b5 := key 12 (.int .i64 0) rfl
  have b6 := key 13 (.string ⟨#[]⟩) rfl
  rw [show n * 7 + 7 = (n + 1) * 7 by omega] at b0
  rw [show n * 7 + 8 = (n + 1) * 7 + 1 by omega] at b1
  rw [show n * 7 + 9 = (n + 1) * 7 + 2 by omega] at b2
  rw [show n * 7 + 10 = (n + 1) * 7 + 3 by omega] at b3
  rw [show n * 7 + 11 = (n + 1) * 7 + 4 by omega] at b4
  rw [show n * 7 + 12 = (n + 1) * 7 + 5 by omega] at b5
  rw [show n * 7 + 13 = (n + 1) * 7 + 6 by omega] at b6
  rw [Nat.add_zero] at a0
  clear ho hcell hxl key hA hs
  have hc2 : (n : Int) + 2 ≤ (cap : Int) := by omega
  go_enter Tryz.func14, Tryz.ntmps14
  go_wp2_with fail
  refine HSM.out.mono ?_
  rintro e w1 ⟨rfl, k, rfl⟩
  have hbb : Below w.heap.size w (w.drewN k) := bdrewN (Below.refl _ _) k
  have q := fun p => show (w.drewN k).cell? p = w.cell? p from rfl
  rw [← q] at a0 a1 a2 a3 a4 a5 a6 b0 b1 b2 b3 b4 b5 b6
  clear q
  generalize w.drewN k = w2 at *
  have i1 : (n : Int) < ((n + 2 : Nat) : Int) := by omega
  have i2 : (n : Int) + 1 < ((n + 2 : Nat) : Int) := by omega
  go_wp2_with fail
  go_ret
  exact ⟨rfl, hbb⟩
def Tck (xs : List Value) (n : Nat) : Prop := ∀ j, j < n → ∃ q : Int, xs[j * 7]? = some (.int .i64 q)
theorem Tck.stcs (l : List Stp) : Tck (stcs l) l.length := fun j hj => ⟨_, (stcs_get l j 0 hj (by omega)).trans rfl⟩
theorem Tck.set {xs : List Value} {n : Nat} (h : Tck xs n) (i : Nat) (q : Int) : Tck (xs.set i (.int .i64 q)) n := by
  intro j hj
  rw [List.getElem?_set]
  split
  · obtain ⟨u, hu⟩ := h j hj
    have := (List.getElem?_eq_some_iff.1 hu).1
    rw [if_pos (by omega)]; exact ⟨_, rfl⟩
  · exact h j hj
theorem spoil_steps (v : Value) (base n : Nat) (xs : List Value) (w : World) (hown : w.ownsRow base 48 7 v n xs) (hi : Tck xs n) (hn : n ≤ 4611686018427387904) :
    Calls Tryz.prog 12 #[v] w fun e w' => e = .returned (.tuple #[]) ∧ w.grownBy w' v.ownBlock := by
  obtain ⟨A, c, hv, hc, _, _⟩ := Sl.own hown
  obtain ⟨xs, hxs⟩ : ∃ ys, ys = xs := ⟨_, rfl⟩
  subst hv
  have hob : ∀ g, A = some ⟨g, 0, none⟩ → (Value.slice A n c).ownBlock = some g := by rintro g rfl; rfl
  generalize hrow : (Value.slice A n c).ownBlock = row at *
  have HO := Lib.hid hob; clear hob hrow
  have hg : A = none ∨ ∃ g, A = some ⟨g, 0, none⟩ ∧ base ≤ g := by
    rcases hown.2 with ⟨h, _⟩ | ⟨g, cap, cur, h, hb, _⟩
    · left; simp at h; exact h.1
    · right; simp at h; exact ⟨g, h.1, hb⟩
  have hA0 : A = none → n = 0 := by
    intro e; subst e
    rcases hown.2 with ⟨_, h⟩ | ⟨g, cap, cur, h, hb, _⟩
    · exact h
    · simp at h
  go_enter Tryz.func12, Tryz.ntmps12
  go_wp2
  go_loopw [2] (fun i wr => ∃ (k : Nat) (ys : List Value), k ≤ n ∧ i = .int .i64 k ∧ wr.ownsRow base 48 7 (.slice A n c) n ys ∧ Tck ys n ∧ w.grownBy wr row) (fun i _ => n - (intOf i).toNat)
  case atStart => exact ⟨0, _, by omega, rfl, hown, hi, grefl _ _⟩
  case round =>
    obtain ⟨k, ys, hk, rfl, ho, hy, hbel⟩ := hrel
    by_cases hlt : k < n
    · rcases hg with rfl | ⟨g, rfl, hbg⟩
      · have := hA0 rfl; omega
      · obtain ⟨q, hq⟩ := hy k hlt
        have hcell := ho.cellAt (k * 7) (by omega)
        rw [hq] at hcell
        have hfz := ho.frozenAt (k * 7)
        clear hown hA0 hq
        go_wp2
        go_roundw
        case rel => exact ⟨k + 1, _, by omega, by go_num, (ho.stored _ _).1, hy.set _ _, gtrans hbel (by rw [HO.out g rfl]; exact (ho.stored _ _).2)⟩
        case measure => simp [intOf]; omega
    · go_wp2
      go_end0
      exact ⟨rfl, hbel⟩
end Go.Proofs.YtkaalinoiilmoaaGreat
namespace Go.Proofs.YtkaalinoiilmoaaGreat
open Go.RowKit Go.ChangeShapes Go.WideShapes Go.Deep
set_option linter.unusedVariables false
set_option maxRecDepth 100000
section
variable {H : Type} {enc : TypeId × Value → H} {P : Program}
theorem args_stay (hl : laidOutB P = true) {W W' : World} (hb : Below W.heap.size W W') {sp : Nat → Bool} : ∀ (ts : List TypeId) (vs : List Value) (ds : List (DataW H)) (ps : List MemPlace),
    DataW.TrodAll enc P W 0 (fun _ => true) true ts vs ds ps → (∀ t ∈ ts, P.readableRec t = true ∧ t < P.types.size) → (∀ p ∈ ps, p.block < W.heap.size) → (∀ p ∈ ps, sp p.block = true) →
    DataW.TrodAll enc P W' 0 sp true ts vs ds ps := by
  intro ts
  induction ts with
  | nil =>
    intro vs ds ps h _ _ _
    obtain ⟨rfl, rfl, rfl⟩ := trodAll_nil h
    rfl
  | cons t ts ih =>
    intro vs ds ps h ht hp hs
    obtain ⟨v, vs', d, ds', p, q, rfl, rfl, rfl, h0, hr⟩ := trodAll_cons h
    obtain ⟨r1, r2⟩ := ht t (by simp)
    refine ⟨p, q, WideElems.Trod_stays hl r1 r2 h0 (fun x hx => hb.same (hp x (List.mem_append_left _ hx))) (fun x hx => hs x (List.mem_append_left _ hx)), ?_, rfl⟩
    exact ih vs' ds' q hr (fun t' h' => ht t' (List.mem_cons_of_mem _ h')) (fun x hx => hp x (List.mem_append_right _ hx)) (fun x hx => hs x (List.mem_append_right _ hx))
theorem open_sl {t e : TypeId} {C : Nat} {W : World} {r : Reach} {b0 : Nat} {v : Value} {d : DataW H} {p : List MemPlace} (ht : P.underlying t = some (.slice e)) (hC : P.cellsOf e = C) (hpos : 0 < C)
    (hv : Value.okWide P W r b0 t v) (h : DataW.Trod enc P W 0 (fun _ => true) true t v d p) :
    ∃ (n : Nat) (xs : List Value), Sl W v n C xs ∧ n ≤ maxLen ∧ ∀ i, i < n → ∃ (m : Nat) (y : DataW H × List MemPlace), DataW.trod enc P W 0 (fun _ => true) true m e ((xs.drop (i * C)).take C) = some y := by
  obtain ⟨A0, l0, c0, rfl⟩ := okWide_slice ht hv
  obtain ⟨fuel, hf⟩ := h
  rcases DataW.trod_slice ht hf with ⟨h0, _⟩ | ⟨a, len, cap, elems, rest, n, _, h0, _, _, hlc, hm, hlen, hel, _⟩
  · simp only [Value.cells, List.cons.injEq, Value.slice.injEq, and_true] at h0
    obtain ⟨rfl, rfl, rfl⟩ := h0
    exact ⟨0, [], ⟨none, 0, rfl, Nat.le_refl _, by simp, fun h => absurd h (by omega)⟩, by omega, fun i hi => absurd hi (by omega)⟩
  · simp only [Value.cells, List.cons.injEq, Value.slice.injEq, and_true] at h0
    obtain ⟨rfl, rfl, rfl⟩ := h0
    have key : ∀ i, i < l0 → ∃ cs : List Value, cs.length = C ∧ (∀ j, j < C → W.cell? ((a.add (i * C)).add j) = cs[j]?) ∧ ∃ (y : DataW H × List MemPlace), DataW.trod enc P W 0 (fun _ => true) true n e cs = some y := by
      intro i hi
      have := hel i hi
      rw [List.getElem?_eq_getElem (by omega), hC] at this
      obtain ⟨cs, h1, h2⟩ := Option.bind_eq_some_iff.1 this
      obtain ⟨_, h3, h4⟩ := World.cells?_some h1
      exact ⟨cs, h3, h4, _, h2⟩
    obtain ⟨F, hF⟩ := choose_lt (α := List Value) (p := fun i cs => cs.length = C ∧ (∀ j, j < C → W.cell? ((a.add (i * C)).add j) = cs[j]?) ∧ ∃ (y : DataW H × List MemPlace), DataW.trod enc P W 0 (fun _ => true) true n e cs = some y) key
    have all : ∀ m, m ≤ l0 → ∃ xs : List Value, xs.length = m * C ∧ (∀ j u, xs[j]? = some u → W.cell? (a.add j) = some u) ∧ ∀ i, i < m → (xs.drop (i * C)).take C = F i := by
      intro m
      induction m with
      | zero => intro _; exact ⟨[], by simp, fun j u hu => by simp at hu, fun i hi => absurd hi (by omega)⟩
      | succ m ih =>
        intro hm
        obtain ⟨xs, hx1, hx2, hx3⟩ := ih (by omega)
        obtain ⟨f1, f2, _⟩ := hF m (by omega)
        have hmC : (m + 1) * C = m * C + C := by rw [Nat.add_mul, Nat.one_mul]
        refine ⟨xs ++ F m, by rw [List.length_append, hx1, f1, hmC], fun j u hu => ?_, fun i hi => ?_⟩
        · by_cases hj : j < xs.length
          · rw [List.getElem?_append_left hj] at hu; exact hx2 j u hu
          · rw [List.getElem?_append_right (by omega)] at hu
            have hjl : j - xs.length < C := by
              have := (List.getElem?_eq_some_iff.1 hu).1
              omega
            have := f2 _ hjl
            rw [add_add, hu] at this
            rw [show j = m * C + (j - xs.length) by omega]
            exact this
        · have hiC : i * C + C ≤ m * C ∨ i = m := by
            by_cases h : i = m
            · exact .inr h
            · left
              have : (i + 1) * C ≤ m * C := Nat.mul_le_mul_right _ (by omega)
              rw [Nat.add_mul, Nat.one_mul] at this
              exact this
          rcases hiC with h | rfl
          · have hlt : i < m := by
              by_cases hh : i < m
              · exact hh
              · have : m * C ≤ i * C := Nat.mul_le_mul_right _ (by omega)
                omega
            rw [List.drop_append_of_le_length (by omega), List.take_append_of_le_length (by rw [List.length_drop]; omega)]
            exact hx3 i hlt
          · rw [← hx1, List.drop_left, ← f1, List.take_length]
    obtain ⟨xs, hx1, hx2, hx3⟩ := all l0 (Nat.le_refl _)
    refine ⟨l0, xs, ⟨some a, c0, rfl, hlc, hx1, fun hn => ?_⟩, by omega, fun i hi => ?_⟩
    · have hCn : 0 < xs.length := by rw [hx1]; exact Nat.mul_pos hn hpos
      have h0 := hx2 0 _ (List.getElem?_eq_getElem hCn)
      have h0' : W.cell? a = some xs[0] := by simpa [Addr.add] using h0
      have hs := World.cell?_spot h0'
      obtain ⟨b, o, s⟩ := a
      simp only at hs
      subst hs
      refine ⟨b, o, rfl, World.block_lt_of_cell? W _ h0', fun j u hu => ?_⟩
      have := hx2 j u hu
      rw [add_none] at this
      exact this
    · rw [hx3 i hi]
      obtain ⟨_, _, y, hy⟩ := hF i hi
      exact ⟨n, y, hy⟩
def intFields (P : Program) (fs : Array Field) : Bool := (List.range fs.size).all fun i => match fs[i]? with
  | some f => f.offset == i && P.cellsOf f.type == 1 && (match P.underlying f.type with | some (.int .i64) => true | _ => false)
  | none => false
theorem intFields_of {fs : Array Field} (h : intFields P fs = true) (i : Nat) (hi : i < fs.size) : ∃ f, fs[i]? = some f ∧ f.offset = i ∧ P.cellsOf f.type = 1 ∧ P.underlying f.type = some (.int .i64) := by
  have h0 := List.all_eq_true.1 h i (by simpa using hi)
  rw [Array.getElem?_eq_getElem hi] at h0 ⊢
  simp only [Bool.and_eq_true, beq_iff_eq] at h0
  refine ⟨_, rfl, h0.1.1, h0.1.2, ?_⟩
  have h2 := h0.2
  split at h2
  · assumption
  · cases h2
def In64 (z : Int) : Prop := -9223372036854775808 ≤ z ∧ z ≤ 9223372036854775807
theorem fld_int {W : World} {e : TypeId} {fs : Array Field} {m : Nat} {cs : List Value} {y : DataW H × List MemPlace} (he : P.underlying e = some (.struct fs)) (hy : DataW.trod enc P W 0 (fun _ => true) true m e cs = some y)
    (k o : Nat) (f : Field) (hk : fs[k]? = some f) (ho : f.offset = o) (hc : P.cellsOf f.type = 1) (hu : P.underlying f.type = some (.int .i64)) : ∃ z : Int, cs[o]? = some (.int .i64 z) ∧ In64 z := by
  obtain ⟨ys, m', _, _, hlen, hyl, hf⟩ := DataW.trod_struct he hy
  have hkl : k < ys.length := by rw [hyl]; exact (Array.getElem?_eq_some_iff.1 hk).1
  have h1 := hf _ f hk
  rw [ho, hc, List.getElem?_eq_getElem hkl] at h1
  obtain ⟨z, hz, _, hw⟩ := DataW.trod_int hu h1
  refine ⟨z, ?_, wfb hw⟩
  have g : ((cs.drop o).take 1)[0]? = some (Value.int .i64 z) := by rw [hz]; rfl
  rw [List.getElem?_take, if_pos (by omega), List.getElem?_drop] at g
  exact g
theorem fld_str {W : World} {e : TypeId} {fs : Array Field} {m : Nat} {cs : List Value} {y : DataW H × List MemPlace} (he : P.underlying e = some (.struct fs)) (hy : DataW.trod enc P W 0 (fun _ => true) true m e cs = some y)
    (k o : Nat) (f : Field) (hk : fs[k]? = some f) (ho : f.offset = o) (hc : P.cellsOf f.type = 1) (hu : P.underlying f.type = some .string) : ∃ s : ByteArray, cs[o]? = some (.string s) ∧ s.size ≤ maxLen := by
  obtain ⟨ys, m', _, _, hlen, hyl, hf⟩ := DataW.trod_struct he hy
  have hkl : k < ys.length := by rw [hyl]; exact (Array.getElem?_eq_some_iff.1 hk).1
  have h1 := hf _ f hk
  rw [ho, hc, List.getElem?_eq_getElem hkl] at h1
  obtain ⟨s, hz, _, hw⟩ := DataW.trod_string hu h1
  refine ⟨s, ?_, hw⟩
  have g : ((cs.drop o).take 1)[0]? = some (Value.string s) := by rw [hz]; rfl
  rw [List.getElem?_take, if_pos (by omega), List.getElem?_drop] at g
  exact g
theorem fld_sub {W : World} {e : TypeId} {fs : Array Field} {m : Nat} {cs : List Value} {y : DataW H × List MemPlace} (he : P.underlying e = some (.struct fs)) (hy : DataW.trod enc P W 0 (fun _ => true) true m e cs = some y)
    (k o C : Nat) (f : Field) (hk : fs[k]? = some f) (ho : f.offset = o) (hc : P.cellsOf f.type = C) : ∃ m' y', DataW.trod enc P W 0 (fun _ => true) true m' f.type ((cs.drop o).take C) = some y' := by
  obtain ⟨ys, m', _, _, hlen, hyl, hf⟩ := DataW.trod_struct he hy
  have hkl : k < ys.length := by rw [hyl]; exact (Array.getElem?_eq_some_iff.1 hk).1
  have h1 := hf _ f hk
  rw [ho, hc, List.getElem?_eq_getElem hkl] at h1
  exact ⟨_, _, h1⟩
theorem ints_of {cs : List Value} (each : ∀ j, j < cs.length → ∃ z : Int, cs[j]? = some (.int .i64 z) ∧ In64 z) : ∃ zs : List Int, cs = ints zs ∧ ∀ z ∈ zs, In64 z := by
  have hzs : ∀ m, m ≤ cs.length → ∃ zs : List Int, zs.length = m ∧ cs.take m = ints zs ∧ ∀ z ∈ zs, In64 z := by
    intro m
    induction m with
    | zero => intro _; exact ⟨[], rfl, by simp [ints], fun z hz => by cases hz⟩
    | succ m ih =>
      intro hm
      obtain ⟨zs, z1, z2, z3⟩ := ih (by omega)
      obtain ⟨z, h1, h2⟩ := each m (by omega)
      refine ⟨zs ++ [z], by simp [z1], ?_, fun u hu => ?_⟩
      · rw [List.take_add_one, z2, h1, ints_append]; rfl
      · rcases List.mem_append.1 hu with hu | hu
        · exact z3 u hu
        · simp only [List.mem_cons, List.not_mem_nil, or_false] at hu
          subst hu; exact h2
  obtain ⟨zs, z1, z2, z3⟩ := hzs _ (Nat.le_refl _)
  rw [List.take_length] at z2
  exact ⟨zs, z2, z3⟩
end
theorem elem_at (xs : List Value) (i C o : Nat) (h : o < C) : ((xs.drop (i * C)).take C)[o]? = xs[i * C + o]? := by
  rw [List.getElem?_take, if_pos h, List.getElem?_drop]
end Go.Proofs.YtkaalinoiilmoaaGreat
namespace Go.Proofs.YtkaalinoiilmoaaGreat
open Go.RowKit Go.ChangeShapes Go.WideShapes
set_option linter.unusedVariables false
set_option maxRecDepth 100000
theorem stps_of {H : Type} {enc : TypeId × Value → H} {W : World} {v : Value} {n : Nat} {xs : List Value} (hs : Sl W v n 7 xs)
    (hr : ∀ i, i < n → ∃ (m : Nat) (y : DataW H × List MemPlace), DataW.trod enc Tryz.prog W 0 (fun _ => true) true m 48 ((xs.drop (i * 7)).take 7) = some y) : ∃ l : List Stp, l.length = n ∧ xs = stcs l := by
  have hlen : xs.length = n * 7 := by obtain ⟨_, _, _, _, h, _⟩ := hs; exact h
  have key : ∀ i, i < n → ∃ x : Stp, ∀ j, j < 7 → xs[i * 7 + j]? = (stc x)[j]? := by
    intro i hi
    obtain ⟨m, y, hy⟩ := hr i hi
    obtain ⟨a0, h0, _⟩ := fld_int (P := Tryz.prog) Tryz.underlying48 hy 0 0 _ rfl rfl (by kernel_rfl) Tryz.underlying3
    obtain ⟨a1, h1, _⟩ := fld_int (P := Tryz.prog) Tryz.underlying48 hy 1 1 _ rfl rfl (by kernel_rfl) Tryz.underlying3
    obtain ⟨a2, h2, _⟩ := fld_int (P := Tryz.prog) Tryz.underlying48 hy 2 2 _ rfl rfl (by kernel_rfl) Tryz.underlying3
    obtain ⟨a3, h3, _⟩ := fld_int (P := Tryz.prog) Tryz.underlying48 hy 3 3 _ rfl rfl (by kernel_rfl) Tryz.underlying3
    obtain ⟨a4, h4, _⟩ := fld_int (P := Tryz.prog) Tryz.underlying48 hy 4 4 _ rfl rfl (by kernel_rfl) Tryz.underlying3
    obtain ⟨a5, h5, _⟩ := fld_int (P := Tryz.prog) Tryz.underlying48 hy 5 5 _ rfl rfl (by kernel_rfl) Tryz.underlying3
    obtain ⟨s, h6, _⟩ := fld_str (P := Tryz.prog) Tryz.underlying48 hy 6 6 _ rfl rfl (by kernel_rfl) Tryz.underlying9
    rw [elem_at _ _ _ _ (by omega)] at h0 h1 h2 h3 h4 h5 h6
    refine ⟨⟨a0, a1, a2, a3, a4, a5, s⟩, fun j hj => ?_⟩
    rcases (show j = 0 ∨ j = 1 ∨ j = 2 ∨ j = 3 ∨ j = 4 ∨ j = 5 ∨ j = 6 by omega) with rfl | rfl | rfl | rfl | rfl | rfl | rfl
    · exact h0
    · exact h1
    · exact h2
    · exact h3
    · exact h4
    · exact h5
    · exact h6
  haveI : Inhabited Stp := ⟨stD⟩
  obtain ⟨F, hF⟩ := Go.Deep.choose_lt key
  refine ⟨(List.range n).map F, by simp, ?_⟩
  apply List.ext_getElem?
  intro i
  by_cases h : i < n * 7
  · have e := stcs_get ((List.range n).map F) (i / 7) (i % 7) (by simp; omega) (by omega)
    have e2 := hF (i / 7) (by omega) (i % 7) (by omega)
    rw [show i / 7 * 7 + i % 7 = i by omega] at e e2
    rw [e, e2]
    congr 2
    have h7 : i / 7 < n := by omega
    simp [List.getD, List.getElem?_map, List.getElem?_range h7]
  · rw [List.getElem?_eq_none (by omega), List.getElem?_eq_none (by rw [stcs_len]; simp; omega)]
theorem sz_of {w : World} {v : Value} {n C B R : Nat} {xs : List Value} (h : Sl w v n C xs) (hz : ∀ A m c, v = .slice A m c → m * B ≤ R ∧ (A = none → c = 0)) : n * B ≤ R := by
  obtain ⟨A, c, e, _⟩ := h
  exact (hz _ _ _ e).1
end Go.Proofs.YtkaalinoiilmoaaGreat
