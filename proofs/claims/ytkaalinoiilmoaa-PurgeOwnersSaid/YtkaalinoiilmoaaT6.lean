/-
  What the proofs lean on: contracts of the program's functions, plain facts.
-/
import Derived.Test.YtkaalinoiilmoaaT5
import Derived.Test.YtkaalinoiilmoaaT3
import Derived.BigQuiet
import Derived.Test.YtkaalinoiilmoaaT1
import Derived.Deep.Slices
import Derived.Deep.Fields
import Derived.ChangeSame
import Derived.WideKeyArgs
import Derived.OpenShut
import Derived.SizedLaws
import Derived.Test.YtkaalinoiilmoaaChecked
import Derived.Deep.RegionHeld3
namespace Go.Proofs.Ytkaalinoiilmoaa
open Go.RowKit
set_option linter.unusedVariables false
set_option maxRecDepth 100000
set_option maxHeartbeats 1000000 in
theorem plain23_any (w : World) : Calls Try.prog 15 #[] w (PlainIs w) := by
  go_enter Try.func15, Try.ntmps15
  go_wp2_with fail
  have h0 : Blk ((((((((((w.alloc (.cells #[.int .i64 16, .slice (some ⟨w.heap.size + 1 + 1 + 1 + 1, 0, none⟩) 3 3, .slice (some ⟨w.heap.size + 1 + 1 + 1 + 1 + 1 + 1 + 1, 0, none⟩) 2 2, .int .i64 6, .slice (some ⟨w.heap.size + 1 + 1 + 1 + 1 + 1 + 1 + 1 + 1, 0, none⟩) 3 3, .slice (some ⟨w.heap.size + 1 + 1 + 1 + 1 + 1 + 1 + 1 + 1 + 1, 0, none⟩) 1 1, .int .i64 10, .int .i64 6, .int .i64 2] 27)).alloc (.cells #[.int .i64 0, .int .i64 1, .int .i64 2] 3)).alloc (.cells #[.int .i64 3, .int .i64 4] 3)).alloc (.cells #[.int .i64 5, .int .i64 6] 3)).alloc (.cells #[.int .i64 0, .int .i64 0, .slice (some ⟨w.heap.size + 1, 0, none⟩) 3 3, .int .i64 0, .int .i64 4, .int .i64 2, .int .i64 0, .slice (some ⟨w.heap.size + 1 + 1, 0, none⟩) 2 2, .int .i64 4, .int .i64 4, .int .i64 1, .int .i64 2, .slice (some ⟨w.heap.size + 1 + 1 + 1, 0, none⟩) 2 2, .int .i64 8, .int .i64 2] 48)).alloc (.cells #[.int .i64 8, .int .i64 9, .int .i64 10] 3)).alloc (.cells #[.int .i64 11, .int .i64 12] 3)).alloc (.cells #[.int .i64 0, .slice (some ⟨w.heap.size + 1 + 1 + 1 + 1 + 1, 0, none⟩) 3 3, .int .i64 2, .slice (some ⟨w.heap.size + 1 + 1 + 1 + 1 + 1 + 1, 0, none⟩) 2 2] 64)).alloc (.cells #[.int .i64 0, .int .i64 0, .int .i64 2, .int .i64 1, .int .i64 1, .int .i64 2, .int .i64 2, .int .i64 2, .int .i64 2, .int .i64 4, .int .i64 2, .int .i64 5] 66)).alloc (.cells #[.int .i64 2, .int .i64 2, .bool false] 50)) (w.heap.size) 27 [.int .i64 16, .slice (some ⟨w.heap.size + 1 + 1 + 1 + 1, 0, none⟩) 3 3, .slice (some ⟨w.heap.size + 1 + 1 + 1 + 1 + 1 + 1 + 1, 0, none⟩) 2 2, .int .i64 6, .slice (some ⟨w.heap.size + 1 + 1 + 1 + 1 + 1 + 1 + 1 + 1, 0, none⟩) 3 3, .slice (some ⟨w.heap.size + 1 + 1 + 1 + 1 + 1 + 1 + 1 + 1 + 1, 0, none⟩) 1 1, .int .i64 10, .int .i64 6, .int .i64 2] := by
    have := (((((((((Blk.new w 27 [.int .i64 16, .slice (some ⟨w.heap.size + 1 + 1 + 1 + 1, 0, none⟩) 3 3, .slice (some ⟨w.heap.size + 1 + 1 + 1 + 1 + 1 + 1 + 1, 0, none⟩) 2 2, .int .i64 6, .slice (some ⟨w.heap.size + 1 + 1 + 1 + 1 + 1 + 1 + 1 + 1, 0, none⟩) 3 3, .slice (some ⟨w.heap.size + 1 + 1 + 1 + 1 + 1 + 1 + 1 + 1 + 1, 0, none⟩) 1 1, .int .i64 10, .int .i64 6, .int .i64 2]).alloc (.cells #[.int .i64 0, .int .i64 1, .int .i64 2] 3)).alloc (.cells #[.int .i64 3, .int .i64 4] 3)).alloc (.cells #[.int .i64 5, .int .i64 6] 3)).alloc (.cells #[.int .i64 0, .int .i64 0, .slice (some ⟨w.heap.size + 1, 0, none⟩) 3 3, .int .i64 0, .int .i64 4, .int .i64 2, .int .i64 0, .slice (some ⟨w.heap.size + 1 + 1, 0, none⟩) 2 2, .int .i64 4, .int .i64 4, .int .i64 1, .int .i64 2, .slice (some ⟨w.heap.size + 1 + 1 + 1, 0, none⟩) 2 2, .int .i64 8, .int .i64 2] 48)).alloc (.cells #[.int .i64 8, .int .i64 9, .int .i64 10] 3)).alloc (.cells #[.int .i64 11, .int .i64 12] 3)).alloc (.cells #[.int .i64 0, .slice (some ⟨w.heap.size + 1 + 1 + 1 + 1 + 1, 0, none⟩) 3 3, .int .i64 2, .slice (some ⟨w.heap.size + 1 + 1 + 1 + 1 + 1 + 1, 0, none⟩) 2 2] 64)).alloc (.cells #[.int .i64 0, .int .i64 0, .int .i64 2, .int .i64 1, .int .i64 1, .int .i64 2, .int .i64 2, .int .i64 2, .int .i64 2, .int .i64 4, .int .i64 2, .int .i64 5] 66)).alloc (.cells #[.int .i64 2, .int .i64 2, .bool false] 50)
    try simp only [World.size_alloc] at this
    exact this
  have h1 : Blk ((((((((((w.alloc (.cells #[.int .i64 16, .slice (some ⟨w.heap.size + 1 + 1 + 1 + 1, 0, none⟩) 3 3, .slice (some ⟨w.heap.size + 1 + 1 + 1 + 1 + 1 + 1 + 1, 0, none⟩) 2 2, .int .i64 6, .slice (some ⟨w.heap.size + 1 + 1 + 1 + 1 + 1 + 1 + 1 + 1, 0, none⟩) 3 3, .slice (some ⟨w.heap.size + 1 + 1 + 1 + 1 + 1 + 1 + 1 + 1 + 1, 0, none⟩) 1 1, .int .i64 10, .int .i64 6, .int .i64 2] 27)).alloc (.cells #[.int .i64 0, .int .i64 1, .int .i64 2] 3)).alloc (.cells #[.int .i64 3, .int .i64 4] 3)).alloc (.cells #[.int .i64 5, .int .i64 6] 3)).alloc (.cells #[.int .i64 0, .int .i64 0, .slice (some ⟨w.heap.size + 1, 0, none⟩) 3 3, .int .i64 0, .int .i64 4, .int .i64 2, .int .i64 0, .slice (some ⟨w.heap.size + 1 + 1, 0, none⟩) 2 2, .int .i64 4, .int .i64 4, .int .i64 1, .int .i64 2, .slice (some ⟨w.heap.size + 1 + 1 + 1, 0, none⟩) 2 2, .int .i64 8, .int .i64 2] 48)).alloc (.cells #[.int .i64 8, .int .i64 9, .int .i64 10] 3)).alloc (.cells #[.int .i64 11, .int .i64 12] 3)).alloc (.cells #[.int .i64 0, .slice (some ⟨w.heap.size + 1 + 1 + 1 + 1 + 1, 0, none⟩) 3 3, .int .i64 2, .slice (some ⟨w.heap.size + 1 + 1 + 1 + 1 + 1 + 1, 0, none⟩) 2 2] 64)).alloc (.cells #[.int .i64 0, .int .i64 0, .int .i64 2, .int .i64 1, .int .i64 1, .int .i64 2, .int .i64 2, .int .i64 2, .int .i64 2, .int .i64 4, .int .i64 2, .int .i64 5] 66)).alloc (.cells #[.int .i64 2, .int .i64 2, .bool false] 50)) (w.heap.size + 1) 3 [.int .i64 0, .int .i64 1, .int .i64 2] := by
    have := ((((((((Blk.new (w.alloc (.cells #[.int .i64 16, .slice (some ⟨w.heap.size + 1 + 1 + 1 + 1, 0, none⟩) 3 3, .slice (some ⟨w.heap.size + 1 + 1 + 1 + 1 + 1 + 1 + 1, 0, none⟩) 2 2, .int .i64 6, .slice (some ⟨w.heap.size + 1 + 1 + 1 + 1 + 1 + 1 + 1 + 1, 0, none⟩) 3 3, .slice (some ⟨w.heap.size + 1 + 1 + 1 + 1 + 1 + 1 + 1 + 1 + 1, 0, none⟩) 1 1, .int .i64 10, .int .i64 6, .int .i64 2] 27)) 3 [.int .i64 0, .int .i64 1, .int .i64 2]).alloc (.cells #[.int .i64 3, .int .i64 4] 3)).alloc (.cells #[.int .i64 5, .int .i64 6] 3)).alloc (.cells #[.int .i64 0, .int .i64 0, .slice (some ⟨w.heap.size + 1, 0, none⟩) 3 3, .int .i64 0, .int .i64 4, .int .i64 2, .int .i64 0, .slice (some ⟨w.heap.size + 1 + 1, 0, none⟩) 2 2, .int .i64 4, .int .i64 4, .int .i64 1, .int .i64 2, .slice (some ⟨w.heap.size + 1 + 1 + 1, 0, none⟩) 2 2, .int .i64 8, .int .i64 2] 48)).alloc (.cells #[.int .i64 8, .int .i64 9, .int .i64 10] 3)).alloc (.cells #[.int .i64 11, .int .i64 12] 3)).alloc (.cells #[.int .i64 0, .slice (some ⟨w.heap.size + 1 + 1 + 1 + 1 + 1, 0, none⟩) 3 3, .int .i64 2, .slice (some ⟨w.heap.size + 1 + 1 + 1 + 1 + 1 + 1, 0, none⟩) 2 2] 64)).alloc (.cells #[.int .i64 0, .int .i64 0, .int .i64 2, .int .i64 1, .int .i64 1, .int .i64 2, .int .i64 2, .int .i64 2, .int .i64 2, .int .i64 4, .int .i64 2, .int .i64 5] 66)).alloc (.cells #[.int .i64 2, .int .i64 2, .bool false] 50)
    try simp only [World.size_alloc] at this
    exact this
  have h2 : Blk ((((((((((w.alloc (.cells #[.int .i64 16, .slice (some ⟨w.heap.size + 1 + 1 + 1 + 1, 0, none⟩) 3 3, .slice (some ⟨w.heap.size + 1 + 1 + 1 + 1 + 1 + 1 + 1, 0, none⟩) 2 2, .int .i64 6, .slice (some ⟨w.heap.size + 1 + 1 + 1 + 1 + 1 + 1 + 1 + 1, 0, none⟩) 3 3, .slice (some ⟨w.heap.size + 1 + 1 + 1 + 1 + 1 + 1 + 1 + 1 + 1, 0, none⟩) 1 1, .int .i64 10, .int .i64 6, .int .i64 2] 27)).alloc (.cells #[.int .i64 0, .int .i64 1, .int .i64 2] 3)).alloc (.cells #[.int .i64 3, .int .i64 4] 3)).alloc (.cells #[.int .i64 5, .int .i64 6] 3)).alloc (.cells #[.int .i64 0, .int .i64 0, .slice (some ⟨w.heap.size + 1, 0, none⟩) 3 3, .int .i64 0, .int .i64 4, .int .i64 2, .int .i64 0, .slice (some ⟨w.heap.size + 1 + 1, 0, none⟩) 2 2, .int .i64 4, .int .i64 4, .int .i64 1, .int .i64 2, .slice (some ⟨w.heap.size + 1 + 1 + 1, 0, none⟩) 2 2, .int .i64 8, .int .i64 2] 48)).alloc (.cells #[.int .i64 8, .int .i64 9, .int .i64 10] 3)).alloc (.cells #[.int .i64 11, .int .i64 12] 3)).alloc (.cells #[.int .i64 0, .slice (some ⟨w.heap.size + 1 + 1 + 1 + 1 + 1, 0, none⟩) 3 3, .int .i64 2, .slice (some ⟨w.heap.size + 1 + 1 + 1 + 1 + 1 + 1, 0, none⟩) 2 2] 64)).alloc (.cells #[.int .i64 0, .int .i64 0, .int .i64 2, .int .i64 1, .int .i64 1, .int .i64 2, .int .i64 2, .int .i64 2, .int .i64 2, .int .i64 4, .int .i64 2, .int .i64 5] 66)).alloc (.cells #[.int .i64 2, .int .i64 2, .bool false] 50)) (w.heap.size + 1 + 1) 3 [.int .i64 3, .int .i64 4] := by
    have := (((((((Blk.new ((w.alloc (.cells #[.int .i64 16, .slice (some ⟨w.heap.size + 1 + 1 + 1 + 1, 0, none⟩) 3 3, .slice (some ⟨w.heap.size + 1 + 1 + 1 + 1 + 1 + 1 + 1, 0, none⟩) 2 2, .int .i64 6, .slice (some ⟨w.heap.size + 1 + 1 + 1 + 1 + 1 + 1 + 1 + 1, 0, none⟩) 3 3, .slice (some ⟨w.heap.size + 1 + 1 + 1 + 1 + 1 + 1 + 1 + 1 + 1, 0, none⟩) 1 1, .int .i64 10, .int .i64 6, .int .i64 2] 27)).alloc (.cells #[.int .i64 0, .int .i64 1, .int .i64 2] 3)) 3 [.int .i64 3, .int .i64 4]).alloc (.cells #[.int .i64 5, .int .i64 6] 3)).alloc (.cells #[.int .i64 0, .int .i64 0, .slice (some ⟨w.heap.size + 1, 0, none⟩) 3 3, .int .i64 0, .int .i64 4, .int .i64 2, .int .i64 0, .slice (some ⟨w.heap.size + 1 + 1, 0, none⟩) 2 2, .int .i64 4, .int .i64 4, .int .i64 1, .int .i64 2, .slice (some ⟨w.heap.size + 1 + 1 + 1, 0, none⟩) 2 2, .int .i64 8, .int .i64 2] 48)).alloc (.cells #[.int .i64 8, .int .i64 9, .int .i64 10] 3)).alloc (.cells #[.int .i64 11, .int .i64 12] 3)).alloc (.cells #[.int .i64 0, .slice (some ⟨w.heap.size + 1 + 1 + 1 + 1 + 1, 0, none⟩) 3 3, .int .i64 2, .slice (some ⟨w.heap.size + 1 + 1 + 1 + 1 + 1 + 1, 0, none⟩) 2 2] 64)).alloc (.cells #[.int .i64 0, .int .i64 0, .int .i64 2, .int .i64 1, .int .i64 1, .int .i64 2, .int .i64 2, .int .i64 2, .int .i64 2, .int .i64 4, .int .i64 2, .int .i64 5] 66)).alloc (.cells #[.int .i64 2, .int .i64 2, .bool false] 50)
    try simp only [World.size_alloc] at this
    exact this
  have h3 : Blk ((((((((((w.alloc (.cells #[.int .i64 16, .slice (some ⟨w.heap.size + 1 + 1 + 1 + 1, 0, none⟩) 3 3, .slice (some ⟨w.heap.size + 1 + 1 + 1 + 1 + 1 + 1 + 1, 0, none⟩) 2 2, .int .i64 6, .slice (some ⟨w.heap.size + 1 + 1 + 1 + 1 + 1 + 1 + 1 + 1, 0, none⟩) 3 3, .slice (some ⟨w.heap.size + 1 + 1 + 1 + 1 + 1 + 1 + 1 + 1 + 1, 0, none⟩) 1 1, .int .i64 10, .int .i64 6, .int .i64 2] 27)).alloc (.cells #[.int .i64 0, .int .i64 1, .int .i64 2] 3)).alloc (.cells #[.int .i64 3, .int .i64 4] 3)).alloc (.cells #[.int .i64 5, .int .i64 6] 3)).alloc (.cells #[.int .i64 0, .int .i64 0, .slice (some ⟨w.heap.size + 1, 0, none⟩) 3 3, .int .i64 0, .int .i64 4, .int .i64 2, .int .i64 0, .slice (some ⟨w.heap.size + 1 + 1, 0, none⟩) 2 2, .int .i64 4, .int .i64 4, .int .i64 1, .int .i64 2, .slice (some ⟨w.heap.size + 1 + 1 + 1, 0, none⟩) 2 2, .int .i64 8, .int .i64 2] 48)).alloc (.cells #[.int .i64 8, .int .i64 9, .int .i64 10] 3)).alloc (.cells #[.int .i64 11, .int .i64 12] 3)).alloc (.cells #[.int .i64 0, .slice (some ⟨w.heap.size + 1 + 1 + 1 + 1 + 1, 0, none⟩) 3 3, .int .i64 2, .slice (some ⟨w.heap.size + 1 + 1 + 1 + 1 + 1 + 1, 0, none⟩) 2 2] 64)).alloc (.cells #[.int .i64 0, .int .i64 0, .int .i64 2, .int .i64 1, .int .i64 1, .int .i64 2, .int .i64 2, .int .i64 2, .int .i64 2, .int .i64 4, .int .i64 2, .int .i64 5] 66)).alloc (.cells #[.int .i64 2, .int .i64 2, .bool false] 50)) (w.heap.size + 1 + 1 + 1) 3 [.int .i64 5, .int .i64 6] := by
    have := ((((((Blk.new (((w.alloc (.cells #[.int .i64 16, .slice (some ⟨w.heap.size + 1 + 1 + 1 + 1, 0, none⟩) 3 3, .slice (some ⟨w.heap.size + 1 + 1 + 1 + 1 + 1 + 1 + 1, 0, none⟩) 2 2, .int .i64 6, .slice (some ⟨w.heap.size + 1 + 1 + 1 + 1 + 1 + 1 + 1 + 1, 0, none⟩) 3 3, .slice (some ⟨w.heap.size + 1 + 1 + 1 + 1 + 1 + 1 + 1 + 1 + 1, 0, none⟩) 1 1, .int .i64 10, .int .i64 6, .int .i64 2] 27)).alloc (.cells #[.int .i64 0, .int .i64 1, .int .i64 2] 3)).alloc (.cells #[.int .i64 3, .int .i64 4] 3)) 3 [.int .i64 5, .int .i64 6]).alloc (.cells #[.int .i64 0, .int .i64 0, .slice (some ⟨w.heap.size + 1, 0, none⟩) 3 3, .int .i64 0, .int .i64 4, .int .i64 2, .int .i64 0, .slice (some ⟨w.heap.size + 1 + 1, 0, none⟩) 2 2, .int .i64 4, .int .i64 4, .int .i64 1, .int .i64 2, .slice (some ⟨w.heap.size + 1 + 1 + 1, 0, none⟩) 2 2, .int .i64 8, .int .i64 2] 48)).alloc (.cells #[.int .i64 8, .int .i64 9, .int .i64 10] 3)).alloc (.cells #[.int .i64 11, .int .i64 12] 3)).alloc (.cells #[.int .i64 0, .slice (some ⟨w.heap.size + 1 + 1 + 1 + 1 + 1, 0, none⟩) 3 3, .int .i64 2, .slice (some ⟨w.heap.size + 1 + 1 + 1 + 1 + 1 + 1, 0, none⟩) 2 2] 64)).alloc (.cells #[.int .i64 0, .int .i64 0, .int .i64 2, .int .i64 1, .int .i64 1, .int .i64 2, .int .i64 2, .int .i64 2, .int .i64 2, .int .i64 4, .int .i64 2, .int .i64 5] 66)).alloc (.cells #[.int .i64 2, .int .i64 2, .bool false] 50)
    try simp only [World.size_alloc] at this
    exact this
  have h4 : Blk ((((((((((w.alloc (.cells #[.int .i64 16, .slice (some ⟨w.heap.size + 1 + 1 + 1 + 1, 0, none⟩) 3 3, .slice (some ⟨w.heap.size + 1 + 1 + 1 + 1 + 1 + 1 + 1, 0, none⟩) 2 2, .int .i64 6, .slice (some ⟨w.heap.size + 1 + 1 + 1 + 1 + 1 + 1 + 1 + 1, 0, none⟩) 3 3, .slice (some ⟨w.heap.size + 1 + 1 + 1 + 1 + 1 + 1 + 1 + 1 + 1, 0, none⟩) 1 1, .int .i64 10, .int .i64 6, .int .i64 2] 27)).alloc (.cells #[.int .i64 0, .int .i64 1, .int .i64 2] 3)).alloc (.cells #[.int .i64 3, .int .i64 4] 3)).alloc (.cells #[.int .i64 5, .int .i64 6] 3)).alloc (.cells #[.int .i64 0, .int .i64 0, .slice (some ⟨w.heap.size + 1, 0, none⟩) 3 3, .int .i64 0, .int .i64 4, .int .i64 2, .int .i64 0, .slice (some ⟨w.heap.size + 1 + 1, 0, none⟩) 2 2, .int .i64 4, .int .i64 4, .int .i64 1, .int .i64 2, .slice (some ⟨w.heap.size + 1 + 1 + 1, 0, none⟩) 2 2, .int .i64 8, .int .i64 2] 48)).alloc (.cells #[.int .i64 8, .int .i64 9, .int .i64 10] 3)).alloc (.cells #[.int .i64 11, .int .i64 12] 3)).alloc (.cells #[.int .i64 0, .slice (some ⟨w.heap.size + 1 + 1 + 1 + 1 + 1, 0, none⟩) 3 3, .int .i64 2, .slice (some ⟨w.heap.size + 1 + 1 + 1 + 1 + 1 + 1, 0, none⟩) 2 2] 64)).alloc (.cells #[.int .i64 0, .int .i64 0, .int .i64 2, .int .i64 1, .int .i64 1, .int .i64 2, .int .i64 2, .int .i64 2, .int .i64 2, .int .i64 4, .int .i64 2, .int .i64 5] 66)).alloc (.cells #[.int .i64 2, .int .i64 2, .bool false] 50)) (w.heap.size + 1 + 1 + 1 + 1) 48 [.int .i64 0, .int .i64 0, .slice (some ⟨w.heap.size + 1, 0, none⟩) 3 3, .int .i64 0, .int .i64 4, .int .i64 2, .int .i64 0, .slice (some ⟨w.heap.size + 1 + 1, 0, none⟩) 2 2, .int .i64 4, .int .i64 4, .int .i64 1, .int .i64 2, .slice (some ⟨w.heap.size + 1 + 1 + 1, 0, none⟩) 2 2, .int .i64 8, .int .i64 2] := by
    have := (((((Blk.new ((((w.alloc (.cells #[.int .i64 16, .slice (some ⟨w.heap.size + 1 + 1 + 1 + 1, 0, none⟩) 3 3, .slice (some ⟨w.heap.size + 1 + 1 + 1 + 1 + 1 + 1 + 1, 0, none⟩) 2 2, .int .i64 6, .slice (some ⟨w.heap.size + 1 + 1 + 1 + 1 + 1 + 1 + 1 + 1, 0, none⟩) 3 3, .slice (some ⟨w.heap.size + 1 + 1 + 1 + 1 + 1 + 1 + 1 + 1 + 1, 0, none⟩) 1 1, .int .i64 10, .int .i64 6, .int .i64 2] 27)).alloc (.cells #[.int .i64 0, .int .i64 1, .int .i64 2] 3)).alloc (.cells #[.int .i64 3, .int .i64 4] 3)).alloc (.cells #[.int .i64 5, .int .i64 6] 3)) 48 [.int .i64 0, .int .i64 0, .slice (some ⟨w.heap.size + 1, 0, none⟩) 3 3, .int .i64 0, .int .i64 4, .int .i64 2, .int .i64 0, .slice (some ⟨w.heap.size + 1 + 1, 0, none⟩) 2 2, .int .i64 4, .int .i64 4, .int .i64 1, .int .i64 2, .slice (some ⟨w.heap.size + 1 + 1 + 1, 0, none⟩) 2 2, .int .i64 8, .int .i64 2]).alloc (.cells #[.int .i64 8, .int .i64 9, .int .i64 10] 3)).alloc (.cells #[.int .i64 11, .int .i64 12] 3)).alloc (.cells #[.int .i64 0, .slice (some ⟨w.heap.size + 1 + 1 + 1 + 1 + 1, 0, none⟩) 3 3, .int .i64 2, .slice (some ⟨w.heap.size + 1 + 1 + 1 + 1 + 1 + 1, 0, none⟩) 2 2] 64)).alloc (.cells #[.int .i64 0, .int .i64 0, .int .i64 2, .int .i64 1, .int .i64 1, .int .i64 2, .int .i64 2, .int .i64 2, .int .i64 2, .int .i64 4, .int .i64 2, .int .i64 5] 66)).alloc (.cells #[.int .i64 2, .int .i64 2, .bool false] 50)
    try simp only [World.size_alloc] at this
    exact this
  have h5 : Blk ((((((((((w.alloc (.cells #[.int .i64 16, .slice (some ⟨w.heap.size + 1 + 1 + 1 + 1, 0, none⟩) 3 3, .slice (some ⟨w.heap.size + 1 + 1 + 1 + 1 + 1 + 1 + 1, 0, none⟩) 2 2, .int .i64 6, .slice (some ⟨w.heap.size + 1 + 1 + 1 + 1 + 1 + 1 + 1 + 1, 0, none⟩) 3 3, .slice (some ⟨w.heap.size + 1 + 1 + 1 + 1 + 1 + 1 + 1 + 1 + 1, 0, none⟩) 1 1, .int .i64 10, .int .i64 6, .int .i64 2] 27)).alloc (.cells #[.int .i64 0, .int .i64 1, .int .i64 2] 3)).alloc (.cells #[.int .i64 3, .int .i64 4] 3)).alloc (.cells #[.int .i64 5, .int .i64 6] 3)).alloc (.cells #[.int .i64 0, .int .i64 0, .slice (some ⟨w.heap.size + 1, 0, none⟩) 3 3, .int .i64 0, .int .i64 4, .int .i64 2, .int .i64 0, .slice (some ⟨w.heap.size + 1 + 1, 0, none⟩) 2 2, .int .i64 4, .int .i64 4, .int .i64 1, .int .i64 2, .slice (some ⟨w.heap.size + 1 + 1 + 1, 0, none⟩) 2 2, .int .i64 8, .int .i64 2] 48)).alloc (.cells #[.int .i64 8, .int .i64 9, .int .i64 10] 3)).alloc (.cells #[.int .i64 11, .int .i64 12] 3)).alloc (.cells #[.int .i64 0, .slice (some ⟨w.heap.size + 1 + 1 + 1 + 1 + 1, 0, none⟩) 3 3, .int .i64 2, .slice (some ⟨w.heap.size + 1 + 1 + 1 + 1 + 1 + 1, 0, none⟩) 2 2] 64)).alloc (.cells #[.int .i64 0, .int .i64 0, .int .i64 2, .int .i64 1, .int .i64 1, .int .i64 2, .int .i64 2, .int .i64 2, .int .i64 2, .int .i64 4, .int .i64 2, .int .i64 5] 66)).alloc (.cells #[.int .i64 2, .int .i64 2, .bool false] 50)) (w.heap.size + 1 + 1 + 1 + 1 + 1) 3 [.int .i64 8, .int .i64 9, .int .i64 10] := by
    have := ((((Blk.new (((((w.alloc (.cells #[.int .i64 16, .slice (some ⟨w.heap.size + 1 + 1 + 1 + 1, 0, none⟩) 3 3, .slice (some ⟨w.heap.size + 1 + 1 + 1 + 1 + 1 + 1 + 1, 0, none⟩) 2 2, .int .i64 6, .slice (some ⟨w.heap.size + 1 + 1 + 1 + 1 + 1 + 1 + 1 + 1, 0, none⟩) 3 3, .slice (some ⟨w.heap.size + 1 + 1 + 1 + 1 + 1 + 1 + 1 + 1 + 1, 0, none⟩) 1 1, .int .i64 10, .int .i64 6, .int .i64 2] 27)).alloc (.cells #[.int .i64 0, .int .i64 1, .int .i64 2] 3)).alloc (.cells #[.int .i64 3, .int .i64 4] 3)).alloc (.cells #[.int .i64 5, .int .i64 6] 3)).alloc (.cells #[.int .i64 0, .int .i64 0, .slice (some ⟨w.heap.size + 1, 0, none⟩) 3 3, .int .i64 0, .int .i64 4, .int .i64 2, .int .i64 0, .slice (some ⟨w.heap.size + 1 + 1, 0, none⟩) 2 2, .int .i64 4, .int .i64 4, .int .i64 1, .int .i64 2, .slice (some ⟨w.heap.size + 1 + 1 + 1, 0, none⟩) 2 2, .int .i64 8, .int .i64 2] 48)) 3 [.int .i64 8, .int .i64 9, .int .i64 10]).alloc (.cells #[.int .i64 11, .int .i64 12] 3)).alloc (.cells #[.int .i64 0, .slice (some ⟨w.heap.size + 1 + 1 + 1 + 1 + 1, 0, none⟩) 3 3, .int .i64 2, .slice (some ⟨w.heap.size + 1 + 1 + 1 + 1 + 1 + 1, 0, none⟩) 2 2] 64)).alloc (.cells #[.int .i64 0, .int .i64 0, .int .i64 2, .int .i64 1, .int .i64 1, .int .i64 2, .int .i64 2, .int .i64 2, .int .i64 2, .int .i64 4, .int .i64 2, .int .i64 5] 66)).alloc (.cells #[.int .i64 2, .int .i64 2, .bool false] 50)
    try simp only [World.size_alloc] at this
    exact this
  have h6 : Blk ((((((((((w.alloc (.cells #[.int .i64 16, .slice (some ⟨w.heap.size + 1 + 1 + 1 + 1, 0, none⟩) 3 3, .slice (some ⟨w.heap.size + 1 + 1 + 1 + 1 + 1 + 1 + 1, 0, none⟩) 2 2, .int .i64 6, .slice (some ⟨w.heap.size + 1 + 1 + 1 + 1 + 1 + 1 + 1 + 1, 0, none⟩) 3 3, .slice (some ⟨w.heap.size + 1 + 1 + 1 + 1 + 1 + 1 + 1 + 1 + 1, 0, none⟩) 1 1, .int .i64 10, .int .i64 6, .int .i64 2] 27)).alloc (.cells #[.int .i64 0, .int .i64 1, .int .i64 2] 3)).alloc (.cells #[.int .i64 3, .int .i64 4] 3)).alloc (.cells #[.int .i64 5, .int .i64 6] 3)).alloc (.cells #[.int .i64 0, .int .i64 0, .slice (some ⟨w.heap.size + 1, 0, none⟩) 3 3, .int .i64 0, .int .i64 4, .int .i64 2, .int .i64 0, .slice (some ⟨w.heap.size + 1 + 1, 0, none⟩) 2 2, .int .i64 4, .int .i64 4, .int .i64 1, .int .i64 2, .slice (some ⟨w.heap.size + 1 + 1 + 1, 0, none⟩) 2 2, .int .i64 8, .int .i64 2] 48)).alloc (.cells #[.int .i64 8, .int .i64 9, .int .i64 10] 3)).alloc (.cells #[.int .i64 11, .int .i64 12] 3)).alloc (.cells #[.int .i64 0, .slice (some ⟨w.heap.size + 1 + 1 + 1 + 1 + 1, 0, none⟩) 3 3, .int .i64 2, .slice (some ⟨w.heap.size + 1 + 1 + 1 + 1 + 1 + 1, 0, none⟩) 2 2] 64)).alloc (.cells #[.int .i64 0, .int .i64 0, .int .i64 2, .int .i64 1, .int .i64 1, .int .i64 2, .int .i64 2, .int .i64 2, .int .i64 2, .int .i64 4, .int .i64 2, .int .i64 5] 66)).alloc (.cells #[.int .i64 2, .int .i64 2, .bool false] 50)) (w.heap.size + 1 + 1 + 1 + 1 + 1 + 1) 3 [.int .i64 11, .int .i64 12] := by
    have := (((Blk.new ((((((w.alloc (.cells #[.int .i64 16, .slice (some ⟨w.heap.size + 1 + 1 + 1 + 1, 0, none⟩) 3 3, .slice (some ⟨w.heap.size + 1 + 1 + 1 + 1 + 1 + 1 + 1, 0, none⟩) 2 2, .int .i64 6, .slice (some ⟨w.heap.size + 1 + 1 + 1 + 1 + 1 + 1 + 1 + 1, 0, none⟩) 3 3, .slice (some ⟨w.heap.size + 1 + 1 + 1 + 1 + 1 + 1 + 1 + 1 + 1, 0, none⟩) 1 1, .int .i64 10, .int .i64 6, .int .i64 2] 27)).alloc (.cells #[.int .i64 0, .int .i64 1, .int .i64 2] 3)).alloc (.cells #[.int .i64 3, .int .i64 4] 3)).alloc (.cells #[.int .i64 5, .int .i64 6] 3)).alloc (.cells #[.int .i64 0, .int .i64 0, .slice (some ⟨w.heap.size + 1, 0, none⟩) 3 3, .int .i64 0, .int .i64 4, .int .i64 2, .int .i64 0, .slice (some ⟨w.heap.size + 1 + 1, 0, none⟩) 2 2, .int .i64 4, .int .i64 4, .int .i64 1, .int .i64 2, .slice (some ⟨w.heap.size + 1 + 1 + 1, 0, none⟩) 2 2, .int .i64 8, .int .i64 2] 48)).alloc (.cells #[.int .i64 8, .int .i64 9, .int .i64 10] 3)) 3 [.int .i64 11, .int .i64 12]).alloc (.cells #[.int .i64 0, .slice (some ⟨w.heap.size + 1 + 1 + 1 + 1 + 1, 0, none⟩) 3 3, .int .i64 2, .slice (some ⟨w.heap.size + 1 + 1 + 1 + 1 + 1 + 1, 0, none⟩) 2 2] 64)).alloc (.cells #[.int .i64 0, .int .i64 0, .int .i64 2, .int .i64 1, .int .i64 1, .int .i64 2, .int .i64 2, .int .i64 2, .int .i64 2, .int .i64 4, .int .i64 2, .int .i64 5] 66)).alloc (.cells #[.int .i64 2, .int .i64 2, .bool false] 50)
    try simp only [World.size_alloc] at this
    exact this
  have h7 : Blk ((((((((((w.alloc (.cells #[.int .i64 16, .slice (some ⟨w.heap.size + 1 + 1 + 1 + 1, 0, none⟩) 3 3, .slice (some ⟨w.heap.size + 1 + 1 + 1 + 1 + 1 + 1 + 1, 0, none⟩) 2 2, .int .i64 6, .slice (some ⟨w.heap.size + 1 + 1 + 1 + 1 + 1 + 1 + 1 + 1, 0, none⟩) 3 3, .slice (some ⟨w.heap.size + 1 + 1 + 1 + 1 + 1 + 1 + 1 + 1 + 1, 0, none⟩) 1 1, .int .i64 10, .int .i64 6, .int .i64 2] 27)).alloc (.cells #[.int .i64 0, .int .i64 1, .int .i64 2] 3)).alloc (.cells #[.int .i64 3, .int .i64 4] 3)).alloc (.cells #[.int .i64 5, .int .i64 6] 3)).alloc (.cells #[.int .i64 0, .int .i64 0, .slice (some ⟨w.heap.size + 1, 0, none⟩) 3 3, .int .i64 0, .int .i64 4, .int .i64 2, .int .i64 0, .slice (some ⟨w.heap.size + 1 + 1, 0, none⟩) 2 2, .int .i64 4, .int .i64 4, .int .i64 1, .int .i64 2, .slice (some ⟨w.heap.size + 1 + 1 + 1, 0, none⟩) 2 2, .int .i64 8, .int .i64 2] 48)).alloc (.cells #[.int .i64 8, .int .i64 9, .int .i64 10] 3)).alloc (.cells #[.int .i64 11, .int .i64 12] 3)).alloc (.cells #[.int .i64 0, .slice (some ⟨w.heap.size + 1 + 1 + 1 + 1 + 1, 0, none⟩) 3 3, .int .i64 2, .slice (some ⟨w.heap.size + 1 + 1 + 1 + 1 + 1 + 1, 0, none⟩) 2 2] 64)).alloc (.cells #[.int .i64 0, .int .i64 0, .int .i64 2, .int .i64 1, .int .i64 1, .int .i64 2, .int .i64 2, .int .i64 2, .int .i64 2, .int .i64 4, .int .i64 2, .int .i64 5] 66)).alloc (.cells #[.int .i64 2, .int .i64 2, .bool false] 50)) (w.heap.size + 1 + 1 + 1 + 1 + 1 + 1 + 1) 64 [.int .i64 0, .slice (some ⟨w.heap.size + 1 + 1 + 1 + 1 + 1, 0, none⟩) 3 3, .int .i64 2, .slice (some ⟨w.heap.size + 1 + 1 + 1 + 1 + 1 + 1, 0, none⟩) 2 2] := by
    have := ((Blk.new (((((((w.alloc (.cells #[.int .i64 16, .slice (some ⟨w.heap.size + 1 + 1 + 1 + 1, 0, none⟩) 3 3, .slice (some ⟨w.heap.size + 1 + 1 + 1 + 1 + 1 + 1 + 1, 0, none⟩) 2 2, .int .i64 6, .slice (some ⟨w.heap.size + 1 + 1 + 1 + 1 + 1 + 1 + 1 + 1, 0, none⟩) 3 3, .slice (some ⟨w.heap.size + 1 + 1 + 1 + 1 + 1 + 1 + 1 + 1 + 1, 0, none⟩) 1 1, .int .i64 10, .int .i64 6, .int .i64 2] 27)).alloc (.cells #[.int .i64 0, .int .i64 1, .int .i64 2] 3)).alloc (.cells #[.int .i64 3, .int .i64 4] 3)).alloc (.cells #[.int .i64 5, .int .i64 6] 3)).alloc (.cells #[.int .i64 0, .int .i64 0, .slice (some ⟨w.heap.size + 1, 0, none⟩) 3 3, .int .i64 0, .int .i64 4, .int .i64 2, .int .i64 0, .slice (some ⟨w.heap.size + 1 + 1, 0, none⟩) 2 2, .int .i64 4, .int .i64 4, .int .i64 1, .int .i64 2, .slice (some ⟨w.heap.size + 1 + 1 + 1, 0, none⟩) 2 2, .int .i64 8, .int .i64 2] 48)).alloc (.cells #[.int .i64 8, .int .i64 9, .int .i64 10] 3)).alloc (.cells #[.int .i64 11, .int .i64 12] 3)) 64 [.int .i64 0, .slice (some ⟨w.heap.size + 1 + 1 + 1 + 1 + 1, 0, none⟩) 3 3, .int .i64 2, .slice (some ⟨w.heap.size + 1 + 1 + 1 + 1 + 1 + 1, 0, none⟩) 2 2]).alloc (.cells #[.int .i64 0, .int .i64 0, .int .i64 2, .int .i64 1, .int .i64 1, .int .i64 2, .int .i64 2, .int .i64 2, .int .i64 2, .int .i64 4, .int .i64 2, .int .i64 5] 66)).alloc (.cells #[.int .i64 2, .int .i64 2, .bool false] 50)
    try simp only [World.size_alloc] at this
    exact this
  have h8 : Blk ((((((((((w.alloc (.cells #[.int .i64 16, .slice (some ⟨w.heap.size + 1 + 1 + 1 + 1, 0, none⟩) 3 3, .slice (some ⟨w.heap.size + 1 + 1 + 1 + 1 + 1 + 1 + 1, 0, none⟩) 2 2, .int .i64 6, .slice (some ⟨w.heap.size + 1 + 1 + 1 + 1 + 1 + 1 + 1 + 1, 0, none⟩) 3 3, .slice (some ⟨w.heap.size + 1 + 1 + 1 + 1 + 1 + 1 + 1 + 1 + 1, 0, none⟩) 1 1, .int .i64 10, .int .i64 6, .int .i64 2] 27)).alloc (.cells #[.int .i64 0, .int .i64 1, .int .i64 2] 3)).alloc (.cells #[.int .i64 3, .int .i64 4] 3)).alloc (.cells #[.int .i64 5, .int .i64 6] 3)).alloc (.cells #[.int .i64 0, .int .i64 0, .slice (some ⟨w.heap.size + 1, 0, none⟩) 3 3, .int .i64 0, .int .i64 4, .int .i64 2, .int .i64 0, .slice (some ⟨w.heap.size + 1 + 1, 0, none⟩) 2 2, .int .i64 4, .int .i64 4, .int .i64 1, .int .i64 2, .slice (some ⟨w.heap.size + 1 + 1 + 1, 0, none⟩) 2 2, .int .i64 8, .int .i64 2] 48)).alloc (.cells #[.int .i64 8, .int .i64 9, .int .i64 10] 3)).alloc (.cells #[.int .i64 11, .int .i64 12] 3)).alloc (.cells #[.int .i64 0, .slice (some ⟨w.heap.size + 1 + 1 + 1 + 1 + 1, 0, none⟩) 3 3, .int .i64 2, .slice (some ⟨w.heap.size + 1 + 1 + 1 + 1 + 1 + 1, 0, none⟩) 2 2] 64)).alloc (.cells #[.int .i64 0, .int .i64 0, .int .i64 2, .int .i64 1, .int .i64 1, .int .i64 2, .int .i64 2, .int .i64 2, .int .i64 2, .int .i64 4, .int .i64 2, .int .i64 5] 66)).alloc (.cells #[.int .i64 2, .int .i64 2, .bool false] 50)) (w.heap.size + 1 + 1 + 1 + 1 + 1 + 1 + 1 + 1) 66 [.int .i64 0, .int .i64 0, .int .i64 2, .int .i64 1, .int .i64 1, .int .i64 2, .int .i64 2, .int .i64 2, .int .i64 2, .int .i64 4, .int .i64 2, .int .i64 5] := by
    have := (Blk.new ((((((((w.alloc (.cells #[.int .i64 16, .slice (some ⟨w.heap.size + 1 + 1 + 1 + 1, 0, none⟩) 3 3, .slice (some ⟨w.heap.size + 1 + 1 + 1 + 1 + 1 + 1 + 1, 0, none⟩) 2 2, .int .i64 6, .slice (some ⟨w.heap.size + 1 + 1 + 1 + 1 + 1 + 1 + 1 + 1, 0, none⟩) 3 3, .slice (some ⟨w.heap.size + 1 + 1 + 1 + 1 + 1 + 1 + 1 + 1 + 1, 0, none⟩) 1 1, .int .i64 10, .int .i64 6, .int .i64 2] 27)).alloc (.cells #[.int .i64 0, .int .i64 1, .int .i64 2] 3)).alloc (.cells #[.int .i64 3, .int .i64 4] 3)).alloc (.cells #[.int .i64 5, .int .i64 6] 3)).alloc (.cells #[.int .i64 0, .int .i64 0, .slice (some ⟨w.heap.size + 1, 0, none⟩) 3 3, .int .i64 0, .int .i64 4, .int .i64 2, .int .i64 0, .slice (some ⟨w.heap.size + 1 + 1, 0, none⟩) 2 2, .int .i64 4, .int .i64 4, .int .i64 1, .int .i64 2, .slice (some ⟨w.heap.size + 1 + 1 + 1, 0, none⟩) 2 2, .int .i64 8, .int .i64 2] 48)).alloc (.cells #[.int .i64 8, .int .i64 9, .int .i64 10] 3)).alloc (.cells #[.int .i64 11, .int .i64 12] 3)).alloc (.cells #[.int .i64 0, .slice (some ⟨w.heap.size + 1 + 1 + 1 + 1 + 1, 0, none⟩) 3 3, .int .i64 2, .slice (some ⟨w.heap.size + 1 + 1 + 1 + 1 + 1 + 1, 0, none⟩) 2 2] 64)) 66 [.int .i64 0, .int .i64 0, .int .i64 2, .int .i64 1, .int .i64 1, .int .i64 2, .int .i64 2, .int .i64 2, .int .i64 2, .int .i64 4, .int .i64 2, .int .i64 5]).alloc (.cells #[.int .i64 2, .int .i64 2, .bool false] 50)
    try simp only [World.size_alloc] at this
    exact this
  have h9 : Blk ((((((((((w.alloc (.cells #[.int .i64 16, .slice (some ⟨w.heap.size + 1 + 1 + 1 + 1, 0, none⟩) 3 3, .slice (some ⟨w.heap.size + 1 + 1 + 1 + 1 + 1 + 1 + 1, 0, none⟩) 2 2, .int .i64 6, .slice (some ⟨w.heap.size + 1 + 1 + 1 + 1 + 1 + 1 + 1 + 1, 0, none⟩) 3 3, .slice (some ⟨w.heap.size + 1 + 1 + 1 + 1 + 1 + 1 + 1 + 1 + 1, 0, none⟩) 1 1, .int .i64 10, .int .i64 6, .int .i64 2] 27)).alloc (.cells #[.int .i64 0, .int .i64 1, .int .i64 2] 3)).alloc (.cells #[.int .i64 3, .int .i64 4] 3)).alloc (.cells #[.int .i64 5, .int .i64 6] 3)).alloc (.cells #[.int .i64 0, .int .i64 0, .slice (some ⟨w.heap.size + 1, 0, none⟩) 3 3, .int .i64 0, .int .i64 4, .int .i64 2, .int .i64 0, .slice (some ⟨w.heap.size + 1 + 1, 0, none⟩) 2 2, .int .i64 4, .int .i64 4, .int .i64 1, .int .i64 2, .slice (some ⟨w.heap.size + 1 + 1 + 1, 0, none⟩) 2 2, .int .i64 8, .int .i64 2] 48)).alloc (.cells #[.int .i64 8, .int .i64 9, .int .i64 10] 3)).alloc (.cells #[.int .i64 11, .int .i64 12] 3)).alloc (.cells #[.int .i64 0, .slice (some ⟨w.heap.size + 1 + 1 + 1 + 1 + 1, 0, none⟩) 3 3, .int .i64 2, .slice (some ⟨w.heap.size + 1 + 1 + 1 + 1 + 1 + 1, 0, none⟩) 2 2] 64)).alloc (.cells #[.int .i64 0, .int .i64 0, .int .i64 2, .int .i64 1, .int .i64 1, .int .i64 2, .int .i64 2, .int .i64 2, .int .i64 2, .int .i64 4, .int .i64 2, .int .i64 5] 66)).alloc (.cells #[.int .i64 2, .int .i64 2, .bool false] 50)) (w.heap.size + 1 + 1 + 1 + 1 + 1 + 1 + 1 + 1 + 1) 50 [.int .i64 2, .int .i64 2, .bool false] := by
    have := Blk.new (((((((((w.alloc (.cells #[.int .i64 16, .slice (some ⟨w.heap.size + 1 + 1 + 1 + 1, 0, none⟩) 3 3, .slice (some ⟨w.heap.size + 1 + 1 + 1 + 1 + 1 + 1 + 1, 0, none⟩) 2 2, .int .i64 6, .slice (some ⟨w.heap.size + 1 + 1 + 1 + 1 + 1 + 1 + 1 + 1, 0, none⟩) 3 3, .slice (some ⟨w.heap.size + 1 + 1 + 1 + 1 + 1 + 1 + 1 + 1 + 1, 0, none⟩) 1 1, .int .i64 10, .int .i64 6, .int .i64 2] 27)).alloc (.cells #[.int .i64 0, .int .i64 1, .int .i64 2] 3)).alloc (.cells #[.int .i64 3, .int .i64 4] 3)).alloc (.cells #[.int .i64 5, .int .i64 6] 3)).alloc (.cells #[.int .i64 0, .int .i64 0, .slice (some ⟨w.heap.size + 1, 0, none⟩) 3 3, .int .i64 0, .int .i64 4, .int .i64 2, .int .i64 0, .slice (some ⟨w.heap.size + 1 + 1, 0, none⟩) 2 2, .int .i64 4, .int .i64 4, .int .i64 1, .int .i64 2, .slice (some ⟨w.heap.size + 1 + 1 + 1, 0, none⟩) 2 2, .int .i64 8, .int .i64 2] 48)).alloc (.cells #[.int .i64 8, .int .i64 9, .int .i64 10] 3)).alloc (.cells #[.int .i64 11, .int .i64 12] 3)).alloc (.cells #[.int .i64 0, .slice (some ⟨w.heap.size + 1 + 1 + 1 + 1 + 1, 0, none⟩) 3 3, .int .i64 2, .slice (some ⟨w.heap.size + 1 + 1 + 1 + 1 + 1 + 1, 0, none⟩) 2 2] 64)).alloc (.cells #[.int .i64 0, .int .i64 0, .int .i64 2, .int .i64 1, .int .i64 1, .int .i64 2, .int .i64 2, .int .i64 2, .int .i64 2, .int .i64 4, .int .i64 2, .int .i64 5] 66)) 50 [.int .i64 2, .int .i64 2, .bool false]
    try simp only [World.size_alloc] at this
    exact this
  have hB : Below w.heap.size w ((((((((((w.alloc (.cells #[.int .i64 16, .slice (some ⟨w.heap.size + 1 + 1 + 1 + 1, 0, none⟩) 3 3, .slice (some ⟨w.heap.size + 1 + 1 + 1 + 1 + 1 + 1 + 1, 0, none⟩) 2 2, .int .i64 6, .slice (some ⟨w.heap.size + 1 + 1 + 1 + 1 + 1 + 1 + 1 + 1, 0, none⟩) 3 3, .slice (some ⟨w.heap.size + 1 + 1 + 1 + 1 + 1 + 1 + 1 + 1 + 1, 0, none⟩) 1 1, .int .i64 10, .int .i64 6, .int .i64 2] 27)).alloc (.cells #[.int .i64 0, .int .i64 1, .int .i64 2] 3)).alloc (.cells #[.int .i64 3, .int .i64 4] 3)).alloc (.cells #[.int .i64 5, .int .i64 6] 3)).alloc (.cells #[.int .i64 0, .int .i64 0, .slice (some ⟨w.heap.size + 1, 0, none⟩) 3 3, .int .i64 0, .int .i64 4, .int .i64 2, .int .i64 0, .slice (some ⟨w.heap.size + 1 + 1, 0, none⟩) 2 2, .int .i64 4, .int .i64 4, .int .i64 1, .int .i64 2, .slice (some ⟨w.heap.size + 1 + 1 + 1, 0, none⟩) 2 2, .int .i64 8, .int .i64 2] 48)).alloc (.cells #[.int .i64 8, .int .i64 9, .int .i64 10] 3)).alloc (.cells #[.int .i64 11, .int .i64 12] 3)).alloc (.cells #[.int .i64 0, .slice (some ⟨w.heap.size + 1 + 1 + 1 + 1 + 1, 0, none⟩) 3 3, .int .i64 2, .slice (some ⟨w.heap.size + 1 + 1 + 1 + 1 + 1 + 1, 0, none⟩) 2 2] 64)).alloc (.cells #[.int .i64 0, .int .i64 0, .int .i64 2, .int .i64 1, .int .i64 1, .int .i64 2, .int .i64 2, .int .i64 2, .int .i64 2, .int .i64 4, .int .i64 2, .int .i64 5] 66)).alloc (.cells #[.int .i64 2, .int .i64 2, .bool false] 50)) := (((((((((((Below.refl w.heap.size w).alloc (by first | omega | (simp only [World.size_alloc]; omega)) (.cells #[.int .i64 16, .slice (some ⟨w.heap.size + 1 + 1 + 1 + 1, 0, none⟩) 3 3, .slice (some ⟨w.heap.size + 1 + 1 + 1 + 1 + 1 + 1 + 1, 0, none⟩) 2 2, .int .i64 6, .slice (some ⟨w.heap.size + 1 + 1 + 1 + 1 + 1 + 1 + 1 + 1, 0, none⟩) 3 3, .slice (some ⟨w.heap.size + 1 + 1 + 1 + 1 + 1 + 1 + 1 + 1 + 1, 0, none⟩) 1 1, .int .i64 10, .int .i64 6, .int .i64 2] 27)).alloc (by first | omega | (simp only [World.size_alloc]; omega)) (.cells #[.int .i64 0, .int .i64 1, .int .i64 2] 3)).alloc (by first | omega | (simp only [World.size_alloc]; omega)) (.cells #[.int .i64 3, .int .i64 4] 3)).alloc (by first | omega | (simp only [World.size_alloc]; omega)) (.cells #[.int .i64 5, .int .i64 6] 3)).alloc (by first | omega | (simp only [World.size_alloc]; omega)) (.cells #[.int .i64 0, .int .i64 0, .slice (some ⟨w.heap.size + 1, 0, none⟩) 3 3, .int .i64 0, .int .i64 4, .int .i64 2, .int .i64 0, .slice (some ⟨w.heap.size + 1 + 1, 0, none⟩) 2 2, .int .i64 4, .int .i64 4, .int .i64 1, .int .i64 2, .slice (some ⟨w.heap.size + 1 + 1 + 1, 0, none⟩) 2 2, .int .i64 8, .int .i64 2] 48)).alloc (by first | omega | (simp only [World.size_alloc]; omega)) (.cells #[.int .i64 8, .int .i64 9, .int .i64 10] 3)).alloc (by first | omega | (simp only [World.size_alloc]; omega)) (.cells #[.int .i64 11, .int .i64 12] 3)).alloc (by first | omega | (simp only [World.size_alloc]; omega)) (.cells #[.int .i64 0, .slice (some ⟨w.heap.size + 1 + 1 + 1 + 1 + 1, 0, none⟩) 3 3, .int .i64 2, .slice (some ⟨w.heap.size + 1 + 1 + 1 + 1 + 1 + 1, 0, none⟩) 2 2] 64)).alloc (by first | omega | (simp only [World.size_alloc]; omega)) (.cells #[.int .i64 0, .int .i64 0, .int .i64 2, .int .i64 1, .int .i64 1, .int .i64 2, .int .i64 2, .int .i64 2, .int .i64 2, .int .i64 4, .int .i64 2, .int .i64 5] 66)).alloc (by first | omega | (simp only [World.size_alloc]; omega)) (.cells #[.int .i64 2, .int .i64 2, .bool false] 50))
  have hsz : ((((((((((w.alloc (.cells #[.int .i64 16, .slice (some ⟨w.heap.size + 1 + 1 + 1 + 1, 0, none⟩) 3 3, .slice (some ⟨w.heap.size + 1 + 1 + 1 + 1 + 1 + 1 + 1, 0, none⟩) 2 2, .int .i64 6, .slice (some ⟨w.heap.size + 1 + 1 + 1 + 1 + 1 + 1 + 1 + 1, 0, none⟩) 3 3, .slice (some ⟨w.heap.size + 1 + 1 + 1 + 1 + 1 + 1 + 1 + 1 + 1, 0, none⟩) 1 1, .int .i64 10, .int .i64 6, .int .i64 2] 27)).alloc (.cells #[.int .i64 0, .int .i64 1, .int .i64 2] 3)).alloc (.cells #[.int .i64 3, .int .i64 4] 3)).alloc (.cells #[.int .i64 5, .int .i64 6] 3)).alloc (.cells #[.int .i64 0, .int .i64 0, .slice (some ⟨w.heap.size + 1, 0, none⟩) 3 3, .int .i64 0, .int .i64 4, .int .i64 2, .int .i64 0, .slice (some ⟨w.heap.size + 1 + 1, 0, none⟩) 2 2, .int .i64 4, .int .i64 4, .int .i64 1, .int .i64 2, .slice (some ⟨w.heap.size + 1 + 1 + 1, 0, none⟩) 2 2, .int .i64 8, .int .i64 2] 48)).alloc (.cells #[.int .i64 8, .int .i64 9, .int .i64 10] 3)).alloc (.cells #[.int .i64 11, .int .i64 12] 3)).alloc (.cells #[.int .i64 0, .slice (some ⟨w.heap.size + 1 + 1 + 1 + 1 + 1, 0, none⟩) 3 3, .int .i64 2, .slice (some ⟨w.heap.size + 1 + 1 + 1 + 1 + 1 + 1, 0, none⟩) 2 2] 64)).alloc (.cells #[.int .i64 0, .int .i64 0, .int .i64 2, .int .i64 1, .int .i64 1, .int .i64 2, .int .i64 2, .int .i64 2, .int .i64 2, .int .i64 4, .int .i64 2, .int .i64 5] 66)).alloc (.cells #[.int .i64 2, .int .i64 2, .bool false] 50)).heap.size = w.heap.size + 1 + 1 + 1 + 1 + 1 + 1 + 1 + 1 + 1 + 1 := by simp only [World.size_alloc]
  generalize ((((((((((w.alloc (.cells #[.int .i64 16, .slice (some ⟨w.heap.size + 1 + 1 + 1 + 1, 0, none⟩) 3 3, .slice (some ⟨w.heap.size + 1 + 1 + 1 + 1 + 1 + 1 + 1, 0, none⟩) 2 2, .int .i64 6, .slice (some ⟨w.heap.size + 1 + 1 + 1 + 1 + 1 + 1 + 1 + 1, 0, none⟩) 3 3, .slice (some ⟨w.heap.size + 1 + 1 + 1 + 1 + 1 + 1 + 1 + 1 + 1, 0, none⟩) 1 1, .int .i64 10, .int .i64 6, .int .i64 2] 27)).alloc (.cells #[.int .i64 0, .int .i64 1, .int .i64 2] 3)).alloc (.cells #[.int .i64 3, .int .i64 4] 3)).alloc (.cells #[.int .i64 5, .int .i64 6] 3)).alloc (.cells #[.int .i64 0, .int .i64 0, .slice (some ⟨w.heap.size + 1, 0, none⟩) 3 3, .int .i64 0, .int .i64 4, .int .i64 2, .int .i64 0, .slice (some ⟨w.heap.size + 1 + 1, 0, none⟩) 2 2, .int .i64 4, .int .i64 4, .int .i64 1, .int .i64 2, .slice (some ⟨w.heap.size + 1 + 1 + 1, 0, none⟩) 2 2, .int .i64 8, .int .i64 2] 48)).alloc (.cells #[.int .i64 8, .int .i64 9, .int .i64 10] 3)).alloc (.cells #[.int .i64 11, .int .i64 12] 3)).alloc (.cells #[.int .i64 0, .slice (some ⟨w.heap.size + 1 + 1 + 1 + 1 + 1, 0, none⟩) 3 3, .int .i64 2, .slice (some ⟨w.heap.size + 1 + 1 + 1 + 1 + 1 + 1, 0, none⟩) 2 2] 64)).alloc (.cells #[.int .i64 0, .int .i64 0, .int .i64 2, .int .i64 1, .int .i64 1, .int .i64 2, .int .i64 2, .int .i64 2, .int .i64 2, .int .i64 4, .int .i64 2, .int .i64 5] 66)).alloc (.cells #[.int .i64 2, .int .i64 2, .bool false] 50)) = w9 at *
  have x0 := h0.cell 0
  have x1 := h0.cell 1
  have x2 := h0.cell 2
  have x3 := h0.cell 3
  have x4 := h0.cell 4
  have x5 := h0.cell 5
  have x6 := h0.cell 6
  have x7 := h0.cell 7
  have x8 := h0.cell 8
  simp only [List.getElem?_cons_zero, List.getElem?_cons_succ] at x0 x1 x2 x3 x4 x5 x6 x7 x8
  refine bodyPost_ret (v := .agg #[.int .i64 16, .slice (some ⟨w.heap.size + 1 + 1 + 1 + 1, 0, none⟩) 3 3, .slice (some ⟨w.heap.size + 1 + 1 + 1 + 1 + 1 + 1 + 1, 0, none⟩) 2 2, .int .i64 6, .slice (some ⟨w.heap.size + 1 + 1 + 1 + 1 + 1 + 1 + 1 + 1, 0, none⟩) 3 3, .slice (some ⟨w.heap.size + 1 + 1 + 1 + 1 + 1 + 1 + 1 + 1 + 1, 0, none⟩) 1 1, .int .i64 10, .int .i64 6, .int .i64 2]) (by simp [results, Try.results15, go_sem, x0, x1, x2, x3, x4, x5, x6, x7, x8]) rfl ⟨w.heap.size + 1, w.heap.size + 1 + 1, w.heap.size + 1 + 1 + 1, w.heap.size + 1 + 1 + 1 + 1, w.heap.size + 1 + 1 + 1 + 1 + 1, w.heap.size + 1 + 1 + 1 + 1 + 1 + 1, w.heap.size + 1 + 1 + 1 + 1 + 1 + 1 + 1, w.heap.size + 1 + 1 + 1 + 1 + 1 + 1 + 1 + 1, w.heap.size + 1 + 1 + 1 + 1 + 1 + 1 + 1 + 1 + 1, rfl, ⟨h1, h2, h3, h4, h5, h6, h7, h8, h9, by omega⟩, by omega, by rw [hsz]; omega, hB⟩
end Go.Proofs.Ytkaalinoiilmoaa
namespace Go.Proofs.Ytkaalinoiilmoaa
open Go.RowKit
set_option linter.unusedVariables false
set_option maxRecDepth 100000
theorem pl_mayV : cfMay plC = true := by kernel_rfl
theorem pl_dN {i j : Nat} (hi : i < 3) (hj : j < 3) : dN plC i j = (decide (i = j) || decide (i = 0)) := by
  have h : (List.range 3).all (fun i => (List.range 3).all (fun j => dN plC i j == (decide (i = j) || decide (i = 0)))) = true := by kernel_rfl
  rw [range_all_iff] at h
  have h2 := h i hi
  rw [range_all_iff] at h2
  simpa using h2 j hj
theorem pl_FL {i j : Nat} (hi : i < 3) (hj : j < 3) : FL plC i j = (decide (i = j) || decide (i = 0)) := by
  have e : ∀ a b : Nat, (decide (a = b) || decide (a = 0)) = true ↔ a = b ∨ a = 0 := by intro a b; simp
  rw [Bool.eq_iff_iff, FL_iff, e]
  constructor
  · intro r
    refine r.closed (fun a => a = j ∨ a = 0) (fun a b ha hb hP hd => ?_) (.inl rfl)
    rw [pl_dN ha hb, e] at hd
    rcases hd with rfl | rfl
    · exact hP
    · exact .inr rfl
  · rintro (rfl | rfl)
    · exact .refl _ hi
    · exact .one (by decide) hj (by rw [pl_dN (by decide) hj]; simp)
def flC (x : Int) (p : Nat) : Bool := inP 3 x && (decide (x.toNat = p) || decide (x.toNat = 0))
theorem pl_flI (x : Int) {p : Nat} (hp : p < 3) : flI plC x p = flC x p := by
  unfold flI flC
  rw [show plC.ps.length = 3 from rfl]
  cases h : inP 3 x with
  | false => rfl
  | true =>
    obtain ⟨k, rfl, hk⟩ := (inP_iff _ _).1 h
    rw [pl_FL (by simpa using hk) hp]
theorem pl_flB (x y : Int) : flB plC x y = (inP 3 y && flC x y.toNat) := by
  unfold flB
  rw [pl_mayV, show plC.ps.length = 3 from rfl, Bool.true_and]
  cases h : inP 3 y with
  | false => rfl
  | true =>
    obtain ⟨k, rfl, hk⟩ := (inP_iff _ _).1 h
    rw [pl_flI _ (by simpa using hk)]
def hdC (p : Nat) (h : Hs) (s : Stp) : Bool :=
  if s.k = 3 ∨ s.k = 4 then flC (aoX 2 h.O h.L s.d) p else if 5 ≤ s.k ∧ s.k ≤ 16 then flC s.p p else true
theorem pl_hdB {p : Nat} (hp : p < 3) (h : Hs) (s : Stp) : hdB plC p h s = hdC p h s := by
  unfold hdB hdC
  rw [pl_flI _ hp, pl_flI _ hp]
  rfl
def pgC (p : Nat) : Hs → List Stp → List Stp
  | _, [] => []
  | h, s :: l => (if hdC p h s then s else stD) :: pgC p (hdS plC h s) l
theorem pl_pgL {p : Nat} (hp : p < 3) : ∀ (l : List Stp) (h : Hs), pgL plC p h l = pgC p h l := by
  intro l
  induction l with
  | nil => intro h; rfl
  | cons s l ih => intro h; simp only [pgL, pgC, ih, pl_hdB hp]
end Go.Proofs.Ytkaalinoiilmoaa
namespace Go.Proofs.Ytkaalinoiilmoaa
open Go.RowKit
set_option linter.unusedVariables false
set_option linter.unusedSimpArgs false
set_option maxRecDepth 100000
theorem same_steps (x y : Value) (n : Nat) (q : List Stp) (w : World) (hx : Sl w x n 7 (stcs q)) (hy : Sl w y n 7 (stcs q)) (hl : q.length = n) (hn : n ≤ maxLen) :
    Calls Try.prog 14 #[x, y] w fun e w' => e = .returned (.bool true) ∧ ∃ k, w' = w.drewN k := by
  obtain ⟨A, c, rfl, hc, _, _⟩ := id hx
  obtain ⟨B, d, rfl, hd, _, _⟩ := id hy
  have HX := Lib.hid hx; have HY := Lib.hid hy; have HL := Lib.hid hl
  unfold maxLen at hn
  clear hx hy hl
  go_enter Try.func14, Try.ntmps14
  go_wp2
  go_loopw [5] (fun i wr => ∃ k q : Nat, k ≤ n ∧ i = .int .i64 k ∧ wr = w.drewN q) (fun i _ => n - (intOf i).toNat)
  case atStart => exact ⟨0, 0, by omega, rfl, rfl⟩
  case round =>
    obtain ⟨k, q', hk, rfl, rfl⟩ := hrel
    by_cases hlt : k < n
    · obtain ⟨b, o, rfl, -, c0, c1, c2, c3, c4, c5, c6⟩ := stcs_at HX.out HL.out k hlt
      obtain ⟨b', o', rfl, -, d0, d1, d2, d3, d4, d5, d6⟩ := stcs_at HY.out HL.out k hlt
      generalize q.getD k stD = m at *
      obtain ⟨x0, x1, x2, x3, x4, x5, s⟩ := m
      simp only at c0 c1 c2 c3 c4 c5 c6 d0 d1 d2 d3 d4 d5 d6
      have e0 : (x0 == x0) = true := by simp
      have e1 : (x1 == x1) = true := by simp
      have e2 : (x2 == x2) = true := by simp
      have e3 : (x3 == x3) = true := by simp
      have e4 : (x4 == x4) = true := by simp
      have e5 : (x5 == x5) = true := by simp
      have e6 : (s.toList == s.toList) = true := by simp
      go_wp2
      go_quiet (fail)
      go_wp2
      go_roundw
      case rel => exact ⟨k + 1, _, by omega, by go_num, rfl⟩
      case measure => simp [intOf]; omega
    · go_wp2
      go_ret
      exact ⟨rfl, _, rfl⟩
theorem sl_whole {w : World} {g : Nat} {t : TypeId} {cs : List Value} (h : Blk w g t cs) (n size : Nat) (hl : cs.length = n * size) : Sl w (.slice (some ⟨g, 0, none⟩) n n) n size cs :=
  ⟨_, n, rfl, Nat.le_refl _, hl, fun _ => ⟨g, 0, rfl, h.lt, fun j u hu => by rw [Nat.zero_add]; exact (h.cell j).trans hu⟩⟩
def plV (b4 b7 b8 b9 : Nat) : List Value := [.int .i64 16, .slice (some ⟨b4, 0, none⟩) 3 3, .slice (some ⟨b7, 0, none⟩) 2 2, .int .i64 6, .slice (some ⟨b8, 0, none⟩) 3 3, .slice (some ⟨b9, 0, none⟩) 1 1, .int .i64 10, .int .i64 6, .int .i64 2]
theorem plV_at {w : World} {y b4 b7 b8 b9 : Nat} (h : Blk w y 27 (plV b4 b7 b8 b9)) : w.cell? ⟨y, 0, none⟩ = some (.int .i64 16) ∧ w.cell? ⟨y, 1, none⟩ = some (.slice (some ⟨b4, 0, none⟩) 3 3) ∧ w.cell? ⟨y, 2, none⟩ = some (.slice (some ⟨b7, 0, none⟩) 2 2) ∧ w.cell? ⟨y, 3, none⟩ = some (.int .i64 6) ∧ w.cell? ⟨y, 4, none⟩ = some (.slice (some ⟨b8, 0, none⟩) 3 3) ∧ w.cell? ⟨y, 5, none⟩ = some (.slice (some ⟨b9, 0, none⟩) 1 1) ∧ w.cell? ⟨y, 6, none⟩ = some (.int .i64 10) ∧ w.cell? ⟨y, 7, none⟩ = some (.int .i64 6) ∧ w.cell? ⟨y, 8, none⟩ = some (.int .i64 2) :=
  ⟨(h.cell 0).trans rfl, (h.cell 1).trans rfl, (h.cell 2).trans rfl, (h.cell 3).trans rfl, (h.cell 4).trans rfl, (h.cell 5).trans rfl, (h.cell 6).trans rfl, (h.cell 7).trans rfl, (h.cell 8).trans rfl⟩
def PlAt (w : World) (b4 b7 b8 b9 : Nat) : Prop := CfAt w (.slice (some ⟨b4, 0, none⟩) 3 3) (.slice (some ⟨b7, 0, none⟩) 2 2) (.slice (some ⟨b8, 0, none⟩) 3 3) (.slice (some ⟨b9, 0, none⟩) 1 1) plC
section
variable {w : World} {b4 b7 b8 b9 : Nat}
theorem PlAt.below {w' : World} (h : PlAt w b4 b7 b8 b9) (hb : Below w.heap.size w w') : PlAt w' b4 b7 b8 b9 := CfAt.below h hb
theorem pl_flow (h : PlAt w b4 b7 b8 b9) (x y : Int) (b : Bool) (hb : (inP 3 y && flC x y.toNat) = b) : Calls Try.prog 11 #[.agg #[.int .i64 16, .slice (some ⟨b4, 0, none⟩) 3 3, .slice (some ⟨b7, 0, none⟩) 2 2, .int .i64 6, .slice (some ⟨b8, 0, none⟩) 3 3, .slice (some ⟨b9, 0, none⟩) 1 1, .int .i64 10, .int .i64 6, .int .i64 2], .int .i64 x, .int .i64 y] w fun e w' => e = .returned (.bool b) ∧ Below w.heap.size w w' := by
  have := vflows_any h x y
  rw [pl_flB, hb] at this
  exact this
theorem pl_purge (h : PlAt w b4 b7 b8 b9) (v : Value) (n p : Nat) (l : List Stp) (hv : Sl w v n 7 (stcs l)) (hl : l.length = n) (hn : n * 64 ≤ 140737488351232) (hp : p < 3) (r : List Stp) (hr : pgC p (hsNew plC) l = r) :
    Calls Try.prog 12 #[.agg #[.int .i64 16, .slice (some ⟨b4, 0, none⟩) 3 3, .slice (some ⟨b7, 0, none⟩) 2 2, .int .i64 6, .slice (some ⟨b8, 0, none⟩) 3 3, .slice (some ⟨b9, 0, none⟩) 1 1, .int .i64 10, .int .i64 6, .int .i64 2], v, .int .i64 (p : Int)] w fun e w' => ∃ g, e = .returned (.tuple #[.slice (some ⟨g, 0, none⟩) n n, .int .i64 0]) ∧ Tk nos w [obB g 39 (stcs r)] w' := by
  subst hl
  have := vpurge_yes h pl_mayV p hp v l hv hn
  rw [pl_pgL hp, hr] at this
  exact this
theorem pl_purge3 (h : PlAt w b4 b7 b8 b9) (v : Value) : Calls Try.prog 12 #[.agg #[.int .i64 16, .slice (some ⟨b4, 0, none⟩) 3 3, .slice (some ⟨b7, 0, none⟩) 2 2, .int .i64 6, .slice (some ⟨b8, 0, none⟩) 3 3, .slice (some ⟨b9, 0, none⟩) 1 1, .int .i64 10, .int .i64 6, .int .i64 2], v, .int .i64 3] w fun e w' => e = .returned (.tuple #[.slice none 0 0, .int .i64 2300]) ∧ Below w.heap.size w w' :=
  vpurge_no h v 3 (fun hh => by have := hh.2; exact absurd this (by decide))
end
theorem pl_plain (w : World) : Calls Try.prog 15 #[] w fun e w' => ∃ b4 b7 b8 b9, e = .returned (.agg #[.int .i64 16, .slice (some ⟨b4, 0, none⟩) 3 3, .slice (some ⟨b7, 0, none⟩) 2 2, .int .i64 6, .slice (some ⟨b8, 0, none⟩) 3 3, .slice (some ⟨b9, 0, none⟩) 1 1, .int .i64 10, .int .i64 6, .int .i64 2]) ∧ PlAt w' b4 b7 b8 b9 ∧ Below w.heap.size w w' :=
  (plain23_any w).mono fun e w' ⟨b1, b2, b3, b4, b5, b6, b7, b8, b9, he, hpl, _, _, hb⟩ => ⟨b4, b7, b8, b9, he, hpl.cf, hb⟩
def awS : List Stp := [⟨9, 1, 0, 0, 0, 0, ⟨#[]⟩⟩, ⟨1, 0, 0, 0, 0, 0, ⟨#[]⟩⟩, ⟨3, 0, 1, 0, 0, 0, ⟨#[]⟩⟩, ⟨3, 0, 0, 0, 0, 0, ⟨#[]⟩⟩, ⟨99, 0, 0, 0, 0, 0, ⟨#[]⟩⟩]
def awR : List Stp := [stD, ⟨1, 0, 0, 0, 0, 0, ⟨#[]⟩⟩, stD, ⟨3, 0, 0, 0, 0, 0, ⟨#[]⟩⟩, ⟨99, 0, 0, 0, 0, 0, ⟨#[]⟩⟩]
theorem awR_is : pgC 0 (hsNew plC) awS = awR := by kernel_rfl
set_option maxHeartbeats 2000000 in
theorem vawake_any (w : World) : Calls Try.prog 10 #[] w fun e w' => e = .returned (.bool true) ∧ Below w.heap.size w w' := by
  go_enter Try.func10, Try.ntmps10
  go_wp2_with fail
  refine (pl_plain _).mono ?_
  rintro e w1 ⟨b4, b7, b8, b9, rfl, hc, hbel⟩
  have HB := Lib.hid hbel; have HC := Lib.hid hc
  clear hbel hc
  have t1 := (Tk.empty w1).alloc 27 (plV b4 b7 b8 b9)
  obtain ⟨q0, q1, q2, q3, q4, q5, q6, q7, q8⟩ := plV_at (t1.blk (i := 0) rfl)
  have T1 := Lib.hid t1
  clear t1
  unfold plV at *
  go_wp2_with fail
  have T2 : Hid (Tk nos w1 [obB (w1.heap.size + 1) 39 (stcs awS), obB w1.heap.size 27 (plV b4 b7 b8 b9)] _) := Lib.hid (by
    have := T1.out.alloc 39 (stcs awS)
    simp only [World.size_alloc] at this
    exact this)
  clear q0 q1 q2 q3 q4 q5 q6 q7 q8 T1
  refine (pl_purge (HC.out.below T2.out.below) _ 5 0 awS (sl_whole (T2.out.blk (i := 0) rfl) 5 7 rfl) rfl (by omega) (by decide) awR awR_is).mono ?_
  rintro e w3 ⟨gx, rfl, t3⟩
  have T3 := Lib.hid (show Tk nos w1 [obB gx 39 (stcs awR), obB (w1.heap.size + 1) 39 (stcs awS), obB w1.heap.size 27 (plV b4 b7 b8 b9)] w3 from T2.out.add t3)
  clear t3 T2
  generalize w1.heap.size + 1 = g2 at *
  generalize w1.heap.size = y at *
  obtain ⟨q0, q1, q2, q3, q4, q5, q6, q7, q8⟩ := plV_at (T3.out.blk (i := 2) rfl)
  go_wp2_with fail
  refine (pl_purge3 (HC.out.below T3.out.below) _).mono ?_
  rintro e wa ⟨rfl, ba⟩
  have T4 := Lib.hid (T3.out.next ba)
  clear ba T3 q0 q1 q2 q3 q4 q5 q6 q7 q8
  obtain ⟨q0, q1, q2, q3, q4, q5, q6, q7, q8⟩ := plV_at (T4.out.blk (i := 2) rfl)
  go_wp2_with fail
  refine (pl_flow (HC.out.below T4.out.below) 0 1 true rfl).mono ?_
  rintro e wb0 ⟨rfl, ba⟩
  replace T4 := Lib.hid (T4.out.next ba)
  clear ba q0 q1 q2 q3 q4 q5 q6 q7 q8
  obtain ⟨q0, q1, q2, q3, q4, q5, q6, q7, q8⟩ := plV_at (T4.out.blk (i := 2) rfl)
  go_wp2_with fail
  refine (pl_flow (HC.out.below T4.out.below) 1 0 false rfl).mono ?_
  rintro e wb1 ⟨rfl, ba⟩
  replace T4 := Lib.hid (T4.out.next ba)
  clear ba q0 q1 q2 q3 q4 q5 q6 q7 q8
  obtain ⟨q0, q1, q2, q3, q4, q5, q6, q7, q8⟩ := plV_at (T4.out.blk (i := 2) rfl)
  go_wp2_with fail
  refine (pl_flow (HC.out.below T4.out.below) 0 2 true rfl).mono ?_
  rintro e wb2 ⟨rfl, ba⟩
  replace T4 := Lib.hid (T4.out.next ba)
  clear ba q0 q1 q2 q3 q4 q5 q6 q7 q8
  obtain ⟨q0, q1, q2, q3, q4, q5, q6, q7, q8⟩ := plV_at (T4.out.blk (i := 2) rfl)
  go_wp2_with fail
  refine (pl_flow (HC.out.below T4.out.below) 2 0 false rfl).mono ?_
  rintro e wb3 ⟨rfl, ba⟩
  replace T4 := Lib.hid (T4.out.next ba)
  clear ba q0 q1 q2 q3 q4 q5 q6 q7 q8
  obtain ⟨q0, q1, q2, q3, q4, q5, q6, q7, q8⟩ := plV_at (T4.out.blk (i := 2) rfl)
  go_wp2_with fail
  refine (pl_flow (HC.out.below T4.out.below) 2 2 true rfl).mono ?_
  rintro e wb4 ⟨rfl, ba⟩
  replace T4 := Lib.hid (T4.out.next ba)
  clear ba q0 q1 q2 q3 q4 q5 q6 q7 q8
  obtain ⟨q0, q1, q2, q3, q4, q5, q6, q7, q8⟩ := plV_at (T4.out.blk (i := 2) rfl)
  go_wp2_with fail
  refine (pl_flow (HC.out.below T4.out.below) 1 2 false rfl).mono ?_
  rintro e wb5 ⟨rfl, ba⟩
  replace T4 := Lib.hid (T4.out.next ba)
  clear ba q0 q1 q2 q3 q4 q5 q6 q7 q8
  obtain ⟨q0, q1, q2, q3, q4, q5, q6, q7, q8⟩ := plV_at (T4.out.blk (i := 2) rfl)
  go_wp2_with fail
  refine (pl_flow (HC.out.below T4.out.below) 3 3 false rfl).mono ?_
  rintro e wb6 ⟨rfl, ba⟩
  replace T4 := Lib.hid (T4.out.next ba)
  clear ba q0 q1 q2 q3 q4 q5 q6 q7 q8
  go_wp2_with fail
  have T5 : Hid (Tk nos w1 [obB wb6.heap.size 39 (stcs awR), obB gx 39 (stcs awR), obB g2 39 (stcs awS), obB y 27 (plV b4 b7 b8 b9)] _) := Lib.hid (T4.out.alloc 39 (stcs awR))
  refine (same_steps _ _ 5 awR _ (sl_whole (T5.out.blk (i := 1) rfl) 5 7 rfl) (sl_whole (T5.out.blk (i := 0) rfl) 5 7 rfl) rfl (by decide)).mono ?_
  rintro e wd ⟨rfl, kk, rfl⟩
  have T6 := Lib.hid (T5.out.drewN kk)
  clear T5 T4
  generalize World.drewN _ kk = wd at *
  go_wp2_with fail
  refine (num_any _ _).mono ?_
  rintro e we ⟨rfl, rfl⟩
  go_wp2_with fail
  refine (num_any _ _).mono ?_
  rintro e we ⟨rfl, rfl⟩
  go_wp2_with fail
  go_ret
  exact ⟨rfl, Below.down HB.out T6.out.below HB.out.size⟩
end Go.Proofs.Ytkaalinoiilmoaa
namespace Go.Proofs.Ytkaalinoiilmoaa
open Go.RowKit Go.ChangeShapes Go.WideShapes Go.Deep
set_option linter.unusedVariables false
set_option maxRecDepth 100000
section
variable {H : Type} {enc : TypeId × Value → H} {P : Program}
theorem args_stay (hl : laidOutB P = true) {W W' : World} (hb : Below W.heap.size W W') {sp : Nat → Bool} : ∀ (ts : List TypeId) (vs : List Value) (ds : List (DataW H)) (ps : List MemPlace),
    DataW.TrodAll enc P W 0 (fun _ => true) true ts vs ds ps → (∀ t ∈ ts, P.readableRec t = true ∧ t < P.types.size) → (∀ p ∈ ps, p.block < W.heap.size) → (∀ p ∈ ps, sp p.block = true) →
    DataW.TrodAll enc P W' 0 sp true ts vs ds ps := by
  intro ts
  induction ts with
  | nil =>
    intro vs ds ps h _ _ _
    obtain ⟨rfl, rfl, rfl⟩ := trodAll_nil h
    rfl
  | cons t ts ih =>
    intro vs ds ps h ht hp hs
    obtain ⟨v, vs', d, ds', p, q, rfl, rfl, rfl, h0, hr⟩ := trodAll_cons h
    obtain ⟨r1, r2⟩ := ht t (by simp)
    refine ⟨p, q, WideElems.Trod_stays hl r1 r2 h0 (fun x hx => hb.same (hp x (List.mem_append_left _ hx))) (fun x hx => hs x (List.mem_append_left _ hx)), ?_, rfl⟩
    exact ih vs' ds' q hr (fun t' h' => ht t' (List.mem_cons_of_mem _ h')) (fun x hx => hp x (List.mem_append_right _ hx)) (fun x hx => hs x (List.mem_append_right _ hx))
theorem open_sl {t e : TypeId} {C : Nat} {W : World} {r : Reach} {b0 : Nat} {v : Value} {d : DataW H} {p : List MemPlace} (ht : P.underlying t = some (.slice e)) (hC : P.cellsOf e = C) (hpos : 0 < C)
    (hv : Value.okWide P W r b0 t v) (h : DataW.Trod enc P W 0 (fun _ => true) true t v d p) :
    ∃ (n : Nat) (xs : List Value), Sl W v n C xs ∧ n ≤ maxLen ∧ ∀ i, i < n → ∃ (m : Nat) (y : DataW H × List MemPlace), DataW.trod enc P W 0 (fun _ => true) true m e ((xs.drop (i * C)).take C) = some y := by
  obtain ⟨A0, l0, c0, rfl⟩ := okWide_slice ht hv
  obtain ⟨fuel, hf⟩ := h
  rcases DataW.trod_slice ht hf with ⟨h0, _⟩ | ⟨a, len, cap, elems, rest, n, _, h0, _, _, hlc, hm, hlen, hel, _⟩
  · simp only [Value.cells, List.cons.injEq, Value.slice.injEq, and_true] at h0
    obtain ⟨rfl, rfl, rfl⟩ := h0
    exact ⟨0, [], ⟨none, 0, rfl, Nat.le_refl _, by simp, fun h => absurd h (by omega)⟩, by omega, fun i hi => absurd hi (by omega)⟩
  · simp only [Value.cells, List.cons.injEq, Value.slice.injEq, and_true] at h0
    obtain ⟨rfl, rfl, rfl⟩ := h0
    have key : ∀ i, i < l0 → ∃ cs : List Value, cs.length = C ∧ (∀ j, j < C → W.cell? ((a.add (i * C)).add j) = cs[j]?) ∧ ∃ (y : DataW H × List MemPlace), DataW.trod enc P W 0 (fun _ => true) true n e cs = some y := by
      intro i hi
      have := hel i hi
      rw [List.getElem?_eq_getElem (by omega), hC] at this
      obtain ⟨cs, h1, h2⟩ := Option.bind_eq_some_iff.1 this
      obtain ⟨_, h3, h4⟩ := World.cells?_some h1
      exact ⟨cs, h3, h4, _, h2⟩
    obtain ⟨F, hF⟩ := choose_lt (α := List Value) (p := fun i cs => cs.length = C ∧ (∀ j, j < C → W.cell? ((a.add (i * C)).add j) = cs[j]?) ∧ ∃ (y : DataW H × List MemPlace), DataW.trod enc P W 0 (fun _ => true) true n e cs = some y) key
    have all : ∀ m, m ≤ l0 → ∃ xs : List Value, xs.length = m * C ∧ (∀ j u, xs[j]? = some u → W.cell? (a.add j) = some u) ∧ ∀ i, i < m → (xs.drop (i * C)).take C = F i := by
      intro m
      induction m with
      | zero => intro _; exact ⟨[], by simp, fun j u hu => by simp at hu, fun i hi => absurd hi (by omega)⟩
      | succ m ih =>
        intro hm
        obtain ⟨xs, hx1, hx2, hx3⟩ := ih (by omega)
        obtain ⟨f1, f2, _⟩ := hF m (by omega)
        have hmC : (m + 1) * C = m * C + C := by rw [Nat.add_mul, Nat.one_mul]
        refine ⟨xs ++ F m, by rw [List.length_append, hx1, f1, hmC], fun j u hu => ?_, fun i hi => ?_⟩
        · by_cases hj : j < xs.length
          · rw [List.getElem?_append_left hj] at hu; exact hx2 j u hu
          · rw [List.getElem?_append_right (by omega)] at hu
            have hjl : j - xs.length < C := by
              have := (List.getElem?_eq_some_iff.1 hu).1
              omega
            have := f2 _ hjl
            rw [add_add, hu] at this
            rw [show j = m * C + (j - xs.length) by omega]
            exact this
        · have hiC : i * C + C ≤ m * C ∨ i = m := by
            by_cases h : i = m
            · exact .inr h
            · left
              have : (i + 1) * C ≤ m * C := Nat.mul_le_mul_right _ (by omega)
              rw [Nat.add_mul, Nat.one_mul] at this
              exact this
          rcases hiC with h | rfl
          · have hlt : i < m := by
              by_cases hh : i < m
              · exact hh
              · have : m * C ≤ i * C := Nat.mul_le_mul_right _ (by omega)
                omega
            rw [List.drop_append_of_le_length (by omega), List.take_append_of_le_length (by rw [List.length_drop]; omega)]
            exact hx3 i hlt
          · rw [← hx1, List.drop_left, ← f1, List.take_length]
    obtain ⟨xs, hx1, hx2, hx3⟩ := all l0 (Nat.le_refl _)
    refine ⟨l0, xs, ⟨some a, c0, rfl, hlc, hx1, fun hn => ?_⟩, by omega, fun i hi => ?_⟩
    · have hCn : 0 < xs.length := by rw [hx1]; exact Nat.mul_pos hn hpos
      have h0 := hx2 0 _ (List.getElem?_eq_getElem hCn)
      have h0' : W.cell? a = some xs[0] := by simpa [Addr.add] using h0
      have hs := World.cell?_spot h0'
      obtain ⟨b, o, s⟩ := a
      simp only at hs
      subst hs
      refine ⟨b, o, rfl, World.block_lt_of_cell? W _ h0', fun j u hu => ?_⟩
      have := hx2 j u hu
      rw [add_none] at this
      exact this
    · rw [hx3 i hi]
      obtain ⟨_, _, y, hy⟩ := hF i hi
      exact ⟨n, y, hy⟩
def intFields (P : Program) (fs : Array Field) : Bool := (List.range fs.size).all fun i => match fs[i]? with
  | some f => f.offset == i && P.cellsOf f.type == 1 && (match P.underlying f.type with | some (.int .i64) => true | _ => false)
  | none => false
theorem intFields_of {fs : Array Field} (h : intFields P fs = true) (i : Nat) (hi : i < fs.size) : ∃ f, fs[i]? = some f ∧ f.offset = i ∧ P.cellsOf f.type = 1 ∧ P.underlying f.type = some (.int .i64) := by
  have h0 := List.all_eq_true.1 h i (by simpa using hi)
  rw [Array.getElem?_eq_getElem hi] at h0 ⊢
  simp only [Bool.and_eq_true, beq_iff_eq] at h0
  refine ⟨_, rfl, h0.1.1, h0.1.2, ?_⟩
  have h2 := h0.2
  split at h2
  · assumption
  · cases h2
def In64 (z : Int) : Prop := -9223372036854775808 ≤ z ∧ z ≤ 9223372036854775807
theorem open_intsl {t e : TypeId} {W : World} {r : Reach} {b0 : Nat} {v : Value} {d : DataW H} {p : List MemPlace} (ht : P.underlying t = some (.slice e)) (he : P.underlying e = some (.int .i64)) (hC : P.cellsOf e = 1)
    (hv : Value.okWide P W r b0 t v) (h : DataW.Trod enc P W 0 (fun _ => true) true t v d p) :
    ∃ (n : Nat) (zs : List Int), Sl W v n 1 (ints zs) ∧ n ≤ maxLen ∧ zs.length = n ∧ ∀ z ∈ zs, In64 z := by
  obtain ⟨n, xs, hs, hn, hr⟩ := open_sl ht hC (by omega) hv h
  have hxl : xs.length = n * 1 := by obtain ⟨_, _, _, _, hl, _⟩ := hs; exact hl
  have each : ∀ j, j < n → ∃ z : Int, xs[j]? = some (.int .i64 z) ∧ In64 z := by
    intro j hj
    obtain ⟨m, y, hy⟩ := hr _ hj
    obtain ⟨z, hz, _, hw⟩ := DataW.trod_int he hy
    refine ⟨z, ?_, wfb hw⟩
    have g2 : ((xs.drop (j * 1)).take 1)[0]? = some (Value.int .i64 z) := by rw [hz]; rfl
    rw [List.getElem?_take, if_pos (by omega), List.getElem?_drop] at g2
    rw [← g2, show j * 1 + 0 = j by omega]
  have hzs : ∀ m, m ≤ n → ∃ zs : List Int, zs.length = m ∧ xs.take m = ints zs ∧ ∀ z ∈ zs, In64 z := by
    intro m
    induction m with
    | zero => intro _; exact ⟨[], rfl, by simp [ints], fun z hz => by cases hz⟩
    | succ m ih =>
      intro hm
      obtain ⟨zs, z1, z2, z3⟩ := ih (by omega)
      obtain ⟨z, h1, h2⟩ := each m (by omega)
      refine ⟨zs ++ [z], by simp [z1], ?_, fun u hu => ?_⟩
      · rw [List.take_add_one, z2, h1, ints_append]; rfl
      · rcases List.mem_append.1 hu with hu | hu
        · exact z3 u hu
        · simp only [List.mem_cons, List.not_mem_nil, or_false] at hu
          subst hu; exact h2
  obtain ⟨zs, z1, z2, z3⟩ := hzs _ (Nat.le_refl _)
  rw [show n = xs.length by omega, List.take_length] at z2
  subst z2
  exact ⟨n, zs, hs, hn, z1, z3⟩
theorem fld_int {W : World} {e : TypeId} {fs : Array Field} {m : Nat} {cs : List Value} {y : DataW H × List MemPlace} (he : P.underlying e = some (.struct fs)) (hy : DataW.trod enc P W 0 (fun _ => true) true m e cs = some y)
    (k o : Nat) (f : Field) (hk : fs[k]? = some f) (ho : f.offset = o) (hc : P.cellsOf f.type = 1) (hu : P.underlying f.type = some (.int .i64)) : ∃ z : Int, cs[o]? = some (.int .i64 z) ∧ In64 z := by
  obtain ⟨ys, m', _, _, hlen, hyl, hf⟩ := DataW.trod_struct he hy
  have hkl : k < ys.length := by rw [hyl]; exact (Array.getElem?_eq_some_iff.1 hk).1
  have h1 := hf _ f hk
  rw [ho, hc, List.getElem?_eq_getElem hkl] at h1
  obtain ⟨z, hz, _, hw⟩ := DataW.trod_int hu h1
  refine ⟨z, ?_, wfb hw⟩
  have g : ((cs.drop o).take 1)[0]? = some (Value.int .i64 z) := by rw [hz]; rfl
  rw [List.getElem?_take, if_pos (by omega), List.getElem?_drop] at g
  exact g
theorem fld_str {W : World} {e : TypeId} {fs : Array Field} {m : Nat} {cs : List Value} {y : DataW H × List MemPlace} (he : P.underlying e = some (.struct fs)) (hy : DataW.trod enc P W 0 (fun _ => true) true m e cs = some y)
    (k o : Nat) (f : Field) (hk : fs[k]? = some f) (ho : f.offset = o) (hc : P.cellsOf f.type = 1) (hu : P.underlying f.type = some .string) : ∃ s : ByteArray, cs[o]? = some (.string s) ∧ s.size ≤ maxLen := by
  obtain ⟨ys, m', _, _, hlen, hyl, hf⟩ := DataW.trod_struct he hy
  have hkl : k < ys.length := by rw [hyl]; exact (Array.getElem?_eq_some_iff.1 hk).1
  have h1 := hf _ f hk
  rw [ho, hc, List.getElem?_eq_getElem hkl] at h1
  obtain ⟨s, hz, _, hw⟩ := DataW.trod_string hu h1
  refine ⟨s, ?_, hw⟩
  have g : ((cs.drop o).take 1)[0]? = some (Value.string s) := by rw [hz]; rfl
  rw [List.getElem?_take, if_pos (by omega), List.getElem?_drop] at g
  exact g
theorem fld_sub {W : World} {e : TypeId} {fs : Array Field} {m : Nat} {cs : List Value} {y : DataW H × List MemPlace} (he : P.underlying e = some (.struct fs)) (hy : DataW.trod enc P W 0 (fun _ => true) true m e cs = some y)
    (k o C : Nat) (f : Field) (hk : fs[k]? = some f) (ho : f.offset = o) (hc : P.cellsOf f.type = C) : ∃ m' y', DataW.trod enc P W 0 (fun _ => true) true m' f.type ((cs.drop o).take C) = some y' := by
  obtain ⟨ys, m', _, _, hlen, hyl, hf⟩ := DataW.trod_struct he hy
  have hkl : k < ys.length := by rw [hyl]; exact (Array.getElem?_eq_some_iff.1 hk).1
  have h1 := hf _ f hk
  rw [ho, hc, List.getElem?_eq_getElem hkl] at h1
  exact ⟨_, _, h1⟩
theorem ints_of {cs : List Value} (each : ∀ j, j < cs.length → ∃ z : Int, cs[j]? = some (.int .i64 z) ∧ In64 z) : ∃ zs : List Int, cs = ints zs ∧ ∀ z ∈ zs, In64 z := by
  have hzs : ∀ m, m ≤ cs.length → ∃ zs : List Int, zs.length = m ∧ cs.take m = ints zs ∧ ∀ z ∈ zs, In64 z := by
    intro m
    induction m with
    | zero => intro _; exact ⟨[], rfl, by simp [ints], fun z hz => by cases hz⟩
    | succ m ih =>
      intro hm
      obtain ⟨zs, z1, z2, z3⟩ := ih (by omega)
      obtain ⟨z, h1, h2⟩ := each m (by omega)
      refine ⟨zs ++ [z], by simp [z1], ?_, fun u hu => ?_⟩
      · rw [List.take_add_one, z2, h1, ints_append]; rfl
      · rcases List.mem_append.1 hu with hu | hu
        · exact z3 u hu
        · simp only [List.mem_cons, List.not_mem_nil, or_false] at hu
          subst hu; exact h2
  obtain ⟨zs, z1, z2, z3⟩ := hzs _ (Nat.le_refl _)
  rw [List.take_length] at z2
  exact ⟨zs, z2, z3⟩
end
theorem elem_at (xs : List Value) (i C o : Nat) (h : o < C) : ((xs.drop (i * C)).take C)[o]? = xs[i * C + o]? := by
  rw [List.getElem?_take, if_pos h, List.getElem?_drop]
end Go.Proofs.Ytkaalinoiilmoaa
namespace Go.Proofs.Ytkaalinoiilmoaa
open Go.RowKit Go.ChangeShapes Go.WideShapes Go.Deep
set_option linter.unusedVariables false
set_option maxRecDepth 100000
section
variable {H : Type} {enc : TypeId × Value → H} {P : Program}
theorem open_slg {t e : TypeId} {C : Nat} {W : World} {v : Value} {d : DataW H} {p : List MemPlace} (ht : P.underlying t = some (.slice e)) (hC : P.cellsOf e = C) (hpos : 0 < C)
    (hv : ∃ A l c, v = .slice A l c) (h : DataW.Trod enc P W 0 (fun _ => true) true t v d p) :
    ∃ (n : Nat) (xs : List Value), Sl W v n C xs ∧ n ≤ maxLen ∧ ∀ i, i < n → ∃ (m : Nat) (y : DataW H × List MemPlace), DataW.trod enc P W 0 (fun _ => true) true m e ((xs.drop (i * C)).take C) = some y := by
  obtain ⟨A0, l0, c0, rfl⟩ := hv
  obtain ⟨fuel, hf⟩ := h
  rcases DataW.trod_slice ht hf with ⟨h0, _⟩ | ⟨a, len, cap, elems, rest, n, _, h0, _, _, hlc, hm, hlen, hel, _⟩
  · simp only [Value.cells, List.cons.injEq, Value.slice.injEq, and_true] at h0
    obtain ⟨rfl, rfl, rfl⟩ := h0
    exact ⟨0, [], ⟨none, 0, rfl, Nat.le_refl _, by simp, fun h => absurd h (by omega)⟩, by omega, fun i hi => absurd hi (by omega)⟩
  · simp only [Value.cells, List.cons.injEq, Value.slice.injEq, and_true] at h0
    obtain ⟨rfl, rfl, rfl⟩ := h0
    have key : ∀ i, i < l0 → ∃ cs : List Value, cs.length = C ∧ (∀ j, j < C → W.cell? ((a.add (i * C)).add j) = cs[j]?) ∧ ∃ (y : DataW H × List MemPlace), DataW.trod enc P W 0 (fun _ => true) true n e cs = some y := by
      intro i hi
      have := hel i hi
      rw [List.getElem?_eq_getElem (by omega), hC] at this
      obtain ⟨cs, h1, h2⟩ := Option.bind_eq_some_iff.1 this
      obtain ⟨_, h3, h4⟩ := World.cells?_some h1
      exact ⟨cs, h3, h4, _, h2⟩
    obtain ⟨F, hF⟩ := choose_lt (α := List Value) (p := fun i cs => cs.length = C ∧ (∀ j, j < C → W.cell? ((a.add (i * C)).add j) = cs[j]?) ∧ ∃ (y : DataW H × List MemPlace), DataW.trod enc P W 0 (fun _ => true) true n e cs = some y) key
    have all : ∀ m, m ≤ l0 → ∃ xs : List Value, xs.length = m * C ∧ (∀ j u, xs[j]? = some u → W.cell? (a.add j) = some u) ∧ ∀ i, i < m → (xs.drop (i * C)).take C = F i := by
      intro m
      induction m with
      | zero => intro _; exact ⟨[], by simp, fun j u hu => by simp at hu, fun i hi => absurd hi (by omega)⟩
      | succ m ih =>
        intro hm
        obtain ⟨xs, hx1, hx2, hx3⟩ := ih (by omega)
        obtain ⟨f1, f2, _⟩ := hF m (by omega)
        have hmC : (m + 1) * C = m * C + C := by rw [Nat.add_mul, Nat.one_mul]
        refine ⟨xs ++ F m, by rw [List.length_append, hx1, f1, hmC], fun j u hu => ?_, fun i hi => ?_⟩
        · by_cases hj : j < xs.length
          · rw [List.getElem?_append_left hj] at hu; exact hx2 j u hu
          · rw [List.getElem?_append_right (by omega)] at hu
            have hjl : j - xs.length < C := by
              have := (List.getElem?_eq_some_iff.1 hu).1
              omega
            have := f2 _ hjl
            rw [add_add, hu] at this
            rw [show j = m * C + (j - xs.length) by omega]
            exact this
        · have hiC : i * C + C ≤ m * C ∨ i = m := by
            by_cases h : i = m
            · exact .inr h
            · left
              have : (i + 1) * C ≤ m * C := Nat.mul_le_mul_right _ (by omega)
              rw [Nat.add_mul, Nat.one_mul] at this
              exact this
          rcases hiC with h | rfl
          · have hlt : i < m := by
              by_cases hh : i < m
              · exact hh
              · have : m * C ≤ i * C := Nat.mul_le_mul_right _ (by omega)
                omega
            rw [List.drop_append_of_le_length (by omega), List.take_append_of_le_length (by rw [List.length_drop]; omega)]
            exact hx3 i hlt
          · rw [← hx1, List.drop_left, ← f1, List.take_length]
    obtain ⟨xs, hx1, hx2, hx3⟩ := all l0 (Nat.le_refl _)
    refine ⟨l0, xs, ⟨some a, c0, rfl, hlc, hx1, fun hn => ?_⟩, by omega, fun i hi => ?_⟩
    · have hCn : 0 < xs.length := by rw [hx1]; exact Nat.mul_pos hn hpos
      have h0 := hx2 0 _ (List.getElem?_eq_getElem hCn)
      have h0' : W.cell? a = some xs[0] := by simpa [Addr.add] using h0
      have hs := World.cell?_spot h0'
      obtain ⟨b, o, s⟩ := a
      simp only at hs
      subst hs
      refine ⟨b, o, rfl, World.block_lt_of_cell? W _ h0', fun j u hu => ?_⟩
      have := hx2 j u hu
      rw [add_none] at this
      exact this
    · rw [hx3 i hi]
      obtain ⟨_, _, y, hy⟩ := hF i hi
      exact ⟨n, y, hy⟩
theorem open_recsg {t e : TypeId} {fs : Array Field} {W : World} {v : Value} {d : DataW H} {p : List MemPlace} (ht : P.underlying t = some (.slice e)) (he : P.underlying e = some (.struct fs)) (hC : P.cellsOf e = fs.size) (hpos : 0 < fs.size)
    (hfs : intFields P fs = true) (hv : ∃ A l c, v = .slice A l c) (h : DataW.Trod enc P W 0 (fun _ => true) true t v d p) :
    ∃ (n : Nat) (zs : List Int), Sl W v n fs.size (ints zs) ∧ n ≤ maxLen ∧ zs.length = n * fs.size ∧ ∀ z ∈ zs, In64 z := by
  obtain ⟨n, xs, hs, hn, hr⟩ := open_slg ht hC hpos hv h
  have hxl : xs.length = n * fs.size := by obtain ⟨_, _, _, _, hl, _⟩ := hs; exact hl
  have each : ∀ j, j < n * fs.size → ∃ z : Int, xs[j]? = some (.int .i64 z) ∧ In64 z := by
    intro j hj
    have hi : j / fs.size < n := Nat.div_lt_of_lt_mul (by rw [Nat.mul_comm]; exact hj)
    obtain ⟨m, y, hy⟩ := hr _ hi
    obtain ⟨ys, m', _, _, hlen, hyl, hf⟩ := DataW.trod_struct he hy
    have hk : j % fs.size < fs.size := Nat.mod_lt _ hpos
    obtain ⟨f, f0, f1, f2, f3⟩ := intFields_of hfs _ hk
    have h1 := hf _ f f0
    rw [f1, f2, List.getElem?_eq_getElem (by omega)] at h1
    obtain ⟨z, hz, _, hw⟩ := DataW.trod_int f3 h1
    refine ⟨z, ?_, wfb hw⟩
    have hj2 : j / fs.size * fs.size + j % fs.size = j := by rw [Nat.mul_comm]; exact Nat.div_add_mod j fs.size
    have g : (((xs.drop (j / fs.size * fs.size)).take fs.size).drop (j % fs.size)).take 1 = [Value.int .i64 z] := hz
    have g2 : ((((xs.drop (j / fs.size * fs.size)).take fs.size).drop (j % fs.size)).take 1)[0]? = some (Value.int .i64 z) := by rw [g]; rfl
    rw [List.getElem?_take, if_pos (by omega), List.getElem?_drop, List.getElem?_take, if_pos (by omega), List.getElem?_drop] at g2
    rw [← g2, show j / fs.size * fs.size + (j % fs.size + 0) = j by omega]
  have hzs : ∀ m, m ≤ n * fs.size → ∃ zs : List Int, zs.length = m ∧ xs.take m = ints zs ∧ ∀ z ∈ zs, In64 z := by
    intro m
    induction m with
    | zero => intro _; exact ⟨[], rfl, by simp [ints], fun z hz => by cases hz⟩
    | succ m ih =>
      intro hm
      obtain ⟨zs, z1, z2, z3⟩ := ih (by omega)
      obtain ⟨z, h1, h2⟩ := each m (by omega)
      refine ⟨zs ++ [z], by simp [z1], ?_, fun u hu => ?_⟩
      · rw [List.take_add_one, z2, h1, ints_append]; rfl
      · rcases List.mem_append.1 hu with hu | hu
        · exact z3 u hu
        · simp only [List.mem_cons, List.not_mem_nil, or_false] at hu
          subst hu; exact h2
  obtain ⟨zs, z1, z2, z3⟩ := hzs _ (Nat.le_refl _)
  rw [← hxl, List.take_length] at z2
  subst z2
  exact ⟨n, zs, hs, hn, z1, z3⟩
theorem weightsAll_memg {e : TypeId} : ∀ {ds : List (DataW H)} {d : DataW H}, d ∈ ds → ∀ n ∈ d.weights P e, n ∈ DataW.weightsAll P e ds
  | [], d, h, n, hn => by cases h
  | d0 :: ds, d, h, n, hn => by
    simp only [DataW.weightsAll, List.mem_append]
    rcases List.mem_cons.1 h with rfl | h
    · exact .inl hn
    · exact .inr (weightsAll_memg h n hn)
theorem row_weightg {W : World} {t e : TypeId} {R m n c : Nat} {A : Option Addr} {y : DataW H × List MemPlace} (ht : P.underlying t = some (.slice e)) (h : DataW.trod enc P W 0 (fun _ => true) true m t [.slice A n c] = some y) (hw : ∀ q ∈ y.1.weights P t, q ≤ R) : n * P.bytesOf e ≤ R := by
  rcases DataW.trod_slice ht h with ⟨h0, _⟩ | ⟨a, len, cap, elems, rest, k, _, h0, hx, _, _, _, hlen, _⟩
  · simp only [List.cons.injEq, Value.slice.injEq, and_true] at h0
    obtain ⟨_, rfl, _⟩ := h0
    simp
  · simp only [List.cons.injEq, Value.slice.injEq, and_true] at h0
    obtain ⟨_, rfl, _⟩ := h0
    subst hx
    have := hw ((elems.length + rest.length) * P.bytesOf e) (by simp [DataW.weights, ht])
    exact Nat.le_trans (Nat.mul_le_mul_right _ (by omega)) this
end
end Go.Proofs.Ytkaalinoiilmoaa
namespace Go.Proofs.Ytkaalinoiilmoaa
open Go.RowKit Go.ChangeShapes Go.WideShapes Go.Deep
set_option linter.unusedVariables false
set_option maxRecDepth 100000
section
variable {H : Type} {enc : TypeId × Value → H} {P : Program}
theorem open_intslg {t e : TypeId} {W : World} {v : Value} {d : DataW H} {p : List MemPlace} (ht : P.underlying t = some (.slice e)) (he : P.underlying e = some (.int .i64)) (hC : P.cellsOf e = 1)
    (hv : ∃ A l c, v = .slice A l c) (h : DataW.Trod enc P W 0 (fun _ => true) true t v d p) :
    ∃ (n : Nat) (zs : List Int), Sl W v n 1 (ints zs) ∧ n ≤ maxLen ∧ zs.length = n ∧ ∀ z ∈ zs, In64 z := by
  obtain ⟨n, xs, hs, hn, hr⟩ := open_slg ht hC (by omega) hv h
  have hxl : xs.length = n * 1 := by obtain ⟨_, _, _, _, hl, _⟩ := hs; exact hl
  have each : ∀ j, j < xs.length → ∃ z : Int, xs[j]? = some (.int .i64 z) ∧ In64 z := by
    intro j hj
    obtain ⟨m, y, hy⟩ := hr j (by omega)
    obtain ⟨z, hz, _, hw⟩ := DataW.trod_int he hy
    refine ⟨z, ?_, wfb hw⟩
    have g2 : ((xs.drop (j * 1)).take 1)[0]? = some (Value.int .i64 z) := by rw [hz]; rfl
    rw [List.getElem?_take, if_pos (by omega), List.getElem?_drop] at g2
    rw [← g2, show j * 1 + 0 = j by omega]
  obtain ⟨zs, rfl, hz⟩ := ints_of each
  exact ⟨n, zs, hs, hn, by rw [ints_len] at hxl; omega, hz⟩
end
theorem open_frs {H : Type} {enc : TypeId × Value → H} {W : World} {m : Nat} {c : Value} {y : DataW H × List MemPlace} (h : DataW.trod enc Try.prog W 0 (fun _ => true) true m 46 [c] = some y) (hw : ∀ q ∈ y.1.weights Try.prog 46, q ≤ 140737488351232) :
    ∃ (fs : List Int) (A2 : Option Addr) (cap2 : Nat), c = .slice A2 fs.length cap2 ∧ Sl W (.slice A2 fs.length cap2) fs.length 1 (ints fs) ∧ (A2 = none → cap2 = 0) ∧ fs.length * 8 ≤ 140737488351232 := by
  have hf : ∃ A l c0, c = .slice A l c0 ∧ (A = none → c0 = 0) := by
    rcases DataW.trod_slice Try.underlying46 h with ⟨h0, _⟩ | ⟨a, len, cap, elems, rest, k, _, h0, _⟩
    · simp only [List.cons.injEq, and_true] at h0
      exact ⟨none, 0, 0, h0, fun _ => rfl⟩
    · simp only [List.cons.injEq, and_true] at h0
      exact ⟨some a, len, cap, h0, fun e => by cases e⟩
  obtain ⟨A2, n, cap2, rfl, hn⟩ := hf
  have hb := row_weightg Try.underlying46 h hw
  have e8 : Try.prog.bytesOf 3 = 8 := by kernel_rfl
  rw [e8] at hb
  obtain ⟨n', zs, hs, _, hl, _⟩ := open_intslg (P := Try.prog) (enc := enc) (v := .slice A2 n cap2) (d := y.1) (p := y.2) Try.underlying46 Try.underlying3 (by kernel_rfl) ⟨_, _, _, rfl⟩ ⟨m, h⟩
  have en : n' = n := by
    obtain ⟨_, _, e, _⟩ := hs
    simp only [Value.slice.injEq] at e
    exact e.2.1.symm
  subst en
  subst hl
  exact ⟨zs, A2, cap2, rfl, hs, hn, hb⟩
theorem open_part {H : Type} {enc : TypeId × Value → H} {W : World} {m b a : Nat} {cs : List Value} {y : DataW H × List MemPlace} (hy : DataW.trod enc Try.prog W 0 (fun _ => true) true m 48 cs = some y) (hcl : cs.length = 5)
    (hcell : ∀ j, j < 5 → W.cell? ⟨b, a + j, none⟩ = cs[j]?) (hw : ∀ q ∈ y.1.weights Try.prog 48, q ≤ 140737488351232) : ∃ p : Pa, PaAt W b a p ∧ p.fr.length * 8 ≤ 140737488351232 := by
  obtain ⟨m', y', hy'⟩ := fld_sub (P := Try.prog) Try.underlying48 hy 0 0 2 _ rfl rfl (by kernel_rfl)
  obtain ⟨lv, g0, _⟩ := fld_int (P := Try.prog) Try.underlying45 hy' 0 0 _ rfl rfl (by kernel_rfl) Try.underlying3
  obtain ⟨ct, g1, _⟩ := fld_int (P := Try.prog) Try.underlying45 hy' 1 1 _ rfl rfl (by kernel_rfl) Try.underlying3
  obtain ⟨fi, g3, _⟩ := fld_int (P := Try.prog) Try.underlying48 hy 2 3 _ rfl rfl (by kernel_rfl) Try.underlying3
  obtain ⟨co, g4, _⟩ := fld_int (P := Try.prog) Try.underlying48 hy 3 4 _ rfl rfl (by kernel_rfl) Try.underlying3
  rw [List.getElem?_take, if_pos (by omega), List.getElem?_drop] at g0 g1
  obtain ⟨ys, m2, _, hagg, _, hyl, hfl⟩ := DataW.trod_struct Try.underlying48 hy
  have hyl4 : ys.length = 4 := hyl
  have h6 := hfl 1 _ rfl
  have e1 : Try.prog.cellsOf 46 = 1 := by kernel_rfl
  rw [List.getElem?_eq_getElem (by omega)] at h6
  obtain ⟨c, hc⟩ : ∃ c, (cs.drop 2).take 1 = [c] := by
    match cs, hcl with
    | [_, _, c, _, _], _ => exact ⟨c, rfl⟩
  have h7 : DataW.trod enc Try.prog W 0 (fun _ => true) true m2 46 [c] = some (ys[1]'(by omega)) := by
    rw [← hc]; exact h6
  obtain ⟨fs, A2, cap2, rfl, hs, hnil, h8⟩ := open_frs h7 (fun q hq => hw q (by
    rw [hagg]
    simp only [DataW.weights, Try.underlying48]
    exact DataW.weights_mem_each (j := 1) (t := 46) (d := (ys[1]'(by omega)).1) rfl (by rw [List.getElem?_map, List.getElem?_eq_getElem (by omega)]; rfl) q hq))
  have g2 : cs[2]? = some (.slice A2 fs.length cap2) := by
    have := congrArg (fun l => l[0]?) hc
    simpa [List.getElem?_take, List.getElem?_drop] using this
  refine ⟨⟨lv, ct, fs, fi, co⟩, ⟨A2, cap2, ?_, ?_, ?_, ?_, ?_, hs, hnil⟩, h8⟩
  · have := hcell 0 (by omega); rw [Nat.add_zero] at this; exact this.trans g0
  · exact (hcell 1 (by omega)).trans g1
  · exact (hcell 2 (by omega)).trans g2
  · exact (hcell 3 (by omega)).trans g3
  · exact (hcell 4 (by omega)).trans g4
theorem open_parts {H : Type} {enc : TypeId × Value → H} {W : World} {v : Value} {d : DataW H} {p : List MemPlace} (hv : ∃ A l c, v = .slice A l c) (h : DataW.Trod enc Try.prog W 0 (fun _ => true) true 22 v d p) (hw : ∀ q ∈ d.weights Try.prog 22, q ≤ 140737488351232) :
    ∃ l : List Pa, PaS W v l ∧ PaZ l := by
  obtain ⟨A, n, cap, rfl⟩ := hv
  obtain ⟨fuel, hf⟩ := h
  have hb := row_weightg (R := 140737488351232) Try.underlying22 hf hw
  have e56 : Try.prog.bytesOf 48 = 56 := by kernel_rfl
  have e5 : Try.prog.cellsOf 48 = 5 := by kernel_rfl
  rw [e56] at hb
  rcases DataW.trod_slice Try.underlying22 hf with ⟨h0, _⟩ | ⟨a, len, cap', elems, rest, k, _, h0, hx, _, _, _, hlen, hel, _⟩
  · simp only [Value.cells, List.cons.injEq, Value.slice.injEq, and_true] at h0
    obtain ⟨rfl, rfl, rfl⟩ := h0
    exact ⟨[], ⟨none, 0, rfl, fun h => absurd h (by simp)⟩, by simp, fun i => by simp [paD]⟩
  · simp only [Value.cells, List.cons.injEq, Value.slice.injEq, and_true] at h0
    obtain ⟨rfl, rfl, rfl⟩ := h0
    simp only [Prod.mk.injEq] at hx
    obtain ⟨rfl, _⟩ := hx
    have spot : 0 < n → a.spot = none ∧ a.block < W.heap.size := by
      intro hn
      have h1 := hel 0 hn
      rw [List.getElem?_eq_getElem (by omega), e5] at h1
      obtain ⟨cs, h2, h3⟩ := Option.bind_eq_some_iff.1 h1
      obtain ⟨_, h4, h5⟩ := World.cells?_some h2
      have h6 := h5 0 (by omega)
      rw [List.getElem?_eq_getElem (by omega)] at h6
      have h6' : W.cell? a = some cs[0] := by simpa [Addr.add] using h6
      exact ⟨World.cell?_spot h6', World.block_lt_of_cell? W _ h6'⟩
    by_cases hn : 0 < n
    · obtain ⟨hsp, hlt⟩ := spot hn
      obtain ⟨b, o, s⟩ := a
      simp only at hsp hlt
      subst hsp
      have key : ∀ i, i < n → ∃ p : Pa, PaAt W b (o + i * 5) p ∧ p.fr.length * 8 ≤ 140737488351232 := by
        intro i hi
        have h1 := hel i hi
        rw [List.getElem?_eq_getElem (by omega), e5] at h1
        obtain ⟨cs, h2, h3⟩ := Option.bind_eq_some_iff.1 h1
        obtain ⟨_, h4, h5⟩ := World.cells?_some h2
        have hmem : (elems[i]'(by omega)).1 ∈ elems.map (·.1) := List.mem_map.2 ⟨_, List.getElem_mem _, rfl⟩
        refine open_part h3 h4 (fun j hj => ?_) (fun q hq => hw q (by
          simp only [DataW.weights, Try.underlying22, List.mem_cons, List.mem_append]
          exact .inr (.inl (weightsAll_memg hmem q hq))))
        have := h5 j hj
        simpa [add_none, Nat.add_assoc] using this
      haveI : Inhabited Pa := ⟨paD⟩
      obtain ⟨F, hF⟩ := choose_lt (α := Pa) (p := fun i p => PaAt W b (o + i * 5) p ∧ p.fr.length * 8 ≤ 140737488351232) key
      have hg : ∀ i, i < n → ((List.range n).map F).getD i paD = F i := by
        intro i hi
        simp [List.getD, hi]
      have hl : ((List.range n).map F).length = n := by simp
      refine ⟨(List.range n).map F, ⟨some ⟨b, o, none⟩, cap, by rw [hl], fun h0 => ⟨b, o, rfl, hlt, fun i hi => ?_⟩⟩, by rw [hl]; exact hb, fun i => ?_⟩
      · rw [hl] at hi
        rw [hg i hi]
        exact (hF i hi).1
      · by_cases hi : i < n
        · rw [hg i hi]; exact (hF i hi).2
        · simp [List.getD, show ¬ i < n from hi, paD]
    · obtain rfl : n = 0 := by omega
      exact ⟨[], ⟨some a, cap, rfl, fun h => absurd h (by simp)⟩, by simp, fun i => by simp [paD]⟩
end Go.Proofs.Ytkaalinoiilmoaa
namespace Go.Proofs.Ytkaalinoiilmoaa
open Go.RowKit Go.ChangeShapes Go.WideShapes Go.Deep
set_option linter.unusedVariables false
set_option maxRecDepth 100000
theorem open_dev {H : Type} {enc : TypeId × Value → H} {W : World} {m b a : Nat} {cs : List Value} {y : DataW H × List MemPlace} (hy : DataW.trod enc Try.prog W 0 (fun _ => true) true m 64 cs = some y) (hcl : cs.length = 2)
    (hcell : ∀ j, j < 2 → W.cell? ⟨b, a + j, none⟩ = cs[j]?) (hw : ∀ q ∈ y.1.weights Try.prog 64, q ≤ 140737488351232) : ∃ p : De, DeAt W b a p ∧ p.po.length * 8 ≤ 140737488351232 := by
  obtain ⟨pt, g0, _⟩ := fld_int (P := Try.prog) Try.underlying64 hy 0 0 _ rfl rfl (by kernel_rfl) Try.underlying3
  obtain ⟨ys, m2, _, hagg, _, hyl, hfl⟩ := DataW.trod_struct Try.underlying64 hy
  have hyl4 : ys.length = 2 := hyl
  have h6 := hfl 1 _ rfl
  have e1 : Try.prog.cellsOf 46 = 1 := by kernel_rfl
  rw [List.getElem?_eq_getElem (by omega)] at h6
  obtain ⟨c, hc⟩ : ∃ c, (cs.drop 1).take 1 = [c] := by
    match cs, hcl with
    | [_, c], _ => exact ⟨c, rfl⟩
  have h7 : DataW.trod enc Try.prog W 0 (fun _ => true) true m2 46 [c] = some (ys[1]'(by omega)) := by
    rw [← hc]; exact h6
  obtain ⟨fs, A2, cap2, rfl, hs, hnil, h8⟩ := open_frs h7 (fun q hq => hw q (by
    rw [hagg]
    simp only [DataW.weights, Try.underlying64]
    exact DataW.weights_mem_each (j := 1) (t := 46) (d := (ys[1]'(by omega)).1) rfl (by rw [List.getElem?_map, List.getElem?_eq_getElem (by omega)]; rfl) q hq))
  have g2 : cs[1]? = some (.slice A2 fs.length cap2) := by
    have := congrArg (fun l => l[0]?) hc
    simpa [List.getElem?_take, List.getElem?_drop] using this
  refine ⟨⟨pt, fs⟩, ⟨A2, cap2, ?_, ?_, hs, hnil⟩, h8⟩
  · have := hcell 0 (by omega); rw [Nat.add_zero] at this; exact this.trans g0
  · exact (hcell 1 (by omega)).trans g2
theorem open_devs {H : Type} {enc : TypeId × Value → H} {W : World} {v : Value} {d : DataW H} {p : List MemPlace} (hv : ∃ A l c, v = .slice A l c) (h : DataW.Trod enc Try.prog W 0 (fun _ => true) true 23 v d p) (hw : ∀ q ∈ d.weights Try.prog 23, q ≤ 140737488351232) :
    ∃ l : List De, DeS W v l ∧ DeZ l := by
  obtain ⟨A, n, cap, rfl⟩ := hv
  obtain ⟨fuel, hf⟩ := h
  have hb := row_weightg (R := 140737488351232) Try.underlying23 hf hw
  have e32 : Try.prog.bytesOf 64 = 32 := by kernel_rfl
  have e2 : Try.prog.cellsOf 64 = 2 := by kernel_rfl
  rw [e32] at hb
  rcases DataW.trod_slice Try.underlying23 hf with ⟨h0, _⟩ | ⟨a, len, cap', elems, rest, k, _, h0, hx, _, _, _, hlen, hel, _⟩
  · simp only [Value.cells, List.cons.injEq, Value.slice.injEq, and_true] at h0
    obtain ⟨rfl, rfl, rfl⟩ := h0
    exact ⟨[], ⟨none, 0, rfl, fun h => absurd h (by simp)⟩, by simp, fun i => by simp [deD]⟩
  · simp only [Value.cells, List.cons.injEq, Value.slice.injEq, and_true] at h0
    obtain ⟨rfl, rfl, rfl⟩ := h0
    simp only [Prod.mk.injEq] at hx
    obtain ⟨rfl, _⟩ := hx
    have spot : 0 < n → a.spot = none ∧ a.block < W.heap.size := by
      intro hn
      have h1 := hel 0 hn
      rw [List.getElem?_eq_getElem (by omega), e2] at h1
      obtain ⟨cs, h2, h3⟩ := Option.bind_eq_some_iff.1 h1
      obtain ⟨_, h4, h5⟩ := World.cells?_some h2
      have h6 := h5 0 (by omega)
      rw [List.getElem?_eq_getElem (by omega)] at h6
      have h6' : W.cell? a = some cs[0] := by simpa [Addr.add] using h6
      exact ⟨World.cell?_spot h6', World.block_lt_of_cell? W _ h6'⟩
    by_cases hn : 0 < n
    · obtain ⟨hsp, hlt⟩ := spot hn
      obtain ⟨b, o, s⟩ := a
      simp only at hsp hlt
      subst hsp
      have key : ∀ i, i < n → ∃ p : De, DeAt W b (o + i * 2) p ∧ p.po.length * 8 ≤ 140737488351232 := by
        intro i hi
        have h1 := hel i hi
        rw [List.getElem?_eq_getElem (by omega), e2] at h1
        obtain ⟨cs, h2, h3⟩ := Option.bind_eq_some_iff.1 h1
        obtain ⟨_, h4, h5⟩ := World.cells?_some h2
        have hmem : (elems[i]'(by omega)).1 ∈ elems.map (·.1) := List.mem_map.2 ⟨_, List.getElem_mem _, rfl⟩
        refine open_dev h3 h4 (fun j hj => ?_) (fun q hq => hw q (by
          simp only [DataW.weights, Try.underlying23, List.mem_cons, List.mem_append]
          exact .inr (.inl (weightsAll_memg hmem q hq))))
        have := h5 j hj
        simpa [add_none, Nat.add_assoc] using this
      haveI : Inhabited De := ⟨deD⟩
      obtain ⟨F, hF⟩ := choose_lt (α := De) (p := fun i p => DeAt W b (o + i * 2) p ∧ p.po.length * 8 ≤ 140737488351232) key
      have hg : ∀ i, i < n → ((List.range n).map F).getD i deD = F i := by
        intro i hi
        simp [List.getD, hi]
      have hl : ((List.range n).map F).length = n := by simp
      refine ⟨(List.range n).map F, ⟨some ⟨b, o, none⟩, cap, by rw [hl], fun h0 => ⟨b, o, rfl, hlt, fun i hi => ?_⟩⟩, by rw [hl]; exact hb, fun i => ?_⟩
      · rw [hl] at hi
        rw [hg i hi]
        exact (hF i hi).1
      · by_cases hi : i < n
        · rw [hg i hi]; exact (hF i hi).2
        · simp [List.getD, show ¬ i < n from hi, deD]
    · obtain rfl : n = 0 := by omega
      exact ⟨[], ⟨some a, cap, rfl, fun h => absurd h (by simp)⟩, by simp, fun i => by simp [deD]⟩
theorem fld_bool0 {H : Type} {enc : TypeId × Value → H} {P : Program} {W : World} {e : TypeId} {fs : Array Field} {m : Nat} {cs : List Value} {y : DataW H × List MemPlace} (he : P.underlying e = some (.struct fs)) (hy : DataW.trod enc P W 0 (fun _ => true) true m e cs = some y)
    (k o : Nat) (f : Field) (hk : fs[k]? = some f) (ho : f.offset = o) (hc : P.cellsOf f.type = 1) (hu : P.underlying f.type = some .bool) : ∃ b : Bool, cs[o]? = some (.bool b) := by
  obtain ⟨ys, m', _, _, hlen, hyl, hf⟩ := DataW.trod_struct he hy
  have hkl : k < ys.length := by rw [hyl]; exact (Array.getElem?_eq_some_iff.1 hk).1
  have h1 := hf _ f hk
  rw [ho, hc, List.getElem?_eq_getElem hkl] at h1
  obtain ⟨b, hz, _⟩ := DataW.trod_bool hu h1
  refine ⟨b, ?_⟩
  have g : ((cs.drop o).take 1)[0]? = some (Value.bool b) := by rw [hz]; rfl
  rw [List.getElem?_take, if_pos (by omega), List.getElem?_drop] at g
  exact g
theorem grs_of : ∀ (n : Nat) (xs : List Value), xs.length = n * 3 → (∀ i, i < n → ∃ g : Gr, (xs.drop (i * 3)).take 3 = grc g) → ∃ l : List Gr, l.length = n ∧ xs = grs l := by
  intro n
  induction n with
  | zero => intro xs h _; exact ⟨[], rfl, List.length_eq_zero_iff.1 (by simpa using h)⟩
  | succ n ih =>
    intro xs h hk
    obtain ⟨g, hg⟩ := hk 0 (by omega)
    obtain ⟨l, hl, e⟩ := ih (xs.drop 3) (by rw [List.length_drop]; omega) (fun i hi => by
      obtain ⟨g, hg⟩ := hk (i + 1) (by omega)
      exact ⟨g, by rw [List.drop_drop, ← hg, show 3 + i * 3 = (i + 1) * 3 by omega]⟩)
    refine ⟨g :: l, by simp [hl], ?_⟩
    have : grs (g :: l) = grc g ++ grs l := by simp [grs]
    rw [this, ← hg, ← e]
    simp
theorem slice_form {H : Type} {enc : TypeId × Value → H} {W : World} {m : Nat} {t e : TypeId} {c : Value} {y : DataW H × List MemPlace} (ht : Try.prog.underlying t = some (.slice e)) (h : DataW.trod enc Try.prog W 0 (fun _ => true) true m t [c] = some y) : ∃ A l c0, c = .slice A l c0 ∧ (A = none → c0 = 0) := by
  rcases DataW.trod_slice ht h with ⟨h0, _⟩ | ⟨a, len, cap, elems, rest, k, _, h0, _⟩
  · simp only [List.cons.injEq, and_true] at h0
    exact ⟨none, 0, 0, h0, fun _ => rfl⟩
  · simp only [List.cons.injEq, and_true] at h0
    exact ⟨some a, len, cap, h0, fun e => by cases e⟩
theorem open_wins {H : Type} {enc : TypeId × Value → H} {W : World} {m : Nat} {c : Value} {y : DataW H × List MemPlace} (h : DataW.trod enc Try.prog W 0 (fun _ => true) true m 24 [c] = some y) (hw : ∀ q ∈ y.1.weights Try.prog 24, q ≤ 140737488351232) :
    ∃ l : List Win, Ws W c l.length l ∧ l.length * 32 ≤ 140737488351232 ∧ ∀ m k, c = .slice none m k → k = 0 := by
  obtain ⟨A, n, cap, rfl, hn⟩ := slice_form Try.underlying24 h
  have hb := row_weightg Try.underlying24 h hw
  have e32 : Try.prog.bytesOf 66 = 32 := by kernel_rfl
  rw [e32] at hb
  obtain ⟨n', zs, hs, hm, hl, hr⟩ := open_recsg (P := Try.prog) (enc := enc) (v := .slice A n cap) (d := y.1) (p := y.2) Try.underlying24 Try.underlying66 (by kernel_rfl) (by decide) (by kernel_rfl) ⟨_, _, _, rfl⟩ ⟨m, h⟩
  have en : n' = n := by
    obtain ⟨_, _, e, _⟩ := hs
    simp only [Value.slice.injEq] at e
    exact e.2.1.symm
  subst en
  obtain ⟨l, rfl, hll⟩ := wins_of n' zs hl
  subst hll
  exact ⟨l, ⟨hs, rfl, hm, w64_of l hr⟩, hb, fun m k e => by simp only [Value.slice.injEq] at e; rw [← e.2.2]; exact hn e.1⟩
theorem open_grs {H : Type} {enc : TypeId × Value → H} {W : World} {m : Nat} {c : Value} {y : DataW H × List MemPlace} (h : DataW.trod enc Try.prog W 0 (fun _ => true) true m 25 [c] = some y) (hw : ∀ q ∈ y.1.weights Try.prog 25, q ≤ 140737488351232) :
    ∃ l : List Gr, Sl W c l.length 3 (grs l) ∧ l.length * 24 ≤ 140737488351232 ∧ ∀ m k, c = .slice none m k → k = 0 := by
  obtain ⟨A, n, cap, rfl, hn⟩ := slice_form Try.underlying25 h
  have hb := row_weightg Try.underlying25 h hw
  have e24 : Try.prog.bytesOf 50 = 24 := by kernel_rfl
  rw [e24] at hb
  obtain ⟨n', xs, hs, hm, hr⟩ := open_slg (P := Try.prog) (enc := enc) (v := .slice A n cap) (d := y.1) (p := y.2) (C := 3) Try.underlying25 (by kernel_rfl) (by decide) ⟨_, _, _, rfl⟩ ⟨m, h⟩
  have en : n' = n := by
    obtain ⟨_, _, e, _⟩ := hs
    simp only [Value.slice.injEq] at e
    exact e.2.1.symm
  subst en
  have hxl : xs.length = n' * 3 := by obtain ⟨_, _, _, _, hl, _⟩ := hs; exact hl
  obtain ⟨l, hl, rfl⟩ := grs_of n' xs hxl (fun i hi => by
    obtain ⟨m2, y2, hy⟩ := hr i hi
    obtain ⟨f, g0, _⟩ := fld_int (P := Try.prog) Try.underlying50 hy 0 0 _ rfl rfl (by kernel_rfl) Try.underlying3
    obtain ⟨t, g1, _⟩ := fld_int (P := Try.prog) Try.underlying50 hy 1 1 _ rfl rfl (by kernel_rfl) Try.underlying3
    obtain ⟨b, g2⟩ := fld_bool0 (P := Try.prog) Try.underlying50 hy 2 2 _ rfl rfl (by kernel_rfl) Try.underlying4
    refine ⟨⟨f, t, b⟩, ?_⟩
    have hlen : ((xs.drop (i * 3)).take 3).length = 3 := by rw [List.length_take, List.length_drop]; omega
    generalize (xs.drop (i * 3)).take 3 = z at *
    match z, hlen with
    | [a, b', c'], _ =>
      simp only [List.getElem?_cons_zero, List.getElem?_cons_succ, Option.some.injEq] at g0 g1 g2
      rw [g0, g1, g2]; rfl)
  subst hl
  exact ⟨l, hs, hb, fun m k e => by simp only [Value.slice.injEq] at e; rw [← e.2.2]; exact hn e.1⟩
theorem open_cfg {H : Type} {enc : TypeId × Value → H} {W : World} {r : Reach} {b0 : Nat} {v : Value} {d : DataW H} {p : List MemPlace} (hv : Value.okWide Try.prog W r b0 27 v) (h : DataW.Trod enc Try.prog W 0 (fun _ => true) true 27 v d p)
    (hw : ∀ q ∈ d.weights Try.prog 27, q ≤ 140737488351232) :
    ∃ (c : Cf) (vp vd vw vg : Value), v = .agg #[.int .i64 c.fr, vp, vd, .int .i64 c.mj, vw, vg, .int .i64 c.se, .int .i64 c.qu, .int .i64 c.qt] ∧ CfAt W vp vd vw vg c := by
  obtain ⟨cs, rfl, hsz⟩ := okWide_struct Try.underlying27 hv
  obtain ⟨l, rfl⟩ : ∃ l : List Value, cs = l.toArray := ⟨cs.toList, by simp⟩
  obtain ⟨m, hy⟩ := h
  have e9 : Try.prog.cellsOf 27 = 9 := by kernel_rfl
  have hcl : l.length = 9 := by rw [e9] at hsz; simpa using hsz
  change DataW.trod enc Try.prog W 0 (fun _ => true) true m 27 l = some (d, p) at hy
  obtain ⟨fr, g0, _⟩ := fld_int (P := Try.prog) Try.underlying27 hy 0 0 _ rfl rfl (by kernel_rfl) Try.underlying3
  obtain ⟨mj, g3, _⟩ := fld_int (P := Try.prog) Try.underlying27 hy 3 3 _ rfl rfl (by kernel_rfl) Try.underlying3
  obtain ⟨se, g6, _⟩ := fld_int (P := Try.prog) Try.underlying27 hy 6 6 _ rfl rfl (by kernel_rfl) Try.underlying3
  obtain ⟨qu, g7, _⟩ := fld_int (P := Try.prog) Try.underlying27 hy 7 7 _ rfl rfl (by kernel_rfl) Try.underlying3
  obtain ⟨qt, g8, _⟩ := fld_int (P := Try.prog) Try.underlying27 hy 8 8 _ rfl rfl (by kernel_rfl) Try.underlying3
  obtain ⟨ys, m2, _, hagg, _, hyl, hfl⟩ := DataW.trod_struct Try.underlying27 hy
  have hyl9 : ys.length = 9 := hyl
  have hwk : ∀ k t (hk : k < 9), (([3, 22, 23, 3, 24, 25, 3, 3, 3] : List TypeId))[k]? = some t → ∀ q ∈ (ys[k]'(by omega)).1.weights Try.prog t, q ≤ 140737488351232 := by
    intro k t hk ht q hq
    refine hw q ?_
    have hagg' := (Prod.mk.inj hagg).1
    rw [hagg']
    simp only [DataW.weights, Try.underlying27]
    exact DataW.weights_mem_each (j := k) (t := t) (d := (ys[k]'(by omega)).1) ht (by rw [List.getElem?_map, List.getElem?_eq_getElem (by omega)]; rfl) q hq
  obtain ⟨x0, x1, x2, x3, x4, x5, x6, x7, x8, rfl⟩ : ∃ x0 x1 x2 x3 x4 x5 x6 x7 x8, l = [x0, x1, x2, x3, x4, x5, x6, x7, x8] := by
    match l, hcl with
    | [x0, x1, x2, x3, x4, x5, x6, x7, x8], _ => exact ⟨_, _, _, _, _, _, _, _, _, rfl⟩
  have i0 : x0 = .int .i64 fr := Option.some.inj g0
  have i3 : x3 = .int .i64 mj := Option.some.inj g3
  have i6 : x6 = .int .i64 se := Option.some.inj g6
  have i7 : x7 = .int .i64 qu := Option.some.inj g7
  have i8 : x8 = .int .i64 qt := Option.some.inj g8
  subst i0 i3 i6 i7 i8
  have h1 := hfl 1 _ rfl
  rw [List.getElem?_eq_getElem (by omega)] at h1
  have t1 : DataW.trod enc Try.prog W 0 (fun _ => true) true m2 22 [x1] = some (ys[1]'(by omega)) := h1
  have w1 := hwk 1 22 (by omega) rfl
  have h2 := hfl 2 _ rfl
  rw [List.getElem?_eq_getElem (by omega)] at h2
  have t2 : DataW.trod enc Try.prog W 0 (fun _ => true) true m2 23 [x2] = some (ys[2]'(by omega)) := h2
  have w2 := hwk 2 23 (by omega) rfl
  have h4 := hfl 4 _ rfl
  rw [List.getElem?_eq_getElem (by omega)] at h4
  have t4 : DataW.trod enc Try.prog W 0 (fun _ => true) true m2 24 [x4] = some (ys[4]'(by omega)) := h4
  have w4 := hwk 4 24 (by omega) rfl
  have h5 := hfl 5 _ rfl
  rw [List.getElem?_eq_getElem (by omega)] at h5
  have t5 : DataW.trod enc Try.prog W 0 (fun _ => true) true m2 25 [x5] = some (ys[5]'(by omega)) := h5
  have w5 := hwk 5 25 (by omega) rfl
  obtain ⟨A1, l1, c1, e1, _⟩ := slice_form Try.underlying22 t1
  obtain ⟨A2, l2, c2, e2, _⟩ := slice_form Try.underlying23 t2
  obtain ⟨ps, hps, hpz⟩ := open_parts (v := x1) (d := (ys[1]'(by omega)).1) (p := (ys[1]'(by omega)).2) ⟨_, _, _, e1⟩ ⟨m2, by subst e1; exact t1⟩ w1
  obtain ⟨ds, hds, hdz⟩ := open_devs (v := x2) (d := (ys[2]'(by omega)).1) (p := (ys[2]'(by omega)).2) ⟨_, _, _, e2⟩ ⟨m2, by subst e2; exact t2⟩ w2
  obtain ⟨ws, hws, hwz, hwn⟩ := open_wins t4 w4
  obtain ⟨gs, hgs, hgz, hgn⟩ := open_grs t5 w5
  refine ⟨⟨fr, ps, ds, mj, ws, gs, se, qu, qt⟩, x1, x2, x4, x5, rfl, ⟨hps, hpz, hds, hdz, hws, hwz, hwn, hgs, hgz, hgn⟩⟩
end Go.Proofs.Ytkaalinoiilmoaa
namespace Go.Proofs.Ytkaalinoiilmoaa
open Go.RowKit Go.ChangeShapes Go.WideShapes
set_option linter.unusedVariables false
set_option maxRecDepth 100000
theorem stps_of {H : Type} {enc : TypeId × Value → H} {W : World} {v : Value} {n : Nat} {xs : List Value} (hs : Sl W v n 7 xs)
    (hr : ∀ i, i < n → ∃ (m : Nat) (y : DataW H × List MemPlace), DataW.trod enc Try.prog W 0 (fun _ => true) true m 39 ((xs.drop (i * 7)).take 7) = some y) : ∃ l : List Stp, l.length = n ∧ xs = stcs l := by
  have hlen : xs.length = n * 7 := by obtain ⟨_, _, _, _, h, _⟩ := hs; exact h
  have key : ∀ i, i < n → ∃ x : Stp, ∀ j, j < 7 → xs[i * 7 + j]? = (stc x)[j]? := by
    intro i hi
    obtain ⟨m, y, hy⟩ := hr i hi
    obtain ⟨a0, h0, _⟩ := fld_int (P := Try.prog) Try.underlying39 hy 0 0 _ rfl rfl (by kernel_rfl) Try.underlying3
    obtain ⟨a1, h1, _⟩ := fld_int (P := Try.prog) Try.underlying39 hy 1 1 _ rfl rfl (by kernel_rfl) Try.underlying3
    obtain ⟨a2, h2, _⟩ := fld_int (P := Try.prog) Try.underlying39 hy 2 2 _ rfl rfl (by kernel_rfl) Try.underlying3
    obtain ⟨a3, h3, _⟩ := fld_int (P := Try.prog) Try.underlying39 hy 3 3 _ rfl rfl (by kernel_rfl) Try.underlying3
    obtain ⟨a4, h4, _⟩ := fld_int (P := Try.prog) Try.underlying39 hy 4 4 _ rfl rfl (by kernel_rfl) Try.underlying3
    obtain ⟨a5, h5, _⟩ := fld_int (P := Try.prog) Try.underlying39 hy 5 5 _ rfl rfl (by kernel_rfl) Try.underlying3
    obtain ⟨s, h6, _⟩ := fld_str (P := Try.prog) Try.underlying39 hy 6 6 _ rfl rfl (by kernel_rfl) Try.underlying9
    rw [elem_at _ _ _ _ (by omega)] at h0 h1 h2 h3 h4 h5 h6
    refine ⟨⟨a0, a1, a2, a3, a4, a5, s⟩, fun j hj => ?_⟩
    rcases (show j = 0 ∨ j = 1 ∨ j = 2 ∨ j = 3 ∨ j = 4 ∨ j = 5 ∨ j = 6 by omega) with rfl | rfl | rfl | rfl | rfl | rfl | rfl
    · exact h0
    · exact h1
    · exact h2
    · exact h3
    · exact h4
    · exact h5
    · exact h6
  haveI : Inhabited Stp := ⟨stD⟩
  obtain ⟨F, hF⟩ := Go.Deep.choose_lt key
  refine ⟨(List.range n).map F, by simp, ?_⟩
  apply List.ext_getElem?
  intro i
  by_cases h : i < n * 7
  · have e := stcs_get ((List.range n).map F) (i / 7) (i % 7) (by simp; omega) (by omega)
    have e2 := hF (i / 7) (by omega) (i % 7) (by omega)
    rw [show i / 7 * 7 + i % 7 = i by omega] at e e2
    rw [e, e2]
    congr 2
    have h7 : i / 7 < n := by omega
    simp [List.getD, List.getElem?_map, List.getElem?_range h7]
  · rw [List.getElem?_eq_none (by omega), List.getElem?_eq_none (by rw [stcs_len]; simp; omega)]
theorem sz_of {w : World} {v : Value} {n C B R : Nat} {xs : List Value} (h : Sl w v n C xs) (hz : ∀ A m c, v = .slice A m c → m * B ≤ R ∧ (A = none → c = 0)) : n * B ≤ R := by
  obtain ⟨A, c, e, _⟩ := h
  exact (hz _ _ _ e).1
end Go.Proofs.Ytkaalinoiilmoaa
namespace Go.Proofs.Ytkaalinoiilmoaa
open Go.RowKit
set_option linter.unusedVariables false
set_option linter.unusedSimpArgs false
set_option maxRecDepth 100000
theorem hdS_kept (c : Cf) (p : Nat) (h : Hs) (s : Stp) : hdS c h (if hdB c p h s then s else stD) = hdS c h s := by
  cases hb : hdB c p h s with
  | true => rfl
  | false =>
    have hk : 3 ≤ s.k := by
      unfold hdB at hb
      split at hb
      · omega
      · split at hb
        · omega
        · cases hb
    have e1 : hdS c h s = h := by unfold hdS; rw [if_neg (by omega), if_neg (by omega)]
    rw [e1]; rfl
theorem hdB_kept (c : Cf) (p : Nat) (h : Hs) (s : Stp) : hdB c p h (if hdB c p h s then s else stD) = true := by
  cases hb : hdB c p h s with
  | true => exact hb
  | false => rfl
theorem pgL_again (c : Cf) (p : Nat) : ∀ (l : List Stp) (h : Hs), pgL c p h (pgL c p h l) = pgL c p h l := by
  intro l
  induction l with
  | nil => intro h; rfl
  | cons s l ih =>
    intro h
    simp only [pgL]
    rw [hdB_kept, hdS_kept, ih, if_pos rfl]
theorem pgL_ways (c : Cf) (p : Nat) (l : List Stp) (h : Hs) (i : Nat) (hi : i < l.length) : (pgL c p h l).getD i stD = l.getD i stD ∨ ((pgL c p h l).getD i stD = stD ∧ 3 ≤ (l.getD i stD).k ∧ (l.getD i stD).k ≤ 16) := by
  rw [pgL_at c p l h i hi]
  cases hb : hdB c p (hdW c h (l.take i)) (l.getD i stD) with
  | true => exact .inl rfl
  | false =>
    refine .inr ⟨rfl, ?_⟩
    unfold hdB at hb
    split at hb
    · omega
    · split at hb
      · omega
      · cases hb
theorem vpurge_n {w : World} {c : Cf} {vp vd vw vg : Value} (hc : CfAt w vp vd vw vg c) (hm : cfMay c = true) (p : Nat) (hp : p < c.ps.length) (v : Value) (n : Nat) (l : List Stp) (hv : Sl w v n 7 (stcs l)) (hl : l.length = n) (hn : n * 64 ≤ 140737488351232) (r : List Stp) (hr : pgL c p (hsNew c) l = r) :
    Calls Try.prog 12 #[.agg #[.int .i64 c.fr, vp, vd, .int .i64 c.mj, vw, vg, .int .i64 c.se, .int .i64 c.qu, .int .i64 c.qt], v, .int .i64 (p : Int)] w fun e w' => ∃ g, e = .returned (.tuple #[.slice (some ⟨g, 0, none⟩) n n, .int .i64 0]) ∧ Tk nos w [obB g 39 (stcs r)] w' := by
  subst hl hr
  exact vpurge_yes hc hm p hp v l hv hn
set_option maxHeartbeats 4000000 in
theorem law_PurgeAgain (c : Cf) (vp vd vw vg : Value) (v1 : Value) (n : Nat) (x1 : List Value) (a2 : Int) (w : World) (h : CfAt w vp vd vw vg c) (hs1 : Sl w v1 n 7 x1) (hx1 : ∃ l : List Stp, l.length = n ∧ x1 = stcs l) (hz : n * 64 ≤ 140737488351232) :
    Calls Try.prog 4 #[.agg #[.int .i64 c.fr, vp, vd, .int .i64 c.mj, vw, vg, .int .i64 c.se, .int .i64 c.qu, .int .i64 c.qt], v1, .int .i64 a2] w fun e w' => e = .returned (.bool true) ∧ Below w.heap.size w w' := by
  obtain ⟨l, hl, rfl⟩ := hx1
  obtain ⟨hb, hB⟩ := cf_box w c vp vd vw vg
  have HB := Lib.hid hB; have HV := Lib.hid hb; have HA := Lib.hid (h.below hB); have HS := Lib.hid (hs1.below hB); have HL := Lib.hid hl
  obtain ⟨A, cap, rfl, hcap, -, -⟩ := hs1
  have hnl : n ≤ 9223372036854775807 := by omega
  clear h hb hB hl hcap
  by_cases hok : cfMay c = true ∧ inP c.ps.length a2 = true
  · obtain ⟨p, rfl, hp⟩ := (inP_iff _ _).1 hok.2
    have HM := Lib.hid hok.1; have HP := Lib.hid hp
    obtain ⟨P, hP⟩ : ∃ P, pgL c p (hsNew c) l = P := ⟨_, rfl⟩
    have HPL := Lib.hid (show P.length = n by rw [← hP, pgL_len, HL.out])
    have HPW := Lib.hid (fun i (hi : i < n) => (show P.getD i stD = l.getD i stD ∨ (P.getD i stD = stD ∧ 3 ≤ (l.getD i stD).k ∧ (l.getD i stD).k ≤ 16) by rw [← hP]; exact pgL_ways c p l _ i (by rw [HL.out]; exact hi)))
    have HPP := Lib.hid (show pgL c p (hsNew c) P = P by rw [← hP]; exact pgL_again c p l _)
    have HPE := Lib.hid hP
    clear hok hp hP
    go_enter Try.func4, Try.ntmps4
    go_wp2_with fail
    generalize w.alloc (.cells #[.int .i64 c.fr, vp, vd, .int .i64 c.mj, vw, vg, .int .i64 c.se, .int .i64 c.qu, .int .i64 c.qt] 27) = w1 at *
    refine (vawake_any _).mono ?_
    rintro e w2 ⟨rfl, b2⟩
    have HB2 := Lib.hid b2
    clear b2
    obtain ⟨q0, q1, q2, q3, q4, q5, q6, q7, q8⟩ := cf_at (HV.out.below HB2.out HV.out.lt)
    go_wp2_with fail
    refine (vpurge_n (HA.out.below HB2.out) HM.out p HP.out _ n l (HS.out.below HB2.out) HL.out hz P HPE.out).mono ?_
    rintro e w3 ⟨ga, rfl, t3⟩
    have T3 := Lib.hid (show Tk nos w1 [obB ga 39 (stcs P)] w3 from ((Tk.empty w1).next HB2.out).add t3)
    clear t3 HB2 q0 q1 q2 q3 q4 q5 q6 q7 q8
    go_wp2_with fail
    refine (num_any _ _).mono ?_
    rintro e we ⟨rfl, rfl⟩
    obtain ⟨q0, q1, q2, q3, q4, q5, q6, q7, q8⟩ := cf_at (HV.out.below T3.out.below HV.out.lt)
    go_wp2_with fail
    refine (vpurge_n (HA.out.below T3.out.below) HM.out p HP.out _ n P (sl_whole (T3.out.blk (i := 0) rfl) n 7 (by rw [stcs_len, HPL.out])) HPL.out hz P HPP.out).mono ?_
    rintro e w4 ⟨gb, rfl, t4⟩
    have T4 := Lib.hid (show Tk nos w1 [obB gb 39 (stcs P), obB ga 39 (stcs P)] w4 from T3.out.add t4)
    clear t4 T3 q0 q1 q2 q3 q4 q5 q6 q7 q8
    go_wp2_with fail
    refine (num_any _ _).mono ?_
    rintro e we ⟨rfl, rfl⟩
    go_wp2_with fail
    refine (same_steps _ _ n P _ (sl_whole (T4.out.blk (i := 1) rfl) n 7 (by rw [stcs_len, HPL.out])) (sl_whole (T4.out.blk (i := 0) rfl) n 7 (by rw [stcs_len, HPL.out])) HPL.out (by unfold maxLen; omega)).mono ?_
    rintro e w5 ⟨rfl, kk, rfl⟩
    have T5 := Lib.hid (T4.out.drewN kk)
    clear T4
    generalize w4.drewN kk = w5 at *
    go_wp2_with fail
    go_loopw [11, 12] (fun i b wr => ∃ (k : Nat), k ≤ n ∧ i = .int .i64 k ∧ b = b ∧ Hid (Tk nos w1 [obB gb 39 (stcs P), obB ga 39 (stcs P)] wr)) (fun i _ _ => n - (intOf i).toNat)
    case atStart => exact ⟨0, by omega, rfl, rfl, T5⟩
    case round =>
      clear T5
      obtain ⟨k, hkn, rfl, -, HT⟩ := hrel
      by_cases hlt : k < n
      · have hltI : (k : Int) < n := by omega
        obtain ⟨sb, so, rfl, -, c0, c1, c2, c3, c4, c5, c6⟩ := stcs_at (HS.out.below HT.out.below) HL.out k hlt
        obtain ⟨sb2, so2, e2, -, d0, d1, d2, d3, d4, d5, d6⟩ := stcs_at (sl_whole (HT.out.blk (i := 1) rfl) n 7 (by rw [stcs_len, HPL.out])) HPL.out k hlt
        simp only [Option.some.injEq, Addr.mk.injEq, and_true] at e2
        obtain ⟨rfl, rfl⟩ := e2
        simp only [Nat.zero_add] at d0 d1 d2 d3 d4 d5 d6
        have hway := HPW.out k hlt
        generalize P.getD k stD = y at *
        generalize l.getD k stD = x at *
        rcases hway with rfl | ⟨rfl, h3, h16⟩
        · obtain ⟨x0, x1, x2, x3, x4, x5, s⟩ := y
          simp only at c0 c1 c2 c3 c4 c5 c6 d0 d1 d2 d3 d4 d5 d6
          have e0 : (x0 == x0) = true := by simp
          have e1 : (x1 == x1) = true := by simp
          have e2 : (x2 == x2) = true := by simp
          have e3 : (x3 == x3) = true := by simp
          have e4 : (x4 == x4) = true := by simp
          have e5 : (x5 == x5) = true := by simp
          have e6 : (s.toList == s.toList) = true := by simp
          rcases (show ((x0 == 1) = true) ∨ ((x0 == 1) = false ∧ (x0 == 2) = true) ∨ ((x0 == 1) = false ∧ (x0 == 2) = false) by cases x0 == 1 <;> cases x0 == 2 <;> simp) with f1 | ⟨f1, f2⟩ | ⟨f1, f2⟩
          all_goals
            go_wp2_with fail
            go_quiet (fail)
            go_wp2_with fail
            go_roundw
            case rel => exact ⟨k + 1, by omega, by go_num, trivial, Lib.hid (HT.out.drewN _)⟩
            case measure => simp [intOf]; omega
        · obtain ⟨x0, x1, x2, x3, x4, x5, s⟩ := x
          simp only [stD] at c0 c1 c2 c3 c4 c5 c6 d0 d1 d2 d3 d4 d5 d6 h3 h16
          have f0 : ((0 : Int) == x0) = false := beq_eq_false_iff_ne.2 (by omega)
          have f1 : (x0 == 1) = false := beq_eq_false_iff_ne.2 (by omega)
          have f2 : (x0 == 2) = false := beq_eq_false_iff_ne.2 (by omega)
          go_wp2_with fail
          go_quiet (fail)
          go_wp2_with fail
          go_roundw
          case rel => exact ⟨k + 1, by omega, by go_num, trivial, Lib.hid (HT.out.drewN _)⟩
          case measure => simp [intOf]; omega
      · obtain rfl : k = n := by omega
        go_wp2_with fail
        go_ret
        exact ⟨rfl, Below.down HB.out HT.out.below HB.out.size⟩
  · have HN := Lib.hid hok
    clear hok
    go_enter Try.func4, Try.ntmps4
    go_wp2_with fail
    generalize w.alloc (.cells #[.int .i64 c.fr, vp, vd, .int .i64 c.mj, vw, vg, .int .i64 c.se, .int .i64 c.qu, .int .i64 c.qt] 27) = w1 at *
    refine (vawake_any _).mono ?_
    rintro e w2 ⟨rfl, b2⟩
    have HB2 := Lib.hid b2
    obtain ⟨q0, q1, q2, q3, q4, q5, q6, q7, q8⟩ := cf_at (HV.out.below b2 HV.out.lt)
    clear b2
    go_wp2_with fail
    refine (vpurge_no (HA.out.below HB2.out) _ _ HN.out).mono ?_
    rintro e w3 ⟨rfl, b3⟩
    have HB3 := Lib.hid (Below.down HB2.out b3 HB2.out.size)
    clear b3
    go_wp2_with fail
    refine (num_any _ _).mono ?_
    rintro e we ⟨rfl, rfl⟩
    go_wp2_with fail
    go_ret
    exact ⟨rfl, Below.down HB.out HB3.out HB.out.size⟩
end Go.Proofs.Ytkaalinoiilmoaa
namespace Go.Proofs.Ytkaalinoiilmoaa
open Go.RowKit Go.ChangeShapes Go.WideShapes Go.Deep
set_option linter.unusedVariables false
set_option maxRecDepth 100000
section
variable {H : Type} {enc : TypeId × Value → H} {P : Program}
theorem sized_sl {t e : TypeId} {B R : Nat} {W : World} {v : Value} {d : DataW H} {p : List MemPlace} (ht : P.underlying t = some (.slice e)) (hB : P.bytesOf e = B)
    (h : DataW.Trod enc P W 0 (fun _ => true) true t v d p) (hw : ∀ q ∈ d.weights P t, q ≤ R) : ∀ A n c, v = .slice A n c → n * B ≤ R ∧ (A = none → c = 0) := by
  rintro A n c rfl
  obtain ⟨fuel, hf⟩ := h
  rcases DataW.trod_slice ht hf with ⟨h0, _⟩ | ⟨a, len, cap, elems, rest, k, _, h0, hx, _, _, _, hlen, _⟩
  · simp only [Value.cells, List.cons.injEq, Value.slice.injEq, and_true] at h0
    obtain ⟨rfl, rfl, rfl⟩ := h0
    exact ⟨by simp, fun _ => rfl⟩
  · simp only [Value.cells, List.cons.injEq, Value.slice.injEq, and_true] at h0
    obtain ⟨rfl, rfl, rfl⟩ := h0
    obtain ⟨rfl, rfl⟩ := Prod.mk.inj hx
    have := hw ((elems.length + rest.length) * P.bytesOf e) (by simp [DataW.weights, ht])
    rw [hB] at this
    exact ⟨Nat.le_trans (Nat.mul_le_mul_right _ (by omega)) this, fun e => by cases e⟩
end
end Go.Proofs.Ytkaalinoiilmoaa
namespace Go.Proofs.Ytkaalinoiilmoaa
open Go.RowKit
set_option linter.unusedVariables false
set_option linter.unusedSimpArgs false
set_option maxRecDepth 100000
theorem stcs_take : ∀ (l : List Stp) (k : Nat), stcs (l.take k) = (stcs l).take (k * 7) := by
  intro l
  induction l with
  | nil => intro k; simp [stcs]
  | cons x l ih =>
    intro k
    match k with
    | 0 => simp [stcs]
    | k + 1 =>
      rw [List.take_succ_cons, stcs_cons, stcs_cons, ih, show (k + 1) * 7 = (stc x).length + k * 7 by show (k + 1) * 7 = 7 + k * 7; omega, List.take_length_add_append]
theorem sl_pre {w : World} {A : Option Addr} {n c k size : Nat} {xs : List Value} (h : Sl w (.slice A n c) n size xs) (hk : k ≤ n) : Sl w (.slice A k c) k size (xs.take (k * size)) := by
  obtain ⟨A', c', e, hc, hxl, hA⟩ := h
  simp only [Value.slice.injEq] at e
  obtain ⟨rfl, _, rfl⟩ := e
  have hks : k * size ≤ n * size := Nat.mul_le_mul_right _ hk
  refine ⟨A, c, rfl, by omega, by rw [List.length_take, hxl]; omega, fun h0 => ?_⟩
  obtain ⟨b, o, rfl, hb, hcell⟩ := hA (by omega)
  refine ⟨b, o, rfl, hb, fun j u hu => hcell j u ?_⟩
  rw [List.getElem?_take] at hu
  split at hu
  · exact hu
  · cases hu
theorem pgL_take (c : Cf) (p : Nat) : ∀ (l : List Stp) (h : Hs) (k : Nat), pgL c p h (l.take k) = (pgL c p h l).take k := by
  intro l
  induction l with
  | nil => intro h k; simp [pgL]
  | cons s l ih =>
    intro h k
    match k with
    | 0 => simp [pgL]
    | k + 1 => simp [pgL, ih]
structure VpS (w1 : World) (c : Cf) (vp vd vw vg : Value) (y : Nat) (os : List Ob) (w' : World) : Prop where
  cb : Blk w' y 27 (cfc c vp vd vw vg)
  tk : Tk nos w1 os w'
section
variable {w1 w' w2 : World} {c : Cf} {vp vd vw vg : Value} {y : Nat} {os : List Ob}
theorem VpS.next (h : VpS w1 c vp vd vw vg y os w') (hb : Below w'.heap.size w' w2) : VpS w1 c vp vd vw vg y os w2 := ⟨h.cb.below hb h.cb.lt, h.tk.next hb⟩
theorem VpS.drew (h : VpS w1 c vp vd vw vg y os w') : VpS w1 c vp vd vw vg y os w'.drew := h.next (bdrewN (Below.refl _ _) 1)
theorem VpS.all (h : VpS w1 c vp vd vw vg y os w') : (w'.cell? ⟨y, 0, none⟩ = some (.int .i64 c.fr) ∧ w'.cell? ⟨y, 1, none⟩ = some vp ∧ w'.cell? ⟨y, 2, none⟩ = some vd ∧ w'.cell? ⟨y, 3, none⟩ = some (.int .i64 c.mj) ∧ w'.cell? ⟨y, 4, none⟩ = some vw ∧ w'.cell? ⟨y, 5, none⟩ = some vg ∧ w'.cell? ⟨y, 6, none⟩ = some (.int .i64 c.se) ∧ w'.cell? ⟨y, 7, none⟩ = some (.int .i64 c.qu) ∧ w'.cell? ⟨y, 8, none⟩ = some (.int .i64 c.qt)) ∧ VpS w1 c vp vd vw vg y os w' :=
  ⟨cf_at h.cb, h⟩
end
set_option maxHeartbeats 4000000 in
theorem law_PurgeParts (c : Cf) (vp vd vw vg : Value) (v1 : Value) (n : Nat) (x1 : List Value) (a2 a3 : Int) (w : World) (h : CfAt w vp vd vw vg c) (hs1 : Sl w v1 n 7 x1) (hx1 : ∃ l : List Stp, l.length = n ∧ x1 = stcs l) (hz : n * 64 ≤ 140737488351232) :
    Calls Try.prog 8 #[.agg #[.int .i64 c.fr, vp, vd, .int .i64 c.mj, vw, vg, .int .i64 c.se, .int .i64 c.qu, .int .i64 c.qt], v1, .int .i64 a2, .int .i64 a3] w fun e w' => e = .returned (.bool true) ∧ Below w.heap.size w w' := by
  obtain ⟨l, hl, rfl⟩ := hx1
  obtain ⟨hb, hB⟩ := cf_box w c vp vd vw vg
  have HB := Lib.hid hB; have HV := Lib.hid hb; have HA := Lib.hid (h.below hB); have HS := Lib.hid (hs1.below hB); have HL := Lib.hid hl
  obtain ⟨A, cap, rfl, hcap, -, -⟩ := hs1
  have hnl : n ≤ 9223372036854775807 := by omega
  have hU3 := u64b a3
  generalize hU3' : IntKind.u64.wrap a3 = U3 at hU3
  have hnw : IntKind.u64.wrap ((n : Int) + 1) = (n : Int) + 1 := by rw [IntKind.wrap_u64]; omega
  have hk : ∃ x : Nat, U3 % ((n : Int) + 1) = x ∧ x ≤ n := ⟨(U3 % ((n : Int) + 1)).toNat, by have := Int.emod_nonneg U3 (show ((n : Int) + 1) ≠ 0 by omega); omega, by have := Int.emod_nonneg U3 (show ((n : Int) + 1) ≠ 0 by omega); have := Int.emod_lt_of_pos U3 (show (0 : Int) < (n : Int) + 1 by omega); omega⟩
  obtain ⟨k, ek, hk⟩ := hk
  have HK := Lib.hid hk
  have hk0 : (0 : Int) ≤ (k : Int) := by omega
  have hkc : (k : Int) ≤ (cap : Int) := by omega
  have hkn : (k : Int) ≤ (n : Int) := by omega
  clear h hb hB hl
  by_cases hok : cfMay c = true ∧ inP c.ps.length a2 = true
  · obtain ⟨p, rfl, hp⟩ := (inP_iff _ _).1 hok.2
    have HM := Lib.hid hok.1; have HP := Lib.hid hp
    obtain ⟨P, hP⟩ : ∃ P, pgL c p (hsNew c) l = P := ⟨_, rfl⟩
    have HPL := Lib.hid (show P.length = n by rw [← hP, pgL_len, HL.out])
    have HPP := Lib.hid (show pgL c p (hsNew c) (l.take k) = P.take k by rw [← hP]; exact pgL_take c p l _ k)
    have HPE := Lib.hid hP
    clear hok hp hP
    go_enter Try.func8, Try.ntmps8
    go_wp2_with fail
    generalize w.alloc (.cells #[.int .i64 c.fr, vp, vd, .int .i64 c.mj, vw, vg, .int .i64 c.se, .int .i64 c.qu, .int .i64 c.qt] 27) = w1 at *
    generalize hy : w.heap.size = y at *
    refine (vawake_any _).mono ?_
    rintro e w2 ⟨rfl, b2⟩
    have HB2 := Lib.hid b2
    clear b2
    obtain ⟨q0, q1, q2, q3, q4, q5, q6, q7, q8⟩ := cf_at (HV.out.below HB2.out HV.out.lt)
    go_wp2_with fail
    refine (vpurge_n (HA.out.below HB2.out) HM.out p HP.out _ n l (HS.out.below HB2.out) HL.out hz P HPE.out).mono ?_
    rintro e w3 ⟨ga, rfl, t3⟩
    have T3 := Lib.hid (show Tk nos w1 [obB ga 39 (stcs P)] w3 from ((Tk.empty w1).next HB2.out).add t3)
    have hS : VpS w1 c vp vd vw vg y [obB ga 39 (stcs P)] w3 := ⟨HV.out.below T3.out.below HV.out.lt, T3.out⟩
    clear t3 HB2 q0 q1 q2 q3 q4 q5 q6 q7 q8
    go_wp2_with fail
    have HRk := Lib.hid (fun (W : World) (hW : Below w1.heap.size w1 W) => vpurge_n (HA.out.below hW) HM.out p HP.out (.slice A k cap) k (l.take k) (by rw [stcs_take]; exact (sl_pre (HS.out) HK.out).below hW) (by rw [List.length_take, HL.out]; have := HK.out; omega) (by have := HK.out; omega) (P.take k) HPP.out)
    go_region_held3 (fun w' => (w'.cell? ⟨y, 0, none⟩ = some (.int .i64 c.fr) ∧ w'.cell? ⟨y, 1, none⟩ = some vp ∧ w'.cell? ⟨y, 2, none⟩ = some vd ∧ w'.cell? ⟨y, 3, none⟩ = some (.int .i64 c.mj) ∧ w'.cell? ⟨y, 4, none⟩ = some vw ∧ w'.cell? ⟨y, 5, none⟩ = some vg ∧ w'.cell? ⟨y, 6, none⟩ = some (.int .i64 c.se) ∧ w'.cell? ⟨y, 7, none⟩ = some (.int .i64 c.qu) ∧ w'.cell? ⟨y, 8, none⟩ = some (.int .i64 c.qt)) ∧ VpS w1 c vp vd vw vg y [obB ga 39 (stcs P)] w')
      ((go_split_ands; refine VpS.all ?_; (first | with_reducible assumption | with_reducible exact VpS.drew (by assumption) | with_reducible exact VpS.next (by assumption) (by assumption))))
      (first
        | (go_at_call 12; refine (HRk.out _ (VpS.tk (vp := vp) (y := y) (c := c) (vd := vd) (vw := vw) (vg := vg) (os := [obB ga 39 (stcs P)]) (by go_split_ands; assumption)).below).mono ?_; rintro e w5 ⟨gb, rfl, t5⟩; have b5 := t5.below))
    have T5 := Lib.hid (show Tk nos w1 [obB gb 39 (stcs (P.take k)), obB ga 39 (stcs P)] w5 from (T3.out.drewN 1).add t5)
    have e1 : ((n : Int) == n) = true := by simp
    have e2 : ((k : Int) == k) = true := by simp
    have hkn2 : (k : Int) ≤ (n : Int) := hkn
    clear t5 b5 T3 hS HRk
    go_wp2_with fail
    refine (num_any _ _).mono ?_
    rintro e we ⟨rfl, rfl⟩
    go_wp2_with fail
    refine (num_any _ _).mono ?_
    rintro e we ⟨rfl, rfl⟩
    go_wp2_with fail
    refine (num_any _ _).mono ?_
    rintro e we ⟨rfl, rfl⟩
    go_wp2_with fail
    refine (same_steps _ _ k (P.take k) _ (by rw [stcs_take]; exact sl_pre (sl_whole (T5.out.blk (i := 1) rfl) n 7 (by rw [stcs_len, HPL.out])) HK.out) (sl_whole (T5.out.blk (i := 0) rfl) k 7 (by rw [stcs_len, List.length_take, HPL.out]; have := HK.out; omega)) (by rw [List.length_take, HPL.out]; have := HK.out; omega) (by unfold maxLen; omega)).mono ?_
    rintro e w6 ⟨rfl, kk, rfl⟩
    have T6 := Lib.hid (T5.out.drewN kk)
    clear T5
    generalize w5.drewN kk = w6 at *
    go_wp2_with fail
    go_ret
    exact ⟨rfl, by rw [hy]; exact Below.down HB.out T6.out.below (by have := HB.out.size; omega)⟩
  · have HN := Lib.hid hok
    clear hok
    go_enter Try.func8, Try.ntmps8
    go_wp2_with fail
    generalize w.alloc (.cells #[.int .i64 c.fr, vp, vd, .int .i64 c.mj, vw, vg, .int .i64 c.se, .int .i64 c.qu, .int .i64 c.qt] 27) = w1 at *
    generalize hy : w.heap.size = y at *
    refine (vawake_any _).mono ?_
    rintro e w2 ⟨rfl, b2⟩
    have HB2 := Lib.hid b2
    obtain ⟨q0, q1, q2, q3, q4, q5, q6, q7, q8⟩ := cf_at (HV.out.below b2 HV.out.lt)
    clear b2
    go_wp2_with fail
    refine (vpurge_no (HA.out.below HB2.out) _ _ HN.out).mono ?_
    rintro e w3 ⟨rfl, b3⟩
    have T3 := Lib.hid ((Tk.empty w1).next (Below.down HB2.out b3 HB2.out.size))
    have hS : VpS w1 c vp vd vw vg y [] w3 := ⟨HV.out.below T3.out.below HV.out.lt, T3.out⟩
    clear b3 HB2 q0 q1 q2 q3 q4 q5 q6 q7 q8
    go_wp2_with fail
    have HRk := Lib.hid (fun (W : World) (hW : Below w1.heap.size w1 W) => vpurge_no (HA.out.below hW) (.slice A k cap) _ HN.out)
    go_region_held3 (fun w' => (w'.cell? ⟨y, 0, none⟩ = some (.int .i64 c.fr) ∧ w'.cell? ⟨y, 1, none⟩ = some vp ∧ w'.cell? ⟨y, 2, none⟩ = some vd ∧ w'.cell? ⟨y, 3, none⟩ = some (.int .i64 c.mj) ∧ w'.cell? ⟨y, 4, none⟩ = some vw ∧ w'.cell? ⟨y, 5, none⟩ = some vg ∧ w'.cell? ⟨y, 6, none⟩ = some (.int .i64 c.se) ∧ w'.cell? ⟨y, 7, none⟩ = some (.int .i64 c.qu) ∧ w'.cell? ⟨y, 8, none⟩ = some (.int .i64 c.qt)) ∧ VpS w1 c vp vd vw vg y [] w')
      ((go_split_ands; refine VpS.all ?_; (first | with_reducible assumption | with_reducible exact VpS.drew (by assumption) | with_reducible exact VpS.next (by assumption) (by assumption))))
      (first
        | (go_at_call 12; refine (HRk.out _ (VpS.tk (vp := vp) (y := y) (c := c) (vd := vd) (vw := vw) (vg := vg) (os := []) (by go_split_ands; assumption)).below).mono ?_; rintro e w5 ⟨rfl, b5⟩))
    have T5 := Lib.hid ((T3.out.drewN 1).next b5)
    clear b5 T3 hS HRk
    go_wp2_with fail
    refine (num_any _ _).mono ?_
    rintro e we ⟨rfl, rfl⟩
    go_wp2_with fail
    refine (num_any _ _).mono ?_
    rintro e we ⟨rfl, rfl⟩
    go_wp2_with fail
    refine (num_any _ _).mono ?_
    rintro e we ⟨rfl, rfl⟩
    go_wp2_with fail
    go_ret
    exact ⟨rfl, by rw [hy]; exact Below.down HB.out T5.out.below (by have := HB.out.size; omega)⟩
end Go.Proofs.Ytkaalinoiilmoaa
namespace Go.Proofs.Ytkaalinoiilmoaa
open Go.RowKit
set_option linter.unusedVariables false
set_option linter.unusedSimpArgs false
set_option maxRecDepth 100000
theorem pgC_len (p : Nat) : ∀ (l : List Stp) (h : Hs), (pgC p h l).length = l.length := by
  intro l
  induction l with
  | nil => intro h; rfl
  | cons s l ih => intro h; simp [pgC, ih]
theorem pgC_at (p : Nat) : ∀ (l : List Stp) (h : Hs) (i : Nat), i < l.length → (pgC p h l).getD i stD = if hdC p (hdW plC h (l.take i)) (l.getD i stD) then l.getD i stD else stD := by
  intro l
  induction l with
  | nil => intro h i hi; simp at hi
  | cons s l ih =>
    intro h i hi
    match i with
    | 0 => rfl
    | i + 1 =>
      have := ih (hdS plC h s) i (by simpa using hi)
      simpa [pgC, hdW] using this
theorem pgC_call {p : Nat} {l : List Stp} {h : Hs} {i : Nat} (hi : i < l.length) (h5 : 5 ≤ (l.getD i stD).k) (h16 : (l.getD i stD).k ≤ 16) : (pgC p h l).getD i stD = if flC (l.getD i stD).p p then l.getD i stD else stD := by
  rw [pgC_at p l h i hi]
  have e : hdC p (hdW plC h (l.take i)) (l.getD i stD) = flC (l.getD i stD).p p := by
    unfold hdC
    rw [if_neg (by omega), if_pos ⟨h5, h16⟩]
  rw [e]
set_option maxHeartbeats 4000000 in
theorem law_PurgeCalls (v0 : Value) (n : Nat) (x0 : List Value) (a1 : Int) (w : World) (hs0 : Sl w v0 n 7 x0) (hx0 : ∃ l : List Stp, l.length = n ∧ x0 = stcs l) (hz : n * 64 ≤ 140737488351232) :
    Calls Try.prog 6 #[v0, .int .i64 a1] w fun e w' => e = .returned (.bool true) ∧ Below w.heap.size w w' := by
  obtain ⟨l, hl, rfl⟩ := hx0
  have HS := Lib.hid hs0; have HL := Lib.hid hl
  obtain ⟨A, cap, rfl, hcap, -, -⟩ := hs0
  have hnl : n ≤ 9223372036854775807 := by omega
  have hU1 := u64b a1
  generalize hU1' : IntKind.u64.wrap a1 = U1 at hU1
  obtain ⟨p, ep, hp⟩ : ∃ p : Nat, U1 % 3 = p ∧ p < 3 := ⟨(U1 % 3).toNat, by omega, by omega⟩
  have hp3 : (p : Int) < 3 := by omega
  have HP := Lib.hid hp
  obtain ⟨P, hP⟩ : ∃ P, pgC p (hsNew plC) l = P := ⟨_, rfl⟩
  have HPL := Lib.hid (show P.length = n by rw [← hP, pgC_len, HL.out])
  have HPC := Lib.hid (fun i (hi : i < n) (h5 : 5 ≤ (l.getD i stD).k) (h16 : (l.getD i stD).k ≤ 16) => (show P.getD i stD = if flC (l.getD i stD).p p then l.getD i stD else stD by rw [← hP]; exact pgC_call (by rw [HL.out]; exact hi) h5 h16))
  have HPE := Lib.hid hP
  clear hP hl
  go_enter Try.func6, Try.ntmps6
  go_wp2_with fail
  refine (vawake_any _).mono ?_
  rintro e w1 ⟨rfl, b1⟩
  have HB := Lib.hid b1
  clear b1
  go_wp2_with fail
  refine (pl_plain _).mono ?_
  rintro e w2 ⟨b4, b7, b8, b9, rfl, hc, hbel⟩
  have HC := Lib.hid hc
  have t1 := ((Tk.empty w).next (Below.down HB.out hbel HB.out.size)).alloc 27 (plV b4 b7 b8 b9)
  have HC2 := Lib.hid (hc.below ((Below.refl _ _).alloc (Nat.le_refl w2.heap.size) (.cells (plV b4 b7 b8 b9).toArray 27)))
  obtain ⟨q0, q1, q2, q3, q4, q5, q6, q7, q8⟩ := plV_at (t1.blk (i := 0) rfl)
  have T1 := Lib.hid t1
  clear t1 hc hbel HC HB
  unfold plV at *
  go_wp2_with fail
  refine (pl_purge HC2.out _ n p l (HS.out.below T1.out.below) HL.out hz HP.out P HPE.out).mono ?_
  rintro e w3 ⟨ga, rfl, t3⟩
  have T3 := Lib.hid ((T1.out.add t3).sub (List.Sublist.cons_cons _ (List.nil_sublist _)) : Tk nos w [obB ga 39 (stcs P)] w3)
  clear t3 T1 HC2 q0 q1 q2 q3 q4 q5 q6 q7 q8
  have en : ((n : Int) == n) = true := by simp
  go_wp2_with fail
  refine (num_any _ _).mono ?_
  rintro e we ⟨rfl, rfl⟩
  go_wp2_with fail
  go_loopw [9, 10, 11, 12] (fun i a b c wr => ∃ (k : Nat), k ≤ n ∧ i = .int .i64 k ∧ a = a ∧ b = b ∧ c = c ∧ Hid (Tk nos w [obB ga 39 (stcs P)] wr)) (fun i _ _ _ _ => n - (intOf i).toNat)
  case atStart => exact ⟨0, by omega, rfl, rfl, rfl, rfl, T3⟩
  case round =>
    clear T3
    obtain ⟨k, hkn, rfl, -, -, -, HT⟩ := hrel
    by_cases hlt : k < n
    · have hltI : (k : Int) < n := by omega
      obtain ⟨sb, so, rfl, -, c0, c1, c2, c3, c4, c5, c6⟩ := stcs_at (HS.out.below HT.out.below) HL.out k hlt
      have hPC := HPC.out k hlt
      have hX : ∀ W : World, Below wr.heap.size wr W → (W.cell? ⟨ga, k * 7, none⟩ = some (.int .i64 (P.getD k stD).k) ∧ W.cell? ⟨ga, k * 7 + 1, none⟩ = some (.int .i64 (P.getD k stD).p) ∧ W.cell? ⟨ga, k * 7 + 2, none⟩ = some (.int .i64 (P.getD k stD).d) ∧ W.cell? ⟨ga, k * 7 + 3, none⟩ = some (.int .i64 (P.getD k stD).a) ∧ W.cell? ⟨ga, k * 7 + 4, none⟩ = some (.int .i64 (P.getD k stD).b) ∧ W.cell? ⟨ga, k * 7 + 5, none⟩ = some (.int .i64 (P.getD k stD).c) ∧ W.cell? ⟨ga, k * 7 + 6, none⟩ = some (.string (P.getD k stD).s)) := by
        intro W hW
        obtain ⟨sb2, so2, e2, -, d0, d1, d2, d3, d4, d5, d6⟩ := stcs_at (sl_whole ((HT.out.next hW).blk (i := 0) rfl) n 7 (by rw [stcs_len, HPL.out])) HPL.out k hlt
        simp only [Option.some.injEq, Addr.mk.injEq, and_true] at e2
        obtain ⟨rfl, rfl⟩ := e2
        simp only [Nat.zero_add] at d0 d1 d2 d3 d4 d5 d6
        exact ⟨d0, d1, d2, d3, d4, d5, d6⟩
      generalize P.getD k stD = y at *
      generalize l.getD k stD = x at *
      obtain ⟨x0, x1, x2, x3, x4, x5, s⟩ := x
      simp only at c0 c1 c2 c3 c4 c5 c6 hPC
      have hA := hX (wr.alloc (.cells #[.int .i64 x0, .int .i64 x1, .int .i64 x2, .int .i64 x3, .int .i64 x4, .int .i64 x5, .string s] 39)) ((Below.refl _ _).alloc (Nat.le_refl _) _)
      have hs0 := stp_cells (show Blk (wr.alloc (.cells #[.int .i64 x0, .int .i64 x1, .int .i64 x2, .int .i64 x3, .int .i64 x4, .int .i64 x5, .string s] 39)) wr.heap.size 39 (stc ⟨x0, x1, x2, x3, x4, x5, s⟩) from Blk.new wr _ (stc ⟨x0, x1, x2, x3, x4, x5, s⟩))
      obtain ⟨s0, s1, s2, s3, s4, s5, s6⟩ := hs0
      simp only at s0 s1 s2 s3 s4 s5 s6
      clear hX
      rcases (show x0 < 5 ∨ (5 ≤ x0 ∧ 16 < x0) ∨ (5 ≤ x0 ∧ x0 ≤ 16) by omega) with hk5 | ⟨hk5, hk16⟩ | ⟨hk5, hk16⟩
      · clear hPC hA
        have n5 : decide (x0 < 5) = true := by simp; omega
        go_wp2_with fail
        go_roundw
        case rel => exact ⟨k + 1, by omega, by go_num, trivial, trivial, trivial, Lib.hid (HT.out.next ((Below.refl _ _).alloc (Nat.le_refl _) _))⟩
        case measure => simp [intOf]; omega
      · clear hPC hA
        have n5 : decide (x0 < 5) = false := by simp; omega
        have n16 : decide (16 < x0) = true := by simp; omega
        go_wp2_with fail
        go_roundw
        case rel => exact ⟨k + 1, by omega, by go_num, trivial, trivial, trivial, Lib.hid (HT.out.next ((Below.refl _ _).alloc (Nat.le_refl _) _))⟩
        case measure => simp [intOf]; omega
      · have hY := hPC hk5 hk16
        clear hPC
        have n5 : decide (x0 < 5) = false := by simp; omega
        have n16 : decide (16 < x0) = false := by simp; omega
        rcases (show (x1 < 0) ∨ (0 ≤ x1 ∧ 3 ≤ x1) ∨ (0 ≤ x1 ∧ x1 < 3 ∧ x1 = p) ∨ (0 ≤ x1 ∧ x1 < 3 ∧ x1 ≠ p ∧ x1 = 0) ∨ (0 ≤ x1 ∧ x1 < 3 ∧ x1 ≠ p ∧ x1 ≠ 0) by omega) with h1 | ⟨h1, h2⟩ | ⟨h1, h2, h3⟩ | ⟨h1, h2, h3, h4⟩ | ⟨h1, h2, h3, h4⟩
        · have hf : flC x1 p = false := by unfold flC inP; rw [decide_eq_false (by omega)]; rfl
          rw [hf] at hY
          obtain rfl := hY
          simp only [Bool.false_eq_true, if_false, stD] at hA
          obtain ⟨d0, d1, d2, d3, d4, d5, d6⟩ := hA
          have t1 : decide (0 ≤ x1) = false := by simp; omega
          skip
          go_wp2_with fail
          go_quiet (fail)
          go_wp2_with fail
          go_roundw
          case rel => exact ⟨k + 1, by omega, by go_num, trivial, trivial, trivial, Lib.hid (HT.out.next (bdrewN ((Below.refl _ _).alloc (Nat.le_refl _) _) _))⟩
          case measure => simp [intOf]; omega
        · have hf : flC x1 p = false := by unfold flC inP; rw [decide_eq_false (by omega)]; rfl
          rw [hf] at hY
          obtain rfl := hY
          simp only [Bool.false_eq_true, if_false, stD] at hA
          obtain ⟨d0, d1, d2, d3, d4, d5, d6⟩ := hA
          have t1 : decide (0 ≤ x1) = true := by simp; omega
          have t2 : decide (x1 < 3) = false := by simp; omega
          skip
          go_wp2_with fail
          go_quiet (fail)
          go_wp2_with fail
          go_roundw
          case rel => exact ⟨k + 1, by omega, by go_num, trivial, trivial, trivial, Lib.hid (HT.out.next (bdrewN ((Below.refl _ _).alloc (Nat.le_refl _) _) _))⟩
          case measure => simp [intOf]; omega
        · have hf : flC x1 p = true := by unfold flC inP; rw [decide_eq_true ⟨h1, by omega⟩, decide_eq_true (show x1.toNat = p by omega)]; rfl
          rw [hf] at hY
          obtain rfl := hY
          simp only [if_true] at hA
          obtain ⟨d0, d1, d2, d3, d4, d5, d6⟩ := hA
          have t1 : decide (0 ≤ x1) = true := by simp; omega
          have t2 : decide (x1 < 3) = true := by simp; omega
          have t3 : (x1 == (p : Int)) = true := by simp; omega
          clear h3
          have g0 : (x0 == x0) = true := by simp
          have g1 : (x1 == x1) = true := by simp
          have g2 : (x2 == x2) = true := by simp
          have g3 : (x3 == x3) = true := by simp
          have g4 : (x4 == x4) = true := by simp
          have g5 : (x5 == x5) = true := by simp
          have g6 : (s.toList == s.toList) = true := by simp
          go_wp2_with fail
          go_quiet (fail)
          go_wp2_with fail
          go_roundw
          case rel => exact ⟨k + 1, by omega, by go_num, trivial, trivial, trivial, Lib.hid (HT.out.next (bdrewN ((Below.refl _ _).alloc (Nat.le_refl _) _) _))⟩
          case measure => simp [intOf]; omega
        · have hf : flC x1 p = true := by unfold flC inP; rw [decide_eq_true ⟨h1, by omega⟩, decide_eq_true (show x1.toNat = 0 by omega)]; simp
          rw [hf] at hY
          obtain rfl := hY
          simp only [if_true] at hA
          obtain ⟨d0, d1, d2, d3, d4, d5, d6⟩ := hA
          have t1 : decide (0 ≤ x1) = true := by simp; omega
          have t2 : decide (x1 < 3) = true := by simp; omega
          have t3 : (x1 == (p : Int)) = false := beq_eq_false_iff_ne.2 h3
          have t4 : (x1 == 0) = true := by simp; omega
          clear h4
          have g0 : (x0 == x0) = true := by simp
          have g1 : (x1 == x1) = true := by simp
          have g2 : (x2 == x2) = true := by simp
          have g3 : (x3 == x3) = true := by simp
          have g4 : (x4 == x4) = true := by simp
          have g5 : (x5 == x5) = true := by simp
          have g6 : (s.toList == s.toList) = true := by simp
          go_wp2_with fail
          go_quiet (fail)
          go_wp2_with fail
          go_roundw
          case rel => exact ⟨k + 1, by omega, by go_num, trivial, trivial, trivial, Lib.hid (HT.out.next (bdrewN ((Below.refl _ _).alloc (Nat.le_refl _) _) _))⟩
          case measure => simp [intOf]; omega
        · have hf : flC x1 p = false := by unfold flC; rw [decide_eq_false (show ¬ x1.toNat = p by omega), decide_eq_false (show ¬ x1.toNat = 0 by omega)]; simp
          rw [hf] at hY
          obtain rfl := hY
          simp only [Bool.false_eq_true, if_false, stD] at hA
          obtain ⟨d0, d1, d2, d3, d4, d5, d6⟩ := hA
          have t1 : decide (0 ≤ x1) = true := by simp; omega
          have t2 : decide (x1 < 3) = true := by simp; omega
          have t3 : (x1 == (p : Int)) = false := beq_eq_false_iff_ne.2 h3
          have t4 : (x1 == 0) = false := beq_eq_false_iff_ne.2 h4
          skip
          go_wp2_with fail
          go_quiet (fail)
          go_wp2_with fail
          go_roundw
          case rel => exact ⟨k + 1, by omega, by go_num, trivial, trivial, trivial, Lib.hid (HT.out.next (bdrewN ((Below.refl _ _).alloc (Nat.le_refl _) _) _))⟩
          case measure => simp [intOf]; omega
    · obtain rfl : k = n := by omega
      go_wp2_with fail
      go_ret
      exact ⟨rfl, HT.out.below⟩
end Go.Proofs.Ytkaalinoiilmoaa
