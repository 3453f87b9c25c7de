/-
  Layer 20, the document: Receive, NewSwitch.
-/
import Derived.Test.YtfkdohnpfjdehaaNd1
import Derived.Test.YtfkdohnpfjdehaaNcL
import Derived.Laws.ResultCell
import Derived.BigRegion
import Derived.Deep.CutBlock
import Derived.Deep.DeepCutAuto
namespace Go.Proofs.Ytfkdohnpfjdehaa
open Go.RowKit
set_option linter.unusedVariables false
set_option linter.unusedSimpArgs false
set_option maxRecDepth 100000

theorem msl_from (b len cap : Nat) (hk : 1 ≤ len) (hc : len ≤ cap) (h17 : len ≤ 8) : ∃ o, (len - 1 = 0 ∨ o = 2) ∧ ∀ w, (Instr.slice 46 (.slice (some ⟨b, 0, none⟩) len cap) (some (.int .i64 1)) none none).run Try.prog w = .ok (.slice (some ⟨b, o, none⟩) (len - 1) (cap - 1)) w := by
  obtain ⟨i0, hi, _, hz1, _⟩ := info_parts infoMs
  have he : Try.prog.elem 46 = 41 := by kernel_rfl
  have hz : ∀ w, (Go.sizeOf 41).run Try.prog w = .ok 2 w := by intro w; simp [Go.sizeOf, typeInfo, hi, hz1]
  have key := fun w => run_slice_l w 46 (some ⟨b, 0, none⟩) len cap (by rw [he]; exact Try.underlying46) .i64 (1 : Int) (by omega) (by omega)
  by_cases h : cap = 1
  · exact ⟨0, .inl (by omega), fun w => by rw [key, he, hz]; simp [Result.andThen, sliced, h]⟩
  · exact ⟨2, .inr rfl, fun w => by rw [key, he, hz]; simp [Result.andThen, sliced, h, add_none]⟩
theorem run_append_no (w : World) (ty : TypeId) (e : Addr) (A : Option Addr) (c : Nat) : (Builtin.append_ #[46, 46] ty #[.slice (some e) 0 0, .slice A 0 c]).run Try.prog w = .ok (.slice (some e) 0 0) w := by
  obtain ⟨i, hi, hz0, hz1, hz2⟩ := info_parts infoMs
  cases A <;> simp [Builtin.append_, run_underlying Try.underlying46, sizeOf, typeInfo, hi, Builtin.lenOf, Builtin.firstCells, loadCells, loadCellsFrom, storeCells, add_none]
theorem res_msg {P : Program} {fn : Func} {p q : Tmp} {ty : TypeId} (h : fn.results = #[.cell p ty, .tmp q]) (tmps : Array Value) (w : World) (g : Nat) (t : TypeId) (m : Ms) (d : TypeDesc)
    (hp : tmps.getD p undef = .pointer (some ⟨g, 0, none⟩)) (hg : Blk w g t (mcs m))
    (hu : P.underlying ty = some d) (hd : d.isRow = true) (hi : (P.info? ty).map (·.size) = some 2) :
    (results fn tmps).run P w = .ok (.tuple #[.agg (mcs m).toArray, tmps.getD q undef]) w := by
  have hp' : tmps[p]?.getD undef = .pointer (some ⟨g, 0, none⟩) := by simpa using hp
  simp [results, h, hp', asAddr, run_loadVar_mid w g 0 ty (mcs m) d hg.mid hu hd hi]

section
variable {w : World} {g a ca : Nat} {V : Nat → Value} {ls : List (Int × Int)} {Q : Nat → List Ms} {D : Nat → Int}
theorem alloc_setCell (w : World) (p : Addr) (v : Value) (o : Obj) (h : p.block < w.heap.size) : (w.setCell p v).alloc o = (w.alloc o).setCell p v := by
  have e : ∀ f : Obj → Obj, (w.heap.modify p.block f).push o = (w.heap.push o).modify p.block f := by
    intro f
    apply Array.ext_getElem?
    intro i
    simp only [Array.getElem?_push, Array.getElem?_modify, Array.size_modify]
    by_cases h1 : i = w.heap.size
    · subst h1; rw [if_pos rfl, if_neg (by omega)]; simp
    · simp only [if_neg h1]
  unfold World.setCell World.alloc
  simp [e]
/-- A block of its own besides, of two cells, written. -/
theorem RsL.two {w1 : World} {b : Nat} (d : RS w g a ca V ls Q D) (hb : Below b w w1) (hbk : w.heap.size = b) (u v : Value) : RsL w g a ca V ls Q D ((w1.setCell ⟨b, 0, none⟩ u).setCell ⟨b, 1, none⟩ v) := by
  subst hbk
  have h2 := (hb.setCell (p := ⟨w.heap.size, 0, none⟩) (Nat.le_refl _) u).setCell (p := ⟨w.heap.size, 1, none⟩) (Nat.le_refl _) v
  exact RsL.same (d.below h2) (Fo.of h2 _)

/-- Behind the row of a Receive: the Switch, the message told, the block to be written. -/
def RvS (w : World) (g a ca : Nat) (V : Nat → Value) (ls : List (Int × Int)) (Q' : Nat → List Ms) (D : Nat → Int) (m : Ms) (b5 : Nat) (wx : World) : Prop :=
  ∃ V', RS wx g a ca V' ls Q' D ∧ Fo (sRS g a V) w wx ∧ (∀ p, p < 4 → ∀ b, (V' p).ownBlock = some b → sRS g a V b ∨ w.heap.size < b) ∧ Blk wx b5 41 (mcs m) ∧ Blk wx w.heap.size 41 [.int .i64 0, .string ByteArray.empty] ∧ ∀ b, sRS g a V b → b < w.heap.size
/-- The row put in its place, in a world that is one with what is new. -/
theorem RvS.of {w5 w6 : World} {b5 : Nat} {m : Ms} (d : RS w g a ca V ls Q D) (hb : Below w.heap.size w w5) (h5 : Blk w5 b5 41 (mcs m)) (h0 : Blk w5 w.heap.size 41 [.int .i64 0, .string ByteArray.empty]) (hk : ∀ i, i < w5.heap.size → w6.heap[i]? = w5.heap[i]?) (hf : Fo (fun _ => False) w5 w6)
    (p : Nat) (hp : p < 4) (q : List Ms) (h8 : q.length ≤ 8) (v : Value) (own : w6.ownsRow 0 41 2 v q.length (mss q)) (hv : ∀ b, v.ownBlock = some b → w5.heap.size ≤ b) : RvS w g a ca V ls (upF Q p q) D m b5 (w6.setCell ⟨g, 1 + p, none⟩ v) := by
  have d5 := d.below hb
  have hgr : w5.grownBy w6 (V p).ownBlock := ⟨hf.os, hf.tape, hf.output, hf.size, fun i hi _ => hk i hi⟩
  have hne : ∀ b, b < w5.heap.size → b ≠ g → (w6.setCell ⟨g, 1 + p, none⟩ v).heap[b]? = w5.heap[b]? := fun b hb hg => (Below.heap_setCell w6 ⟨g, 1 + p, none⟩ _ b hg).trans (hk b hb)
  have hgw := d.blk.lt
  have haw := (d.lab.lt a rfl).2
  have hs := hb.size
  refine ⟨_, d5.putQ p hp q h8 v hgr own (fun b hb => .inr (hv b hb)), (Fo.of hb _).trans_new (Fo.putQ d5 p hp v hgr) (fun _ h => .inl h), fun i hi b hb2 => ?_, ?_, ?_, fun b hb => d.lt hb⟩
  · by_cases hip : i = p
    · subst hip
      rw [upF_here] at hb2
      have := hv b hb2
      have := h0.lt
      exact .inr (by omega)
    · rw [upF_far _ _ hip] at hb2
      exact .inl (.inr (.inr ⟨i, hi, hb2⟩))
  · exact (hne b5 h5.lt (fun e => by subst e; exact (h5.apart d5.blk (by decide)) rfl)).trans h5
  · exact (hne _ h0.lt (by omega)).trans h0
theorem RvS.ends {w5 : World} {b5 : Nat} {m : Ms} (h : RvS w g a ca V ls Q D m b5 w5) (u v : Value) : RsL w g a ca V ls Q D ((w5.setCell ⟨w.heap.size, 0, none⟩ u).setCell ⟨w.heap.size, 1, none⟩ v) := by
  obtain ⟨V', d, f, hv, _, _, hs⟩ := h
  have hne : ∀ b, sRS g a V' b → b ≠ w.heap.size := fun b hb e => by
    subst e
    rcases hb with h | h | ⟨p, hp, h⟩
    · have := hs _ (.inl h); omega
    · have := hs _ (.inr (.inl h)); omega
    · rcases hv p hp _ h with h1 | h1
      · have := hs _ h1; omega
      · omega
  have hk : ∀ b, sRS g a V' b → ((w5.setCell ⟨w.heap.size, 0, none⟩ u).setCell ⟨w.heap.size, 1, none⟩ v).heap[b]? = w5.heap[b]? := fun b hb =>
    (Below.heap_setCell _ ⟨w.heap.size, 1, none⟩ _ b (hne b hb)).trans (Below.heap_setCell _ ⟨w.heap.size, 0, none⟩ _ b (hne b hb))
  exact ⟨V', d.keep hk, (f.set (.inr (Nat.le_refl _)) _).set (.inr (Nat.le_refl _)) _, fun p hp b hb => (hv p hp b hb).imp id (fun h => by omega)⟩
/-- The cells that the row's store asks for. -/
theorem RvS.at_ {w5 w6 : World} {o : Obj} (d : RS w5 g a ca V ls Q D) (gr : (w5.drew.alloc o).grownBy w6 (some w5.heap.size)) (p : Nat) (hp : p < 4) {v : Value} (hV : V p = v) : w6.cell? ⟨g, 1 + p, none⟩ = some v ∧ w6.frozen? ⟨g, 1 + p, none⟩ = false ∧ (∀ i, i < w5.heap.size → w6.heap[i]? = w5.heap[i]?) ∧ Fo (fun _ => False) w5 w6 := by
  have hb : Blk w6 g _ _ := ((d.blk.drewN 1).alloc o).grown gr (by intro e; injection e with e; have := d.blk.lt; omega)
  have hk : ∀ i, i < w5.heap.size → w6.heap[i]? = w5.heap[i]? := fun i hi => (gr.block i (by simp; omega) (by intro e; injection e with e; omega)).trans (Below.heap_alloc w5.drew o i hi)
  refine ⟨?_, hb.frozen _, hk, gr.os, gr.tape, gr.output, Nat.le_trans (by simp) gr.size, fun i hi _ => hk i hi⟩
  rw [hb.cell, show 1 + p = p + 1 by omega, List.getElem?_cons_succ, List.getElem?_append_left (by rw [fam_len]; exact hp), fam_get _ _ _ hp, hV]

set_option maxHeartbeats 2000000 in
theorem rsrecv_any (p : Int) (d : RS w g a ca V ls Q D) :
    Calls Try.prog 18 #[.pointer (some ⟨g, 0, none⟩), .int .i64 p] w fun e w' => e = .returned (.tuple #[.agg (mcs (nrM ls Q p)).toArray, .int .i64 (nrC ls Q p)]) ∧ RsL w g a ca V ls (nrQ ls Q p) D w' := by
  have HD := Lib.hid d
  have hP4 := d.p4
  have hgl := d.blk.lt
  have msize : (Try.prog.info? 41).map (·.size) = some 2 := by kernel_rfl
  have M := Lib.hid msize
  clear msize
  have hbl := Blk.new w 41 [.int .i64 0, .string ByteArray.empty]
  have b0 : Below w.heap.size w (w.alloc (.cells #[.int .i64 0, .string ByteArray.empty] 41)) := (Below.refl _ _).alloc (Nat.le_refl _) _
  rcases nrecv_ways ls Q p with ⟨h, e1, e2, e3⟩ | ⟨k, rfl, hk, hq, e1, e2, e3⟩ | ⟨k, m, q, rfl, hk, hq, e1, e2, e3⟩
  · rw [e1, e2, e3]
    have HA := Lib.hid h
    clear d h e1 e2 e3
    go_enter Try.func18, Try.ntmps18
    go_wp2_with fail
    change Calls _ _ _ (w.alloc (.cells #[.int .i64 0, .string ByteArray.empty] 41)) _
    generalize hw1 : w.alloc (.cells #[.int .i64 0, .string ByteArray.empty] 41) = w1 at *
    have hlt := hbl.lt
    generalize hbk : w.heap.size = b at *
    have d1 := HD.out.below (w' := w1) (by rw [hbk]; exact b0)
    refine (rsthere_any _ d1).mono ?_
    rintro e w' ⟨rfl, rfl⟩
    rw [HA.out]
    have x0 := hbl.cell 0
    have x1 := hbl.cell 1
    have f0 := hbl.frozen 0
    have f1 := hbl.frozen 1
    simp only [List.getElem?_cons_zero, List.getElem?_cons_succ] at x0 x1
    have KB := Lib.hid ((hbl.set 0 (.int .i64 0)).set 1 (.string (str [])))
    have DE := Lib.hid (RsL.two HD.out b0 hbk (.int .i64 0) (.string (str [])))
    clear d1 hbl b0
    go_wp2_with fail
    exact bodyPost_ret (res_msg Try.results18 _ _ b _ ⟨0, []⟩ _ rfl KB.out Try.underlying41 rfl M.out) rfl ⟨rfl, DE.out⟩
  · rw [e1, e2, e3]
    have HA := Lib.hid (show inP ls.length k = true from inP_at hk)
    have hk4 : (k : Int) < 4 := by omega
    have hrow := d.row k (by omega)
    obtain ⟨A, c, hV, hc⟩ := d.form k (by omega)
    rw [hV, hq] at hrow
    have hcr : w.heap.size ≠ g := by omega
    clear d e1 e2 e3
    go_enter Try.func18, Try.ntmps18
    go_wp2_with fail
    change Calls _ _ _ (w.alloc (.cells #[.int .i64 0, .string ByteArray.empty] 41)) _
    have hrow1 : (w.alloc (.cells #[.int .i64 0, .string ByteArray.empty] 41)).cell? ⟨g, 1 + k, none⟩ = some (.slice A 0 c) := by
      rw [World.cell?_alloc_lt _ _ _ hgl]; exact hrow
    generalize hw1 : w.alloc (.cells #[.int .i64 0, .string ByteArray.empty] 41) = w1 at *
    have hlt := hbl.lt
    generalize hbk : w.heap.size = b at *
    have d1 := HD.out.below (w' := w1) (by rw [hbk]; exact b0)
    refine (rsthere_any _ d1).mono ?_
    rintro e w' ⟨rfl, rfl⟩
    rw [HA.out]
    have x0 := hbl.cell 0
    have x1 := hbl.cell 1
    have f0 := hbl.frozen 0
    have f1 := hbl.frozen 1
    simp only [List.getElem?_cons_zero, List.getElem?_cons_succ] at x0 x1
    have KB := Lib.hid ((hbl.set 0 (.int .i64 0)).set 1 (.string (str [])))
    have DE := Lib.hid (RsL.two HD.out b0 hbk (.int .i64 0) (.string (str [])))
    clear d1 hbl b0
    go_wp2_with fail
    exact bodyPost_ret (res_msg Try.results18 _ _ b _ ⟨0, []⟩ _ rfl KB.out Try.underlying41 rfl M.out) rfl ⟨rfl, DE.out⟩
  · rw [e1, e2, e3]
    have HA := Lib.hid (show inP ls.length k = true from inP_at hk)
    have hk4 : (k : Int) < 4 := by omega
    have hrow := d.row k (by omega)
    have how := d.que k (by omega)
    have h8 := d.q8 k
    rw [hq] at how h8
    simp only [List.length_cons] at how h8
    obtain ⟨gq, c, hV, hcap⟩ : ∃ gq c, V k = .slice (some ⟨gq, 0, none⟩) (q.length + 1) c ∧ q.length + 1 ≤ c := by
      rcases how.2 with ⟨_, h0⟩ | ⟨gq, cap, cur, hv, _, _, h1, _⟩
      · omega
      · exact ⟨gq, cap, hv, h1⟩
    have hgq : gq < w.heap.size := (how.lt gq (by rw [hV]; rfl)).2
    rw [hV] at hrow how
    have m0 := how.cellAt 0 (show 0 < (q.length + 1) * 2 by omega)
    have m1 := how.cellAt 1 (show 1 < (q.length + 1) * 2 by omega)
    rw [show (mss (m :: q))[0]? = some (.int .i64 m.f) from rfl] at m0
    rw [show (mss (m :: q))[1]? = some (.string (str m.s)) from rfl] at m1
    have HOWN : Hid (∀ W, Below w.heap.size w W → ∀ j u, (mss q)[j]? = some u → W.cell? ⟨gq, 2 + j, none⟩ = some u) := Lib.hid (fun W hW j u hj => by
      have hj2 : 2 + j < (q.length + 1) * 2 := by have := (List.getElem?_eq_some_iff.1 hj).1; rw [mss_len] at this; omega
      have h9 := how.cellAt (2 + j) hj2
      refine (hW.cell (p := ⟨gq, 2 + j, none⟩) hgq).trans ?_
      rw [h9, mss_cons, List.getElem?_append_right (by show 2 ≤ 2 + j; omega), ← hj]
      congr 1; show 2 + j - 2 = j; omega)
    obtain ⟨o, ho, hsl0⟩ := msl_from gq (q.length + 1) c (by omega) hcap h8
    have hsl : ∀ w, (Instr.slice 46 (.slice (some ⟨gq, 0, none⟩) (q.length + 1) c) (some (.int .i64 1)) none none).run Try.prog w = .ok (.slice (some ⟨gq, o, none⟩) q.length (c - 1)) w := by
      intro w; have := hsl0 w; simpa using this
    clear hsl0 how d e1 e2 e3
    go_enter Try.func18, Try.ntmps18
    go_wp2_with fail
    change Calls _ _ _ (w.alloc (.cells #[.int .i64 0, .string ByteArray.empty] 41)) _
    have bl1 : Blk (w.alloc (.cells #[.int .i64 0, .string ByteArray.empty] 41)) w.heap.size 41 [.int .i64 0, .string ByteArray.empty] := hbl
    generalize hw1 : w.alloc (.cells #[.int .i64 0, .string ByteArray.empty] 41) = w1 at *
    have hlt := hbl.lt
    have c0 := (b0.cell (p := ⟨g, 1 + k, none⟩) hgl).trans hrow
    have c1 := (b0.cell (p := ⟨gq, 0, none⟩) hgq).trans m0
    have c2 := (b0.cell (p := ⟨gq, 1, none⟩) hgq).trans m1
    refine (rsthere_any _ (HD.out.below b0)).mono ?_
    rintro e w' ⟨rfl, rfl⟩
    rw [HA.out]
    clear hw1 bl1 m0 m1 hrow
    have hq0 : (0 : Int) < q.length + 1 := by omega
    go_wp2_with fail
    generalize hw5 : w1.alloc (.cells #[.int .i64 m.f, .string (str m.s)] 41) = w5
    have h5 : Blk w5 w1.heap.size 41 (mcs m) := by rw [← hw5]; exact Blk.new w1 _ _
    have b5 : Below w.heap.size w w5 := by rw [← hw5]; exact b0.alloc (by omega) _
    have h0 : Blk w5 w.heap.size 41 [.int .i64 0, .string ByteArray.empty] := by rw [← hw5]; exact hbl.alloc _
    have c5 : w5.cell? ⟨g, 1 + k, none⟩ = some (.slice (some ⟨gq, 0, none⟩) (q.length + 1) c) := (b5.cell (p := ⟨g, 1 + k, none⟩) hgl).trans ((b0.cell (p := ⟨g, 1 + k, none⟩) hgl).symm.trans c0)
    clear hw5 c0 c1 c2 b0 hbl
    generalize w1.heap.size = b5i at *
    have hgl5 : g < w5.heap.size := by have := b5.size; omega
    have H5 := Lib.hid h5; have B5 := Lib.hid b5; have H0 := Lib.hid h0
    clear h5 b5 h0
    have hf5 : w5.frozen? ⟨g, 1 + k, none⟩ = false := (HD.out.below B5.out).frozen _
    have cal : (w5.alloc (.cells #[] 41)).cell? ⟨g, 1 + k, none⟩ = some (.slice (some ⟨gq, 0, none⟩) (q.length + 1) c) := by
      rw [World.cell?_alloc_lt _ _ _ hgl5]; exact c5
    have cd : (w5.drew.alloc (.cells #[] 41)).cell? ⟨g, 1 + k, none⟩ = some (.slice (some ⟨gq, 0, none⟩) (q.length + 1) c) := cal
    have fd : (w5.drew.alloc (.cells #[] 41)).frozen? ⟨g, 1 + k, none⟩ = false := (((HD.out.below B5.out).drewN 1).below ((Below.refl _ _).alloc (Nat.le_refl _) _)).frozen _
    have OW : Hid ((w5.drew.alloc (.cells #[] 41)).ownsRow 0 41 2 (.slice (some ⟨w5.heap.size, 0, none⟩) 0 0) 0 []) := Lib.hid (World.ownsRow_made w5.drew #[] 0 (Nat.zero_le _) (Nat.zero_le _) rfl)
    go_cut [] (fun wx => Hid (RvS w g a ca V ls (upF Q k q) D m b5i wx))
    case first =>
      by_cases hq0 : q.length = 0
      · have hqe : q = [] := List.length_eq_zero_iff.1 hq0
        subst hqe
        simp only [List.length_nil, Nat.zero_add] at hsl c5 cal cd
        have hap := fun W ty => run_append_no W ty ⟨w5.heap.size, 0, none⟩ (some ⟨gq, o, none⟩) (c - 1)
        have HF : Hid (RvS w g a ca V ls (upF Q k []) D m b5i ((w5.drew.alloc (.cells #[] 41)).setCell ⟨g, 1 + k, none⟩ (.slice (some ⟨w5.heap.size, 0, none⟩) 0 0))) := Lib.hid (RvS.of HD.out B5.out H5.out H0.out (fun i hi => Below.heap_alloc w5.drew _ i hi) (((Fo.refl _ w5).drewN 1).alloc _) k (by omega) [] (by decide) _ OW.out (fun b hb => by
            have e : w5.heap.size = b := by simpa [Value.ownBlock] using hb
            omega))
        go_region
        all_goals
          go_wp2_with fail
          go_meet
          first
            | exact HF
            | (rw [alloc_setCell _ _ _ _ hgl5]; exact HF)
      · obtain ⟨i0, hi, hz0, hz1, hz2⟩ := info_parts infoMs
        have HI := Lib.hid hi; have HZ0 := Lib.hid hz0; have HZ1 := Lib.hid hz1; have HZ2 := Lib.hid hz2
        have ho2 : o = 2 := by omega
        subst ho2
        have HL := Lib.hid (mss_len q)
        have H1 := Lib.hid (mss_oneCell q)
        have HN : Hid (∀ j u, (mss q)[j]? = some u → (w5.drew.alloc (.cells #[] 41)).cell? ((⟨gq, 2, none⟩ : Addr).add j) = some u) := Lib.hid (fun j u hj => by
          rw [add_none]; exact HOWN.out _ (((bdrewN B5.out 1)).alloc (by show w.heap.size ≤ w5.heap.size; have := B5.out.size; omega) _) j u hj)
        clear hi hz0 hz1 hz2
        have HV : Hid (V k = .slice (some ⟨gq, 0, none⟩) (q.length + 1) c) := Lib.hid hV
        obtain ⟨n, hn⟩ : ∃ n, q.length = n := ⟨_, rfl⟩
        rw [hn] at HV
        have HNN := Lib.hid hn
        rw [hn] at hsl c5 cal cd hq0 h8 hcap
        clear hn
        go_region_law ((refine step_append_lies _ (by rfl) _ _ 46 (by rfl) 0 41 i0 _ 2 24 Try.underlying46 HI.out HZ0.out HZ1.out HZ2.out (by rfl) (by decide) (.slice (some ⟨w5.heap.size, 0, none⟩) 0 0) 0 [] (by rfl) OW.out ⟨gq, 2, none⟩ n (c - 1) (mss q) (by rfl) (by rw [HL.out, HNN.out]) HN.out H1.out (by omega) (by unfold maxLen; omega) (by omega) (Nat.zero_le _) (w5.heap.size + 1) (by simp) ?_; intro g2 cap2 w6 own2 gr2 hat hlt2; simp only [Nat.zero_add, List.nil_append] at own2; obtain ⟨c6, f6, k6, fo6⟩ := RvS.at_ (HD.out.below B5.out) gr2 k (by omega) HV.out))
        all_goals
          have HF : Hid (RvS w g a ca V ls (upF Q k q) D m b5i (w6.setCell ⟨g, 1 + k, none⟩ (.slice (some ⟨g2, 0, none⟩) n cap2))) := Lib.hid (RvS.of HD.out B5.out H5.out H0.out k6 fo6 k (by omega) q (by rw [HNN.out]; omega) _ (by rw [HNN.out]; exact own2) (fun b hb => by
            have e : g2 = b := by simpa [Value.ownBlock] using hb
            subst e
            rcases hat with h | h
            · have e : w5.heap.size = g2 := by simpa [Value.ownBlock] using h
              omega
            · omega))
          clear own2 gr2 hat hlt2 k6 fo6
          go_wp2_with fail
          go_meet
          exact HF
    case rest =>
      have HR := hcut
      clear hcut c5 cal cd fd hf5 OW HOWN hsl
      generalize wc = w7 at *
      obtain ⟨_, _, _, _, k5, k0, _⟩ := HR.out
      have x0 := k5.cell 0
      have x1 := k5.cell 1
      have y0 := k0.cell 0
      have y1 := k0.cell 1
      have f0 := k0.frozen 0
      have f1 := k0.frozen 1
      simp only [mcs, List.getElem?_cons_zero, List.getElem?_cons_succ] at x0 x1 y0 y1
      have KB := Lib.hid ((k0.set 0 (.int .i64 m.f)).set 1 (.string (str m.s)))
      have DE := Lib.hid (HR.out.ends (.int .i64 m.f) (.string (str m.s)))
      clear k5 k0
      go_wp2_with fail
      exact bodyPost_ret (res_msg Try.results18 _ _ w.heap.size _ m _ rfl KB.out Try.underlying41 rfl M.out) rfl ⟨rfl, DE.out⟩
end

/-- No row. -/
def noV : Nat → Value := fun _ => .slice none 0 0
theorem RS.start {w : World} {g a ca : Nat} {ls : List (Int × Int)} (hl : 1 ≤ ls.length ∧ ls.length ≤ 4) (hb : Blk w g 78 (.slice (some ⟨a, 0, none⟩) ls.length ca :: (fam noV 4 ++ itc noI 4)))
    (ho : w.ownsRow 0 54 2 (.slice (some ⟨a, 0, none⟩) ls.length ca) ls.length (ints (lbs ls))) : RS w g a ca noV ls (fun _ => []) noI :=
  ⟨hl, fun p => Nat.zero_le _, fun p => by unfold noI; omega, hb, ho, fun p hp => World.ownsRow_nil _ _ _ _, fun p q hp hq hpq b h => by cases h⟩

set_option maxHeartbeats 2000000 in
theorem rsnew_any (v : Value) (n : Nat) (ls : List (Int × Int)) (w : World) (h : Sl w v n 2 (ints (lbs ls))) (hln : ls.length = n) (hn : n ≤ maxLen) :
    Calls Try.prog 10 #[v] w fun e w' => (newL ls = true ∧ ∃ g, e = .returned (.tuple #[.pointer (some ⟨g, 0, none⟩), .int .i64 0]) ∧ Tk nos w [obRS g ls (fun _ => []) noI] w') ∨ (newL ls = false ∧ e = .returned (.tuple #[.pointer none, .int .i64 2000]) ∧ Below w.heap.size w w') := by
  obtain ⟨A, cap, rfl, hc, _, _⟩ := id h
  have H := Lib.hid h; have HL := Lib.hid hln
  unfold maxLen at hn
  clear h hln
  have bad : ¬ (1 ≤ n ∧ n ≤ 4) → newL ls = false := fun h => by unfold newL; rw [HL.out, decide_eq_false h]; rfl
  have good : 1 ≤ n ∧ n ≤ 4 → newL ls = allL ls := fun h => by unfold newL; rw [HL.out, decide_eq_true h, Bool.true_and]
  have BAD := Lib.hid bad; have GOOD := Lib.hid good
  clear bad good
  go_enter Try.func10, Try.ntmps10
  go_wp2_with fail
  go_loopw [4] (fun i wr => ∃ k : Nat, k ≤ n ∧ i = .int .i64 k ∧ Hid (Below w.heap.size w wr ∧ ∀ j (hj : j < ls.length), j < k → lB ls[j].1 ls[j].2 = true)) (fun i _ => n - (intOf i).toNat)
  case atStart => exact ⟨0, by omega, rfl, Lib.hid ⟨Below.refl _ _, fun j _ h => by omega⟩⟩
  case round =>
    obtain ⟨k, hk, rfl, HH⟩ := hrel
    by_cases hlt : k < n
    · have hkl : k < ls.length := by rw [HL.out]; exact hlt
      obtain ⟨hb, hall⟩ := HH.out
      obtain ⟨b, o, rfl, hbo, c0, c1⟩ := lb_at (H.out.below hb) HL.out k hkl
      have HNO : Hid (lB ls[k].1 ls[k].2 = false → newL ls = false) := Lib.hid (fun e => by
        by_cases h4 : 1 ≤ n ∧ n ≤ 4
        · rw [GOOD.out h4]; exact allL_no hkl e
        · exact BAD.out h4)
      have HEQ : Hid (∀ j (hj : j < ls.length), j < k + 1 → lB ls[k].1 ls[k].2 = true → lB ls[j].1 ls[j].2 = true) := Lib.hid (fun j hj h1 h2 => by
        rcases Nat.lt_or_ge j k with h3 | h3
        · exact hall j hj h3
        · obtain rfl : j = k := by omega
          exact h2)
      generalize ls[k] = x at *
      obtain ⟨x1, x2⟩ := x
      simp only at c0 c1 HNO HEQ
      have HB := Lib.hid hb
      clear hb hall HH
      go_wp2_with fail
      refine (rlmay_any _ _ _).mono ?_
      rintro e w2 ⟨rfl, b2⟩
      have HB2 := Lib.hid (Below.down HB.out b2 HB.out.size)
      clear b2 c0 c1
      cases hL : lB x1 x2 with
      | false =>
        have HF := Lib.hid (HNO.out hL)
        clear hL
        go_wp2_with fail
        go_ret2
        exact .inr ⟨HF.out, rfl, HB2.out⟩
      | true =>
        have HT := Lib.hid hL
        clear hL
        go_wp2_with fail
        go_roundw
        case rel => exact ⟨k + 1, by omega, by go_num, Lib.hid ⟨HB2.out, fun j hj hj2 => HEQ.out j hj hj2 HT.out⟩⟩
        case measure => simp [intOf]; omega
    · obtain rfl : k = n := by omega
      have HB := Lib.hid HH.out.1
      have HALL : Hid (allL ls = true) := Lib.hid (allL_yes (fun j hj => HH.out.2 j hj (by rw [← HL.out]; exact hj)))
      clear HH
      by_cases h1 : k < 1
      · go_wp2_with fail
        go_ret2
        exact .inr ⟨BAD.out (by omega), rfl, HB.out⟩
      by_cases h2 : 4 < k
      · go_wp2_with fail
        go_ret2
        exact .inr ⟨BAD.out (by omega), rfl, HB.out⟩
      have HNEW : Hid (newL ls = true) := Lib.hid (by rw [GOOD.out (by omega)]; exact HALL.out)
      obtain ⟨i0, hi, hz0, hz1, hz2⟩ := info_parts infoLb
      have HI := Lib.hid hi; have HZ0 := Lib.hid hz0; have HZ1 := Lib.hid hz1; have HZ2 := Lib.hid hz2
      have hsl := (H.out.below HB.out)
      have HSL := Lib.hid (hsl.below ((Below.refl _ wr).alloc (Nat.le_refl _) (.cells #[] 54)))
      have H1 := Lib.hid (ints_oneL (lbs ls))
      have HM : Hid ((wr.alloc (.cells #[] 54)).ownsRow wr.heap.size 54 2 (.slice (some ⟨wr.heap.size, 0, none⟩) 0 0) 0 []) := Lib.hid (World.ownsRow_made wr #[] 0 (Nat.le_refl _) (Nat.zero_le _) rfl)
      have hnil : Hid (∀ m c, (Value.slice A k cap) = .slice none m c → c = 0) := Lib.hid (fun m c e => by
        obtain ⟨A', cap', e', _, _, hA⟩ := hsl
        obtain ⟨b', o', e2, _⟩ := hA (by omega)
        simp only [Value.slice.injEq] at e e'
        rw [← e'.1, e.1] at e2; cases e2)
      clear hi hz0 hz1 hz2 hsl
      go_wp2_with (at_builtin; refine wpList_append_sl rfl _ _ 22 rfl wr.heap.size 54 i0 _ 2 16 Try.underlying22 HI.out HZ0.out HZ1.out HZ2.out rfl (by decide) _ 0 [] rfl HM.out _ k (ints (lbs ls)) rfl HSL.out hnil.out H1.out (by unfold maxLen; omega) (by omega) (by simp) ?_)
      intro v' w2 own2 gr2
      obtain ⟨ga, ca, hv, hba⟩ : ∃ ga ca, v' = .slice (some ⟨ga, 0, none⟩) k ca ∧ wr.heap.size ≤ ga := by
        rcases own2.2 with ⟨_, h0⟩ | ⟨ga, cap', cur, hv, hb9, _⟩
        · omega
        · exact ⟨ga, cap', hv, hb9⟩
      subst hv
      have HB2 : Hid (Below w.heap.size w w2) := Lib.hid ((HB.out.alloc HB.out.size _).grown gr2 (by have := HB.out.size; simp; omega) (fun x hx => by
        have e : wr.heap.size = x := by simpa [Value.ownBlock] using hx
        have := HB.out.size; omega))
      have OW := Lib.hid own2
      clear own2 gr2
      go_wp2_with fail
      go_ret2
      refine .inl ⟨HNEW.out, w2.heap.size, rfl, ?_⟩
      have hb := Blk.new w2 78 (.slice (some ⟨ga, 0, none⟩) k ca :: (fam noV 4 ++ itc noI 4))
      have hl := HL.out
      have ho : (w2.alloc (.cells (.slice (some ⟨ga, 0, none⟩) k ca :: (fam noV 4 ++ itc noI 4) : List Value).toArray 78)).ownsRow 0 54 2 (.slice (some ⟨ga, 0, none⟩) k ca) k (ints (lbs ls)) := own_floor (OW.out.alloc _) (fun _ _ => Nat.zero_le _)
      have hrs := RS.start (w := w2.alloc (.cells (.slice (some ⟨ga, 0, none⟩) k ca :: (fam noV 4 ++ itc noI 4) : List Value).toArray 78)) (g := w2.heap.size) (a := ga) (ca := ca) (ls := ls) (by omega) (by rw [hl]; exact hb) (by rw [hl]; exact ho)
      have hs := HB.out.size
      have hs2 := HB2.out.size
      refine ⟨sRS w2.heap.size ga noV, obs_one.2 ⟨(ga, ca, noV), hrs, fun _ => Iff.rfl⟩, fun x hx hS => ?_, Fo.of (HB2.out.alloc hs2 _) _⟩
      rcases hS with h | h | ⟨p, hp, h⟩
      · omega
      · omega
      · cases h

section
variable {S : Nat → Prop} {W0 : World} {os os' : List Ob} {i g : Nat} {ls : List (Int × Int)} {Q : Nat → List Ms} {D : Nat → Int}
theorem tk_rsend (a b : Int) (s : ByteArray) (w : World) (t : Tk S W0 os w) (hi : os[i]? = some (obRS g ls Q D)) (hs : s.size ≤ maxLen) (C : Int) (hC : nsC ls a b s.size = C) (ho : os.set i (obRS g ls (nsQ ls Q a b s.data.toList) (nsD ls Q D a b s.size)) = os') :
    Calls Try.prog 16 #[.pointer (some ⟨g, 0, none⟩), .int .i64 a, .int .i64 b, .string s] w fun e w' => e = .returned (.int .i64 C) ∧ Tk S W0 os' w' := by
  obtain ⟨x, y, V, d, k⟩ := t.rs hi
  subst hC ho
  exact (rssend_any a b s d hs).mono fun e w' ⟨h1, V', h2, h3, h4⟩ => ⟨h1, k w' V' _ _ h2 h3 h4⟩
theorem tk_rrecv (p : Int) (w : World) (t : Tk S W0 os w) (hi : os[i]? = some (obRS g ls Q D)) (m : Ms) (C : Int) (hm : nrM ls Q p = m) (hC : nrC ls Q p = C) (ho : os.set i (obRS g ls (nrQ ls Q p) D) = os') :
    Calls Try.prog 18 #[.pointer (some ⟨g, 0, none⟩), .int .i64 p] w fun e w' => e = .returned (.tuple #[.agg #[.int .i64 m.f, .string (str m.s)], .int .i64 C]) ∧ Tk S W0 os' w' := by
  obtain ⟨x, y, V, d, k⟩ := t.rs hi
  subst hC ho hm
  exact (rsrecv_any p d).mono fun e w' ⟨h1, V', h2, h3, h4⟩ => ⟨h1, k w' V' _ _ h2 h3 h4⟩
theorem tk_rqueue (p : Int) (w : World) (t : Tk S W0 os w) (hi : os[i]? = some (obRS g ls Q D)) (q : List Ms) (hq : nqX ls Q p = q) :
    Calls Try.prog 21 #[.pointer (some ⟨g, 0, none⟩), .int .i64 p] w fun e w' => ∃ v, e = .returned v ∧ w = w' ∧ Sl w v q.length 2 (mss q) := by
  obtain ⟨x, y, V, d, k⟩ := t.rs hi
  subst hq
  exact rsqueue_any p d
theorem tk_rdrop (p : Int) (w : World) (t : Tk S W0 os w) (hi : os[i]? = some (obRS g ls Q D)) (X : Int) (hX : ndX ls D p = X) :
    Calls Try.prog 23 #[.pointer (some ⟨g, 0, none⟩), .int .i64 p] w fun e w' => e = .returned (.int .i64 X) ∧ w = w' := by
  obtain ⟨x, y, V, d, k⟩ := t.rs hi
  subst hX
  exact rsdrop_any p d
end

end Go.Proofs.Ytfkdohnpfjdehaa
