/-
  Layer 20, the program: Send, Receive, Queue, Dropped.
-/
import Derived.Test.YtfkdohnpfjdehaaNc2
import Derived.Test.YtfkdohnpfjdehaaNcSend
import Derived.Test.YtfkdohnpfjdehaaLat1
import Derived.Test.YtfkdohnpfjdehaaApn
import Derived.Deep.RegionWith
import Derived.Deep.RegionHeld3
namespace Go.Proofs.Ytfkdohnpfjdehaa
open Go.RowKit
set_option linter.unusedVariables false
set_option linter.unusedSimpArgs false
set_option maxRecDepth 100000

section
variable {w : World} {g : Nat} {ls : List (Int × Int)} {Q : Nat → List Ms} {D : Nat → Int}
theorem ndrop_any (p : Int) (d : PS w g ls (kq Q) Q D) :
    Calls Try.prog 22 #[.pointer (some ⟨g, 0, none⟩), .int .i64 p] w fun e w' => e = .returned (.int .i64 (ndX ls D p)) ∧ w = w' := by
  have HD := Lib.hid d
  have hP4 := d.p4
  cases hin : inP ls.length p with
  | true =>
    have HX := Lib.hid (show ndX ls D p = D p.toNat by simp [ndX, hin])
    have HB := Lib.hid hin
    obtain ⟨k, rfl, hk⟩ := (inP_iff _ _).1 hin
    rw [Int.toNat_natCast] at HX
    have c0 := d.drp k (by omega)
    have hk4 : (k : Int) < 4 := by omega
    clear d hin
    go_enter Try.func22, Try.ntmps22
    go_wp2_with fail
    refine (shas_any _ HD.out).mono ?_
    rintro e w' ⟨rfl, rfl⟩
    rw [HB.out]
    go_wp2_with fail
    go_ret
    exact ⟨by rw [HX.out]; rfl, rfl⟩
  | false =>
    have HX := Lib.hid (show ndX ls D p = 0 by simp [ndX, hin])
    have HB := Lib.hid hin
    clear d hin
    go_enter Try.func22, Try.ntmps22
    go_wp2_with fail
    refine (shas_any _ HD.out).mono ?_
    rintro e w' ⟨rfl, rfl⟩
    rw [HB.out]
    go_wp2_with fail
    go_ret
    exact ⟨by rw [HX.out]; rfl, rfl⟩

set_option maxHeartbeats 1000000 in
theorem nsend_any (a b : Int) (s : ByteArray) (d : PS w g ls (kq Q) Q D) (hs : s.size ≤ maxLen) :
    Calls Try.prog 15 #[.pointer (some ⟨g, 0, none⟩), .int .i64 a, .int .i64 b, .string s] w fun e w' => e = .returned (.int .i64 (nsC ls a b s.size)) ∧ PS w' g ls (kq (nsQ ls Q a b s.data.toList)) (nsQ ls Q a b s.data.toList) (nsD ls Q D a b s.size) ∧ w.grownBy w' (some g) := by
  have HD := Lib.hid d
  have hP4 := d.p4
  unfold maxLen at hs
  have HQ : Hid (nsQ ls Q a b s.data.toList = if nsC ls a b s.size = 0 then adQ Q b.toNat ⟨a, s.data.toList⟩ else Q) := Lib.hid (by unfold nsQ; rw [list_len])
  have HN : Hid (nsD ls Q D a b s.size = if nsC ls a b s.size = 0 then adD Q D b.toNat else D) := Lib.hid rfl
  have hw := nsend_ways ls a b s.size
  generalize hn : s.size = n at *
  have HNN := Lib.hid hn
  generalize nsQ ls Q a b s.data.toList = Q' at *
  generalize nsD ls Q D a b n = D' at *
  generalize nsC ls a b n = C at *
  rcases hw with ⟨h1, rfl⟩ | ⟨h1, h2, rfl⟩ | ⟨h1, h2, h3, rfl⟩ | ⟨h1, h2, h3, h4, rfl⟩ | ⟨h1, h2, h3, h4, h5, rfl⟩ | ⟨h1, h2, h3, h4, h5, rfl⟩
  · have HA := Lib.hid h1
    rw [HQ.out, HN.out, if_neg (by decide), if_neg (by decide)]
    clear d h1
    go_enter Try.func15, Try.ntmps15
    go_wp2_with fail
    refine (shas_any _ HD.out).mono ?_
    rintro e w' ⟨rfl, rfl⟩
    rw [HA.out]
    go_wp2_with fail
    go_ret
    exact ⟨rfl, HD.out, grefl _ _⟩
  · have HA := Lib.hid h1; have HB := Lib.hid h2
    rw [HQ.out, HN.out, if_neg (by decide), if_neg (by decide)]
    clear d h1 h2
    go_enter Try.func15, Try.ntmps15
    go_wp2_with fail
    refine (shas_any _ HD.out).mono ?_
    rintro e w' ⟨rfl, rfl⟩
    rw [HA.out]
    go_wp2_with fail
    refine (shas_any _ HD.out).mono ?_
    rintro e w' ⟨rfl, rfl⟩
    rw [HB.out]
    go_wp2_with fail
    go_ret
    exact ⟨rfl, HD.out, grefl _ _⟩
  · have HA := Lib.hid h1; have HB := Lib.hid h2
    rw [HQ.out, HN.out, if_neg (by decide), if_neg (by decide)]
    clear d h1 h2
    go_enter Try.func15, Try.ntmps15
    go_wp2_with fail
    refine (shas_any _ HD.out).mono ?_
    rintro e w' ⟨rfl, rfl⟩
    rw [HA.out]
    go_wp2_with fail
    refine (shas_any _ HD.out).mono ?_
    rintro e w' ⟨rfl, rfl⟩
    rw [HB.out]
    go_wp2_with fail
    go_ret
    exact ⟨rfl, HD.out, grefl _ _⟩
  · have HA := Lib.hid h1; have HB := Lib.hid h2
    rw [HQ.out, HN.out, if_neg (by decide), if_neg (by decide)]
    clear d h1 h2
    go_enter Try.func15, Try.ntmps15
    go_wp2_with fail
    refine (shas_any _ HD.out).mono ?_
    rintro e w' ⟨rfl, rfl⟩
    rw [HA.out]
    go_wp2_with fail
    refine (shas_any _ HD.out).mono ?_
    rintro e w' ⟨rfl, rfl⟩
    rw [HB.out]
    go_wp2_with fail
    go_ret
    exact ⟨rfl, HD.out, grefl _ _⟩
  all_goals
    have HA := Lib.hid h1; have HB := Lib.hid h2
    obtain ⟨x, rfl, hx⟩ := (inP_iff _ _).1 h1
    obtain ⟨y, rfl, hy⟩ := (inP_iff _ _).1 h2
    have H5 := Lib.hid h5
    unfold nsL at H5
    simp only [Int.toNat_natCast] at H5 HQ HN
    have l1 := d.lab x hx
    have l2 := d.lab y hy
    have hx4 : (x : Int) < 4 := by omega
    have hy4 : (y : Int) < 4 := by omega
    obtain ⟨l1a, l1b⟩ := l1
    obtain ⟨l2a, l2b⟩ := l2
    clear d h1 h2 h5
    go_enter Try.func15, Try.ntmps15
    go_wp2_with fail
    refine (shas_any _ HD.out).mono ?_
    rintro e w' ⟨rfl, rfl⟩
    rw [HA.out]
    go_wp2_with fail
    refine (shas_any _ HD.out).mono ?_
    rintro e w' ⟨rfl, rfl⟩
    rw [HB.out]
    go_wp2_with fail
    go_still_tail 12, (by kernel_rfl)
    change wpList _ _ _ _ _ w.drew
    go_wp2_with fail
    refine (ldom_any _ _ _ _ _).mono ?_
    rintro e w1 ⟨rfl, b1⟩
    rw [H5.out]
    have d1 := (HD.out.drewN 1).below (w' := w1) b1
    have g1 : w.grownBy w1 (some g) := gtrans (gdrewN (grefl w _) 1) (gof b1 _)
    clear l1a l1b l2a l2b b1
  · rw [if_neg (by decide)] at HQ HN
    rw [← HQ.out, ← HN.out] at d1
    have D1 := Lib.hid d1; have G1 := Lib.hid g1
    clear d1 g1
    go_wp2_with fail
    go_ret
    exact ⟨rfl, D1.out, G1.out⟩
  · rw [if_pos trivial] at HQ HN
    have D1 := Lib.hid d1; have G1 := Lib.hid g1
    clear d1 g1
    go_wp2_with fail
    have hn32 : s.size ≤ 32 := by rw [hn]; exact h4
    go_region_with (first
      | (go_at_call 33; refine (letof_any _ s _ hn32).mono ?_; rintro e w2 ⟨rfl, b2⟩)
      | (go_at_call 32; refine (qadd_any y (by omega) ⟨x, s.data.toList⟩ (by rw [list_len]; exact hn32) ((D1.out.drewN 1).below b2)).mono ?_; rintro e w3 ⟨rfl, d3, g3⟩))
    all_goals
      rw [← HQ.out, ← HN.out] at d3
      have D3 := Lib.hid d3
      have G3 := Lib.hid (gtrans G1.out (gtrans (gdrewN (grefl w1 _) 1) (gtrans (gof b2 _) g3)))
      clear d3 g3 b2
      go_wp2_with fail
      go_ret
      exact ⟨rfl, D3.out, G3.out⟩
theorem results_msg {P : Program} {fn : Func} {p q : Tmp} {ty : TypeId} (h : fn.results = #[.cell p ty, .tmp q]) (tmps : Array Value) (w : World) (g : Nat) (t : TypeId) (m : Ms) (d : TypeDesc)
    (hp : tmps.getD p undef = .pointer (some ⟨g, 0, none⟩)) (hg : Blk w g t (mcs m))
    (hu : P.underlying ty = some d) (hd : d.isRow = true) (hi : (P.info? ty).map (·.size) = some 2) :
    (results fn tmps).run P w = .ok (.tuple #[.agg (mcs m).toArray, tmps.getD q undef]) w :=
  results_cell_tmp_row h tmps w g t (mcs m) d hp hg hu hd hi

set_option maxHeartbeats 1000000 in
theorem nrecv_any (p : Int) (d : PS w g ls (kq Q) Q D) :
    Calls Try.prog 17 #[.pointer (some ⟨g, 0, none⟩), .int .i64 p] w fun e w' => e = .returned (.tuple #[.agg (mcs (nrM ls Q p)).toArray, .int .i64 (nrC ls Q p)]) ∧ PS w' g ls (kq (nrQ ls Q p)) (nrQ ls Q p) D ∧ w.grownBy w' (some g) := by
  have HD := Lib.hid d
  have hP4 := d.p4
  have hgl := d.lt
  have msize : (Try.prog.info? 41).map (·.size) = some 2 := by kernel_rfl
  have M := Lib.hid msize
  clear msize
  have hbl := Blk.new w 41 [.int .i64 0, .string ByteArray.empty]
  have b0 : Below w.heap.size w (w.alloc (.cells #[.int .i64 0, .string ByteArray.empty] 41)) := (Below.refl _ _).alloc (Nat.le_refl _) _
  rcases nrecv_ways ls Q p with ⟨h, e1, e2, e3⟩ | ⟨k, rfl, hk, hq, e1, e2, e3⟩ | ⟨k, m, q, rfl, hk, hq, e1, e2, e3⟩
  · rw [e1, e2, e3]
    have HA := Lib.hid h
    clear d h e1 e2 e3
    go_enter Try.func17, Try.ntmps17
    go_wp2_with fail
    change Calls _ _ _ (w.alloc (.cells #[.int .i64 0, .string ByteArray.empty] 41)) _
    generalize hw1 : w.alloc (.cells #[.int .i64 0, .string ByteArray.empty] 41) = w1 at *
    have hlt := hbl.lt
    generalize hbk : w.heap.size = b at *
    have d1 := HD.out.below (w' := w1) (by rw [hbk]; exact b0)
    refine (shas_any _ d1).mono ?_
    rintro e w' ⟨rfl, rfl⟩
    rw [HA.out]
    have x0 := hbl.cell 0
    have x1 := hbl.cell 1
    have f0 := hbl.frozen 0
    have f1 := hbl.frozen 1
    simp only [List.getElem?_cons_zero, List.getElem?_cons_succ] at x0 x1
    have KB := Lib.hid ((hbl.set 0 (.int .i64 (⟨0, []⟩ : Ms).f)).set 1 (.string (str (⟨0, []⟩ : Ms).s)))
    have DE := Lib.hid ((d1.keep (w' := (w1.setCell ⟨b, 0, none⟩ (.int .i64 (⟨0, []⟩ : Ms).f)).setCell ⟨b, 1, none⟩ (.string (str (⟨0, []⟩ : Ms).s))) ((Below.heap_setCell _ _ _ _ (by simp; omega)).trans (Below.heap_setCell _ _ _ _ (by simp; omega)))))
    have GE := Lib.hid (show w.grownBy ((w1.setCell ⟨b, 0, none⟩ (.int .i64 (⟨0, []⟩ : Ms).f)).setCell ⟨b, 1, none⟩ (.string (str (⟨0, []⟩ : Ms).s))) (some g) from gset (gset (gof (by rw [hbk]; exact b0) _) (.inr (by show w.heap.size ≤ b; omega)) _) (.inr (by show w.heap.size ≤ b; omega)) _)
    clear d1 hbl b0
    go_wp2_with fail
    exact bodyPost_ret (results_msg Try.results17 _ _ b _ ⟨0, []⟩ _ rfl KB.out Try.underlying41 rfl M.out) rfl ⟨rfl, DE.out, GE.out⟩
  · rw [e1, e2, e3]
    have HA := Lib.hid (show inP ls.length k = true from inP_at hk)
    have HQ := Lib.hid hq
    have hk4 : (k : Int) < 4 := by omega
    have hz := zLet_run
    have hne := zLet_ne
    have hsz := zLet_size
    have hll : zLet.toList.length = 34 := by rw [Array.length_toList, zLet_size]
    clear d e1 e2 e3 hq
    go_enter Try.func17, Try.ntmps17
    go_wp2_with fail
    change Calls _ _ _ (w.alloc (.cells #[.int .i64 0, .string ByteArray.empty] 41)) _
    generalize hw1 : w.alloc (.cells #[.int .i64 0, .string ByteArray.empty] 41) = w1 at *
    have hlt := hbl.lt
    generalize hbk : w.heap.size = b at *
    have d1 := HD.out.below (w' := w1) (by rw [hbk]; exact b0)
    refine (shas_any _ d1).mono ?_
    rintro e w' ⟨rfl, rfl⟩
    rw [HA.out]
    have D1 := Lib.hid d1; have HB := Lib.hid hbl; have B0 := Lib.hid b0
    clear d1 hbl b0
    go_wp2_with fail
    refine (qtake_none k (by omega) D1.out HQ.out).mono ?_
    rintro e w2 ⟨rfl, b2⟩
    have hb2 := HB.out.below b2 hlt
    have d2 := D1.out.below b2
    have g2 : w.grownBy w2 (some g) := gtrans (gof (by rw [hbk]; exact B0.out) _) (gof b2 _)
    have hs2 := b2.size
    obtain ⟨w3, e3, k3, g3⟩ := (zLet_new w2 67).over0 (P := Try.prog) zLet.toList rfl (by
      intro v hv
      simp only [zLet, List.mem_cons] at hv
      rcases hv with rfl | rfl | hv
      · rfl
      · rfl
      · exact bts_one _ v hv)
    have hb3 := (hb2.alloc (.cells zLet 67)).grown g3 (by simp; omega)
    have d3 := d2.keep (w' := w3) ((g3.block g (by simp; have := d2.lt; omega) (by simp; have := d2.lt; omega)).trans (Below.heap_alloc w2 _ g d2.lt))
    have g3' : w.grownBy w3 (some g) := by
      have h5 : w.grownBy (w2.alloc (.cells zLet 67)) (some g) := galloc g2 _
      refine ⟨g3.os.trans h5.os, g3.tape.trans h5.tape, g3.output.trans h5.output, Nat.le_trans h5.size g3.size, fun i hi2 hne => (g3.block i (Nat.lt_of_lt_of_le hi2 h5.size) (fun e => by have := g2.size; injection e with e; omega)).trans (h5.block i hi2 hne)⟩
    have x0 := hb3.cell 0
    have x1 := hb3.cell 1
    have f0 := hb3.frozen 0
    have f1 := hb3.frozen 1
    simp only [List.getElem?_cons_zero, List.getElem?_cons_succ] at x0 x1
    have KB := Lib.hid ((hb3.set 0 (.int .i64 (⟨0, []⟩ : Ms).f)).set 1 (.string (str (⟨0, []⟩ : Ms).s)))
    have DE := Lib.hid ((d3.keep (w' := (w3.setCell ⟨b, 0, none⟩ (.int .i64 (⟨0, []⟩ : Ms).f)).setCell ⟨b, 1, none⟩ (.string (str (⟨0, []⟩ : Ms).s))) ((Below.heap_setCell _ _ _ _ (by simp; omega)).trans (Below.heap_setCell _ _ _ _ (by simp; omega)))))
    have GE := Lib.hid (show w.grownBy ((w3.setCell ⟨b, 0, none⟩ (.int .i64 (⟨0, []⟩ : Ms).f)).setCell ⟨b, 1, none⟩ (.string (str (⟨0, []⟩ : Ms).s))) (some g) from gset (gset g3' (.inr (by show w.heap.size ≤ b; omega)) _) (.inr (by show w.heap.size ≤ b; omega)) _)
    clear hb2 d2 g2 k3 g3 hb3 d3 g3' b2
    go_wp2_with fail
    exact bodyPost_ret (results_msg Try.results17 _ _ b _ ⟨0, []⟩ _ rfl KB.out Try.underlying41 rfl M.out) rfl ⟨rfl, DE.out, GE.out⟩
  · rw [e1, e2, e3]
    have HA := Lib.hid (show inP ls.length k = true from inP_at hk)
    have HQ := Lib.hid hq
    have hk4 : (k : Int) < 4 := by omega
    have hz := zLet_run
    have hne := zLet_ne
    have hsz := zLet_size
    have hll : zLet.toList.length = 34 := by rw [Array.length_toList, zLet_size]
    have hm32 : m.s.length ≤ 32 := (d.q8 k).2 m (by rw [hq]; exact .head _)
    have hL := ltc_len m hm32
    have hCs : (ltc m).toArray.size = 34 := by simp [hL]
    have hi2 : (Try.prog.info? 67).map (·.size) = some (ltc m).length := by rw [letSize, hL]
    clear d e1 e2 e3 hq
    go_enter Try.func17, Try.ntmps17
    go_wp2_with fail
    change Calls _ _ _ (w.alloc (.cells #[.int .i64 0, .string ByteArray.empty] 41)) _
    generalize hw1 : w.alloc (.cells #[.int .i64 0, .string ByteArray.empty] 41) = w1 at *
    have hlt := hbl.lt
    generalize hbk : w.heap.size = b at *
    have d1 := HD.out.below (w' := w1) (by rw [hbk]; exact b0)
    refine (shas_any _ d1).mono ?_
    rintro e w' ⟨rfl, rfl⟩
    rw [HA.out]
    have D1 := Lib.hid d1; have HB := Lib.hid hbl; have B0 := Lib.hid b0
    clear d1 hbl b0
    go_wp2_with fail
    refine (qtake_some k (by omega) m q D1.out HQ.out).mono ?_
    rintro e w2 ⟨rfl, d2, g2⟩
    have hb2 := HB.out.grown g2 (by simp; omega)
    have hs2 := g2.size
    have g2' : w.grownBy w2 (some g) := gtrans (gof (by rw [hbk]; exact B0.out) _) g2
    obtain ⟨w3, e3, k3, g3⟩ := (zLet_new w2 67).over0 (P := Try.prog) (ltc m) (by rw [hL, hll]) (ltc_one m)
    have hb3 := (hb2.alloc (.cells zLet 67)).grown g3 (by simp; omega)
    have d3 := d2.keep (w' := w3) ((g3.block g (by simp; have := d2.lt; omega) (by simp; have := d2.lt; omega)).trans (Below.heap_alloc w2 _ g d2.lt))
    have g3' : w.grownBy w3 (some g) := by
      have h5 : w.grownBy (w2.alloc (.cells zLet 67)) (some g) := galloc g2' _
      refine ⟨g3.os.trans h5.os, g3.tape.trans h5.tape, g3.output.trans h5.output, Nat.le_trans h5.size g3.size, fun i hi2 hne => (g3.block i (Nat.lt_of_lt_of_le hi2 h5.size) (fun e => by have := g2'.size; injection e with e; omega)).trans (h5.block i hi2 hne)⟩
    have hr3 := k3.mid
    have HB3 := Lib.hid hb3; have D3 := Lib.hid d3; have G3 := Lib.hid g3'
    have hlt3 := hb3.lt
    clear hb2 d2 g2 k3 g3 hb3 d3 g3' g2'
    go_wp2_with (refine wpList_load_mid rfl 67 _ rfl _ _ rfl _ _ hr3 Try.underlying67 rfl hi2 ?_)
    refine (msg_any m _ hm32).mono ?_
    rintro e w4 ⟨rfl, b4⟩
    rw [show (mcs m).toArray = #[.int .i64 m.f, .string (str m.s)] from rfl]
    have hb4 := HB3.out.below b4 hlt3
    have d4 := D3.out.below b4
    have g4 : w.grownBy w4 (some g) := gtrans G3.out (gof b4 _)
    have x0 := hb4.cell 0
    have x1 := hb4.cell 1
    have f0 := hb4.frozen 0
    have f1 := hb4.frozen 1
    simp only [List.getElem?_cons_zero, List.getElem?_cons_succ] at x0 x1
    have KB := Lib.hid ((hb4.set 0 (.int .i64 (m).f)).set 1 (.string (str (m).s)))
    have DE := Lib.hid ((d4.keep (w' := (w4.setCell ⟨b, 0, none⟩ (.int .i64 (m).f)).setCell ⟨b, 1, none⟩ (.string (str (m).s))) ((Below.heap_setCell _ _ _ _ (by simp; omega)).trans (Below.heap_setCell _ _ _ _ (by simp; omega)))))
    have GE := Lib.hid (show w.grownBy ((w4.setCell ⟨b, 0, none⟩ (.int .i64 (m).f)).setCell ⟨b, 1, none⟩ (.string (str (m).s))) (some g) from gset (gset g4 (.inr (by show w.heap.size ≤ b; omega)) _) (.inr (by show w.heap.size ≤ b; omega)) _)
    clear hb4 d4 g4 b4 HB3 D3 G3 hr3 e3
    go_wp2_with fail
    exact bodyPost_ret (results_msg Try.results17 _ _ b _ m _ rfl KB.out Try.underlying41 rfl M.out) rfl ⟨rfl, DE.out, GE.out⟩

theorem msgInfo : (Try.prog.info? 41).map (fun i => (i.zero, i.size, i.bytes)) = some (some (.agg #[.int .i64 0, .string ByteArray.empty]), 2, 24) := by kernel_rfl
theorem take_snoc (q : List Ms) (j : Nat) (h : j < q.length) : mss (q.take (j + 1)) = mss (q.take j) ++ mcs q[j] := by
  rw [List.take_succ_eq_append_getElem h, mss_append, mss_one]

set_option maxHeartbeats 1000000 in
theorem nqueue_any (p : Int) (d : PS w g ls (kq Q) Q D) :
    Calls Try.prog 19 #[.pointer (some ⟨g, 0, none⟩), .int .i64 p] w fun e w' => ∃ v, e = .returned v ∧ w'.ownsRow w.heap.size 41 2 v (nqX ls Q p).length (mss (nqX ls Q p)) ∧ Below w.heap.size w w' := by
  have HD := Lib.hid d
  have hP4 := d.p4
  cases hin : inP ls.length p with
  | true =>
    have HX := Lib.hid (show nqX ls Q p = Q p.toNat by simp [nqX, hin])
    have HB := Lib.hid hin
    obtain ⟨k, rfl, hk⟩ := (inP_iff _ _).1 hin
    rw [Int.toNat_natCast] at HX
    have hk4 : (k : Int) < 4 := by omega
    have h8 := (d.q8 k).1
    have HO := Lib.hid (d.q8 k).2
    have hz := zLet_run
    have hne := zLet_ne
    have hsz := zLet_size
    have hll : zLet.toList.length = 34 := by rw [Array.length_toList, zLet_size]
    obtain ⟨i0, hi, hz0, hz1, hz2⟩ := info_parts msgInfo
    have HI := Lib.hid hi; have HZ0 := Lib.hid hz0; have HZ1 := Lib.hid hz1; have HZ2 := Lib.hid hz2
    have HR := Lib.hid (qrow_any k (by omega) HD.out h8)
    obtain ⟨N, hN⟩ : ∃ N, (Q k).length = N := ⟨_, rfl⟩
    have HK : Hid (kq Q k = N) := Lib.hid hN
    have HNN := Lib.hid hN
    rw [hN] at h8
    clear d hin hi hz0 hz1 hz2 hN
    go_enter Try.func19, Try.ntmps19
    go_wp2_with fail
    refine (shas_any _ HD.out).mono ?_
    rintro e w' ⟨rfl, rfl⟩
    rw [HB.out]
    go_wp2_with fail
    refine HR.out.mono ?_
    rintro e w' ⟨rfl, n, rfl⟩
    rw [HK.out]
    go_wp2_with fail
    go_loopw [5, 19] (fun q i wr => ∃ (j : Nat), j ≤ N ∧ i = .int .i64 j ∧ Hid (wr.ownsRow w.heap.size 41 2 q j (mss ((Q k).take j)) ∧ Below w.heap.size w wr)) (fun _ i _ => N - (intOf i).toNat)
    case atStart => exact ⟨0, by omega, rfl, Lib.hid ⟨World.ownsRow_nil _ _ _ _, bdrewN (Below.refl _ _) n⟩⟩
    case round =>
      obtain ⟨j, hj, rfl, H⟩ := hrel
      by_cases hlt : j < N
      · have hjq : j < (Q k).length := by rw [HNN.out]; exact hlt
        obtain ⟨hown, hbel⟩ := H.out
        have hr := (HD.out.below hbel).range k (by omega) j hjq
        have HT := Lib.hid (take_snoc (Q k) j hjq)
        have hm32 : ((Q k)[j]).s.length ≤ 32 := HO.out _ (List.getElem_mem hjq)
        generalize (Q k)[j] = m at *
        have hL := ltc_len m hm32
        have hCs : (ltc m).toArray.size = 34 := by simp [hL]
        have hi2 : (Try.prog.info? 67).map (·.size) = some (ltc m).length := by rw [letSize, hL]
        obtain ⟨w3, e3, k3, g3⟩ := (zLet_new wr 67).over0 (P := Try.prog) (ltc m) (by rw [hL, hll]) (ltc_one m)
        have b3 : Below wr.heap.size wr w3 := ((Below.refl _ wr).alloc (Nat.le_refl _) (.cells zLet 67)).grown g3 (by simp) (fun x hx => by injection hx with hx; omega)
        have hs0 := hbel.size
        have o3 := own_below hown b3
        have b3' := Below.down hbel b3 hs0
        have hr3 := k3.mid
        have O3 := Lib.hid o3; have B3 := Lib.hid b3'
        clear hown hbel H hjq k3 g3 b3 o3 b3'
        go_wp2_with (first | refine wpList_load_mid rfl 67 _ rfl _ _ rfl _ _ hr Try.underlying67 rfl hi2 ?_ | refine wpList_load_mid rfl 67 _ rfl _ _ rfl _ _ hr3 Try.underlying67 rfl hi2 ?_)
        refine (msg_any m _ hm32).mono ?_
        rintro e w4 ⟨rfl, b4⟩
        rw [show (mcs m).toArray = #[.int .i64 m.f, .string (str m.s)] from rfl]
        have o4 := own_below O3.out b4
        have b4' := Below.down B3.out b4 B3.out.size
        have hs4 := b4'.size
        have H1 := Lib.hid (mcs_one m)
        clear hr hr3 e3 b4
        go_wp2_with (at_builtin; refine wpList_append_own _ rfl _ _ 46 rfl w.heap.size 41 i0 _ 2 24 Try.underlying46 HI.out HZ0.out HZ1.out HZ2.out rfl (by decide) _ j (mss ((Q k).take j)) rfl (o4.alloc _) ⟨w4.heap.size, 0, none⟩ 1 1 (mcs m) rfl rfl (by exact row_new w4 (mcs m) _) H1.out (by unfold maxLen; omega) (by omega) (by simp; omega) ?_)
        intro v' w5 hown' hgrow _
        have hbel2 := below_one _ o4 hs4 b4' hgrow
        have HF := Lib.hid (And.intro hown' hbel2)
        clear hgrow o4 b4' hown' hbel2
        go_wp2
        go_roundw
        case rel => exact ⟨j + 1, by omega, by go_num, Lib.hid ⟨by rw [HT.out]; exact HF.out.1, HF.out.2⟩⟩
        case measure => simp [intOf]; omega
      · obtain rfl : j = N := by omega
        go_wp2_with fail
        go_ret
        rw [HX.out]
        refine ⟨_, rfl, ?_, H.out.2⟩
        have := H.out.1
        rw [← HNN.out, List.take_length] at this
        exact this
  | false =>
    have HX := Lib.hid (show nqX ls Q p = [] by simp [nqX, hin])
    have HB := Lib.hid hin
    clear d hin
    go_enter Try.func19, Try.ntmps19
    go_wp2_with fail
    refine (shas_any _ HD.out).mono ?_
    rintro e w' ⟨rfl, rfl⟩
    rw [HB.out]
    go_wp2_with fail
    go_ret
    rw [HX.out]
    exact ⟨_, rfl, World.ownsRow_nil _ _ _ _, Below.refl _ _⟩
end

end Go.Proofs.Ytfkdohnpfjdehaa
