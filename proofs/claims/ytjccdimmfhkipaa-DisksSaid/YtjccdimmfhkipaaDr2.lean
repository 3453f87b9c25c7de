/-
  Layer 19, the document: NewDisk.
-/
import Derived.Test.YtjccdimmfhkipaaDr1
import Derived.Test.YtjccdimmfhkipaaDk2
import Derived.Test.YtjccdimmfhkipaaEx3
import Derived.Test.YtjccdimmfhkipaaArgs2
import Derived.Deep.RegionLaw
import Derived.Deep.AppendLies
import Derived.Deep.DeepCutAuto
import Derived.Deep.CutBlock
namespace Go.Proofs.Ytjccdimmfhkipaa
open Go.RowKit Go.ChangeShapes Go.WideShapes Go.Deep
set_option linter.unusedVariables false
set_option linter.unusedSimpArgs false
set_option maxRecDepth 100000

theorem rdnew_no (v : Value) (ps : List (Int × Int)) (s q : Int) (w : World) (h : PtS w v ps) (hno : ¬ (extB ps s = true ∧ 0 ≤ q ∧ q ≤ 64)) :
    Calls Try.prog 10 #[v, .int .i64 s, .int .i64 q] w fun e w' => e = .returned (.tuple #[.pointer none, .int .i64 1900]) ∧ Below w.heap.size w w' := by
  have HM := Lib.hid (rextmay_any v ps s w h)
  clear h
  cases hE : extB ps s
  · rw [hE] at HM
    clear hE hno
    go_enter Try.func10, Try.ntmps10
    go_wp2_with fail
    refine HM.out.mono ?_
    rintro e w1 ⟨rfl, b⟩
    have HB := Lib.hid b
    clear b
    go_wp2_with fail
    go_ret2
    exact ⟨rfl, HB.out⟩
  · rw [hE] at HM
    have hw : q < 0 ∨ (decide (q < 0) = false ∧ 64 < q) := by
      by_cases h0 : q < 0
      · exact .inl h0
      · refine .inr ⟨by simp; omega, ?_⟩
        rcases Int.lt_or_le 64 q with h1 | h1
        · exact h1
        · exact (hno ⟨hE, by omega, h1⟩).elim
    clear hE hno
    rcases hw with h1 | ⟨h1, h2⟩
    all_goals
      go_enter Try.func10, Try.ntmps10
      go_wp2_with fail
      refine HM.out.mono ?_
      rintro e w1 ⟨rfl, b⟩
      have HB := Lib.hid b
      clear b
      go_wp2_with fail
      go_ret2
      exact ⟨rfl, HB.out⟩

/-- The cells of parts, where each part's are. -/
theorem pcl_cells {w : World} {b o : Nat} {L : List (Pa × Value)} (h : ∀ i (h : i < L.length), w.cell? ⟨b, o + i * 5, none⟩ = some (.int .i64 L[i].1.lv) ∧ w.cell? ⟨b, o + i * 5 + 1, none⟩ = some (.int .i64 L[i].1.ct) ∧ w.cell? ⟨b, o + i * 5 + 2, none⟩ = some L[i].2 ∧ w.cell? ⟨b, o + i * 5 + 3, none⟩ = some (.int .i64 L[i].1.fi) ∧ w.cell? ⟨b, o + i * 5 + 4, none⟩ = some (.int .i64 L[i].1.co)) :
    ∀ j u, (pcl L)[j]? = some u → w.cell? ⟨b, o + j, none⟩ = some u := by
  intro j u hj
  have hlt : j < L.length * 5 := by
    rw [← pcl_len]
    exact (List.getElem?_eq_some_iff.1 hj).1
  have hi : j / 5 < L.length := by omega
  obtain ⟨h0, h1, h2, h3, h4⟩ := h (j / 5) hi
  obtain ⟨g0, g1, g2, g3, g4⟩ := pcl_get L (j / 5) hi
  rcases (show j = j / 5 * 5 ∨ j = j / 5 * 5 + 1 ∨ j = j / 5 * 5 + 2 ∨ j = j / 5 * 5 + 3 ∨ j = j / 5 * 5 + 4 by omega) with e | e | e | e | e <;> rw [e] at hj ⊢
  · rw [g0] at hj; rw [h0]; exact hj
  · rw [g1] at hj; rw [← Nat.add_assoc, h1]; exact hj
  · rw [g2] at hj; rw [← Nat.add_assoc, h2]; exact hj
  · rw [g3] at hj; rw [← Nat.add_assoc, h3]; exact hj
  · rw [g4] at hj; rw [← Nat.add_assoc, h4]; exact hj
/-- What is read of a slice of parts, as cells. -/
theorem PtS.news {w : World} {v : Value} {ps : List (Int × Int)} (h : PtS w v ps) (h0 : 0 < ps.length) : ∃ (b o cap : Nat) (L : List (Pa × Value)), v = .slice (some ⟨b, o, none⟩) ps.length cap ∧ L.length = ps.length ∧ L.map (fun x => x.1.fc) = ps ∧ b < w.heap.size ∧ (∀ x ∈ L, ∃ A2 n2 c2, x.2 = .slice A2 n2 c2) ∧ ∀ j u, (pcl L)[j]? = some u → w.cell? ⟨b, o + j, none⟩ = some u := by
  obtain ⟨A, cap, rfl, hn, hA⟩ := h
  obtain ⟨b, o, rfl, hlt, hi⟩ := hA h0
  haveI : Inhabited (Pa × Value) := ⟨(paD, .int .i64 0)⟩
  obtain ⟨F, hF⟩ := choose_lt (n := ps.length) (α := Pa × Value) (p := fun i x => x.1.fc = ps.getD i (0, 0) ∧ (∃ A2 n2 c2, x.2 = .slice A2 n2 c2) ∧ w.cell? ⟨b, o + i * 5, none⟩ = some (.int .i64 x.1.lv) ∧ w.cell? ⟨b, o + i * 5 + 1, none⟩ = some (.int .i64 x.1.ct) ∧ w.cell? ⟨b, o + i * 5 + 2, none⟩ = some x.2 ∧ w.cell? ⟨b, o + i * 5 + 3, none⟩ = some (.int .i64 x.1.fi) ∧ w.cell? ⟨b, o + i * 5 + 4, none⟩ = some (.int .i64 x.1.co)) (fun i hi' => by
    obtain ⟨l, c, A2, n2, c2, q0, q1, q2, q3, q4⟩ := hi i hi'
    exact ⟨(⟨l, c, [], (ps.getD i (0, 0)).1, (ps.getD i (0, 0)).2⟩,   .slice A2 n2 c2), rfl, ⟨_, _, _, rfl⟩, q0, q1, q2, q3, q4⟩)
  refine ⟨b, o, cap, (List.range ps.length).map F, rfl, by simp, ?_, hlt, fun x hx => ?_, pcl_cells (fun i hi' => ?_)⟩
  · apply List.ext_getElem
    · simp
    · intro i h1 h2
      have := (hF i h2).1
      simp [this, List.getD, List.getElem?_eq_getElem h2]
  · obtain ⟨i, hi', rfl⟩ := List.mem_map.1 hx
    exact (hF i (List.mem_range.1 hi')).2.1
  · simp only [List.length_map, List.length_range] at hi'
    simp only [List.getElem_map, List.getElem_range]
    exact (hF i hi').2.2
theorem pcl_one5 {L : List (Pa × Value)} (h : ∀ x ∈ L, ∃ A2 n2 c2, x.2 = .slice A2 n2 c2) : ∀ u ∈ pcl L, u.oneCell' = true := by
  intro u hu
  obtain ⟨x, hx, hu⟩ := List.mem_flatMap.1 hu
  simp only [pac, List.mem_cons, List.not_mem_nil, or_false] at hu
  rcases hu with rfl | rfl | rfl | rfl | rfl
  · rfl
  · rfl
  · obtain ⟨_, _, _, e⟩ := h x hx; rw [e]; rfl
  · rfl
  · rfl
/-- Cells that begin with those of parts read as their shares. -/
theorem PtS.of_take {w : World} {a n ca : Nat} {t : TypeId} {cs : List Value} {L : List (Pa × Value)} {ps : List (Int × Int)} (hL : L.length = n) (hps : L.map (fun x => x.1.fc) = ps) (hsl : ∀ x ∈ L, ∃ A2 n2 c2, x.2 = .slice A2 n2 c2) (hm : n ≤ maxLen) (ht : cs.take (n * 5) = pcl L) (hb : Blk w a t cs) : PtS w (.slice (some ⟨a, 0, none⟩) n ca) ps := by
  subst hps
  refine ⟨_, ca, by rw [List.length_map, hL], by rw [List.length_map, hL]; exact hm, fun h0 => ⟨a, 0, rfl, hb.lt, fun i hi => ?_⟩⟩
  rw [List.length_map] at hi
  obtain ⟨g0, g1, g2, g3, g4⟩ := pcl_get L i hi
  obtain ⟨A2, n2, c2, e⟩ := hsl _ (List.getElem_mem hi)
  have key : ∀ j u, j < n * 5 → (pcl L)[j]? = some u → w.cell? ⟨a, 0 + j, none⟩ = some u := by
    intro j u hj hu
    rw [hb.cell, Nat.zero_add]
    rw [← ht, List.getElem?_take, if_pos hj] at hu
    exact hu
  have eg : (L.map (fun x => x.1.fc)).getD i (0, 0) = L[i].1.fc := by simp [List.getD, List.getElem?_map, List.getElem?_eq_getElem hi]
  rw [eg]
  rw [e] at g2
  have k1 := key _ _ (by omega) g1; have k2 := key _ _ (by omega) g2; have k3 := key _ _ (by omega) g3; have k4 := key _ _ (by omega) g4
  simp only [← Nat.add_assoc] at k1 k2 k3 k4
  exact ⟨_, _, A2, n2, c2, key _ _ (by omega) g0, k1, k2, k3, k4⟩

/-- A new disk on the way: what the first k have left is there. -/
def NwD (w : World) (ps : List (Int × Int)) (P N : Nat) (Q : Int) (Z : List UInt8) (y k : Nat) (wx : World) : Prop :=
  ∃ (a ca hb : Nat) (cs : List Value) (u : Value), (∀ W, Blk W a 39 cs → PtS W (.slice (some ⟨a, 0, none⟩) P ca) ps) ∧
    Tk nos w [obR 3 1 u k (itc (qF Q k) k), obB y 69 [.slice (some ⟨a, 0, none⟩) P ca, .int .i64 Q, .slice (some ⟨hb, 0, none⟩) (N * 16) (N * 16), u], obB a 39 cs, obB hb 5 (bts Z)] wx

/-- The shares copied: an own row, told as a block. -/
theorem Tk.parts {S : Nat → Prop} {W0 w : World} {os : List Ob} {i P : Nat} {v : Value} {L : List (Pa × Value)} {ps : List (Int × Int)} (t : Tk S W0 os w) (hi : os[i]? = some (obR 39 5 v P (pcl L))) (h0 : 0 < P) (hm : P ≤ maxLen) (hL : L.length = P) (hps : L.map (fun x => x.1.fc) = ps) (hsl : ∀ x ∈ L, ∃ A2 n2 c2, x.2 = .slice A2 n2 c2) :
    ∃ a ca cs, v = .slice (some ⟨a, 0, none⟩) P ca ∧ (∀ W, Blk W a 39 cs → PtS W v ps) ∧ Tk S W0 (os.set i (obB a 39 cs)) w := by
  obtain ⟨S1, q, _, k⟩ := t.call hi
  rcases q.1.2 with ⟨_, h⟩ | ⟨g, cap, cur, rfl, hb, hg, hnc, hcm, hcs, htake⟩
  · omega
  · refine ⟨g, cap, cur.toList, rfl, fun W hW => PtS.of_take hL hps hsl hm htake hW, k w _ [] ⟨S1, obs_one.2 ⟨?_, fun b => ?_⟩, fun _ _ h => h, Fo.refl _ _⟩⟩
    · unfold Blk; rw [Array.toArray_toList]; exact hg
    · rw [q.2]; simp [Value.ownBlock, eq_comm]

theorem infoIntD : (Try.prog.info? 3).map (fun i => (i.zero, i.size, i.bytes)) = some (some (.int .i64 0), 1, 8) := by kernel_rfl
theorem itc_qF (Q : Int) (k : Nat) : itc (qF Q (k + 1)) (k + 1) = itc (qF Q k) k ++ [.int .i64 Q] := by
  unfold itc
  rw [List.range_succ, List.map_append]
  congr 1
  · apply List.map_congr_left
    intro i hi
    have := List.mem_range.1 hi
    unfold qF; rw [if_pos (by omega), if_pos this]
  · simp [qF]

/-- The empty slice that the shares are copied onto. -/
def obE5 (g : Nat) : Ob := obR 39 5 (.slice (some ⟨g, 0, none⟩) 0 0) 0 []
theorem Tk.empt {S : Nat → Prop} {W0 w : World} {os : List Ob} (t : Tk S W0 os w) : Tk S W0 (obE5 w.heap.size :: os) (w.alloc (.cells #[] 39)) :=
  t.addR ((Below.refl _ _).alloc (Nat.le_refl _) _) (World.ownsRow_made w (e := 39) (size := 5) #[] 0 (Nat.le_refl _) (Nat.zero_le _) rfl)

theorem NwD.of {w w3 : World} {ps : List (Int × Int)} {P N hb g cap y : Nat} {Q : Int} {Z : List UInt8} {L : List (Pa × Value)} (t : Tk nos w [obB hb 5 (bts Z), obR 39 5 (.slice (some ⟨g, 0, none⟩) P cap) P (pcl L)] w3) (h0 : 0 < P) (hm : P ≤ maxLen) (hL : L.length = P) (hps : L.map (fun x => x.1.fc) = ps) (hsl : ∀ x ∈ L, ∃ A2 n2 c2, x.2 = .slice A2 n2 c2) (hy : w3.heap.size = y) :
    NwD w ps P N Q Z y 0 (w3.alloc (.cells #[.slice (some ⟨g, 0, none⟩) P cap, .int .i64 Q, .slice (some ⟨hb, 0, none⟩) (N * 16) (N * 16), .slice none 0 0] 69)) := by
  subst hy
  obtain ⟨a, ca, cs, e, hpt, t2⟩ := t.parts (i := 1) rfl h0 hm hL hps hsl
  have t3 := t2.alloc 69 [.slice (some ⟨g, 0, none⟩) P cap, .int .i64 Q, .slice (some ⟨hb, 0, none⟩) (N * 16) (N * 16), .slice none 0 0]
  have t4 := t3.addR (t := 3) (size := 1) (v := .slice none 0 0) (n := 0) (xs := []) (Below.refl _ _) (World.ownsRow_nil _ _ _ _)
  simp only [Value.slice.injEq, Option.some.injEq, Addr.mk.injEq, and_true, true_and] at e
  obtain ⟨rfl, rfl⟩ := e
  exact ⟨g, cap, hb, cs, .slice none 0 0, hpt, t4.perm (.cons _ (.cons _ (.swap _ _ _)))⟩

end Go.Proofs.Ytjccdimmfhkipaa
