/-
  Contracts of the program's set: among.
-/
import Derived.Test.YtjmdgjpepogogaaPn4
namespace Go.Proofs.Ytjmdgjpepogogaa
open Go.RowKit Go.ChangeMaps
set_option linter.unusedVariables false
set_option maxRecDepth 100000

/-- An Irq. -/
structure Iq where
  t : Int
  d : Int
  v : Int
def iq3 (q : Iq) : List Value := [.int .i64 q.t, .int .i64 q.d, .int .i64 q.v]
def iqs (l : List Iq) : List Value := l.flatMap iq3
theorem iqs_len (l : List Iq) : (iqs l).length = l.length * 3 := by
  induction l with
  | nil => rfl
  | cons p l ih => simp only [iqs, List.flatMap_cons, List.length_append, List.length_cons] at ih ⊢; rw [ih]; simp [iq3]; omega
theorem iqs_append (l m : List Iq) : iqs (l ++ m) = iqs l ++ iqs m := by simp [iqs]
theorem iqs_one (q : Iq) : iqs [q] = iq3 q := by simp [iqs]
theorem iqs_get (l : List Iq) : ∀ i (h : i < l.length), (iqs l)[i * 3]? = some (.int .i64 l[i].t) ∧ (iqs l)[i * 3 + 1]? = some (.int .i64 l[i].d) ∧ (iqs l)[i * 3 + 2]? = some (.int .i64 l[i].v) := by
  induction l with
  | nil => intro i h; simp at h
  | cons p l ih =>
    intro i h
    have e : iqs (p :: l) = iq3 p ++ iqs l := by simp [iqs]
    match i with
    | 0 => rw [e]; simp [iq3]
    | i + 1 =>
      have := ih i (by simpa using h)
      have hp : (iq3 p).length = 3 := rfl
      rw [e, List.getElem?_append_right (by omega), List.getElem?_append_right (by omega), List.getElem?_append_right (by omega), hp]
      rw [show (i + 1) * 3 - 3 = i * 3 from by omega, show (i + 1) * 3 + 1 - 3 = i * 3 + 1 from by omega, show (i + 1) * 3 + 2 - 3 = i * 3 + 2 from by omega]
      simpa using this
theorem iq_at {w : World} {v : Value} {n : Nat} {M : List Iq} (h : Sl w v n 3 (iqs M)) (hl : M.length = n) (k : Nat) (hk : k < M.length) :
    ∃ b o, ∃ cap, v = .slice (some ⟨b, o, none⟩) n cap ∧ n ≤ cap ∧ b < w.heap.size ∧ w.cell? ⟨b, o + k * 3, none⟩ = some (.int .i64 M[k].t) ∧ w.cell? ⟨b, o + k * 3 + 1, none⟩ = some (.int .i64 M[k].d) ∧ w.cell? ⟨b, o + k * 3 + 2, none⟩ = some (.int .i64 M[k].v) := by
  obtain ⟨A, cap, rfl, hc, _, hA⟩ := h
  obtain ⟨b, o, rfl, hb, hcell⟩ := hA (by omega)
  obtain ⟨h1, h2, h3⟩ := iqs_get M k hk
  exact ⟨b, o, cap, rfl, hc, hb, hcell _ _ h1, by have := hcell _ _ h2; rwa [← Nat.add_assoc] at this, by have := hcell _ _ h3; rwa [← Nat.add_assoc] at this⟩

/-- Of the first k of M: which keys of a map's keys ks are named. -/
def amg (ks : List (Int × Int)) (M : List Iq) (k : Nat) (hs : List (Int × Int)) : Prop := ∀ i, i ∈ hs ↔ i ∈ ks ∧ ∃ q ∈ M.take k, (q.d, q.v) = i
/-- What among's loop has made. -/
structure Am (w : World) (ks : List (Int × Int)) (M : List Iq) (k : Nat) (wr : World) : Prop where
  below : Below w.heap.size w wr
  mp : ∃ hs, MapB wr w.heap.size hs ∧ amg ks M k hs

theorem amg_skip {ks hs : List (Int × Int)} {M : List Iq} {k : Nat} (h : amg ks M k hs) (hk : k < M.length) (hn : (M[k].d, M[k].v) ∉ ks) : amg ks M (k + 1) hs := by
  intro i
  rw [h i, List.take_succ_eq_append_getElem hk]
  constructor
  · rintro ⟨h1, q, hq, e⟩; exact ⟨h1, q, List.mem_append_left _ hq, e⟩
  · rintro ⟨h1, q, hq, e⟩
    rcases List.mem_append.1 hq with hq | hq
    · exact ⟨h1, q, hq, e⟩
    · simp at hq; subst hq; exact absurd (e ▸ h1) hn
theorem amg_put {ks hs : List (Int × Int)} {M : List Iq} {k : Nat} (h : amg ks M k hs) (hk : k < M.length) (hn : (M[k].d, M[k].v) ∈ ks) : amg ks M (k + 1) (if (M[k].d, M[k].v) ∈ hs then hs else hs ++ [(M[k].d, M[k].v)]) := by
  intro i
  have key : i ∈ (if (M[k].d, M[k].v) ∈ hs then hs else hs ++ [(M[k].d, M[k].v)]) ↔ i ∈ hs ∨ i = (M[k].d, M[k].v) := by
    by_cases hm : (M[k].d, M[k].v) ∈ hs
    · rw [if_pos hm]; exact ⟨.inl, fun e => e.elim id (fun e => e ▸ hm)⟩
    · rw [if_neg hm]; simp
  rw [key, h i, List.take_succ_eq_append_getElem hk]
  constructor
  · rintro (⟨h1, q, hq, e⟩ | rfl)
    · exact ⟨h1, q, List.mem_append_left _ hq, e⟩
    · exact ⟨hn, M[k], List.mem_append_right _ (List.mem_singleton.2 rfl), rfl⟩
  · rintro ⟨h1, q, hq, e⟩
    rcases List.mem_append.1 hq with hq | hq
    · exact .inl ⟨h1, q, hq, e⟩
    · simp at hq; subst hq; exact .inr e.symm

/-- A look in whatever world that has the map. -/
theorem look_in {w : World} {m : Nat} {ks : List (Int × Int)} (hm : MapB w m ks) (a b : Int) (r : Bool) (hr : decide ((a, b) ∈ ks) = r) (W : World) (hW : W.heap[m]? = w.heap[m]?) :
    (Instr.lookup 94 (.map (some m)) (.agg #[.int .i64 a, .int .i64 b]) true).run Try.prog W = .ok (.tuple #[.agg #[], .bool r]) W := by
  rw [← hr]; exact (hm.stay hW).look (a, b)

set_option maxHeartbeats 2000000 in
theorem samong_any (x m : Nat) (rv mv : Value) (ks : List (Int × Int)) (M : List Iq) (n : Nat) (w : World) (hx : Blk w x 98 [.map (some m), rv]) (hm : MapB w m ks) (hM : Sl w mv n 3 (iqs M)) (hl : M.length = n) (hn : n ≤ 140737488355328) :
    Calls Try.prog 68 #[.pointer (some ⟨x, 0, none⟩), mv] w fun e w' => e = .returned (.map (some w.heap.size)) ∧ Am w ks M n w' := by
  obtain ⟨A, cap, rfl, hcap, _, _⟩ := hM
  have HX := Lib.hid hx
  have HM := Lib.hid hm
  have hmw := hm.lt
  have hxw := hx.lt
  have HSL : Hid (Sl w (.slice A n cap) n 3 (iqs M)) := Lib.hid ⟨A, cap, rfl, hcap, ‹_›, ‹_›⟩
  have HL := Lib.hid hl
  clear hx hm hl
  have hmk : (Instr.makeMap 94 none).run Try.prog w = .ok (.map (some w.heap.size)) (w.alloc (.map #[] 0)) := by simp [Instr.makeMap, go_sem]
  go_enter Try.func68, Try.ntmps68
  go_wp2_with fail
  clear hmk
  have a0 : Am w ks M 0 (w.alloc (.map #[] 0)) := ⟨(Below.refl _ _).alloc (Nat.le_refl _) _, [], MapB.made w, fun i => by simp⟩
  have A0 := Lib.hid a0
  clear a0
  generalize hg : w.heap.size = g at *
  have hgw : w.heap.size = g := hg
  have HG := Lib.hid hgw
  clear hgw hg
  go_loopw [14] (fun i wr => ∃ (k : Nat), k ≤ n ∧ i = .int .i64 k ∧ Hid (Am w ks M k wr)) (fun i _ => n - (intOf i).toNat)
  case atStart => exact ⟨0, Nat.zero_le _, rfl, A0⟩
  case round =>
    clear A0
    obtain ⟨k, hk, rfl, HA⟩ := hrel
    have hgr : g ≤ wr.heap.size := by have := HA.out.below.size; have := HG.out; omega
    by_cases hlt : k < n
    · have hkl : k < M.length := by rw [HL.out]; exact hlt
      obtain ⟨b, o, cap', e, hcap', hbw, c1, c2, c3⟩ := iq_at (HSL.out.below HA.out.below) HL.out k hkl
      simp only [Value.slice.injEq] at e
      obtain ⟨rfl, -, rfl⟩ := e
      have HAS := Lib.hid (fun h => amg_skip (ks := ks) (hs := h) (M := M) (k := k) (hk := hkl))
      have HAP := Lib.hid (fun h => amg_put (ks := ks) (hs := h) (M := M) (k := k) (hk := hkl))
      generalize M[k].t = qt at *
      generalize M[k].d = qd at *
      generalize M[k].v = qv at *
      have em : wr.heap[m]? = w.heap[m]? := HA.out.below.block m (by have := HG.out; omega)
      have hxr := HX.out.below HA.out.below (by have := HG.out; omega)
      have x0 := hxr.cell 0
      simp only [List.getElem?_cons_zero] at x0
      have hbl : b < wr.heap.size := hbw
      clear hxr
      go_wp2_with fail
      change Code.wp _ _ _ _ ((wr.alloc (.cells #[.int .i64 qt, .int .i64 qd, .int .i64 qv] 46)).alloc (.cells [Value.int .i64 qd, .int .i64 qv].toArray 111))
      have bl : Below wr.heap.size wr ((wr.alloc (.cells #[.int .i64 qt, .int .i64 qd, .int .i64 qv] 46)).alloc (.cells [Value.int .i64 qd, .int .i64 qv].toArray 111)) := ((Below.refl _ _).alloc (Nat.le_refl _) _).alloc (by simp) _
      have hb1 : Blk ((wr.alloc (.cells #[.int .i64 qt, .int .i64 qd, .int .i64 qv] 46)).alloc (.cells [Value.int .i64 qd, .int .i64 qv].toArray 111)) (wr.heap.size + 1) 111 [.int .i64 qd, .int .i64 qv] := by
        have := Blk.new (wr.alloc (.cells #[.int .i64 qt, .int .i64 qd, .int .i64 qv] 46)) 111 [.int .i64 qd, .int .i64 qv]
        rwa [show (wr.alloc (.cells #[.int .i64 qt, .int .i64 qd, .int .i64 qv] 46)).heap.size = wr.heap.size + 1 by simp] at this
      generalize (wr.alloc (.cells #[.int .i64 qt, .int .i64 qd, .int .i64 qv] 46)).alloc (.cells [Value.int .i64 qd, .int .i64 qv].toArray 111) = wa at *
      have hl1 := hb1.lt
      generalize hsz : wr.heap.size + 1 = gs at *
      have bw : Below w.heap.size w wa := HA.out.below.trans (bl.mono (by rw [HG.out]; exact hgr))
      have x1 : wa.cell? ⟨x, 0, none⟩ = some (.map (some m)) := by rw [bl.cell (p := ⟨x, 0, none⟩) (by show x < wr.heap.size; omega)]; exact x0
      have x2 : (wa.alloc (.cells #[] 125)).cell? ⟨x, 0, none⟩ = some (.map (some m)) := by
        rw [(show Below wa.heap.size wa (wa.alloc (.cells #[] 125)) from (Below.refl _ _).alloc (Nat.le_refl _) _).cell (p := ⟨x, 0, none⟩) (by show x < wa.heap.size; omega)]; exact x1
      have b0 := hb1.cell 0
      have b1 := hb1.cell 1
      have b0' := (hb1.alloc (.cells #[] 125)).cell 0
      have b1' := (hb1.alloc (.cells #[] 125)).cell 1
      simp only [List.getElem?_cons_zero, List.getElem?_cons_succ] at b0 b1 b0' b1'
      have e1 : wa.heap[m]? = w.heap[m]? := bw.block m (by rw [HG.out]; exact hmw)
      have e2 : (wa.alloc (.cells #[] 125)).heap[m]? = w.heap[m]? := (Below.heap_alloc _ _ _ (by omega)).trans e1
      obtain ⟨hs, hmp, hamg⟩ := HA.out.mp
      have em3 : wa.heap[g]? = wr.heap[g]? := bl.block g (by rw [HG.out] at hmp; exact hmp.lt)
      have HMP := Lib.hid hmp
      have HAMG := Lib.hid hamg
      have HB1 := Lib.hid hb1
      have BW := Lib.hid bw
      have EM3 := Lib.hid em3
      clear hmp hamg hb1 bw bl em x0 c1 c2 c3 em3
      by_cases hin : (qd, qv) ∈ ks
      · have q1 := look_in HM.out qd qv true (by simpa using hin) wa e1
        have q2 := look_in HM.out qd qv true (by simpa using hin) wa.drew e1
        have q3 := look_in HM.out qd qv true (by simpa using hin) (wa.alloc (.cells #[] 125)) e2
        have q4 := look_in HM.out qd qv true (by simpa using hin) (wa.alloc (.cells #[] 125)).drew e2
        have HIN := Lib.hid hin
        clear hin
        go_region
        all_goals
          have bw2 : Below w.heap.size w (wa.alloc (.cells #[] 125)).drew := bdrewN (BW.out.alloc (by rw [HG.out]; omega) _) 1
          have hb2 := (HB1.out.alloc (.cells #[] 125)).drewN 1
          have hm2 : (wa.alloc (.cells #[] 125)).drew.heap[g]? = wr.heap[g]? := (Below.heap_alloc _ _ _ (by omega)).trans EM3.out
          clear b0 b1 b0' b1' q1 q2 q3 q4 e1 e2 x1 x2
          change Blk (wa.alloc (.cells #[] 125)).drew _ _ _ at hb2
          generalize (wa.alloc (.cells #[] 125)).drew = wb at *
          have d0 := hb2.cell 0
          have d1 := hb2.cell 1
          simp only [List.getElem?_cons_zero, List.getElem?_cons_succ] at d0 d1
          have hput := HMP.out.put (qd, qv)
          rw [HG.out] at hput
          obtain ⟨es, clock, ho, hrun⟩ := hput
          obtain ⟨r1, gr, hm3⟩ := hrun wb hm2
          have HO := Lib.hid ho
          have GR := Lib.hid gr
          have HM3 := Lib.hid hm3
          have r1' : (Instr.mapUpdate 94 (.map (some g)) (.agg #[.int .i64 qd, .int .i64 qv]) (.agg #[])).run Try.prog wb = .ok () (setBlock wb g (.map es clock)) := r1
          clear hrun r1 gr hm3 ho hb2 hm2
          have BW2 := Lib.hid bw2
          clear bw2
          go_wp2_with fail
          clear r1'
          generalize setBlock wb g (.map es clock) = wc at *
          go_roundw
          case rel => exact ⟨k + 1, by omega, by go_num, Lib.hid ⟨bone BW2.out GR.out (BW2.out.size) (by rw [HG.out]; exact Nat.le_refl _), _, ⟨es, clock, by rw [HG.out]; exact HM3.out, HO.out⟩, HAP.out hs HAMG.out HIN.out⟩⟩
          case measure => simp [intOf]; omega
      · have q1 := look_in HM.out qd qv false (by simpa using hin) wa e1
        have q2 := look_in HM.out qd qv false (by simpa using hin) wa.drew e1
        have q3 := look_in HM.out qd qv false (by simpa using hin) (wa.alloc (.cells #[] 125)) e2
        have q4 := look_in HM.out qd qv false (by simpa using hin) (wa.alloc (.cells #[] 125)).drew e2
        have HIN := Lib.hid hin
        clear hin
        go_region
        all_goals
          have bw2 : Below w.heap.size w (wa.alloc (.cells #[] 125)).drew := bdrewN (BW.out.alloc (by rw [HG.out]; omega) _) 1
          have hm2 : (wa.alloc (.cells #[] 125)).drew.heap[g]? = wr.heap[g]? := (Below.heap_alloc _ _ _ (by omega)).trans EM3.out
          clear b0 b1 b0' b1' q1 q2 q3 q4 e1 e2 x1 x2
          generalize (wa.alloc (.cells #[] 125)).drew = wb at *
          have BW2 := Lib.hid bw2
          have HM2 := Lib.hid hm2
          clear bw2 hm2
          go_wp2_with fail
          go_roundw
          case rel => exact ⟨k + 1, by omega, by go_num, Lib.hid ⟨BW2.out, hs, HMP.out.stay (by rw [HG.out]; exact HM2.out), HAS.out hs HAMG.out HIN.out⟩⟩
          case measure => simp [intOf]; omega
    · go_wp2_with fail
      go_ret
      have e : k = n := by omega
      subst e
      refine ⟨?_, HA.out⟩
      rw [HG.out]
      try rfl
end Go.Proofs.Ytjmdgjpepogogaa
