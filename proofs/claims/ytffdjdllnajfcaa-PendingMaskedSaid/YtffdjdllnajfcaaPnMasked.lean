/-
  Layer 12's law PendingMasked: it answers true for every input.
-/
import Derived.Test.YtffdjdllnajfcaaPnOnce
import Derived.Deep.CutBlock
import Derived.Deep.DeepCutAuto
namespace Go.Proofs.Ytffdjdllnajfcaa
open Go.RowKit Go.ChangeMaps
set_option linter.unusedVariables false
set_option maxRecDepth 100000

/-- A slice of the law's own grew. -/
theorem L1.appended {W0 w w' : World} {s n g cap : Nat} {F : Nat → Bool} {fr : List Nat} {t : Value} {M M' : List Iq} (h : L1 W0 s n F [(t, M)] fr w) (own : w'.ownsRow W0.heap.size 50 3 (.slice (some ⟨g, 0, none⟩) M'.length cap) M'.length (iqs M')) (gr : w.grownBy w' t.ownBlock)
    (hat : t.ownBlock = some g ∨ w.heap.size ≤ g) (hfr : ∀ b ∈ fr, t.ownBlock ≠ some b) : L1 W0 s n F [(.slice (some ⟨g, 0, none⟩) M'.length cap, M')] fr w' ∧ Ke fr w w' := by
  obtain ⟨v, xs, O, h⟩ := h
  have hp := h.held _ List.mem_cons_self
  refine ⟨⟨v, xs, O, ?_⟩, fun b hb => gr.block b (h.free b hb).1 (fun e => hfr b hb e.symm)⟩
  refine ⟨fun d hd => (h.ps d hd).stay (fun b hb hO => gr.block b hb (fun e => hO (hp.2 d hd b e.symm))) gr.size, h.new, h.dis, fun p hp' => ?_, fun b hb => ⟨Nat.lt_of_lt_of_le (h.free b hb).1 gr.size, (h.free b hb).2⟩, h.below.grown gr h.below.size (fun i hi => (hp.1.lt i hi).1)⟩
  simp only [List.mem_singleton] at hp'
  subst hp'
  refine ⟨own, fun d hd b hb => ?_⟩
  have e : g = b := by simpa [Value.ownBlock] using hb
  subst e
  rcases hat with h1 | h1
  · exact hp.2 d hd g h1
  · rcases Nat.eq_zero_or_pos (d.O g) with e0 | e0
    · exact e0
    · have := (h.ps d hd).lt g (by omega); omega

theorem mkB_snoc (M : List Iq) (x : Int) (d v c : Nat) (hv : v < 8) : mkB (M ++ [⟨x, d, v⟩]) c = (mkB M c || decide (c = d * 8 + v)) := by
  unfold mkB
  rw [← Bool.decide_or, decide_eq_decide]
  constructor
  · rintro ⟨q, hq, e⟩
    rcases List.mem_append.1 hq with hq | hq
    · exact .inl ⟨q, hq, e⟩
    · simp only [List.mem_singleton] at hq; subst hq
      unfold pz at e; simp only [Prod.mk.injEq] at e
      right; omega
  · rintro (⟨q, hq, e⟩ | e)
    · exact ⟨q, List.mem_append_left _ hq, e⟩
    · refine ⟨⟨x, d, v⟩, List.mem_append_right _ (List.mem_singleton.2 rfl), ?_⟩
      unfold pz; simp only [Prod.mk.injEq]; omega

def zUp1 : Array Value := (bitc (fun _ => false) 32).toArray
theorem zUp1_ne : ¬ (zUp1 = #[]) := by simp [zUp1, bitc]
theorem zUp1_run (w : World) : Sem.run Try.prog (zeroValue 46) w = .ok (.agg zUp1) w := by
  have hi : (Try.prog.info? 46).map (fun i => i.zero) = some (some (.agg zUp1)) := by kernel_rfl
  cases h : Try.prog.info? 46 with
  | none => rw [h] at hi; cases hi
  | some i =>
    rw [h] at hi
    simp only [Option.map_some, Option.some.injEq] at hi
    simp [zeroValue, typeInfo, h, hi]

/-- The program's Sets, the law's two tables (F was raised, O is masked) and its mask. -/
structure Ms (W0 : World) (s h1 h2 : Nat) (G F O : Nat → Bool) (us : List (Value × List Iq)) (w : World) : Prop where
  l : L1 W0 s 1 G us [h2, h1] w
  b1 : Blk w h1 46 (bitc F 32)
  b2 : Blk w h2 46 (bitc O 32)
  hh1 : W0.heap.size ≤ h1
  hh2 : W0.heap.size ≤ h2
  ne : h1 ≠ h2
section
variable {W0 w w' : World} {s h1 h2 i : Nat} {G G' F O : Nat → Bool} {us us' : List (Value × List Iq)}
theorem Ms.call (m : Ms W0 s h1 h2 G F O us w) (l : L1 W0 s 1 G' us' [h2, h1] w') (k : Ke [h2, h1] w w') : Ms W0 s h1 h2 G' F O us' w' :=
  ⟨l, k.blk (by simp) m.b1, k.blk (by simp) m.b2, m.hh1, m.hh2, m.ne⟩
theorem Ms.held_ne (m : Ms W0 s h1 h2 G F O us w) : ∀ p ∈ us, ∀ b ∈ [h2, h1], p.1.ownBlock ≠ some b := by
  intro p hp b hb
  have hr := m.l.held hp
  simp only [List.mem_cons, List.not_mem_nil, or_false] at hb
  rcases hb with rfl | rfl
  · exact own_apart_blk hr m.b2 (by decide)
  · exact own_apart_blk hr m.b1 (by decide)
theorem Ms.up (m : Ms W0 s h1 h2 G F O us w) (k : Nat) : Ms W0 s h1 h2 G (putF F k) O us (w.setCell ⟨h1, k, none⟩ (.bool true)) :=
  ⟨m.l.turn (by simp) m.hh1 (fun p hp => m.held_ne p hp h1 (by simp)) (gone _), by have := m.b1.set k (.bool true); rw [bitc_set] at this; exact this, m.b2.far (by show h2 ≠ h1; exact fun e => m.ne e.symm) _, m.hh1, m.hh2, m.ne⟩
theorem Ms.off (m : Ms W0 s h1 h2 G F O us w) (k : Nat) : Ms W0 s h1 h2 G F (putF O k) us (w.setCell ⟨h2, k, none⟩ (.bool true)) :=
  ⟨m.l.turn (by simp) m.hh2 (fun p hp => m.held_ne p hp h2 (by simp)) (gone _), m.b1.far (by show h1 ≠ h2; exact m.ne) _, by have := m.b2.set k (.bool true); rw [bitc_set] at this; exact this, m.hh1, m.hh2, m.ne⟩
theorem Ms.drewN (m : Ms W0 s h1 h2 G F O us w) (q : Nat) : Ms W0 s h1 h2 G F O us (w.drewN q) := ⟨m.l.drewN q, m.b1.drewN q, m.b2.drewN q, m.hh1, m.hh2, m.ne⟩
theorem Ms.next (m : Ms W0 s h1 h2 G F O us w) (hb : Below w.heap.size w w') : Ms W0 s h1 h2 G F O us w' := ⟨m.l.next hb, m.b1.below hb m.b1.lt, m.b2.below hb m.b2.lt, m.hh1, m.hh2, m.ne⟩
theorem Ms.c1 (m : Ms W0 s h1 h2 G F O us w) (k : Nat) (hk : k < 32) : w.cell? ⟨h1, k, none⟩ = some (.bool (F k)) := by rw [m.b1.cell, bitc_get _ _ _ hk]
theorem Ms.c2 (m : Ms W0 s h1 h2 G F O us w) (k : Nat) (hk : k < 32) : w.cell? ⟨h2, k, none⟩ = some (.bool (O k)) := by rw [m.b2.cell, bitc_get _ _ _ hk]
end

theorem takF_at {F : Nat → Bool} {p k : Nat} {M : List Iq} (hk : k < 32) : takF F p M (p * 32 + k) = (F (p * 32 + k) && mkB M k) := by
  unfold takF; rw [if_pos (by omega), show (p * 32 + k) % 32 = k by omega]
/-- The next that was taken, in the slice that tells it. -/
theorem at_tk {w : World} {u : Value} {t : Int} {F : Nat → Bool} {M : List Iq} {L : List Nat} (h : Sl w u (tks t L).length 3 (iqs (tks t L))) (hL : tkL F M = L) (j c : Nat) (hj : j < 32) (hin : (F j && !mkB M j) = true) (hc : c = (tkN F M j).length) :
    c < L.length ∧ ∃ b o cap, u = .slice (some ⟨b, o, none⟩) L.length cap ∧ w.cell? ⟨b, o + c * 3, none⟩ = some (.int .i64 t) ∧ w.cell? ⟨b, o + c * 3 + 1, none⟩ = some (.int .i64 ((j / 8 : Nat) : Int)) ∧ w.cell? ⟨b, o + c * 3 + 2, none⟩ = some (.int .i64 ((j % 8 : Nat) : Int)) := by
  obtain ⟨h1, h2⟩ := tkN_at F M j hj hin
  simp only [hL, ← hc] at h1 h2
  obtain ⟨h3, h4⟩ := tks_at t L c h1
  rw [h2] at h4
  obtain ⟨b, o, cap, e, -, -, d0, d1, d2⟩ := iq_at h rfl c h3
  rw [h4] at d0 d1 d2
  rw [tks_len] at e
  exact ⟨h1, b, o, cap, e, d0, d1, d2⟩

set_option maxHeartbeats 4000000 in
theorem law_PendingMasked (v u : Value) (n n2 : Nat) (zs ys : List Int) (w : World) (hv : Sl w v n 1 (ints zs)) (hn : n ≤ maxLen) (hu : Sl w u n2 1 (ints ys)) (hn2 : n2 ≤ maxLen) :
    Calls Try.prog 5 #[v, u] w fun e w' => e = .returned (.bool true) ∧ Below w.heap.size w w' := by
  obtain ⟨A, cap, rfl⟩ : ∃ A cap, v = .slice A n cap := by obtain ⟨A, c, e, _⟩ := hv; exact ⟨A, c, e⟩
  obtain ⟨A2, cap2, rfl⟩ : ∃ A cap, u = .slice A n2 cap := by obtain ⟨A, c, e, _⟩ := hu; exact ⟨A, c, e⟩
  unfold maxLen at hn hn2
  have HV := Lib.hid hv; clear hv
  have HU := Lib.hid hu; clear hu
  have hz := zUp1_run
  have hne := zUp1_ne
  obtain ⟨i0, hi, hz0, hz1, hz2⟩ := info_parts infoIq
  have HI := Lib.hid hi; have HZ0 := Lib.hid hz0; have HZ1 := Lib.hid hz1; have HZ2 := Lib.hid hz2; clear hi hz0 hz1 hz2
  go_enter Try.func5, Try.ntmps5
  go_wp2_with fail
  refine (pawake_any _).mono ?_
  rintro e wa ⟨rfl, ba⟩
  have BA := Lib.hid ba
  clear ba
  go_wp2_with fail
  have c1 : Calls Try.prog 8 #[.int .i64 1] wa fun e w' => ∃ s, e = .returned (.tuple #[.pointer (some ⟨s, 0, none⟩), .int .i64 0]) ∧ L1 wa s 1 (fun _ => false) [] [] w' := l1new 1 wa (by decide) (by decide)
  refine c1.mono ?_
  clear c1
  rintro e w1 ⟨s, rfl, l1⟩
  have L := Lib.hid l1
  clear l1
  go_wp2_with fail
  refine (num_any _ _).mono ?_
  rintro e w' ⟨rfl, rfl⟩
  go_upto_block 0 with fail
  have m0 : Ms wa s w1.heap.size (w1.alloc (.cells zUp1 46)).heap.size (fun _ => false) (fun _ => false) (fun _ => false) [] ((w1.alloc (.cells zUp1 46)).alloc (.cells zUp1 46)) :=
    ⟨(L.out.alloc _).alloc _, (Blk.new _ _ _).alloc _, Blk.new _ _ _, L.out.below.size, by have := L.out.below.size; simp; omega, by simp⟩
  have M0 := Lib.hid m0
  clear m0 L hz hne
  rw [show (w1.alloc (.cells zUp1 46)).heap.size = w1.heap.size + 1 by simp] at M0
  generalize (w1.alloc (.cells zUp1 46)).alloc (.cells zUp1 46) = w2 at *
  generalize w1.heap.size = h1 at *
  generalize h1 + 1 = h2 at *
  go_cut [10] (fun _ wx => ∃ F, Hid (Ms wa s h1 h2 F F (fun _ => false) [] wx))
  case first =>
    go_wp2_with fail
    go_loopw [10] (fun i wr => ∃ (k : Nat) (F : Nat → Bool), k ≤ n ∧ i = .int .i64 k ∧ Hid (Ms wa s h1 h2 F F (fun _ => false) [] wr)) (fun i _ => n - (intOf i).toNat)
    case atStart => exact ⟨0, _, by omega, rfl, M0⟩
    case round =>
      clear M0
      obtain ⟨k, F, hkn, rfl, HM⟩ := hrel
      by_cases hgo : k < n ∧ k < 40
      · obtain ⟨hlt, h40⟩ := hgo
        have hsl := HV.out.below (Below.down BA.out HM.out.l.below BA.out.size)
        obtain ⟨b, o, cap', e, hbw, hcell⟩ := sl1_at hsl k hlt
        simp only [Value.slice.injEq] at e
        obtain ⟨rfl, -, -⟩ := e
        generalize zs.getD k 0 = q at *
        have hK := band q 31 (by omega) (by omega)
        generalize hK' : bits BinOp.and IntKind.i64 q 31 = K at hK
        obtain ⟨hK0, hK1⟩ := hK
        obtain ⟨p, c, d, v, hp0, rfl, hcd, -, hd4, hv8, e1, e2⟩ := parts_of 0 K (by omega) (by omega) hK0 hK1
        have hc32 : c < 32 := by omega
        have hcI : (c : Int) < 32 := by omega
        have cR : Calls Try.prog 12 #[.pointer (some ⟨s, 0, none⟩), .int .i64 0, .int .i64 d, .int .i64 v] wr fun e w' => e = .returned (.tuple #[.bool (!F c), .int .i64 0]) ∧ L1 wa s 1 (putF F c) [] [h2, h1] w' ∧ Ke [h2, h1] wr w' := by
          have h := l1raise 0 d v wr HM.out.l (by decide) hd4 hv8
          rw [show 0 * 32 + (d * 8 + v) = c by omega] at h
          exact h
        have h40I : (k : Int) < 40 := by omega
        have hlI : (k : Int) < (n : Int) := by omega
        clear hsl hcd hp0
        go_wp2_with fail
        clear hK' hcell
        refine cR.mono ?_
        rintro e w3 ⟨rfl, l3, k3⟩
        have m3 := HM.out.call l3 k3
        have c3 := m3.c1 c hc32
        have f3 := m3.b1.frozen c
        have M4 := Lib.hid (m3.up c)
        clear l3 k3 m3 cR
        go_wp2_with fail
        go_roundw
        case rel => exact ⟨k + 1, _, by omega, by go_num, M4⟩
        case measure => simp [intOf]; omega
      · have hx : (k : Int) ≥ n ∨ ((k : Int) < n ∧ decide ((k : Int) < 40) = false) := by
          by_cases h1 : k < n
          · exact .inr ⟨by omega, by simp; omega⟩
          · exact .inl (by omega)
        clear hgo
        rcases hx with hx | ⟨hx, hx2⟩
        all_goals
          go_wp2_with fail
          go_meet
          exact ⟨F, HM⟩
  case rest =>
    clear M0
    obtain ⟨F, M1⟩ := hcut
    have M2 : Hid (∃ O, Ms wa s h1 h2 F F O [(.slice none 0 0, [])] wc ∧ ∀ c, c < 32 → O c = mkB [] c) := Lib.hid ⟨fun _ => false, ⟨⟨(by
      obtain ⟨v, xs, O, h⟩ := M1.out.l
      exact ⟨v, xs, O, ⟨h.ps, h.new, h.dis, fun p hp => by
        simp only [List.mem_singleton] at hp
        subst hp
        exact ⟨⟨rfl, .inl ⟨rfl, rfl⟩⟩, fun d hd b hb => by simp [Value.ownBlock] at hb⟩, h.free, h.below⟩⟩), M1.out.b1, M1.out.b2, M1.out.hh1, M1.out.hh2, M1.out.ne⟩, fun c _ => (mkB_nil c).symm⟩⟩
    clear M1
    go_upto_block 2 with fail
    go_cut [9, 12] (fun s9 _ wx => ∃ (O : Nat → Bool) (M : List Iq), Hid (Ms wa s h1 h2 F F O [(s9, M)] wx ∧ (∀ c, c < 32 → O c = mkB M c) ∧ M.length ≤ 20))
    case first =>
      go_wp2_with fail
      go_loopw [9, 12] (fun t i wr => ∃ (k : Nat), k ≤ n2 ∧ k ≤ 20 ∧ i = .int .i64 k ∧ Hid (∃ (O : Nat → Bool) (M : List Iq), Ms wa s h1 h2 F F O [(t, M)] wr ∧ (∀ c, c < 32 → O c = mkB M c) ∧ M.length = k)) (fun _ i _ => n2 - (intOf i).toNat)
      case atStart => exact ⟨0, by omega, by omega, rfl, Lib.hid (by obtain ⟨O, h1, h2⟩ := M2.out; exact ⟨O, [], h1, h2, rfl⟩)⟩
      case round =>
        clear M2
        obtain ⟨k, hkn, hk20, rfl, HO⟩ := hrel
        obtain ⟨O, M, ms, hOM, hMl⟩ := HO.out
        have HM := Lib.hid ms
        have HOM := Lib.hid hOM
        have HML := Lib.hid hMl
        clear ms hOM hMl HO
        by_cases hgo : k < n2 ∧ k < 20
        · obtain ⟨hlt, h20⟩ := hgo
          have hbel := Below.down BA.out HM.out.l.below BA.out.size
          obtain ⟨b, o, cap', e, hbw, hcell0⟩ := sl1_at HU.out k hlt
          simp only [Value.slice.injEq] at e
          obtain ⟨rfl, -, -⟩ := e
          have hcell := (hbel.cell (p := ⟨b, o + k, none⟩) hbw).trans hcell0
          have hbr : b < wr.heap.size := by have := hbel.size; omega
          have hbh1 : ¬ h2 = b := by have := HM.out.hh2; have := BA.out.size; omega
          have hbh2 : ¬ b = h2 := fun e => hbh1 e.symm
          clear hbel hcell0
          generalize ys.getD k 0 = q at *
          have hK := band q 31 (by omega) (by omega)
          generalize hK' : bits BinOp.and IntKind.i64 q 31 = K at hK
          obtain ⟨hK0, hK1⟩ := hK
          obtain ⟨p, c, d, v, hp0, rfl, hcd, -, hd4, hv8, e1, e2⟩ := parts_of 0 K (by omega) (by omega) hK0 hK1
          have hc32 : c < 32 := by omega
          have hcI : (c : Int) < 32 := by omega
          have h20I : (k : Int) < 20 := by omega
          have hlI : (k : Int) < (n2 : Int) := by omega
          have c2 := HM.out.c2 c hc32
          have f2 := HM.out.b2.frozen c
          have M3 := Lib.hid (HM.out.off c)
          have HOM3 : Hid (∀ i, i < 32 → putF O c i = mkB (M ++ [⟨q, d, v⟩]) i) := Lib.hid (fun i hi => by
            rw [mkB_snoc M q d v i hv8, ← HOM.out i hi]; unfold putF
            by_cases e : i = c
            · rw [if_pos e, decide_eq_true (by omega)]; simp
            · rw [if_neg e, decide_eq_false (by omega)]; simp)
          have hbl : Below (wr.setCell ⟨h2, c, none⟩ (.bool true)).heap.size (wr.setCell ⟨h2, c, none⟩ (.bool true)) ((wr.setCell ⟨h2, c, none⟩ (.bool true)).alloc (.cells #[.int .i64 q, .int .i64 (d : Int), .int .i64 (v : Int)] 50)) := (Below.refl _ _).alloc (Nat.le_refl _) _
          have M4 := Lib.hid (M3.out.next hbl)
          have hsz4 : (wr.setCell ⟨h2, c, none⟩ (.bool true)).heap.size = wr.heap.size := by simp [World.setCell]
          have HSZ := Lib.hid hsz4
          clear hcd hp0 hbl hsz4
          go_wp2_with (at_builtin; refine wpList_append_lies _ rfl _ _ 32 rfl wa.heap.size 50 i0 _ 3 24 Try.underlying32 HI.out HZ0.out HZ1.out HZ2.out rfl (by decide) u9 M.length (iqs M) rfl (M4.out.l.held (p := (u9, M)) (by simp)) ⟨wr.heap.size, 0, none⟩ 1 1 [.int .i64 q, .int .i64 (d : Int), .int .i64 (v : Int)] rfl rfl (by have := row_new (wr.setCell ⟨h2, c, none⟩ (.bool true)) [.int .i64 q, .int .i64 (d : Int), .int .i64 (v : Int)] 50; rw [HSZ.out] at this; exact this) (iq_one _ _ _) (by omega) (by unfold maxLen; have := HML.out; omega) (by have := HML.out; omega) (by have := M4.out.l.below.size; exact this) _ rfl ?_)
          intro gg cap6 w6 own6 gr6 hat6 hlt6
          have hMn : (M ++ [(⟨q, d, v⟩ : Iq)]).length = M.length + 1 := by simp
          have h7 := L1.appended (M' := M ++ [(⟨q, d, v⟩ : Iq)]) M4.out.l (by rw [hMn, iqs_append, iqs_one]; exact own6) gr6 (by
            rcases hat6 with h | h
            · exact .inl h
            · right; rw [h]; simp [HSZ.out]) (fun b hb => M4.out.held_ne (u9, M) (by simp) b hb)
          rw [hMn] at h7
          have M7 := Lib.hid (M4.out.call h7.1 h7.2)
          have HML7 : Hid ((M ++ [(⟨q, d, v⟩ : Iq)]).length = k + 1) := Lib.hid (by rw [hMn, HML.out])
          clear own6 gr6 hat6 hlt6 h7 hMn hcell c2 f2
          go_wp2_with fail
          go_roundw
          case rel => exact ⟨k + 1, by omega, by omega, by go_num, Lib.hid ⟨_, _, M7.out, HOM3.out, HML7.out⟩⟩
          case measure => simp [intOf]; omega
        · have hx : (k : Int) ≥ n2 ∨ ((k : Int) < n2 ∧ decide ((k : Int) < 20) = false) := by
            by_cases h1 : k < n2
            · exact .inr ⟨by omega, by simp; omega⟩
            · exact .inl (by omega)
          clear hgo
          rcases hx with hx | ⟨hx, hx2⟩
          all_goals
            go_wp2_with fail
            go_meet
            exact ⟨O, M, Lib.hid ⟨HM.out, HOM.out, by have := HML.out; omega⟩⟩
    case rest =>
      clear M2
      obtain ⟨O, M, HM⟩ := hcut
      have HOM := Lib.hid HM.out.2.1
      have HML := Lib.hid HM.out.2.2
      have HM1 := Lib.hid HM.out.1
      clear HM
      have c5 : Calls Try.prog 15 #[.pointer (some ⟨s, 0, none⟩), .int .i64 0, .int .i64 5, u9] wc fun e w' => ∃ u, e = .returned u ∧ L1 wa s 1 (takF F 0 M) [(u, tks 5 (tkL F M)), (u9, M)] [h2, h1] w' ∧ Ke [h2, h1] wc w' := by
        have h := l1take 0 5 u9 M M.length wc HM1.out.l (by decide) (HM1.out.l.sl (p := (u9, M)) (by simp)) rfl (by have := HML.out; omega)
        rw [tkL_congr (F := fun k => F (0 * 32 + k)) (G := F) M (fun k _ => by simp)] at h
        exact h
      go_wp2_with fail
      refine c5.mono ?_
      clear c5
      rintro e w5 ⟨x5, rfl, l5, k5⟩
      have m5 := Lib.hid (HM1.out.call l5 k5)
      clear l5 k5 HM1
      go_wp2_with fail
      have c6 : Calls Try.prog 15 #[.pointer (some ⟨s, 0, none⟩), .int .i64 0, .int .i64 6, u9] w5 fun e w' => ∃ A c, e = .returned (.slice A 0 c) ∧ L1 wa s 1 (takF (takF F 0 M) 0 M) [(x5, tks 5 (tkL F M)), (u9, M)] [h2, h1] w' ∧ Ke [h2, h1] w5 w' := by
        have h := l1take 0 6 u9 M M.length w5 m5.out.l (by decide) (m5.out.l.sl (p := (u9, M)) (by simp)) rfl (by have := HML.out; omega)
        have e : tkL (fun k => takF F 0 M (0 * 32 + k)) M = [] := by
          unfold tkL
          rw [List.filter_eq_nil_iff]
          intro k hk
          have hk' := List.mem_range.1 hk
          show ¬ ((takF F 0 M (0 * 32 + k) && !mkB M k) = true)
          rw [takF_at hk']
          cases mkB M k <;> simp
        rw [e] at h
        refine h.mono ?_
        rintro e w' ⟨u, rfl, h1, h2⟩
        obtain ⟨A, c, hu, -⟩ := h1.sl (p := (u, tks 6 [])) (by simp)
        have hu' : u = .slice A 0 c := hu
        exact ⟨A, c, by rw [hu'], h1.drop (fun p hp => List.mem_cons_of_mem _ hp) (fun b hb => hb), h2⟩
      refine c6.mono ?_
      clear c6
      rintro e w6 ⟨A6, cp6, rfl, l6, k6⟩
      have m6 := Lib.hid (m5.out.call l6 k6)
      clear l6 k6 m5
      go_wp2_with fail
      obtain ⟨F2, hF2⟩ : ∃ F2 : Nat → Bool, F2 = fun k => F k && mkB M k := ⟨_, rfl⟩
      have HF2 := Lib.hid hF2
      clear hF2
      have c7 : Calls Try.prog 15 #[.pointer (some ⟨s, 0, none⟩), .int .i64 0, .int .i64 7, .slice none 0 0] w6 fun e w' => ∃ u, e = .returned u ∧ L1 wa s 1 (takF (takF (takF F 0 M) 0 M) 0 []) [(u, tks 7 (tkL F2 [])), (x5, tks 5 (tkL F M)), (u9, M)] [h2, h1] w' ∧ Ke [h2, h1] w6 w' := by
        have h := l1take 0 7 _ [] 0 w6 m6.out.l (by decide) (sl_nil w6) rfl (by decide)
        have e : tkL (fun k => takF (takF F 0 M) 0 M (0 * 32 + k)) [] = tkL F2 [] := tkL_congr [] (fun k hk => by
          rw [HF2.out, takF_at hk, takF_at hk, show 0 * 32 + k = k by omega]
          show (F k && mkB M k && mkB M k) = (F k && mkB M k)
          cases mkB M k <;> simp)
        rw [e] at h
        exact h
      refine c7.mono ?_
      clear c7
      rintro e w7 ⟨x7, rfl, l7, k7⟩
      have m7 := Lib.hid (m6.out.call l7 k7)
      clear l7 k7 m6
      obtain ⟨L5, hL5⟩ : ∃ L5, tkL F M = L5 := ⟨_, rfl⟩
      obtain ⟨L7, hL7⟩ : ∃ L7, tkL F2 [] = L7 := ⟨_, rfl⟩
      rw [hL5, hL7] at m7
      have HL5 := Lib.hid hL5
      have HL7 := Lib.hid hL7
      have s5 := m7.out.l.sl (p := (x5, tks 5 L5)) (by simp)
      have s7 := m7.out.l.sl (p := (x7, tks 7 L7)) (by simp)
      have S5 := Lib.hid s5
      have S7 := Lib.hid s7
      obtain ⟨A5, cp5, hx5, -⟩ := s5
      obtain ⟨A7, cp7, hx7, -⟩ := s7
      rw [tks_len] at hx5 hx7
      obtain ⟨z5, hz5⟩ : ∃ z, z = L5.length := ⟨_, rfl⟩
      obtain ⟨z7, hz7⟩ : ∃ z, z = L7.length := ⟨_, rfl⟩
      simp only at hx5 hx7
      rw [← hz5] at hx5
      rw [← hz7] at hx7
      have hz532 : z5 ≤ 32 := by rw [hz5, ← hL5]; unfold tkL; have := List.length_filter_le (fun k => F k && !mkB M k) (List.range 32); simpa using this
      have hz732 : z7 ≤ 32 := by rw [hz7, ← hL7]; unfold tkL; have := List.length_filter_le (fun k => F2 k && !mkB [] k) (List.range 32); simpa using this
      have HZ5 := Lib.hid hz5
      have HZ7 := Lib.hid hz7
      subst hx5
      subst hx7
      have HB := Lib.hid (Below.down BA.out m7.out.l.below BA.out.size)
      clear hL5 hL7 hz5 hz7
      go_wp2_with fail
      go_loop [17, 18, 19] (fun a b i => ∃ (j ca cb : Nat), j ≤ 32 ∧ i = .int .i64 j ∧ a = .int .i64 ca ∧ b = .int .i64 cb ∧ ca ≤ j ∧ ca ≤ z5 ∧ cb ≤ j ∧ cb ≤ z7 ∧ Hid (ca = (tkN F M j).length ∧ cb = (tkN F2 [] j).length)) (fun _ _ i => 32 - (intOf i).toNat)
      case atStart => exact ⟨0, 0, 0, by omega, rfl, rfl, rfl, by omega, by omega, by omega, by omega, Lib.hid ⟨rfl, rfl⟩⟩
      case round =>
        obtain ⟨j, ca, cb, hj, rfl, rfl, rfl, hca, hcaz, hcb, hcbz, HC⟩ := hrel
        by_cases hlj : j < 32
        · have hjI : (j : Int) < 32 := by omega
          have cu := m7.out.c1 j hlj
          have co := m7.out.c2 j hlj
          rw [HOM.out j hlj] at co
          have hst1 := tkN_step F M j
          have hst2 := tkN_step F2 [] j
          have hF2j : F2 j = (F j && mkB M j) := by rw [HF2.out]
          rw [mkB_nil, hF2j] at hst2
          obtain ⟨dd, hdd⟩ : ∃ dd : Nat, j / 8 = dd := ⟨_, rfl⟩
          obtain ⟨vv, hvv⟩ : ∃ vv : Nat, j % 8 = vv := ⟨_, rfl⟩
          have e1 : (j : Int) / 8 = (dd : Int) := by omega
          have e2 : (j : Int) % 8 = (vv : Int) := by omega
          have HDD := Lib.hid hdd
          have HVV := Lib.hid hvv
          clear hdd hvv
          cases hf : F j with
          | false =>
            rw [hf] at cu hst1 hst2
            have HS : Hid (ca = (tkN F M (j + 1)).length ∧ cb = (tkN F2 [] (j + 1)).length) := Lib.hid (by rw [hst1, hst2]; simpa using HC.out)
            clear hst1 hst2 hf hF2j
            go_wp2_with fail
            go_round
            case rel => exact ⟨j + 1, ca, cb, by omega, by go_num, rfl, rfl, by omega, hcaz, by omega, hcbz, HS⟩
            case measure => simp [intOf]; omega
          | true =>
            rw [hf] at cu hst1 hst2 hF2j
            cases hm : mkB M j with
            | true =>
              rw [hm] at co hst1 hst2 hF2j
              have HS : Hid (ca = (tkN F M (j + 1)).length ∧ cb + 1 = (tkN F2 [] (j + 1)).length) := Lib.hid (by rw [hst1, hst2]; simp; exact HC.out)
              obtain ⟨hcz, b5, o5, cp9, e5, d0, d1, d2⟩ := at_tk S7.out HL7.out j cb hlj (by rw [hF2j, mkB_nil]; rfl) HC.out.2
              simp only [Value.slice.injEq] at e5
              obtain ⟨rfl, -, -⟩ := e5
              rw [← HZ7.out] at hcz
              rw [HDD.out] at d1
              rw [HVV.out] at d2
              have hczI : (cb : Int) < (z7 : Int) := by omega
              clear hst1 hst2 hf hm hF2j
              go_wp2_with fail
              go_round
              case rel => exact ⟨j + 1, ca, cb + 1, by omega, by go_num, rfl, by go_num, by omega, hcaz, by omega, by omega, HS⟩
              case measure => simp [intOf]; omega
            | false =>
              rw [hm] at co hst1 hst2 hF2j
              have HS : Hid (ca + 1 = (tkN F M (j + 1)).length ∧ cb = (tkN F2 [] (j + 1)).length) := Lib.hid (by rw [hst1, hst2]; simp; exact HC.out)
              obtain ⟨hcz, b5, o5, cp9, e5, d0, d1, d2⟩ := at_tk S5.out HL5.out j ca hlj (by rw [hf, hm]; rfl) HC.out.1
              simp only [Value.slice.injEq] at e5
              obtain ⟨rfl, -, -⟩ := e5
              rw [← HZ5.out] at hcz
              rw [HDD.out] at d1
              rw [HVV.out] at d2
              have hczI : (ca : Int) < (z5 : Int) := by omega
              clear hst1 hst2 hf hm hF2j
              go_wp2_with fail
              go_round
              case rel => exact ⟨j + 1, ca + 1, cb, by omega, by go_num, by go_num, rfl, by omega, by omega, by omega, hcbz, HS⟩
              case measure => simp [intOf]; omega
        · have e32 : j = 32 := by omega
          subst e32
          have hca' : ca = z5 := by rw [HZ5.out, ← HL5.out, HC.out.1]; rfl
          have hcb' : cb = z7 := by rw [HZ7.out, ← HL7.out, HC.out.2]; rfl
          subst hca' hcb'
          go_wp2_with fail
          go_ret
          exact ⟨rfl, HB.out⟩
end Go.Proofs.Ytffdjdllnajfcaa
