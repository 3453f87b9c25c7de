/-
  Layer 17's law RingBuffers: it answers true for every input.
-/
import Derived.Test.YtcjmgjdejljjkaaRiAwake
import Derived.Test.YtcjmgjdejljjkaaRiBuf0
import Derived.BigQuiet
import Derived.Deep.AppendLies
import Derived.Deep.CutBlock
import Derived.Deep.DeepCutAuto
namespace Go.Proofs.Ytcjmgjdejljjkaa
open Go.RowKit
set_option linter.unusedVariables false
set_option linter.unusedSimpArgs false
set_option maxRecDepth 100000

theorem infoI17 : (Try.prog.info? 3).map (fun i => (i.zero, i.size, i.bytes)) = some (some (.int .i64 0), 1, 8) := by kernel_rfl

/-- Frames appended to the law's row. -/
theorem Tk.app {w0 w wX : World} {os : List Ob} {i : Nat} {v : Value} {l : List Int} {x : Int} {g c : Nat} (h : Tk nos w0 os w) (hi : os[i]? = some (obR 3 1 v l.length (ints l)))
    (ho : wX.ownsRow 0 3 1 (.slice (some ⟨g, 0, none⟩) (l.length + 1) c) (l.length + 1) (ints l ++ [.int .i64 x])) (hg : w.grownBy wX v.ownBlock) (hat : v.ownBlock = some g ∨ w.heap.size ≤ g) :
    Tk nos w0 (os.set i (obR 3 1 (.slice (some ⟨g, 0, none⟩) (l.length + 1) c) (l ++ [x]).length (ints (l ++ [x])))) wX := by
  refine h.turnR hi hg (by rw [ints_append, List.length_append]; exact ho) (fun b hb => ?_)
  have e : g = b := by simpa [Value.ownBlock] using hb
  subst e
  exact hat
theorem int1B (x : Int) : ∀ u ∈ [Value.int .i64 x], u.oneCell' = true := by
  intro u hu
  simp only [List.mem_cons, List.not_mem_nil, or_false] at hu
  subst hu; rfl
/-- The ways of the law's test. -/
theorem bd_ways (o b m : Int) (R W : Nat → Bool) (j : Nat) (ho : o = 0 ∨ o = 1 ∨ o = 2 ∨ o = 3) :
    (bdB o b m R W j = false ∧ b + m * 16 ≤ (j : Int) * 64) ∨ (bdB o b m R W j = false ∧ (j : Int) * 64 < b + m * 16 ∧ ((j : Int) + 1) * 64 ≤ b) ∨
    (((j : Int) * 64 < b + m * 16 ∧ b < ((j : Int) + 1) * 64) ∧ ((o = 1 ∧ bdB o b m R W j = !R j) ∨ (o = 0 ∧ bdB o b m R W j = !W j) ∨ ((o = 2 ∨ o = 3) ∧ bdB o b m R W j = false))) := by
  unfold bdB tcB
  by_cases h1 : (j : Int) * 64 < b + m * 16
  · right
    by_cases h2 : b < ((j : Int) + 1) * 64
    · right
      refine ⟨⟨h1, h2⟩, ?_⟩
      rw [decide_eq_true h1, decide_eq_true h2]
      rcases ho with rfl | rfl | rfl | rfl
      · right; left; refine ⟨rfl, ?_⟩; simp
      · left; refine ⟨rfl, ?_⟩; simp
      · right; right; refine ⟨.inl rfl, ?_⟩; simp
      · right; right; refine ⟨.inr rfl, ?_⟩; simp
    · left; exact ⟨by rw [decide_eq_false h2]; simp, h1, by omega⟩
  · left; exact ⟨by rw [decide_eq_false h1]; simp, by omega⟩

set_option maxHeartbeats 4000000 in
theorem law_RingBuffers (q y k r s : Int) (wq : (Lit.int .i64 q).wf = true) (wy : (Lit.int .i64 y).wf = true) (wk : (Lit.int .i64 k).wf = true) (wr : (Lit.int .i64 r).wf = true) (ws : (Lit.int .i64 s).wf = true) (w : World) :
    Calls Try.prog 7 #[.int .i64 q, .int .i64 y, .int .i64 k, .int .i64 r, .int .i64 s] w fun e w' => e = .returned (.bool true) ∧ Below w.heap.size w w' := by
  have hU := u64b q
  have hB := band y 255 (by omega) (by omega)
  have hM := band k 3 (by omega) (by omega)
  generalize hU' : IntKind.u64.wrap q = U at hU
  generalize hB' : bits BinOp.and IntKind.i64 y 255 = B at hB
  generalize hM' : bits BinOp.and IntKind.i64 k 3 = M at hM
  obtain ⟨hU0, hU1⟩ := hU
  obtain ⟨hB0, hB1⟩ := hB
  obtain ⟨hM0, hM1⟩ := hM
  have hO0 : 0 ≤ U % 4 := by omega
  have hO1 : U % 4 < 4 := by omega
  generalize hO' : U % 4 = O at hO0 hO1
  have hwr := wfb wr
  have hws := wfb ws
  clear wq wy wk wr ws
  go_enter Try.func7, Try.ntmps7
  go_wp2_with fail
  refine (riawake_any _).mono ?_
  rintro e w1 ⟨rfl, b1⟩
  have HB := Lib.hid b1
  clear b1
  go_wp2_with fail
  obtain ⟨i0, hi, hz0, hz1, hz2⟩ := info_parts infoI17
  have HI := Lib.hid hi; have HZ0 := Lib.hid hz0; have HZ1 := Lib.hid hz1; have HZ2 := Lib.hid hz2
  clear hi hz0 hz1 hz2
  obtain ⟨R, hR⟩ : ∃ R : Nat → Bool, ∀ j, (bits BinOp.and IntKind.i64 (r / 2 ^ j) 1 == 1) = R j := ⟨_, fun _ => rfl⟩
  obtain ⟨W, hW⟩ : ∃ W : Nat → Bool, ∀ j, (bits BinOp.and IntKind.i64 (s / 2 ^ j) 1 == 1) = W j := ⟨_, fun _ => rfl⟩
  have HR := Lib.hid hR; have HW := Lib.hid hW
  clear hR hW
  have hT0 : Tk nos w1 [obR 3 1 (.slice none 0 0) (frL W 0).length (ints (frL W 0)), obR 3 1 (.slice none 0 0) (frL R 0).length (ints (frL R 0))] w1 := ((Tk.empty w1).addR (Below.refl _ _) (World.ownsRow_nil _ _ _ _)).addR (Below.refl _ _) (World.ownsRow_nil _ _ _ _)
  have HT0 := Lib.hid hT0
  have hO4 : O = 0 ∨ O = 1 ∨ O = 2 ∨ O = 3 := by omega
  clear hT0 hO' hB' hM' hU'
  go_loopw [14, 15, 16, 17] (fun va vb c i wr => ∃ (j : Nat) (C : Bool), j ≤ 5 ∧ i = .int .i64 (j : Int) ∧ c = .bool C ∧ Hid (okB O B (1 + M) R W j = C) ∧ Hid (Tk nos w1 [obR 3 1 vb (frL W j).length (ints (frL W j)), obR 3 1 va (frL R j).length (ints (frL R j))] wr)) (fun _ _ _ i _ => 5 - (intOf i).toNat)
  case atStart => exact ⟨0, true, by omega, rfl, rfl, Lib.hid rfl, HT0⟩
  case round =>
    clear HT0
    obtain ⟨j, C, hj, rfl, rfl, HOK, HT⟩ := hrel
    by_cases hlt : j < 5
    · go_wp2_with fail
      go_quiet (fail)
      have hRj := HR.out j
      have hWj := HW.out j
      rw [hRj, hWj]
      generalize bits BinOp.and IntKind.i64 (r / 2 ^ j) 1 = r1
      generalize bits BinOp.and IntKind.i64 (s / 2 ^ j) 1 = s1
      generalize r / 2 ^ j = r2
      generalize s / 2 ^ j = s2
      clear hRj hWj
      have HT := Lib.hid (HT.out.drewN nq)
      generalize wr.drewN nq = wa at *
      obtain ⟨Rj, hRj⟩ : ∃ b, R j = b := ⟨_, rfl⟩
      obtain ⟨Wj, hWj⟩ : ∃ b, W j = b := ⟨_, rfl⟩
      rw [hRj, hWj]
      have HRj := Lib.hid hRj; have HWj := Lib.hid hWj
      clear hRj hWj
      go_upto_if 47 with fail
      go_cut [14] (fun v wx => Hid (Tk nos w1 [obR 3 1 u15 (frL W j).length (ints (frL W j)), obR 3 1 v (frL R (j + 1)).length (ints (frL R (j + 1)))] wx))
      case first =>
        cases Rj
        · go_wp2_with fail
          go_meet
          rw [frL_no HRj.out]; exact HT
        · have hln := frL_len R j
          have hbl : Below wa.heap.size wa (wa.alloc (.cells #[.int .i64 (j : Int)] 3)) := (Below.refl _ _).alloc (Nat.le_refl _) _
          have BL := Lib.hid hbl
          clear hbl
          go_wp2_with (at_builtin; refine wpList_append_lies _ rfl _ _ 23 rfl 0 3 i0 _ 1 8 Try.underlying23 HI.out HZ0.out HZ1.out HZ2.out rfl (by decide) _ (frL R j).length (ints (frL R j)) rfl (own_below (HT.out.row (i := 1) rfl) BL.out) ⟨wa.heap.size, 0, none⟩ 1 1 [.int .i64 (j : Int)] rfl rfl (row_new wa [.int .i64 (j : Int)] 3) (int1B (j : Int)) (by omega) (by unfold maxLen; omega) (by omega) (by omega) _ rfl ?_)
          intro gg cap6 w6 own6 gr6 hat6 hlt6
          have t5 := (HT.out.next BL.out).app (i := 1) rfl own6 gr6 (hat6.imp id (fun h => by simp at h ⊢; omega))
          rw [← frL_yes HRj.out] at t5
          have T5 := Lib.hid t5
          clear own6 gr6 hat6 hlt6 t5
          go_wp2_with fail
          go_meet
          exact T5
      case rest =>
        have HT := hcut
        clear hcut
        generalize wc = wd at *
        go_upto_if 52 with fail
        go_cut [15] (fun v wx => Hid (Tk nos w1 [obR 3 1 v (frL W (j + 1)).length (ints (frL W (j + 1))), obR 3 1 u14 (frL R (j + 1)).length (ints (frL R (j + 1)))] wx))
        case first =>
          cases Wj
          · go_wp2_with fail
            go_meet
            rw [frL_no HWj.out]; exact HT
          · have hln := frL_len W j
            have hbl : Below wd.heap.size wd (wd.alloc (.cells #[.int .i64 (j : Int)] 3)) := (Below.refl _ _).alloc (Nat.le_refl _) _
            have BL := Lib.hid hbl
            clear hbl
            go_wp2_with (at_builtin; refine wpList_append_lies _ rfl _ _ 23 rfl 0 3 i0 _ 1 8 Try.underlying23 HI.out HZ0.out HZ1.out HZ2.out rfl (by decide) _ (frL W j).length (ints (frL W j)) rfl (own_below (HT.out.row (i := 0) rfl) BL.out) ⟨wd.heap.size, 0, none⟩ 1 1 [.int .i64 (j : Int)] rfl rfl (row_new wd [.int .i64 (j : Int)] 3) (int1B (j : Int)) (by omega) (by unfold maxLen; omega) (by omega) (by omega) _ rfl ?_)
            intro gg cap6 w6 own6 gr6 hat6 hlt6
            have t5 := (HT.out.next BL.out).app (i := 0) rfl own6 gr6 (hat6.imp id (fun h => by simp at h ⊢; omega))
            rw [← frL_yes HWj.out] at t5
            have T5 := Lib.hid t5
            clear own6 gr6 hat6 hlt6 t5
            go_wp2_with fail
            go_meet
            exact T5
        case rest =>
          have HT := hcut
          clear hcut
          have hq := bd_ways O B (1 + M) R W j hO4
          rcases hq with ⟨hbd, h1⟩ | ⟨hbd, h1, h2⟩ | ⟨⟨h1, h2⟩, hq⟩
          · have HBD := Lib.hid hbd
            clear hbd
            have HN : Hid (okB O B (1 + M) R W (j + 1) = C) := Lib.hid (by rw [okB, HOK.out, HBD.out]; simp)
            go_wp2_with fail
            go_roundw
            case rel => exact ⟨j + 1, C, by omega, by go_num, rfl, HN, HT⟩
            case measure => simp [intOf]; omega
          · have HBD := Lib.hid hbd
            clear hbd
            have HN : Hid (okB O B (1 + M) R W (j + 1) = C) := Lib.hid (by rw [okB, HOK.out, HBD.out]; simp)
            go_wp2_with fail
            go_roundw
            case rel => exact ⟨j + 1, C, by omega, by go_num, rfl, HN, HT⟩
            case measure => simp [intOf]; omega
          · rcases hq with ⟨rfl, hbd⟩ | ⟨rfl, hbd⟩ | ⟨ho, hbd⟩
            · rw [HRj.out] at hbd
              have HBD := Lib.hid hbd
              clear hbd
              cases Rj
              · have HN : Hid (okB 1 B (1 + M) R W (j + 1) = false) := Lib.hid (by rw [okB, HBD.out]; simp)
                go_wp2_with fail
                go_roundw
                case rel => exact ⟨j + 1, false, by omega, by go_num, rfl, HN, HT⟩
                case measure => simp [intOf]; omega
              · have HN : Hid (okB 1 B (1 + M) R W (j + 1) = C) := Lib.hid (by rw [okB, HOK.out, HBD.out]; simp)
                go_wp2_with fail
                go_roundw
                case rel => exact ⟨j + 1, C, by omega, by go_num, rfl, HN, HT⟩
                case measure => simp [intOf]; omega
            · rw [HWj.out] at hbd
              have HBD := Lib.hid hbd
              clear hbd
              cases Wj
              · have HN : Hid (okB 0 B (1 + M) R W (j + 1) = false) := Lib.hid (by rw [okB, HBD.out]; simp)
                go_wp2_with fail
                go_roundw
                case rel => exact ⟨j + 1, false, by omega, by go_num, rfl, HN, HT⟩
                case measure => simp [intOf]; omega
              · have HN : Hid (okB 0 B (1 + M) R W (j + 1) = C) := Lib.hid (by rw [okB, HOK.out, HBD.out]; simp)
                go_wp2_with fail
                go_roundw
                case rel => exact ⟨j + 1, C, by omega, by go_num, rfl, HN, HT⟩
                case measure => simp [intOf]; omega
            · have HBD := Lib.hid hbd
              clear hbd
              have HO := Lib.hid ho
              rcases ho with rfl | rfl
              · have HN : Hid (okB 2 B (1 + M) R W (j + 1) = C) := Lib.hid (by rw [okB, HOK.out, HBD.out]; simp)
                go_wp2_with fail
                go_roundw
                case rel => exact ⟨j + 1, C, by omega, by go_num, rfl, HN, HT⟩
                case measure => simp [intOf]; omega
              · have HN : Hid (okB 3 B (1 + M) R W (j + 1) = C) := Lib.hid (by rw [okB, HOK.out, HBD.out]; simp)
                go_wp2_with fail
                go_roundw
                case rel => exact ⟨j + 1, C, by omega, by go_num, rfl, HN, HT⟩
                case measure => simp [intOf]; omega
    · obtain rfl : j = 5 := by omega
      have hcode := buf_code O B (1 + M) R W hB0 hB1 (by omega) (by omega) hO0 (by omega)
      rw [HOK.out] at hcode
      have HCO := Lib.hid hcode
      have hl1 := frL_len R 5
      have hl2 := frL_len W 5
      have HBB := Lib.hid (Below.down HB.out HT.out.below HB.out.size)
      have hbs := HBB.out.size
      clear hcode hO4
      rw [show ((5 : Nat) : Int) = 5 from rfl]
      go_wp2_with fail
      refine (check_any _ _ _ 1 (frL R 5).length (frL W 5).length [⟨O, 255, 0, B, 1 + M⟩] (frL R 5) (frL W 5) _ (Sl.lit wr (ints (dss [⟨O, 255, 0, B, 1 + M⟩])) 1 5 42 rfl) rfl (by decide) ((HT.out.sl (i := 1) rfl).alloc _) rfl (by unfold maxLen; omega) ((HT.out.sl (i := 0) rfl).alloc _) rfl (by unfold maxLen; omega) _ HCO.out).mono ?_
      rintro e w3 ⟨rfl, b3⟩
      have HBB := Lib.hid (Below.down (HBB.out.alloc hbs _) b3 (HBB.out.alloc hbs _).size)
      clear b3
      cases C
      · rw [show (if false = true then (0 : Int) else 1703) = 1703 from rfl]
        go_wp2_with fail
        refine (num_any _ _).mono ?_; rintro e w' ⟨rfl, rfl⟩
        go_wp2_with fail
        go_ret
        exact ⟨rfl, HBB.out⟩
      · rw [show (if true = true then (0 : Int) else 1703) = 0 from rfl]
        go_wp2_with fail
        refine (num_any _ _).mono ?_; rintro e w' ⟨rfl, rfl⟩
        go_wp2_with fail
        go_ret
        exact ⟨rfl, HBB.out⟩

end Go.Proofs.Ytcjmgjdejljjkaa
