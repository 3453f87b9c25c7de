/-
  Layer 12's law Pendings: it answers true for every input.
-/
import Derived.Test.YtffdjdllnajfcaaPnBo
import Derived.Deep.RegionHeld3
import Derived.Deep.DeepCutAuto
import Derived.Deep.CutBlock
namespace Go.Proofs.Ytffdjdllnajfcaa
open Go.RowKit Go.ChangeMaps
set_option linter.unusedVariables false
set_option maxRecDepth 100000

/-- The act's own copy. -/
def act6 (K P D V T : Int) (mv : Value) : List Value := [.int .i64 K, .int .i64 P, .int .i64 D, .int .i64 V, .int .i64 T, mv]
theorem act6_at {w : World} {k : Nat} {K P D V T : Int} {mv : Value} (h : Blk w k 34 (act6 K P D V T mv)) : w.cell? ⟨k, 0, none⟩ = some (.int .i64 K) ∧ w.cell? ⟨k, 1, none⟩ = some (.int .i64 P) ∧ w.cell? ⟨k, 2, none⟩ = some (.int .i64 D) ∧ w.cell? ⟨k, 3, none⟩ = some (.int .i64 V) ∧ w.cell? ⟨k, 4, none⟩ = some (.int .i64 T) ∧ w.cell? ⟨k, 5, none⟩ = some mv := by
  refine ⟨?_, ?_, ?_, ?_, ?_, ?_⟩ <;> (rw [h.cell]; rfl)

theorem act6_keep {w : World} {k : Nat} {K P D V T : Int} {mv : Value} (h : Blk w k 34 (act6 K P D V T mv)) : w.cell? ⟨k, 2, none⟩ = some (.int .i64 D) ∧ Blk w k 34 (act6 K P D V T mv) := ⟨(act6_at h).2.2.1, h⟩
section
variable {W0 w : World} {s r n b : Nat} {F G : Nat → Bool} {us : List (Value × List Iq)} {fr : List Nat}
theorem bop_clear_is (D : Int) (c : Nat) (h : Bo W0 s r n b F G us fr w) (hc : cntA F D n = c) :
    Calls Try.prog 20 #[.pointer (some ⟨s, 0, none⟩), .int .i64 D] w fun e w' => e = .returned (.int .i64 c) ∧ Bo W0 s r n b (clF F D n) G us fr w' ∧ Ke fr w w' := by
  subst hc; exact bop_clear D h
theorem bod_clear_is (D : Int) (c : Nat) (h : Bo W0 s r n b F G us fr w) (hc : cntA G D n = c) :
    Calls Try.prog 21 #[.pointer (some ⟨r, 0, none⟩), .int .i64 D] w fun e w' => e = .returned (.int .i64 c) ∧ Bo W0 s r n b F (clF G D n) us fr w' ∧ Fo (fun i => i = b) w w' := by
  subst hc; exact bod_clear D h
end

/-- Both alike. -/
def Sm (W0 : World) (s r n b : Nat) (w : World) : Prop := ∃ F, Bo W0 s r n b F F [] [r, b] w

set_option maxHeartbeats 8000000 in
theorem law_Pendings (parts : Int) (v : Value) (w : World) (hA : AL w v) :
    Calls Try.prog 3 #[.int .i64 parts, v] w fun e w' => e = .returned (.bool true) ∧ Below w.heap.size w w' := by
  obtain ⟨A, nA, cap, rfl, hnA, hAt⟩ := hA
  unfold maxLen at hnA
  have HAT := Lib.hid hAt
  clear hAt
  by_cases hp : 1 ≤ parts ∧ parts ≤ 4
  · obtain ⟨n, rfl⟩ : ∃ n : Nat, parts = (n : Int) := ⟨parts.toNat, by omega⟩
    have hn1 : 1 ≤ n := by omega
    have hn4 : n ≤ 4 := by omega
    clear hp
    go_enter Try.func3, Try.ntmps3
    go_wp2_with fail
    refine (l1new n w hn1 hn4).mono ?_
    rintro e w1 ⟨s, rfl, l1⟩
    have L1_ := Lib.hid l1
    clear l1
    go_wp2_with fail
    refine (rpnew_yes n w1 hn1 hn4).mono ?_
    rintro e w2 ⟨rfl, rp, b2⟩
    have S0 : Hid (Sm w (s) (w1.heap.size + 1) n w1.heap.size w2) := Lib.hid (by
      obtain ⟨v, xs, O, l⟩ := L1_.out
      have l2 := l.next b2
      have hs := l.below.size
      have hO : ∀ k, w1.heap.size ≤ k → O k = 0 := fun k hk => by
        rcases Nat.eq_zero_or_pos (O k) with e | e
        · exact e
        · have := (l.ps _ List.mem_cons_self).lt k (by show O k ≠ 0; omega); omega
      refine ⟨fun _ => false, ⟨v, xs, O, ⟨l2.ps, l2.new, l2.dis, l2.held, fun k hk => ?_, l2.below⟩⟩, rp, by omega, by omega, by simp, by simp⟩
      simp only [List.mem_cons, List.not_mem_nil, or_false] at hk
      refine ⟨?_, fun d hd => ?_⟩
      · rcases hk with rfl | rfl
        · exact rp.blk.lt
        · exact rp.row.lt
      · simp only [List.mem_singleton] at hd
        subst hd
        exact hO k (by rcases hk with rfl | rfl <;> omega))
    clear rp b2 L1_
    generalize w1.heap.size + 1 = r at *
    generalize w1.heap.size = b at *
    go_wp2_with fail
    refine (num_any _ _).mono ?_
    rintro e w' ⟨rfl, rfl⟩
    go_upto_block 0 with fail
    go_cut [] (fun wx => Hid (Sm w s r n b wx))
    case first =>
      go_wp2_with fail
      go_loopw [9] (fun i wr => ∃ (k : Nat), k ≤ nA ∧ i = .int .i64 k ∧ Hid (Sm w s r n b wr)) (fun i _ => nA - (intOf i).toNat)
      case atStart => exact ⟨0, by omega, rfl, S0⟩
      case round =>
        clear S0
        obtain ⟨k, hkn, rfl, HS⟩ := hrel
        obtain ⟨F, bo⟩ := HS.out
        have BO := Lib.hid bo
        clear bo HS
        by_cases hgo : k < nA ∧ k < 80
        · obtain ⟨hlt, h80⟩ := hgo
          obtain ⟨b0, o, rfl, hb0, hact⟩ := HAT.out (by omega)
          obtain ⟨K, P, D, V, T, A2, cap2, M, q0, q1, q2, q3, q4, q5, hsl, hnil, h24⟩ := hact k hlt
          have hbel := BO.out.below
          have tr : ∀ i, wr.cell? ⟨b0, i, none⟩ = w.cell? ⟨b0, i, none⟩ := fun i => hbel.cell (p := ⟨b0, i, none⟩) hb0
          rw [← tr] at q0 q1 q2 q3 q4 q5
          have hb0r : b0 < wr.heap.size := by have := hbel.size; omega
          clear hact hbel tr
          obtain ⟨nM, hnM⟩ : ∃ nM, nM = M.length := ⟨_, rfl⟩
          rw [← hnM] at q5 h24 hsl
          have HNM := Lib.hid hnM
          have HSL := Lib.hid hsl
          have HNIL := Lib.hid hnil
          clear hnM hsl hnil
          have h80I : (k : Int) < 80 := by omega
          have hltI : (k : Int) < (nA : Int) := by omega
          have bo1 := BO.out.alloc (.cells (act6 K P D V T (.slice A2 nM cap2)).toArray 34)
          have hk1 : Blk (wr.alloc (.cells (act6 K P D V T (.slice A2 nM cap2)).toArray 34)) wr.heap.size 34 (act6 K P D V T (.slice A2 nM cap2)) := Blk.new _ _ _
          have BO1 := Lib.hid bo1
          have HK1 := Lib.hid hk1
          clear bo1 hk1
          by_cases hK6 : K < 6
          · obtain ⟨x, hx⟩ : ∃ x, raB F n P D V = x := ⟨_, rfl⟩
            obtain ⟨y, hy⟩ : ∃ y, raC n P D V = y := ⟨_, rfl⟩
            have hxx : (x != x) = false := by simp
            have hyy : (y != y) = false := by simp
            have HX := Lib.hid hx
            have HY := Lib.hid hy
            clear hx hy
            go_wp2_with fail
            change Calls _ _ _ (wr.alloc (.cells (act6 K P D V T (.slice A2 nM cap2)).toArray 34)) _
            clear q0 q1 q2 q3 q4 q5 hb0r
            generalize wr.alloc (.cells (act6 K P D V T (.slice A2 nM cap2)).toArray 34) = wd at *
            generalize wr.heap.size = k1 at *
            refine (bop_raise P D V BO1.out).mono ?_
            rw [HX.out, HY.out]
            rintro e w3 ⟨rfl, bo2, ke2⟩
            have hk2 := ke2.blk (by simp) HK1.out
            obtain ⟨d0, d1, d2, d3, d4, d5⟩ := act6_at hk2
            have hkl := hk2.lt
            have BO2 := Lib.hid bo2
            have HK2 := Lib.hid hk2
            clear bo2 ke2 hk2
            go_wp2_with fail
            clear d0 d1 d2 d3 d4 d5 hkl
            refine (bod_raise P D V BO2.out).mono ?_
            rw [HX.out, HY.out]
            rintro e w4 ⟨rfl, bo3, fo3⟩
            have S3 : Hid (Sm w s r n b w4) := Lib.hid ⟨_, bo3.drop (by simp) (by simp) (by simp) (by simp)⟩
            clear bo3 fo3
            go_wp2_with fail
            refine (num_any _ _).mono ?_
            rintro e w' ⟨rfl, rfl⟩
            go_wp2_with fail
            go_roundw
            case rel => exact ⟨k + 1, by omega, by go_num, S3⟩
            case measure => simp [intOf]; omega
          · have hK6' : 6 ≤ K := by omega
            clear hK6
            by_cases hK8 : K < 8
            · obtain ⟨LL, hLL⟩ : ∃ LL, taL F n P T M = LL := ⟨_, rfl⟩
              have HLL := Lib.hid hLL
              have hLL32 : LL.length ≤ 32 := by rw [← hLL]; exact taL_len F n P T M
              clear hLL
              go_wp2_with fail
              change Calls _ _ _ (wr.alloc (.cells (act6 K P D V T (.slice A2 nM cap2)).toArray 34)) _
              clear q0 q1 q2 q3 q4 q5 hb0r
              generalize wr.alloc (.cells (act6 K P D V T (.slice A2 nM cap2)).toArray 34) = wd at *
              generalize wr.heap.size = k1 at *
              have cL := lend_iqs (.slice A2 nM cap2) nM M wd (HSL.out.below BO1.out.below) HNM.out.symm h24 (fun m c e => by
                simp only [Value.slice.injEq] at e
                obtain ⟨rfl, -, rfl⟩ := e
                exact HNIL.out rfl)
              refine cL.mono ?_
              clear cL
              rintro e w3 ⟨ms, rfl, hlent, b3⟩
              have hslm := hlent.sl HNM.out.symm
              obtain ⟨g, cp, rfl, hcp, ho⟩ := hlent
              have hroom : (M ++ room).length = nM + 2 := by rw [List.length_append, ← HNM.out]; rfl
              have bo3 := Bo.hold (L := M ++ room) (u := .slice (some ⟨g, 0, none⟩) (nM + 2) cp) BO1.out b3 (by rw [hroom]; exact ho)
              have hk3 := HK1.out.below b3 HK1.out.lt
              obtain ⟨d0, d1, d2, d3, d4, d5⟩ := act6_at hk3
              have hkl := hk3.lt
              have BO3 := Lib.hid bo3
              have HK3 := Lib.hid hk3
              have HSLM := Lib.hid hslm
              have HROOM := Lib.hid hroom
              clear bo3 hk3 hslm hroom ho b3 HK1 BO1
              go_wp2_with fail
              clear d0 d1 d2 d3 d4 d5 hkl
              refine (bop_take P T _ M nM BO3.out HSLM.out HNM.out.symm (by omega)).mono ?_
              rw [HLL.out]
              rintro e w4 ⟨xx, rfl, bo4, ke4⟩
              have hk4 := ke4.blk (by simp) HK3.out
              obtain ⟨d0, d1, d2, d3, d4, d5⟩ := act6_at hk4
              have hkl := hk4.lt
              have BO4 := Lib.hid bo4
              have HK4 := Lib.hid hk4
              clear bo4 ke4 hk4 BO3 HK3 HSLM
              go_wp2_with fail
              clear d0 d1 d2 d3 d4 d5 hkl
              refine (bod_take P T (.slice A2 nM cap2) M nM BO4.out (fun w' fo => HSL.out.below (fo.below BO4.out.below BO4.out.below.size (fun i hi => hi ▸ BO4.out.hb))) HNM.out.symm (by omega)).mono ?_
              rw [HLL.out]
              rintro e w5 ⟨yy, rfl, hy5, bo5, fo5⟩
              have hk5 := fo5.blk HK4.out (by show k1 ≠ b; exact HK4.out.apart BO4.out.rp.row (by decide))
              have cS := same_iqs xx yy LL.length LL w5 (bo5.l.sl (p := (xx, LL)) (by simp)) hy5 rfl (by unfold maxLen; omega)
              have BO5 := Lib.hid bo5
              have HK5 := Lib.hid hk5
              clear bo5 fo5 hk5 BO4 HK4 hy5
              go_wp2_with fail
              refine cS.mono ?_
              clear cS
              rintro e w' ⟨rfl, q6, rfl⟩
              have bo6 := BO5.out.drewN q6
              have hk6 := HK5.out.drewN q6
              clear BO5 HK5
              generalize w5.drewN q6 = w6 at *
              obtain ⟨d0, d1, d2, d3, d4, d5⟩ := act6_at hk6
              have hkl := hk6.lt
              have hrow6 := bo6.l.held (p := (.slice (some ⟨g, 0, none⟩) (nM + 2) cp, M ++ room)) (by simp)
              simp only at hrow6
              rw [HROOM.out] at hrow6
              have cK := kept_iqs w.heap.size (.slice (some ⟨g, 0, none⟩) nM cp) (.slice A2 nM cap2) nM M w6 ⟨g, cp, rfl, hcp, hrow6⟩ (HSL.out.below bo6.below) HNM.out.symm h24
              have BO6 := Lib.hid bo6
              clear bo6 hk6 hrow6
              go_wp2_with fail
              clear d0 d1 d2 d3 d4 d5 hkl
              refine cK.mono ?_
              clear cK
              rintro e w7 ⟨rfl, b7⟩
              have bo7 := BO6.out.next b7
              have cX := spoil_iqs xx w.heap.size LL.length (iqs LL) w7 (bo7.l.held (p := (xx, LL)) (by simp)) (Tck.iqs LL) (by omega)
              have BO7 := Lib.hid bo7
              clear bo7 b7 BO6
              go_wp2_with fail
              refine cX.mono ?_
              clear cX
              rintro e w8 ⟨rfl, g8⟩
              have S8 : Hid (Sm w s r n b w8) := Lib.hid ⟨_, Bo.spoil (p := (xx, LL)) (BO7.out.drop (by simp) (by simp) (by simp) (by simp)) g8⟩
              clear g8 BO7
              go_wp2_with fail
              go_roundw
              case rel => exact ⟨k + 1, by omega, by go_num, S8⟩
              case measure => simp [intOf]; omega
            · have hK8' : 8 ≤ K := by omega
              clear hK8
              obtain ⟨c, hc⟩ : ∃ c, cntA F D n = c := ⟨_, rfl⟩
              have HC := Lib.hid hc
              have hcc : ((c : Int) != (c : Int)) = false := by simp
              clear hc
              go_wp2_with fail
              change Code.wp _ _ _ _ (wr.alloc (.cells (act6 K P D V T (.slice A2 nM cap2)).toArray 34))
              clear q0 q1 q2 q3 q4 q5 hb0r
              generalize wr.alloc (.cells (act6 K P D V T (.slice A2 nM cap2)).toArray 34) = wd at *
              generalize wr.heap.size = k1 at *
              have bo1d := BO1.out.drewN 1
              change Bo _ _ _ _ _ _ _ _ _ wd.drew at bo1d
              have hne : k1 ≠ b := HK1.out.apart BO1.out.rp.row (by decide)
              have hB5 := HK1.out
              obtain ⟨-, -, d2, -, -, -⟩ := act6_at hB5
              go_region_held3 (fun w' => w'.cell? ⟨k1, 2, none⟩ = some (.int .i64 D) ∧ Blk w' k1 34 (act6 K P D V T (.slice A2 nM cap2)))
                ((go_split_ands; have hq := (by assumption : Blk _ k1 34 (act6 K P D V T (.slice A2 nM cap2))); first | exact act6_keep hq | exact act6_keep (hq.drewN 1) | exact act6_keep (ke4.blk (by simp) hq) | exact act6_keep (fo5.blk hq hne)))
                (first
                  | (go_at_call 20; (with_reducible refine (bop_clear_is D c bo1d HC.out).mono ?_); rintro e w4 ⟨rfl, bo4, ke4⟩)
                  | (go_at_call 21; (with_reducible refine (bod_clear_is D c bo4 HC.out).mono ?_); rintro e w5 ⟨rfl, bo5, fo5⟩))
              have S8 : Hid (Sm w s r n b w5) := Lib.hid ⟨_, bo5.drop (by simp) (by simp) (by simp) (by simp)⟩
              clear bo5 fo5 bo4 ke4 bo1d hB5 d2
              go_wp2_with fail
              go_roundw
              case rel => exact ⟨k + 1, by omega, by go_num, S8⟩
              case measure => simp [intOf]; omega
        · have hx : (k : Int) ≥ nA ∨ ((k : Int) < nA ∧ decide ((k : Int) < 80) = false) := by
            by_cases h1 : k < nA
            · exact .inr ⟨by omega, by simp; omega⟩
            · exact .inl (by omega)
          clear hgo
          rcases hx with hx | ⟨hx, hx2⟩
          all_goals
            go_wp2_with fail
            go_meet
            exact Lib.hid ⟨F, BO.out⟩
    case rest =>
      clear S0
      go_wp2_with fail
      go_loopw [17] (fun i wr => ∃ (q : Nat), q ≤ n + 2 ∧ i = .int .i64 ((q : Int) - 1) ∧ Hid (Sm w s r n b wr)) (fun i _ => n + 2 - (intOf i + 1).toNat)
      case atStart => exact ⟨0, by omega, rfl, hcut⟩
      case round =>
        clear hcut
        obtain ⟨q, hq, rfl, HS⟩ := hrel
        obtain ⟨F, bo⟩ := HS.out
        have BO := Lib.hid bo
        clear bo HS
        obtain ⟨p, hp⟩ : ∃ p : Int, (q : Int) - 1 = p := ⟨_, rfl⟩
        rw [hp]
        by_cases hlt : q < n + 2
        · obtain ⟨LL, hLL⟩ : ∃ LL, taL F n p 7 [] = LL := ⟨_, rfl⟩
          have HLL := Lib.hid hLL
          have hLL32 : LL.length ≤ 32 := by rw [← hLL]; exact taL_len F n p 7 []
          have hpI : p ≤ (n : Int) := by omega
          have hp0 : -1 ≤ p := by omega
          have HP := Lib.hid hp
          clear hLL hp
          go_wp2_with fail
          refine (bop_take p 7 _ [] 0 BO.out (sl_nil wr) rfl (by omega)).mono ?_
          rw [HLL.out]
          rintro e w4 ⟨xx, rfl, bo4, ke4⟩
          have BO4 := Lib.hid bo4
          clear bo4 ke4
          go_wp2_with fail
          refine (bod_take p 7 (.slice none 0 0) [] 0 BO4.out (fun w' fo => sl_nil w') rfl (by omega)).mono ?_
          rw [HLL.out]
          rintro e w5 ⟨yy, rfl, hy5, bo5, fo5⟩
          have cS := same_iqs xx yy LL.length LL w5 (bo5.l.sl (p := (xx, LL)) (by simp)) hy5 rfl (by unfold maxLen; omega)
          have BO5 := Lib.hid bo5
          clear bo5 fo5 BO4 hy5
          go_wp2_with fail
          refine cS.mono ?_
          clear cS
          rintro e w' ⟨rfl, q6, rfl⟩
          have S6 : Hid (Sm w s r n b (w5.drewN q6)) := Lib.hid ⟨_, (BO5.out.drewN q6).drop (by simp) (by simp) (by simp) (by simp)⟩
          clear BO5
          generalize w5.drewN q6 = w6 at *
          go_wp2_with fail
          go_roundw
          case rel => exact ⟨q + 1, by omega, by have := HP.out; congr 1; omega, S6⟩
          case measure => simp [intOf]; have := HP.out; omega
        · have hpI : (n : Int) < p := by omega
          clear hp
          go_wp2_with fail
          refine (pawake_any _).mono ?_
          rintro e wa ⟨rfl, ba⟩
          have HB := Lib.hid (Below.down BO.out.below ba BO.out.below.size)
          clear ba
          go_wp2_with fail
          go_ret
          exact ⟨rfl, HB.out⟩
  · have hn := pnew_no parts w hp
    have hr := rpnew_no parts w hp
    clear hp
    go_enter Try.func3, Try.ntmps3
    go_wp2_with fail
    refine hn.mono ?_
    rintro e w' ⟨rfl, rfl⟩
    clear hn
    go_wp2_with fail
    refine hr.mono ?_
    rintro e w' ⟨rfl, rfl⟩
    clear hr
    go_wp2_with fail
    refine (num_any _ _).mono ?_
    rintro e w' ⟨rfl, rfl⟩
    go_wp2_with fail
    refine (pawake_any _).mono ?_
    rintro e wa ⟨rfl, ba⟩
    have BA := Lib.hid ba
    clear ba
    go_wp2_with fail
    go_ret
    exact ⟨rfl, BA.out⟩
end Go.Proofs.Ytffdjdllnajfcaa
