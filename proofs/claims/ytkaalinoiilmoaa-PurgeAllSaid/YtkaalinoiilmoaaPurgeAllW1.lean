/-
  What the proofs lean on: contracts of the program's functions, plain facts.
-/
import Derived.Test.YtkaalinoiilmoaaT6
namespace Go.Proofs.Ytkaalinoiilmoaa
open Go.RowKit
set_option linter.unusedVariables false
set_option linter.unusedSimpArgs false
set_option maxRecDepth 100000
def plLbP (a0 c0 a1 c1 a2 c2 : Int) : List Pa := [⟨a0, c0, [0, 1, 2], 0, 4⟩, ⟨a1, c1, [3, 4], 4, 4⟩, ⟨a2, c2, [5, 6], 8, 2⟩]
def plLbL (a0 c0 a1 c1 a2 c2 : Int) (b1 b2 b3 : Nat) : List (Pa × Value) := [(⟨a0, c0, [0, 1, 2], 0, 4⟩, .slice (some ⟨b1, 0, none⟩) 3 3), (⟨a1, c1, [3, 4], 4, 4⟩, .slice (some ⟨b2, 0, none⟩) 2 2), (⟨a2, c2, [5, 6], 8, 2⟩, .slice (some ⟨b3, 0, none⟩) 2 2)]
def plLb (a0 c0 a1 c1 a2 c2 : Int) (gs : List Gr) : Cf := ⟨16, plLbP a0 c0 a1 c1 a2 c2, plD_Ch3, 6, plW, gs, 10, 6, 2⟩
section
variable {w : World} {b1 b2 b3 b4 b5 b6 b7 b8 b9 : Nat} {x9 : List Value} {a0 c0 a1 c1 a2 c2 : Int}
abbrev Lb9 (w : World) (b1 b2 b3 b4 b5 b6 b7 b8 b9 : Nat) (a0 c0 a1 c1 a2 c2 : Int) : Prop := P9 w b1 b2 b3 b4 b5 b6 b7 b8 b9 (ints [0, 1, 2]) (ints [3, 4]) (ints [5, 6]) (pcl (plLbL a0 c0 a1 c1 a2 c2 b1 b2 b3)) (ints [8, 9, 10]) (ints [11, 12]) (dcl (plM b5 b6)) (ints (wins plW)) (grs plG)
theorem Lb9.ps (h : Lb9 w b1 b2 b3 b4 b5 b6 b7 b8 b9 a0 c0 a1 c1 a2 c2) : PaS w (.slice (some ⟨b4, 0, none⟩) 3 3) (plLbP a0 c0 a1 c1 a2 c2) := PaS.blk rfl rfl h.k4 (all3 (Rw.blk h.k1 (by simp)) (Rw.blk h.k2 (by simp)) (Rw.blk h.k3 (by simp)))
theorem paz_lb : PaZ (plLbP a0 c0 a1 c1 a2 c2) := paz_of (by simp [plLbP]) (all3 (by simp) (by simp) (by simp))
theorem Lb9.cf (h : Lb9 w b1 b2 b3 b4 b5 b6 b7 b8 b9 a0 c0 a1 c1 a2 c2) : CfAt w (.slice (some ⟨b4, 0, none⟩) 3 3) (.slice (some ⟨b7, 0, none⟩) 2 2) (.slice (some ⟨b8, 0, none⟩) 3 3) (.slice (some ⟨b9, 0, none⟩) 1 1) (plLb a0 c0 a1 c1 a2 c2 plG) :=
  ⟨Lb9.ps h, paz_lb, P9.ds h, dez_pl, P9.ws h, (show plW.length * 32 ≤ _ by decide), some_nil, P9.gs h, (show plG.length * 24 ≤ _ by decide), some_nil⟩
end
def paC : Cf := plLb 0 0 1 0 2 0 plG
theorem pa_mayV : cfMay paC = true := by kernel_rfl
theorem pa_FL {i : Nat} (hi : i < 3) : FL paC i 2 = true := by
  rw [FL_iff]
  have h : (List.range 3).all (fun i => dN paC i 2) = true := by kernel_rfl
  rw [range_all_iff] at h
  exact .one (by show i < 3; exact hi) (by decide) (h i hi)
theorem pa_flI (x : Int) : flI paC x 2 = inP 3 x := by
  unfold flI
  rw [show paC.ps.length = 3 from rfl]
  cases h : inP 3 x with
  | false => rfl
  | true =>
    obtain ⟨k, rfl, hk⟩ := (inP_iff _ _).1 h
    rw [pa_FL (by simpa using hk)]; rfl
def PaN (h : Hs) : Prop := h.L = noN ∧ h.O = zO [0, 2] 2
theorem paN_new : PaN (hsNew paC) := ⟨rfl, rfl⟩
theorem PaN.next {h : Hs} (hh : PaN h) (s : Stp) (h2 : s.k ≠ 2) : PaN (hdS paC h s) := by
  unfold hdS
  rw [if_neg h2]
  split
  · split
    · refine ⟨?_, hh.2⟩
      show atL h.L _ = noN
      rw [hh.1]; funext i; unfold atL noN; split <;> rfl
    · exact hh
  · exact hh
theorem pa_hd_call {h : Hs} {s : Stp} (h5 : 5 ≤ s.k) (h16 : s.k ≤ 16) : hdB paC 2 h s = inP 3 s.p := by
  unfold hdB; rw [if_neg (by omega), if_pos ⟨h5, h16⟩, pa_flI]
theorem pa_hd_other {h : Hs} {s : Stp} (h1 : s.k ≠ 3) (h2 : s.k ≠ 4) (h3 : s.k < 5 ∨ 16 < s.k) : hdB paC 2 h s = true := by
  unfold hdB; rw [if_neg (by omega), if_neg (by omega)]
theorem pa_hd_out {h : Hs} {s : Stp} (h1 : s.k = 3 ∨ s.k = 4) (h2 : s.d < 0 ∨ 1 < s.d) : hdB paC 2 h s = false := by
  unfold hdB
  rw [if_pos h1, pa_flI]
  have : aoX paC.ds.length h.O h.L s.d = -1 := by
    unfold aoX adB
    rw [show paC.ds.length = 2 from rfl, decide_eq_false (by omega)]; rfl
  rw [this]; rfl
theorem pa_hd_in {h : Hs} {s : Stp} (hn : PaN h) (h1 : s.k = 3 ∨ s.k = 4) (h2 : 0 ≤ s.d ∧ s.d ≤ 1) : hdB paC 2 h s = true := by
  unfold hdB
  rw [if_pos h1, pa_flI]
  unfold aoX adB
  rw [show paC.ds.length = 2 from rfl, decide_eq_true (by omega), hn.1, hn.2]
  rcases (show s.d = 0 ∨ s.d = 1 by omega) with e | e <;> rw [e] <;> rfl
end Go.Proofs.Ytkaalinoiilmoaa
namespace Go.Proofs.Ytkaalinoiilmoaa
open Go.RowKit
set_option linter.unusedVariables false
set_option linter.unusedSimpArgs false
set_option maxRecDepth 100000
structure LaS (w0 : World) (b1 b2 b3 b4 b5 b6 b7 b8 b9 y : Nat) (k : Nat) (w : World) : Prop where
  p9 : Lb9 w b1 b2 b3 b4 b5 b6 b7 b8 b9 0 0 (if 1 < k then 1 else 2) 0 (if 2 < k then 2 else 1) (if 2 < k then 0 else 2)
  cb : Blk w y 27 (plV b4 b7 b8 b9)
  ge : w0.heap.size ≤ b1
  lt : b9 < y
  below : Below w0.heap.size w0 w
theorem LaS.put {w0 w : World} {b1 b2 b3 b4 b5 b6 b7 b8 b9 y k : Nat} (h : LaS w0 b1 b2 b3 b4 b5 b6 b7 b8 b9 y k w) (hk : k < 3) : LaS w0 b1 b2 b3 b4 b5 b6 b7 b8 b9 y (k + 1) ((w.setCell ⟨b4, k * 5, none⟩ (.int .i64 k)).setCell ⟨b4, k * 5 + 1, none⟩ (.int .i64 0)) := by
  have ho := h.p9.ord
  have hge := h.ge; have hlt := h.lt
  have hb : Below w0.heap.size w0 ((w.setCell ⟨b4, k * 5, none⟩ (.int .i64 k)).setCell ⟨b4, k * 5 + 1, none⟩ (.int .i64 0)) := (h.below.setCell (by show w0.heap.size ≤ b4; omega) _).setCell (by show w0.heap.size ≤ b4; omega) _
  have hc : Blk ((w.setCell ⟨b4, k * 5, none⟩ (.int .i64 k)).setCell ⟨b4, k * 5 + 1, none⟩ (.int .i64 0)) y 27 (plV b4 b7 b8 b9) := (h.cb.far (by show y ≠ b4; omega) _).far (by show y ≠ b4; omega) _
  refine ⟨?_, hc, hge, hlt, hb⟩
  have := (P9.s4 h.p9 (k * 5) (.int .i64 k)).s4 (k * 5 + 1) (.int .i64 0)
  rcases (show k = 0 ∨ k = 1 ∨ k = 2 by omega) with rfl | rfl | rfl
  · exact this
  · exact this
  · exact this
set_option maxHeartbeats 8000000 in
theorem law_PurgeAll (v0 : Value) (n : Nat) (x0 : List Value) (w : World) (hs0 : Sl w v0 n 7 x0) (hx0 : ∃ l : List Stp, l.length = n ∧ x0 = stcs l) (hz : n * 64 ≤ 140737488351232) :
    Calls Try.prog 9 #[v0] w fun e w' => e = .returned (.bool true) ∧ Below w.heap.size w w' := by
  obtain ⟨l, hl, rfl⟩ := hx0
  have HS := Lib.hid hs0; have HL := Lib.hid hl
  obtain ⟨A, cap, rfl, hcap, -, -⟩ := hs0
  have hnl : n ≤ 9223372036854775807 := by omega
  obtain ⟨P, hP⟩ : ∃ P, pgL paC 2 (hsNew paC) l = P := ⟨_, rfl⟩
  have HPL := Lib.hid (show P.length = n by rw [← hP, pgL_len, HL.out])
  have HPA := Lib.hid (fun k (hk : k < n) => (show P.getD k stD = if hdB paC 2 (hdW paC (hsNew paC) (l.take k)) (l.getD k stD) then l.getD k stD else stD by rw [← hP]; exact pgL_at paC 2 l _ k (by rw [HL.out]; exact hk)))
  have HPE := Lib.hid hP
  clear hP hl
  go_enter Try.func9, Try.ntmps9
  go_wp2_with fail
  refine (vawake_any _).mono ?_
  rintro e wa ⟨rfl, ba⟩
  have HB := Lib.hid ba
  clear ba
  go_wp2_with fail
  refine (plain23_any _).mono ?_
  rintro e w1 ⟨b1, b2, b3, b4, b5, b6, b7, b8, b9, rfl, hpl, hge, hlt, hbel⟩
  have L0 : Hid (LaS w b1 b2 b3 b4 b5 b6 b7 b8 b9 w1.heap.size 0 (w1.alloc (.cells (plV b4 b7 b8 b9).toArray 27))) := Lib.hid
    ⟨P9.below hpl ((Below.refl _ _).alloc (Nat.le_refl _) _), Blk.new w1 _ (plV b4 b7 b8 b9), Nat.le_trans HB.out.size hge, hlt, (Below.down HB.out hbel HB.out.size).alloc (Nat.le_trans HB.out.size hbel.size) _⟩
  clear hpl hge hlt hbel
  unfold plV at L0
  go_wp2_with fail
  generalize w1.alloc (.cells #[.int .i64 16, .slice (some ⟨b4, 0, none⟩) 3 3, .slice (some ⟨b7, 0, none⟩) 2 2, .int .i64 6, .slice (some ⟨b8, 0, none⟩) 3 3, .slice (some ⟨b9, 0, none⟩) 1 1, .int .i64 10, .int .i64 6, .int .i64 2] 27) = w2 at *
  have L1 : Hid (LaS w b1 b2 b3 b4 b5 b6 b7 b8 b9 w1.heap.size 0 w2) := Lib.hid (by first | exact L0.out | (have := L0.out; simpa using this))
  generalize w1.heap.size = y at *
  clear L0 HB
  go_loopw [4] (fun i wr => ∃ (k : Nat), k ≤ 3 ∧ i = .int .i64 k ∧ Hid (LaS w b1 b2 b3 b4 b5 b6 b7 b8 b9 y k wr)) (fun i _ => 3 - (intOf i).toNat)
  case atStart => exact ⟨0, by omega, rfl, L1⟩
  case round =>
    clear L1
    obtain ⟨k, hk3, rfl, HT⟩ := hrel
    by_cases hlt : k < 3
    · have hltI : (k : Int) < 3 := by omega
      obtain ⟨q0, q1, q2, q3, q4, q5, q6, q7, q8⟩ := plV_at HT.out.cb
      have h15 : k * 5 + 1 < (pcl (plLbL 0 0 (if 1 < k then 1 else 2) 0 (if 2 < k then 2 else 1) (if 2 < k then 0 else 2) b1 b2 b3)).length := by show k * 5 + 1 < 15; omega
      obtain ⟨u0, e0⟩ : ∃ u, wr.cell? ⟨b4, k * 5, none⟩ = some u := ⟨_, (HT.out.p9.k4.cell _).trans (List.getElem?_eq_getElem (by omega))⟩
      obtain ⟨u1, e1⟩ : ∃ u, wr.cell? ⟨b4, k * 5 + 1, none⟩ = some u := ⟨_, (HT.out.p9.k4.cell _).trans (List.getElem?_eq_getElem h15)⟩
      have f0 := HT.out.p9.k4.frozen (k * 5)
      have f1 := HT.out.p9.k4.frozen (k * 5 + 1)
      have HN := Lib.hid (HT.out.put hlt)
      clear h15
      go_wp2_with fail
      go_roundw
      case rel => exact ⟨k + 1, by omega, by go_num, HN⟩
      case measure => simp [intOf]; omega
    · obtain rfl : k = 3 := by omega
      have HC2 : Hid (CfAt wr (.slice (some ⟨b4, 0, none⟩) 3 3) (.slice (some ⟨b7, 0, none⟩) 2 2) (.slice (some ⟨b8, 0, none⟩) 3 3) (.slice (some ⟨b9, 0, none⟩) 1 1) paC) := Lib.hid (Lb9.cf HT.out.p9)
      obtain ⟨q0, q1, q2, q3, q4, q5, q6, q7, q8⟩ := plV_at HT.out.cb
      have T1 := Lib.hid ((Tk.empty w).next HT.out.below)
      clear HT
      go_wp2_with fail
      refine (vpurge_n (c := paC) HC2.out pa_mayV 2 (by decide) _ n l (HS.out.below T1.out.below) HL.out hz P HPE.out).mono ?_
      rintro e w3 ⟨ga, rfl, t3⟩
      have T3 := Lib.hid (T1.out.add t3)
      clear t3 T1 HC2 q0 q1 q2 q3 q4 q5 q6 q7 q8
      have en : ((n : Int) == n) = true := by simp
      go_wp2_with fail
      refine (num_any _ _).mono ?_
      rintro e we ⟨rfl, rfl⟩
      go_wp2_with fail
      go_loopw [8, 7, 9, 10, 11] (fun i mv a b c wr => ∃ (k : Nat), k ≤ n ∧ i = .int .i64 k ∧ (∃ m : Bool, mv = .bool m) ∧ a = a ∧ b = b ∧ c = c ∧ Hid (Tk nos w [obB ga 39 (stcs P)] wr ∧ (mv = .bool false → PaN (hdW paC (hsNew paC) (l.take k))))) (fun i _ _ _ _ _ => n - (intOf i).toNat)
      case atStart => exact ⟨0, by omega, rfl, ⟨_, rfl⟩, rfl, rfl, rfl, Lib.hid ⟨T3.out, fun _ => paN_new⟩⟩
      case round =>
        clear T3
        obtain ⟨k, hkn, rfl, ⟨m, rfl⟩, -, -, -, HT⟩ := hrel
        by_cases hlt : k < n
        · have hltI : (k : Int) < n := by omega
          obtain ⟨sb, so, rfl, -, c0, c1, c2, c3, c4, c5, c6⟩ := stcs_at (HS.out.below HT.out.1.below) HL.out k hlt
          have hPA := HPA.out k hlt
          have hW1 := hdW_succ paC (hsNew paC) l k (by rw [HL.out]; exact hlt)
          have hIN := HT.out.2
          have hX : ∀ W : World, Below wr.heap.size wr W → (W.cell? ⟨ga, k * 7, none⟩ = some (.int .i64 (P.getD k stD).k) ∧ W.cell? ⟨ga, k * 7 + 1, none⟩ = some (.int .i64 (P.getD k stD).p) ∧ W.cell? ⟨ga, k * 7 + 2, none⟩ = some (.int .i64 (P.getD k stD).d) ∧ W.cell? ⟨ga, k * 7 + 3, none⟩ = some (.int .i64 (P.getD k stD).a) ∧ W.cell? ⟨ga, k * 7 + 4, none⟩ = some (.int .i64 (P.getD k stD).b) ∧ W.cell? ⟨ga, k * 7 + 5, none⟩ = some (.int .i64 (P.getD k stD).c) ∧ W.cell? ⟨ga, k * 7 + 6, none⟩ = some (.string (P.getD k stD).s)) := by
            intro W hW
            obtain ⟨sb2, so2, e2, -, d0, d1, d2, d3, d4, d5, d6⟩ := stcs_at (sl_whole ((HT.out.1.next hW).blk (i := 0) rfl) n 7 (by rw [stcs_len, HPL.out])) HPL.out k hlt
            simp only [Option.some.injEq, Addr.mk.injEq, and_true] at e2
            obtain ⟨rfl, rfl⟩ := e2
            simp only [Nat.zero_add] at d0 d1 d2 d3 d4 d5 d6
            exact ⟨d0, d1, d2, d3, d4, d5, d6⟩
          generalize P.getD k stD = y at *
          generalize l.getD k stD = x at *
          generalize hdW paC (hsNew paC) (l.take k) = hs at *
          have HIS := Lib.hid (fun (h2 : x.k ≠ 2) => (show (Value.bool m = .bool false → PaN (hdW paC (hsNew paC) (l.take (k + 1)))) from fun hm => by rw [hW1]; exact (hIN hm).next x h2))
          clear hW1
          have HIN0 := Lib.hid hIN
          clear hIN
          obtain ⟨x0, x1, x2, x3, x4, x5, s⟩ := x
          simp only at c0 c1 c2 c3 c4 c5 c6
          have hA := hX (wr.alloc (.cells #[.int .i64 x0, .int .i64 x1, .int .i64 x2, .int .i64 x3, .int .i64 x4, .int .i64 x5, .string s] 39)) ((Below.refl _ _).alloc (Nat.le_refl _) _)
          have hs0 := stp_cells (show Blk (wr.alloc (.cells #[.int .i64 x0, .int .i64 x1, .int .i64 x2, .int .i64 x3, .int .i64 x4, .int .i64 x5, .string s] 39)) wr.heap.size 39 (stc ⟨x0, x1, x2, x3, x4, x5, s⟩) from Blk.new wr _ (stc ⟨x0, x1, x2, x3, x4, x5, s⟩))
          obtain ⟨s0, s1, s2, s3, s4, s5, s6⟩ := hs0
          simp only at s0 s1 s2 s3 s4 s5 s6
          clear hX
          have hY := hPA
          clear hPA
          rcases (show x0 = 2 ∨ (x0 < 5 ∧ x0 ≠ 2 ∧ x0 ≠ 3 ∧ x0 ≠ 4) ∨ 16 < x0 ∨ (5 ≤ x0 ∧ x0 ≤ 16 ∧ x1 < 0) ∨ (5 ≤ x0 ∧ x0 ≤ 16 ∧ 2 < x1) ∨ (5 ≤ x0 ∧ x0 ≤ 16 ∧ 0 ≤ x1 ∧ x1 ≤ 2) ∨ ((x0 = 3 ∨ x0 = 4) ∧ x2 < 0) ∨ ((x0 = 3 ∨ x0 = 4) ∧ 1 < x2) ∨ ((x0 = 3 ∨ x0 = 4) ∧ 0 ≤ x2 ∧ x2 ≤ 1) by omega) with
            h2 | ⟨h1, h2, h3, h4⟩ | h1 | ⟨h1, h2, h3⟩ | ⟨h1, h2, h3⟩ | ⟨h1, h2, h3, h4⟩ | ⟨h1, h3⟩ | ⟨h1, h3⟩ | ⟨h1, h3, h4⟩
          · rw [pa_hd_other (by dsimp only; omega) (by dsimp only; omega) (by dsimp only; omega)] at hY
            clear HIS HIN0
            have e2 : (x0 == 2) = true := by simp [h2]
            have e3 : (x0 == 3) = false := beq_eq_false_iff_ne.2 (by omega)
            have e4 : (x0 == 4) = false := beq_eq_false_iff_ne.2 (by omega)
            have e5 : decide (5 ≤ x0) = false := by simp; omega
            clear h2
            cases m
            all_goals
              simp only [if_true] at hY
              obtain rfl := hY
              obtain ⟨d0, d1, d2, d3, d4, d5, d6⟩ := hA
              have g0 : (x0 == x0) = true := by simp
              have g1 : (x1 == x1) = true := by simp
              have g2 : (x2 == x2) = true := by simp
              have g3 : (x3 == x3) = true := by simp
              have g4 : (x4 == x4) = true := by simp
              have g5 : (x5 == x5) = true := by simp
              have g6 : (s.toList == s.toList) = true := by simp
              go_wp2_with fail
              go_quiet (fail)
              go_wp2_with fail
              go_roundw
              case rel => exact ⟨k + 1, by omega, by go_num, ⟨_, rfl⟩, trivial, trivial, trivial, Lib.hid ⟨HT.out.1.next (bdrewN ((Below.refl _ _).alloc (Nat.le_refl _) _) _), (fun h => by cases h)⟩⟩
              case measure => simp [intOf]; omega
          · rw [pa_hd_other (by dsimp only; omega) (by dsimp only; omega) (by dsimp only; omega)] at hY
            have HIN := Lib.hid (HIS.out h2)
            have e2 : (x0 == 2) = false := beq_eq_false_iff_ne.2 h2
            have e3 : (x0 == 3) = false := beq_eq_false_iff_ne.2 (by omega)
            have e4 : (x0 == 4) = false := beq_eq_false_iff_ne.2 (by omega)
            have e5 : decide (5 ≤ x0) = false := by simp; omega
            clear h1 h2 h3 h4
            cases m
            all_goals
              simp only [if_true] at hY
              obtain rfl := hY
              obtain ⟨d0, d1, d2, d3, d4, d5, d6⟩ := hA
              have g0 : (x0 == x0) = true := by simp
              have g1 : (x1 == x1) = true := by simp
              have g2 : (x2 == x2) = true := by simp
              have g3 : (x3 == x3) = true := by simp
              have g4 : (x4 == x4) = true := by simp
              have g5 : (x5 == x5) = true := by simp
              have g6 : (s.toList == s.toList) = true := by simp
              go_wp2_with fail
              go_quiet (fail)
              go_wp2_with fail
              go_roundw
              case rel => exact ⟨k + 1, by omega, by go_num, ⟨_, rfl⟩, trivial, trivial, trivial, Lib.hid ⟨HT.out.1.next (bdrewN ((Below.refl _ _).alloc (Nat.le_refl _) _) _), (by first | exact HIN.out | exact fun _ => HIN.out trivial | exact fun h => by cases h)⟩⟩
              case measure => simp [intOf]; omega
          · rw [pa_hd_other (by dsimp only; omega) (by dsimp only; omega) (by dsimp only; omega)] at hY
            have HIN := Lib.hid (HIS.out (by dsimp only; omega))
            have e2 : (x0 == 2) = false := beq_eq_false_iff_ne.2 (by omega)
            have e3 : (x0 == 3) = false := beq_eq_false_iff_ne.2 (by omega)
            have e4 : (x0 == 4) = false := beq_eq_false_iff_ne.2 (by omega)
            have e5 : decide (5 ≤ x0) = true := by simp; omega
            have e6 : decide (x0 ≤ 16) = false := by simp; omega
            clear h1
            cases m
            all_goals
              simp only [if_true] at hY
              obtain rfl := hY
              obtain ⟨d0, d1, d2, d3, d4, d5, d6⟩ := hA
              have g0 : (x0 == x0) = true := by simp
              have g1 : (x1 == x1) = true := by simp
              have g2 : (x2 == x2) = true := by simp
              have g3 : (x3 == x3) = true := by simp
              have g4 : (x4 == x4) = true := by simp
              have g5 : (x5 == x5) = true := by simp
              have g6 : (s.toList == s.toList) = true := by simp
              go_wp2_with fail
              go_quiet (fail)
              go_wp2_with fail
              go_roundw
              case rel => exact ⟨k + 1, by omega, by go_num, ⟨_, rfl⟩, trivial, trivial, trivial, Lib.hid ⟨HT.out.1.next (bdrewN ((Below.refl _ _).alloc (Nat.le_refl _) _) _), (by first | exact HIN.out | exact fun _ => HIN.out trivial | exact fun h => by cases h)⟩⟩
              case measure => simp [intOf]; omega
          · rw [pa_hd_call h1 h2, show inP 3 x1 = false by unfold inP; rw [decide_eq_false (by omega)]] at hY
            have HIN := Lib.hid (HIS.out (by dsimp only; omega))
            have e2 : (x0 == 2) = false := beq_eq_false_iff_ne.2 (by omega)
            have e3 : (x0 == 3) = false := beq_eq_false_iff_ne.2 (by omega)
            have e4 : (x0 == 4) = false := beq_eq_false_iff_ne.2 (by omega)
            have e5 : decide (5 ≤ x0) = true := by simp; omega
            have e6 : decide (x0 ≤ 16) = true := by simp; omega
            have e7 : decide (x1 < 0) = true := by simp; omega
            cases m
            all_goals
              simp only [Bool.false_eq_true, if_false] at hY
              obtain rfl := hY
              simp only [stD] at hA
              obtain ⟨d0, d1, d2, d3, d4, d5, d6⟩ := hA
              have g0 : ((0 : Int) == x0) = false := beq_eq_false_iff_ne.2 (by omega)
              go_wp2_with fail
              go_roundw
              case rel => exact ⟨k + 1, by omega, by go_num, ⟨_, rfl⟩, trivial, trivial, trivial, Lib.hid ⟨HT.out.1.next ((Below.refl _ _).alloc (Nat.le_refl _) _), (by first | exact HIN.out | exact fun _ => HIN.out trivial | exact fun h => by cases h)⟩⟩
              case measure => simp [intOf]; omega
          · rw [pa_hd_call h1 h2, show inP 3 x1 = false by unfold inP; rw [decide_eq_false (by omega)]] at hY
            have HIN := Lib.hid (HIS.out (by dsimp only; omega))
            have e2 : (x0 == 2) = false := beq_eq_false_iff_ne.2 (by omega)
            have e3 : (x0 == 3) = false := beq_eq_false_iff_ne.2 (by omega)
            have e4 : (x0 == 4) = false := beq_eq_false_iff_ne.2 (by omega)
            have e5 : decide (5 ≤ x0) = true := by simp; omega
            have e6 : decide (x0 ≤ 16) = true := by simp; omega
            have e7 : decide (x1 < 0) = false := by simp; omega
            have e8 : decide (2 < x1) = true := by simp; omega
            cases m
            all_goals
              simp only [Bool.false_eq_true, if_false] at hY
              obtain rfl := hY
              simp only [stD] at hA
              obtain ⟨d0, d1, d2, d3, d4, d5, d6⟩ := hA
              have g0 : ((0 : Int) == x0) = false := beq_eq_false_iff_ne.2 (by omega)
              go_wp2_with fail
              go_roundw
              case rel => exact ⟨k + 1, by omega, by go_num, ⟨_, rfl⟩, trivial, trivial, trivial, Lib.hid ⟨HT.out.1.next ((Below.refl _ _).alloc (Nat.le_refl _) _), (by first | exact HIN.out | exact fun _ => HIN.out trivial | exact fun h => by cases h)⟩⟩
              case measure => simp [intOf]; omega
          · rw [pa_hd_call h1 h2, show inP 3 x1 = true by unfold inP; rw [decide_eq_true (by omega)]] at hY
            have HIN := Lib.hid (HIS.out (by dsimp only; omega))
            have e2 : (x0 == 2) = false := beq_eq_false_iff_ne.2 (by omega)
            have e3 : (x0 == 3) = false := beq_eq_false_iff_ne.2 (by omega)
            have e4 : (x0 == 4) = false := beq_eq_false_iff_ne.2 (by omega)
            have e5 : decide (5 ≤ x0) = true := by simp; omega
            have e6 : decide (x0 ≤ 16) = true := by simp; omega
            have e7 : decide (x1 < 0) = false := by simp; omega
            have e8 : decide (2 < x1) = false := by simp; omega
            clear h1 h2 h3 h4
            cases m
            all_goals
              simp only [if_true] at hY
              obtain rfl := hY
              obtain ⟨d0, d1, d2, d3, d4, d5, d6⟩ := hA
              have g0 : (x0 == x0) = true := by simp
              have g1 : (x1 == x1) = true := by simp
              have g2 : (x2 == x2) = true := by simp
              have g3 : (x3 == x3) = true := by simp
              have g4 : (x4 == x4) = true := by simp
              have g5 : (x5 == x5) = true := by simp
              have g6 : (s.toList == s.toList) = true := by simp
              go_wp2_with fail
              go_quiet (fail)
              go_wp2_with fail
              go_roundw
              case rel => exact ⟨k + 1, by omega, by go_num, ⟨_, rfl⟩, trivial, trivial, trivial, Lib.hid ⟨HT.out.1.next (bdrewN ((Below.refl _ _).alloc (Nat.le_refl _) _) _), (by first | exact HIN.out | exact fun _ => HIN.out trivial | exact fun h => by cases h)⟩⟩
              case measure => simp [intOf]; omega
          · rw [pa_hd_out (by dsimp only; omega) (by dsimp only; omega)] at hY
            have HIN := Lib.hid (HIS.out (by dsimp only; omega))
            have e2 : (x0 == 2) = false := beq_eq_false_iff_ne.2 (by omega)
            have e5 : decide (5 ≤ x0) = false := by simp; omega
            have e7 : decide (x2 < 0) = true := by simp; omega
            rcases (show ((x0 == 3) = true) ∨ ((x0 == 3) = false ∧ (x0 == 4) = true) by rcases h1 with rfl | rfl <;> simp) with e3 | ⟨e3, e4⟩
            all_goals
              cases m
              all_goals
                simp only [Bool.false_eq_true, if_false] at hY
                obtain rfl := hY
                simp only [stD] at hA
                obtain ⟨d0, d1, d2, d3, d4, d5, d6⟩ := hA
                have g0 : ((0 : Int) == x0) = false := beq_eq_false_iff_ne.2 (by omega)
                go_wp2_with fail
                go_roundw
                case rel => exact ⟨k + 1, by omega, by go_num, ⟨_, rfl⟩, trivial, trivial, trivial, Lib.hid ⟨HT.out.1.next ((Below.refl _ _).alloc (Nat.le_refl _) _), (by first | exact HIN.out | exact fun _ => HIN.out trivial | exact fun h => by cases h)⟩⟩
                case measure => simp [intOf]; omega
          · rw [pa_hd_out (by dsimp only; omega) (by dsimp only; omega)] at hY
            have HIN := Lib.hid (HIS.out (by dsimp only; omega))
            have e2 : (x0 == 2) = false := beq_eq_false_iff_ne.2 (by omega)
            have e5 : decide (5 ≤ x0) = false := by simp; omega
            have e7 : decide (x2 < 0) = false := by simp; omega
            have e8 : decide (1 < x2) = true := by simp; omega
            rcases (show ((x0 == 3) = true) ∨ ((x0 == 3) = false ∧ (x0 == 4) = true) by rcases h1 with rfl | rfl <;> simp) with e3 | ⟨e3, e4⟩
            all_goals
              cases m
              all_goals
                simp only [Bool.false_eq_true, if_false] at hY
                obtain rfl := hY
                simp only [stD] at hA
                obtain ⟨d0, d1, d2, d3, d4, d5, d6⟩ := hA
                have g0 : ((0 : Int) == x0) = false := beq_eq_false_iff_ne.2 (by omega)
                go_wp2_with fail
                go_roundw
                case rel => exact ⟨k + 1, by omega, by go_num, ⟨_, rfl⟩, trivial, trivial, trivial, Lib.hid ⟨HT.out.1.next ((Below.refl _ _).alloc (Nat.le_refl _) _), (by first | exact HIN.out | exact fun _ => HIN.out trivial | exact fun h => by cases h)⟩⟩
                case measure => simp [intOf]; omega
          · have HIN := Lib.hid (HIS.out (by dsimp only; omega))
            have e2 : (x0 == 2) = false := beq_eq_false_iff_ne.2 (by omega)
            have e5 : decide (5 ≤ x0) = false := by simp; omega
            have e7 : decide (x2 < 0) = false := by simp; omega
            have e8 : decide (1 < x2) = false := by simp; omega
            cases m with
            | false =>
              rw [pa_hd_in (HIN0.out rfl) (by dsimp only; omega) (by dsimp only; omega)] at hY
              rcases (show ((x0 == 3) = true) ∨ ((x0 == 3) = false ∧ (x0 == 4) = true) by rcases h1 with rfl | rfl <;> simp) with e3 | ⟨e3, e4⟩
              all_goals
                simp only [if_true] at hY
                obtain rfl := hY
                obtain ⟨d0, d1, d2, d3, d4, d5, d6⟩ := hA
                have g0 : (x0 == x0) = true := by simp
                have g1 : (x1 == x1) = true := by simp
                have g2 : (x2 == x2) = true := by simp
                have g3 : (x3 == x3) = true := by simp
                have g4 : (x4 == x4) = true := by simp
                have g5 : (x5 == x5) = true := by simp
                have g6 : (s.toList == s.toList) = true := by simp
                go_wp2_with fail
                go_quiet (fail)
                go_wp2_with fail
                go_roundw
                case rel => exact ⟨k + 1, by omega, by go_num, ⟨_, rfl⟩, trivial, trivial, trivial, Lib.hid ⟨HT.out.1.next (bdrewN ((Below.refl _ _).alloc (Nat.le_refl _) _) _), (by first | exact HIN.out | exact fun _ => HIN.out trivial | exact fun h => by cases h)⟩⟩
                case measure => simp [intOf]; omega
            | true =>
              have hY2 : y = ⟨x0, x1, x2, x3, x4, x5, s⟩ ∨ y = stD := by rw [hY]; split <;> simp
              clear hY
              rcases (show ((x0 == 3) = true) ∨ ((x0 == 3) = false ∧ (x0 == 4) = true) by rcases h1 with rfl | rfl <;> simp) with e3 | ⟨e3, e4⟩
              all_goals
                rcases hY2 with hY | hY
                · obtain rfl := hY
                  obtain ⟨d0, d1, d2, d3, d4, d5, d6⟩ := hA
                  have g0 : (x0 == x0) = true := by simp
                  have g1 : (x1 == x1) = true := by simp
                  have g2 : (x2 == x2) = true := by simp
                  have g3 : (x3 == x3) = true := by simp
                  have g4 : (x4 == x4) = true := by simp
                  have g5 : (x5 == x5) = true := by simp
                  have g6 : (s.toList == s.toList) = true := by simp
                  go_wp2_with fail
                  go_quiet (fail)
                  go_wp2_with fail
                  go_roundw
                  case rel => exact ⟨k + 1, by omega, by go_num, ⟨_, rfl⟩, trivial, trivial, trivial, Lib.hid ⟨HT.out.1.next (bdrewN ((Below.refl _ _).alloc (Nat.le_refl _) _) _), (by first | exact HIN.out | exact fun _ => HIN.out trivial | exact fun h => by cases h)⟩⟩
                  case measure => simp [intOf]; omega
                · obtain rfl := hY
                  simp only [stD] at hA
                  obtain ⟨d0, d1, d2, d3, d4, d5, d6⟩ := hA
                  have g0 : ((0 : Int) == x0) = false := beq_eq_false_iff_ne.2 (by omega)
                  go_wp2_with fail
                  go_quiet (fail)
                  go_wp2_with fail
                  go_roundw
                  case rel => exact ⟨k + 1, by omega, by go_num, ⟨_, rfl⟩, trivial, trivial, trivial, Lib.hid ⟨HT.out.1.next (bdrewN ((Below.refl _ _).alloc (Nat.le_refl _) _) _), (by first | exact HIN.out | exact fun _ => HIN.out trivial | exact fun h => by cases h)⟩⟩
                  case measure => simp [intOf]; omega
        · obtain rfl : k = n := by omega
          go_wp2_with fail
          go_ret
          exact ⟨rfl, HT.out.1.below⟩
end Go.Proofs.Ytkaalinoiilmoaa
