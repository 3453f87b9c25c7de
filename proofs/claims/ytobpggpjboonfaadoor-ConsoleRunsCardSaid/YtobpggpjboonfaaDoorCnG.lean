/-
  The document's side of the console: what a line is told. MADE BY gencng.py.
-/
import Derived.Test.YtobpggpjboonfaaDoorCnF
import Derived.Test.YtobpggpjboonfaaDoorPte3
import Derived.Test.YtobpggpjboonfaaDoorSch5
import Derived.Deep.RegionHeld3
namespace Go.Proofs.YtobpggpjboonfaaDoor
open Go.RowKit Go.Lib
set_option linter.unusedVariables false
set_option linter.unusedSimpArgs false
set_option maxRecDepth 100000

/-- What a word is. -/
theorem word_ways (W : List UInt8) : W = cmW 0 ∨ W = cmW 1 ∨ W = cmW 2 ∨ W = cmW 3 ∨ W = cmW 4 ∨ (W ≠ cmW 0 ∧ W ≠ cmW 1 ∧ W ≠ cmW 2 ∧ W ≠ cmW 3 ∧ W ≠ cmW 4) := by
  by_cases h0 : W = cmW 0
  · exact .inl h0
  by_cases h1 : W = cmW 1
  · exact .inr (.inl h1)
  by_cases h2 : W = cmW 2
  · exact .inr (.inr (.inl h2))
  by_cases h3 : W = cmW 3
  · exact .inr (.inr (.inr (.inl h3)))
  by_cases h4 : W = cmW 4
  · exact .inr (.inr (.inr (.inr (.inl h4))))
  exact .inr (.inr (.inr (.inr (.inr ⟨h0, h1, h2, h3, h4⟩))))

/-- The worlds of the region that asks for the next window. -/
structure TnS (w wr w' : World) : Prop where
  a : Below w.heap.size w w'
  c : Below wr.heap.size wr w'
theorem TnS.drew {w wr w' : World} (h : TnS w wr w') : TnS w wr w'.drew := ⟨bdrewN h.a 1, bdrewN h.c 1⟩
theorem TnS.alloc {w wr w' : World} (h : TnS w wr w') (o : Obj) : TnS w wr (w'.alloc o) := ⟨h.a.alloc h.a.size o, h.c.alloc h.c.size o⟩
theorem TnS.next {w wr w' w2 : World} (h : TnS w wr w') (hb : Below w'.heap.size w' w2) : TnS w wr w2 := ⟨h.a.trans (hb.mono h.a.size), h.c.trans (hb.mono h.c.size)⟩
theorem TnS.all {w wr w' : World} {bx ox : Nat} {v0 v1 v2 v3 v4 : Value} (h : TnS w wr w') (hb : bx < wr.heap.size) (q0 : wr.cell? ⟨bx, ox, none⟩ = some v0) (q1 : wr.cell? ⟨bx, ox + 1, none⟩ = some v1) (q2 : wr.cell? ⟨bx, ox + 2, none⟩ = some v2) (q3 : wr.cell? ⟨bx, ox + 3, none⟩ = some v3) (q4 : wr.cell? ⟨bx, ox + 4, none⟩ = some v4) :
    w'.cell? ⟨bx, ox, none⟩ = some v0 ∧ w'.cell? ⟨bx, ox + 1, none⟩ = some v1 ∧ w'.cell? ⟨bx, ox + 2, none⟩ = some v2 ∧ w'.cell? ⟨bx, ox + 3, none⟩ = some v3 ∧ w'.cell? ⟨bx, ox + 4, none⟩ = some v4 ∧ TnS w wr w' :=
  ⟨(h.c.cell (p := ⟨bx, ox, none⟩) hb).trans q0, (h.c.cell (p := ⟨bx, ox + 1, none⟩) hb).trans q1, (h.c.cell (p := ⟨bx, ox + 2, none⟩) hb).trans q2, (h.c.cell (p := ⟨bx, ox + 3, none⟩) hb).trans q3, (h.c.cell (p := ⟨bx, ox + 4, none⟩) hb).trans q4, h⟩
theorem cm_no (j : Nat) (hj : j < 5) (N : Nat) (h : N ≠ cmN j) : cmF (cmW j) N 5 0 = none := by
  rcases (show j = 0 ∨ j = 1 ∨ j = 2 ∨ j = 3 ∨ j = 4 by omega) with rfl | rfl | rfl | rfl | rfl
  · have h' : N ≠ 2 := h
    simp [cmF, isC, cmW, cmN, h']
  · have h' : N ≠ 2 := h
    simp [cmF, isC, cmW, cmN, h']
  · have h' : N ≠ 1 := h
    simp [cmF, isC, cmW, cmN, h']
  · have h' : N ≠ 4 := h
    simp [cmF, isC, cmW, cmN, h']
  · have h' : N ≠ 5 := h
    simp [cmF, isC, cmW, cmN, h']
theorem cm_none (W : List UInt8) (N : Nat) (h0 : W ≠ cmW 0) (h1 : W ≠ cmW 1) (h2 : W ≠ cmW 2) (h3 : W ≠ cmW 3) (h4 : W ≠ cmW 4) : cmF W N 5 0 = none := by simp [cmF, isC, h0, h1, h2, h3, h4]
theorem dtell1_any (e x : Int) (w : World) (g : Nat) (hg : g = w.heap.size) (he0 : 0 ≤ e) (he1 : e ≤ 5000) (h0 : 0 ≤ x) (h1 : x < 1000000000) :
    Calls Tryd.prog 29 #[.int .i64 e, .slice (some ⟨g, 0, none⟩) 1 1] (w.alloc (.cells #[.int .i64 x] 3)) fun e' w' => e' = .returned (.string (str (otS (rwS [x], e)))) ∧ Below w.heap.size w w' := by
  subst hg
  refine (dtell_any e _ 1 [x] _ he0 he1 (Sl.lit w (ints [x]) 1 1 _ rfl) (by omega) (by intro y hy; simp at hy; subst hy; exact ⟨h0, h1⟩)).mono ?_
  rintro e' w' ⟨rfl, hb⟩
  exact ⟨rfl, ((Below.refl _ w).alloc (Nat.le_refl _) _).trans (hb.mono (by simp))⟩
theorem dtell2_any (e x y : Int) (w : World) (g : Nat) (hg : g = w.heap.size) (he0 : 0 ≤ e) (he1 : e ≤ 5000) (h0 : 0 ≤ x) (h1 : x < 1000000000) (h2 : 0 ≤ y) (h3 : y < 1000000000) :
    Calls Tryd.prog 29 #[.int .i64 e, .slice (some ⟨g, 0, none⟩) 2 2] (w.alloc (.cells #[.int .i64 x, .int .i64 y] 3)) fun e' w' => e' = .returned (.string (str (otS (rwS [x, y], e)))) ∧ Below w.heap.size w w' := by
  subst hg
  refine (dtell_any e _ 2 [x, y] _ he0 he1 (Sl.lit w (ints [x, y]) 2 1 _ rfl) (by omega) (by intro z hz; simp at hz; rcases hz with rfl | rfl <;> constructor <;> assumption)).mono ?_
  rintro e' w' ⟨rfl, hb⟩
  exact ⟨rfl, ((Below.refl _ w).alloc (Nat.le_refl _) _).trans (hb.mono (by simp))⟩
theorem dsplits_any (a n : Int) (w : World) : Calls Tryd.prog 27 #[.int .i64 a, .int .i64 n] w fun e w' => e = .returned (.string (str (otS (spS a n)))) ∧ Below w.heap.size w w' := by
  cases h : spB a n with
  | true => exact dsplits_yes a n w h
  | false => exact dsplits_no a n w h
theorem e4_range (b : Bool) : 0 ≤ e4 b ∧ e4 b ≤ 5000 := by unfold e4; split <;> omega
theorem nxtC_range (l : List Win) (m p t : Int) : 0 ≤ nxtC l m p t ∧ nxtC l m p t ≤ 5000 := by unfold nxtC; split <;> omega

set_option maxHeartbeats 8000000 in
theorem dtold_any (v : Value) (n : Nat) (W : List UInt8) (ts : List (List UInt8)) (w : World) (hs : Sl w v n 1 (txs (W :: ts))) (hn : n ≤ 65536) (ht : ∀ t ∈ ts, t.length ≤ 65536) :
    Calls Tryd.prog 15 #[v] w fun e w' => e = .returned (.string (str (otS (asS (W :: ts))))) ∧ Below w.heap.size w w' := by
  obtain ⟨A, cap, rfl, hc, hlen, hA⟩ := hs
  have hnl : n = ts.length + 1 := by rw [txs_len, Nat.mul_one] at hlen; simpa using hlen.symm
  obtain ⟨b, o, rfl, hlt, hcell⟩ := hA (by omega)
  have hw0 := hcell 0 _ rfl
  rw [Nat.add_zero] at hw0
  change w.cell? ⟨b, o, none⟩ = some (.string (str W)) at hw0
  obtain ⟨N, hN⟩ : ∃ N, ts.length = N := ⟨_, rfl⟩
  rw [hN] at hnl
  obtain ⟨i0, hi, hz0, hz1, hz2⟩ := info_parts infoInt
  have HI := Lib.hid hi; have HZ0 := Lib.hid hz0; have HZ1 := Lib.hid hz1; have HZ2 := Lib.hid hz2
  have HCL : Hid (∀ k, k < N → w.cell? ⟨b, o + (k + 1), none⟩ = some (.string (str (ts.getD k [])))) := Lib.hid (fun k hk => hcell (k + 1) _ (by
    rw [txs, List.map_cons, List.getElem?_cons_succ]
    exact txs_get ts k (by omega)))
  have HW0 := Lib.hid hw0; have HT := Lib.hid ht; have HN := Lib.hid hN; have HNL := Lib.hid hnl
  have hn1 : 1 ≤ n := by omega
  have hN6 : N ≤ 65536 := by omega
  clear hi hz0 hz1 hz2 hcell hw0 hA hlen ht hN hnl
  have hb25 : str (otS ([], 2500)) = ⟨#[101, 114, 114, 111, 114, 32, 50, 53, 48, 48]⟩ := by
    have : otS ([], 2500) = [101, 114, 114, 111, 114, 32, 50, 53, 48, 48] := by decide +kernel
    rw [this]; rfl
  have HB25 := Lib.hid hb25
  clear hb25
  go_enter Tryd.func15, Tryd.ntmps15
  go_wp2_with fail
  go_loopw [3, 4, 5, 6, 19] (fun x i _ _ _ wr => ∃ (k : Nat) (ys : List Int) (x' : Value), k ≤ N ∧ x' = x ∧ i = .int .i64 ((k + 1 : Nat) : Int) ∧ Hid (numsS (ts.take k) = some ys ∧ ys.length = k ∧ wr.ownsRow w.heap.size 3 1 x' k (ints ys) ∧ Below w.heap.size w wr)) (fun _ i _ _ _ _ => n - (RowKit.intOf i).toNat)
  case atStart => exact ⟨0, [], _, by omega, rfl, by simp, Lib.hid ⟨rfl, rfl, World.ownsRow_nil _ _ _ _, Below.refl _ _⟩⟩
  case round =>
    obtain ⟨k, ys, x', hk, rfl, rfl, HR⟩ := hrel
    by_cases hkN : k < N
    · have hkn : k + 1 < n := by have := HNL.out; omega
      have hkl : k < ts.length := by rw [HN.out]; exact hkN
      have hbel := HR.out.2.2.2
      have hc0 := (hbel.cell (p := ⟨b, o + (k + 1), none⟩) hlt).trans (HCL.out k hkN)
      have hmem : ts.getD k [] ∈ ts := by simp [List.getD, List.getElem?_eq_getElem hkl]
      have HNu := Lib.hid (dnumber_any (ts.getD k []) wr (by have := HT.out _ hmem; omega))
      have HS := Lib.hid (numsS_take ts k hkl ys HR.out.1)
      have HB := Lib.hid (numsS_bad ts k hkl ys HR.out.1)
      clear hmem hbel
      generalize hT : ts.getD k [] = T at *
      clear hT
      obtain ⟨j, hj⟩ : ∃ j, k + 1 = j := ⟨_, rfl⟩
      have HJ := Lib.hid hj
      rw [hj] at hc0 hkn ⊢
      clear hj
      cases hx : numS T with
      | none =>
        have hnb := nm_none hx
        obtain ⟨hv, ho⟩ := hnb
        have HNw := Lib.hid (by have := HNu.out; rwa [hv, ho] at this)
        have HX : Hid (asS (W :: ts) = ([], 2500)) := Lib.hid (by
          have h := HB.out hx
          unfold asS
          simp only [h]
          split <;> rfl)
        clear HB HS HNu hv ho hx
        generalize str T = S at *
        go_wp2_with (go_at_call 26; refine HNw.out.mono ?_; rintro e w' ⟨rfl, rfl⟩)
        go_ret
        exact ⟨by rw [HX.out, HB25.out]; rfl, HR.out.2.2.2⟩
      | some x =>
        have hv : nmV T = x := by unfold nmV; rw [hx]
        have ho : nmO T = true := by unfold nmO; rw [hx]; rfl
        have hsm := numS_small hx
        have HNw := Lib.hid (by have := HNu.out; rwa [hv, ho] at this)
        have HX := Lib.hid (by have := HS.out; rwa [hx] at this)
        clear HB HS HNu hv ho hx
        generalize str T = S at *
        have HOW := Lib.hid HR.out.2.2.1
        have HBEL := Lib.hid HR.out.2.2.2
        have hsz := HR.out.2.2.2.size
        go_wp2_with (first
          | (go_at_call 26; refine HNw.out.mono ?_; rintro e w' ⟨rfl, rfl⟩)
          | (at_builtin; refine wpList_append_own _ rfl _ _ 33 rfl w.heap.size 3 i0 _ 1 8 Tryd.underlying33 HI.out HZ0.out HZ1.out HZ2.out rfl (by decide) _ k (ints ys) rfl (HOW.out.alloc _) ⟨wr.heap.size, 0, none⟩ 1 1 [.int .i64 x] rfl rfl ?d2 ?d3 ?d4 ?d5 ?d6 ?_))
        case d2 => exact row_new wr [.int .i64 x] _
        case d3 => intro u hu; simp at hu; subst hu; rfl
        case d4 => unfold maxLen; omega
        case d5 => omega
        case d6 => simp; omega
        intro v2 w2 hown2 hgrow _
        have HF : Hid (numsS (ts.take (k + 1)) = some (ys ++ [x]) ∧ (ys ++ [x]).length = k + 1 ∧ w2.ownsRow w.heap.size 3 1 v2 (k + 1) (ints (ys ++ [x])) ∧ Below w.heap.size w w2) :=
          Lib.hid ⟨HX.out, by rw [List.length_append, HR.out.2.1]; rfl, by rw [ints_append]; exact hown2, below_one _ HOW.out hsz HBEL.out hgrow⟩
        clear hown2 hgrow HOW HBEL HX HNw HR hc0
        go_wp2_with fail
        go_roundw
        case rel => exact ⟨k + 1, ys ++ [x], v2, by omega, rfl, by rw [HJ.out]; go_num, HF⟩
        case measure => simp [RowKit.intOf]; omega
    · obtain rfl : k = N := by omega
      have hnum : numsS ts = some ys := by
        have := HR.out.1
        rwa [List.take_of_length_le (by rw [HN.out]; exact Nat.le_refl _)] at this
      have hyl := HR.out.2.1
      have HYS := Lib.hid (numsS_small ts ys hnum)
      have HAS : Hid (∀ R, cmF W k 5 0 = R → asS (W :: ts) = match R with
        | none => ([], 2500)
        | some q => tlC q ys) := Lib.hid (fun R hR => by
          unfold asS
          simp only [HN.out, hR, hnum]
          cases R <;> rfl)
      have hw1 := (HR.out.2.2.2.cell (p := ⟨b, o, none⟩) hlt).trans HW0.out
      have HOW := Lib.hid HR.out.2.2.1
      have HBEL := Lib.hid HR.out.2.2.2
      have hsz := HR.out.2.2.2.size
      have hkn : ¬ (k + 1 < n) := by have := HNL.out; omega
      obtain ⟨j, hj⟩ : ∃ j, k + 1 = j := ⟨_, rfl⟩
      rw [hj] at hkn ⊢
      clear hnum hj HR HCL
      obtain ⟨xA, xc, hxv, hxc, _, hxcell⟩ := Sl.own HOW.out
      subst hxv
      have hsl : (str W).toList = W := str_tl W
      generalize hS : str W = S at *
      clear hS
      have HK : Hid (∀ i, k = cmN i → ys.length = cmN i) := Lib.hid (fun i h => by rw [← h]; exact hyl)
      clear hyl
      rcases word_ways W with rfl | rfl | rfl | rfl | rfl | ⟨h0, h1, h2, h3, h4⟩
      · have hl : S.toList = [115, 112, 108, 105, 116] := hsl
        clear hsl
        have n1 : ¬ S.toList = [101, 110, 116, 114, 121] := by rw [hl]; decide
        have n2 : ¬ S.toList = [119, 111, 114, 100] := by rw [hl]; decide
        have n3 : ¬ S.toList = [111, 118, 101, 114] := by rw [hl]; decide
        have n4 : ¬ S.toList = [110, 101, 120, 116] := by rw [hl]; decide
        by_cases hkc : k = cmN 0
        · have HX : Hid (asS (cmW 0 :: ts) = tlC 0 ys) := Lib.hid (HAS.out (some 0) (by rw [hkc]; decide))
          have hkb : ((k : Int) == 2) = true := by rw [hkc]; rfl
          have hy := HK.out 0 hkc
          have hk1 : 0 < k := by rw [hkc]; decide
          match ys, hy with
          | [a, c], _ =>
            obtain ⟨bx, ox, rfl, hbx, hcx⟩ := hxcell hk1
            have q0 : wr.cell? ⟨bx, ox + 0, none⟩ = some (.int .i64 a) := hcx 0 _ rfl
            have q1 : wr.cell? ⟨bx, ox + 1, none⟩ = some (.int .i64 c) := hcx 1 _ rfl
            rw [Nat.add_zero] at q0
            have hk9 : k = 2 := hkc
            clear hcx hkc HAS HK
            have HX2 : Hid (str (otS (asS (cmW 0 :: ts))) = str (otS (spS a c))) := Lib.hid (by rw [HX.out]; rfl)
            have HD := Lib.hid (dsplits_any a c)
            generalize str (otS (spS a c)) = Z at HX2 HD
            go_wp2_with fail
            go_region_with (go_at_call 27; refine (HD.out _).mono ?_; rintro e w2 ⟨rfl, b2⟩; have B2 := Lib.hid ((bdrewN HBEL.out 1).trans (b2.mono hsz)); clear b2)
            all_goals
              go_wp2_with fail
              go_ret
              exact ⟨by rw [HX2.out]; rfl, B2.out⟩
        · have HX : Hid (asS (cmW 0 :: ts) = ([], 2500)) := Lib.hid (HAS.out none (cm_no 0 (by omega) k hkc))
          have hkb : ((k : Int) == 2) = false := by have h9 : k ≠ 2 := hkc; simp; omega
          clear hkc HAS HK hxcell
          go_wp2_with fail
          go_ret
          exact ⟨by rw [HX.out, HB25.out]; rfl, HBEL.out⟩
      · have hl : S.toList = [101, 110, 116, 114, 121] := hsl
        clear hsl
        have n0 : ¬ S.toList = [115, 112, 108, 105, 116] := by rw [hl]; decide
        have n2 : ¬ S.toList = [119, 111, 114, 100] := by rw [hl]; decide
        have n3 : ¬ S.toList = [111, 118, 101, 114] := by rw [hl]; decide
        have n4 : ¬ S.toList = [110, 101, 120, 116] := by rw [hl]; decide
        by_cases hkc : k = cmN 1
        · have HX : Hid (asS (cmW 1 :: ts) = tlC 1 ys) := Lib.hid (HAS.out (some 1) (by rw [hkc]; decide))
          have hkb : ((k : Int) == 2) = true := by rw [hkc]; rfl
          have hy := HK.out 1 hkc
          have hk1 : 0 < k := by rw [hkc]; decide
          match ys, hy with
          | [f, p], _ =>
            obtain ⟨bx, ox, rfl, hbx, hcx⟩ := hxcell hk1
            have q0 : wr.cell? ⟨bx, ox + 0, none⟩ = some (.int .i64 f) := hcx 0 _ rfl
            have q1 : wr.cell? ⟨bx, ox + 1, none⟩ = some (.int .i64 p) := hcx 1 _ rfl
            rw [Nat.add_zero] at q0
            have hk9 : k = 2 := hkc
            clear hcx hkc HAS HK
            have HX2 : Hid (str (otS (asS (cmW 1 :: ts))) = str (otS (rwS [eN f p], e4 (eB f p)))) := Lib.hid (by rw [HX.out]; rfl)
            have HD := Lib.hid (reput_any f p)
            have hr := eN_range f p
            have hr2 := e4_range (eB f p)
            generalize eN f p = N at *
            generalize e4 (eB f p) = C at *
            have HD2 := Lib.hid (fun (w : World) (g : Nat) (hg : g = w.heap.size) => dtell1_any C N w g hg hr2.1 hr2.2 hr.1 (by omega))
            generalize str (otS (rwS [N], C)) = Z at HX2 HD2
            go_wp2_with fail
            go_region_with (go_at_call 28; refine (HD.out _).mono ?_; rintro e w2 ⟨rfl, b2⟩; have B2 := Lib.hid ((bdrewN HBEL.out 1).trans (b2.mono hsz)); clear b2)
            all_goals
              go_wp2_with fail
              refine (HD2.out _ _ rfl).mono ?_
              rintro e w3 ⟨rfl, b3⟩
              have B3 := Lib.hid (B2.out.trans (b3.mono B2.out.size))
              clear b3
              go_wp2_with fail
              go_ret
              exact ⟨by rw [HX2.out]; rfl, B3.out⟩
        · have HX : Hid (asS (cmW 1 :: ts) = ([], 2500)) := Lib.hid (HAS.out none (cm_no 1 (by omega) k hkc))
          have hkb : ((k : Int) == 2) = false := by have h9 : k ≠ 2 := hkc; simp; omega
          clear hkc HAS HK hxcell
          go_wp2_with fail
          go_ret
          exact ⟨by rw [HX.out, HB25.out]; rfl, HBEL.out⟩
      · have hl : S.toList = [119, 111, 114, 100] := hsl
        clear hsl
        have n0 : ¬ S.toList = [115, 112, 108, 105, 116] := by rw [hl]; decide
        have n1 : ¬ S.toList = [101, 110, 116, 114, 121] := by rw [hl]; decide
        have n3 : ¬ S.toList = [111, 118, 101, 114] := by rw [hl]; decide
        have n4 : ¬ S.toList = [110, 101, 120, 116] := by rw [hl]; decide
        by_cases hkc : k = cmN 2
        · have HX : Hid (asS (cmW 2 :: ts) = tlC 2 ys) := Lib.hid (HAS.out (some 2) (by rw [hkc]; decide))
          have hkb : ((k : Int) == 1) = true := by rw [hkc]; rfl
          have hy := HK.out 2 hkc
          have hk1 : 0 < k := by rw [hkc]; decide
          match ys, hy with
          | [x], _ =>
            obtain ⟨bx, ox, rfl, hbx, hcx⟩ := hxcell hk1
            have q0 : wr.cell? ⟨bx, ox + 0, none⟩ = some (.int .i64 x) := hcx 0 _ rfl
            rw [Nat.add_zero] at q0
            have hk9 : k = 1 := hkc
            clear hcx hkc HAS HK
            have HX2 : Hid (str (otS (asS (cmW 2 :: ts))) = str (otS (rwS [gF x, gP x], e4 (gB x)))) := Lib.hid (by rw [HX.out]; rfl)
            have hD := reget_any x wr
            unfold getV at hD
            have hr := gFP_range x
            have hr2 := e4_range (gB x)
            generalize gF x = F at *
            generalize gP x = P at *
            generalize e4 (gB x) = C at *
            have HD := Lib.hid hD
            clear hD
            have HD2 := Lib.hid (fun (w : World) (g : Nat) (hg : g = w.heap.size) => dtell2_any C F P w g hg hr2.1 hr2.2 hr.1.1 (by omega) hr.2.1 (by omega))
            generalize str (otS (rwS [F, P], C)) = Z at HX2 HD2
            go_wp2_with fail
            refine HD.out.mono ?_
            rintro e w2 ⟨rfl, b2⟩
            have B2 := Lib.hid (HBEL.out.trans (b2.mono hsz))
            clear b2
            have t0 := Blk.new w2 62 [.int .i64 F, .int .i64 P]
            have r0 : (w2.alloc (.cells #[.int .i64 F, .int .i64 P] 62)).cell? ⟨w2.heap.size, 0, none⟩ = some (.int .i64 F) := t0.cell 0
            have r1 : (w2.alloc (.cells #[.int .i64 F, .int .i64 P] 62)).cell? ⟨w2.heap.size, 1, none⟩ = some (.int .i64 P) := t0.cell 1
            have B3 := Lib.hid (B2.out.alloc B2.out.size (.cells #[.int .i64 F, .int .i64 P] 62))
            clear t0
            go_wp2_with fail
            refine (HD2.out _ _ (by simp)).mono ?_
            rintro e w3 ⟨rfl, b3⟩
            have B4 := Lib.hid (B3.out.trans (b3.mono B3.out.size))
            clear b3
            go_wp2_with fail
            go_ret
            exact ⟨by rw [HX2.out]; rfl, B4.out⟩
        · have HX : Hid (asS (cmW 2 :: ts) = ([], 2500)) := Lib.hid (HAS.out none (cm_no 2 (by omega) k hkc))
          have hkb : ((k : Int) == 1) = false := by have h9 : k ≠ 1 := hkc; simp; omega
          clear hkc HAS HK hxcell
          go_wp2_with fail
          go_ret
          exact ⟨by rw [HX.out, HB25.out]; rfl, HBEL.out⟩
      · have hl : S.toList = [111, 118, 101, 114] := hsl
        clear hsl
        have n0 : ¬ S.toList = [115, 112, 108, 105, 116] := by rw [hl]; decide
        have n1 : ¬ S.toList = [101, 110, 116, 114, 121] := by rw [hl]; decide
        have n2 : ¬ S.toList = [119, 111, 114, 100] := by rw [hl]; decide
        have n4 : ¬ S.toList = [110, 101, 120, 116] := by rw [hl]; decide
        by_cases hkc : k = cmN 3
        · have HX : Hid (asS (cmW 3 :: ts) = tlC 3 ys) := Lib.hid (HAS.out (some 3) (by rw [hkc]; decide))
          have hkb : ((k : Int) == 4) = true := by rw [hkc]; rfl
          have hy := HK.out 3 hkc
          have hk1 : 0 < k := by rw [hkc]; decide
          match ys, hy with
          | [l, c, l2, c2], _ =>
            obtain ⟨bx, ox, rfl, hbx, hcx⟩ := hxcell hk1
            have q0 : wr.cell? ⟨bx, ox + 0, none⟩ = some (.int .i64 l) := hcx 0 _ rfl
            have q1 : wr.cell? ⟨bx, ox + 1, none⟩ = some (.int .i64 c) := hcx 1 _ rfl
            have q2 : wr.cell? ⟨bx, ox + 2, none⟩ = some (.int .i64 l2) := hcx 2 _ rfl
            have q3 : wr.cell? ⟨bx, ox + 3, none⟩ = some (.int .i64 c2) := hcx 3 _ rfl
            rw [Nat.add_zero] at q0
            have hk9 : k = 4 := hkc
            clear hcx hkc HAS HK
            have HX2 : Hid (str (otS (asS (cmW 3 :: ts))) = str (yesS (lD l c l2 c2))) := Lib.hid (by rw [HX.out]; rfl)
            have HD := Lib.hid (rldom_any l c l2 c2)
            generalize lD l c l2 c2 = D at *
            go_wp2_with fail
            go_region_with (go_at_call 31; refine (HD.out _).mono ?_; rintro e w2 ⟨rfl, b2⟩; have B2 := Lib.hid ((bdrewN HBEL.out 1).trans (b2.mono hsz)); clear b2)
            all_goals
              cases D
              · go_wp2_with fail
                go_ret
                exact ⟨by rw [HX2.out]; rfl, B2.out⟩
              · go_wp2_with fail
                go_ret
                exact ⟨by rw [HX2.out]; rfl, B2.out⟩
        · have HX : Hid (asS (cmW 3 :: ts) = ([], 2500)) := Lib.hid (HAS.out none (cm_no 3 (by omega) k hkc))
          have hkb : ((k : Int) == 4) = false := by have h9 : k ≠ 4 := hkc; simp; omega
          clear hkc HAS HK hxcell
          go_wp2_with fail
          go_ret
          exact ⟨by rw [HX.out, HB25.out]; rfl, HBEL.out⟩
      · have hl : S.toList = [110, 101, 120, 116] := hsl
        clear hsl
        have n0 : ¬ S.toList = [115, 112, 108, 105, 116] := by rw [hl]; decide
        have n1 : ¬ S.toList = [101, 110, 116, 114, 121] := by rw [hl]; decide
        have n2 : ¬ S.toList = [119, 111, 114, 100] := by rw [hl]; decide
        have n3 : ¬ S.toList = [111, 118, 101, 114] := by rw [hl]; decide
        by_cases hkc : k = cmN 4
        · have HX : Hid (asS (cmW 4 :: ts) = tlC 4 ys) := Lib.hid (HAS.out (some 4) (by rw [hkc]; decide))
          have hkb : ((k : Int) == 5) = true := by rw [hkc]; rfl
          have hy := HK.out 4 hkc
          have hk1 : 0 < k := by rw [hkc]; decide
          match ys, hy with
          | [m, s, l, d, t], _ =>
            obtain ⟨bx, ox, rfl, hbx, hcx⟩ := hxcell hk1
            have q0 : wr.cell? ⟨bx, ox + 0, none⟩ = some (.int .i64 m) := hcx 0 _ rfl
            have q1 : wr.cell? ⟨bx, ox + 1, none⟩ = some (.int .i64 s) := hcx 1 _ rfl
            have q2 : wr.cell? ⟨bx, ox + 2, none⟩ = some (.int .i64 l) := hcx 2 _ rfl
            have q3 : wr.cell? ⟨bx, ox + 3, none⟩ = some (.int .i64 d) := hcx 3 _ rfl
            have q4 : wr.cell? ⟨bx, ox + 4, none⟩ = some (.int .i64 t) := hcx 4 _ rfl
            rw [Nat.add_zero] at q0
            have hk9 : k = 5 := hkc
            clear hcx hkc HAS HK
            have HX2 : Hid (str (otS (asS (cmW 4 :: ts))) = str (otS (rwS [nxtN [⟨0, s, l, d⟩] m 0 t], nxtC [⟨0, s, l, d⟩] m 0 t))) := Lib.hid (by rw [HX.out]; rfl)
            have rs := HYS.out s (by simp)
            have rl := HYS.out l (by simp)
            have rd := HYS.out d (by simp)
            have rt := HYS.out t (by simp)
            have hr := nxt_range m s l d t rt
            have hr2 := nxtC_range [⟨0, s, l, d⟩] m 0 t
            have HW : Hid (∀ x ∈ [(⟨0, s, l, d⟩ : Win)], W64 x) := Lib.hid (by intro x hx; simp at hx; subst hx; unfold W64; simp only; omega)
            have HNX := Lib.hid (fun (w : World) (g : Nat) (h : Sl w (.slice (some ⟨g, 0, none⟩) 1 1) 1 4 (ints (wins [⟨0, s, l, d⟩]))) => rnxt_any _ 1 1 [⟨0, s, l, d⟩] m 0 t w h (by unfold maxLen; omega) rfl HW.out)
            clear HYS HW rs rl rd rt
            generalize nxtN [⟨0, s, l, d⟩] m 0 t = N at *
            generalize nxtC [⟨0, s, l, d⟩] m 0 t = C at *
            have HD2 := Lib.hid (fun (w : World) (g : Nat) (hg : g = w.heap.size) => dtell1_any C N w g hg hr2.1 hr2.2 hr.1 (by omega))
            generalize str (otS (rwS [N], C)) = Z at HX2 HD2
            have HT0 : TnS w wr wr := ⟨HBEL.out, Below.refl _ _⟩
            have HQ := Lib.hid (fun (w' : World) (h : TnS w wr w') => h.all hbx q0 q1 q2 q3 q4)
            have HW0 := Lib.hid (show Sl (wr.alloc (.cells #[.int .i64 0, .int .i64 s, .int .i64 l, .int .i64 d] 71)) (.slice (some ⟨wr.heap.size, 0, none⟩) 1 1) 1 4 (ints (wins [⟨0, s, l, d⟩])) from Sl.lit wr (ints (wins [⟨0, s, l, d⟩])) 1 4 _ rfl)
            clear HBEL hsz HOW
            go_wp2_with fail
            go_region_held3 (fun w' => w'.cell? ⟨bx, ox, none⟩ = some (.int .i64 m) ∧ w'.cell? ⟨bx, ox + 1, none⟩ = some (.int .i64 s) ∧ w'.cell? ⟨bx, ox + 2, none⟩ = some (.int .i64 l) ∧ w'.cell? ⟨bx, ox + 3, none⟩ = some (.int .i64 d) ∧ w'.cell? ⟨bx, ox + 4, none⟩ = some (.int .i64 t) ∧ TnS w wr w')
              ((go_split_ands; refine HQ.out _ ?_; (first | assumption | (exact TnS.drew (by assumption)) | (exact TnS.alloc (by assumption) _) | (refine TnS.next ?_ (by assumption); (first | assumption | (exact TnS.alloc (by assumption) _) | (exact TnS.drew (TnS.alloc (by assumption) _)))))))
              (first
                | (go_at_call 32; refine (HNX.out _ _ (HW0.out.drewN 1)).mono ?_; rintro e w4 ⟨rfl, hb4⟩)
                | fail)
            all_goals
              have hEnd : TnS w wr w4 := by go_split_ands; assumption
              have B4 := Lib.hid hEnd.a
              clear hEnd
              go_wp2_with fail
              refine (HD2.out _ _ rfl).mono ?_
              rintro e w5 ⟨rfl, b5⟩
              have B5 := Lib.hid (B4.out.trans (b5.mono B4.out.size))
              clear b5
              go_wp2_with fail
              go_ret
              exact ⟨by rw [HX2.out]; rfl, B5.out⟩
        · have HX : Hid (asS (cmW 4 :: ts) = ([], 2500)) := Lib.hid (HAS.out none (cm_no 4 (by omega) k hkc))
          have hkb : ((k : Int) == 5) = false := by have h9 : k ≠ 5 := hkc; simp; omega
          clear hkc HAS HK hxcell
          go_wp2_with fail
          go_ret
          exact ⟨by rw [HX.out, HB25.out]; rfl, HBEL.out⟩
      · have n0 : ¬ S.toList = [115, 112, 108, 105, 116] := by rw [hsl]; exact h0
        have n1 : ¬ S.toList = [101, 110, 116, 114, 121] := by rw [hsl]; exact h1
        have n2 : ¬ S.toList = [119, 111, 114, 100] := by rw [hsl]; exact h2
        have n3 : ¬ S.toList = [111, 118, 101, 114] := by rw [hsl]; exact h3
        have n4 : ¬ S.toList = [110, 101, 120, 116] := by rw [hsl]; exact h4
        clear hsl
        have HX : Hid (asS (W :: ts) = ([], 2500)) := Lib.hid (HAS.out none (cm_none W k h0 h1 h2 h3 h4))
        clear h0 h1 h2 h3 h4 HAS HK hxcell
        go_wp2_with fail
        go_ret
        exact ⟨by rw [HX.out, HB25.out]; rfl, HBEL.out⟩

end Go.Proofs.YtobpggpjboonfaaDoor
