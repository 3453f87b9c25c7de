/-
  Layer 7's law of a cleared device: it answers true for every input.
-/
import Derived.Test.YtkiijohmadeofaaIoSet
import Derived.Test.YtkiijohmadeofaaPlain2
import Derived.Test.YtkiijohmadeofaaPhysAll
namespace Go.Proofs.Ytkiijohmadeofaa
open Go.RowKit
set_option linter.unusedVariables false
set_option maxRecDepth 100000

/-! ### bytes of zeroed frames -/
theorem put_getD (l : List UInt8) (a : Nat) (s : List UInt8) (h : a + s.length ≤ l.length) (i : Nat) : (put l a s).getD i 0 = if a ≤ i ∧ i < a + s.length then s.getD (i - a) 0 else l.getD i 0 := by
  unfold put
  simp only [List.getD]
  by_cases h1 : i < a
  · rw [if_neg (by omega), List.append_assoc, List.getElem?_append_left (by rw [List.length_take]; omega), List.getElem?_take, if_pos h1]
  · by_cases h2 : i < a + s.length
    · rw [if_pos (by omega), List.append_assoc, List.getElem?_append_right (by rw [List.length_take]; omega), List.length_take, List.getElem?_append_left (by omega)]
      congr 2
      omega
    · rw [if_neg (by omega), List.getElem?_append_right (by rw [List.length_append, List.length_take]; omega), List.length_append, List.length_take, List.getElem?_drop]
      congr 2
      omega
theorem zeL_getD (l : List UInt8) (f : Nat) (h : 64 * f + 64 ≤ l.length) (i : Nat) : (zeL l (f : Int)).getD i 0 = if i / 64 = f then 0 else l.getD i 0 := by
  unfold zeL
  rw [show zeB l.length (f : Int) = true from decide_eq_true (by omega), if_pos rfl, Int.toNat_natCast, put_getD _ _ _ (by rw [zero64_len]; omega), zero64_len]
  by_cases hi : i / 64 = f
  · rw [if_pos (by omega), if_pos hi, zero64_get]
  · rw [if_neg (by omega), if_neg hi]
theorem zes_getD (fs : List Nat) : ∀ (l : List UInt8), l.length % 64 = 0 → (∀ f ∈ fs, 64 * f + 64 ≤ l.length) → ∀ i, i / 64 ∈ fs → ((fs.map (fun x : Nat => (x : Int))).foldl zeL l).getD i 0 = 0 := by
  induction fs with
  | nil => intro l _ _ i hi; cases hi
  | cons f fs ih =>
    intro l hl hf i hi
    rw [List.map_cons, List.foldl_cons]
    have hlen := zeL_len' l (f : Int) hl
    by_cases hm : i / 64 ∈ fs
    · exact ih _ (by rw [hlen]; exact hl) (fun g hg => by rw [hlen]; exact hf g (by simp [hg])) i hm
    · have hif : i / 64 = f := by rcases List.mem_cons.1 hi with h | h
                                  · exact h
                                  · exact absurd h hm
      have keep : ∀ (gs : List Nat) (k : List UInt8), k.length % 64 = 0 → (∀ g ∈ gs, 64 * g + 64 ≤ k.length) → i / 64 ∉ gs → ((gs.map (fun x : Nat => (x : Int))).foldl zeL k).getD i 0 = k.getD i 0 := by
        intro gs
        induction gs with
        | nil => intro k _ _ _; rfl
        | cons g gs ihg =>
          intro k hk hg hn
          rw [List.map_cons, List.foldl_cons, ihg _ (by rw [zeL_len' _ _ hk]; exact hk) (fun y hy => by rw [zeL_len' _ _ hk]; exact hg y (by simp [hy])) (fun h => hn (by simp [h])), zeL_getD k g (hg g (by simp)), if_neg (fun e => hn (by simp [e]))]
      rw [keep fs _ (by rw [hlen]; exact hl) (fun g hg => by rw [hlen]; exact hf g (by simp [hg])) hm, zeL_getD l f (hf f (by simp)), if_pos hif]

/-- What a Clear of the first device leaves. -/
theorem clear_two (l : List UInt8) (h : Two7 l) : ioClC ps2 0 = 0 ∧ Two7 (ioClL ps2 l 0) ∧ (∀ p, p < 256 → view (ioClL ps2 l 0) 0 p = (501, 0, 0)) ∧ Used (ioClL ps2 l 0) [] ∧ (∀ p, p < 256 → view (ioClL ps2 l 0) 4 p = view l 4 p) ∧ rdL (ioClL ps2 l 0) 0 256 = zeros 256 := by
  have hth : thB ps2.length 0 0 = true := by decide
  obtain ⟨h1, h2, h3, h4, h5⟩ := h.a.clear_ ps2 0 ps2_0 hth
  obtain ⟨k1, k2, _⟩ := h.out0 h3 h2
  refine ⟨h1, k1, h4, fun j hj => ⟨fun e => by simp at e, fun _ => h5 j hj⟩, k2, ?_⟩
  have hL : ioClL ps2 l 0 = (([0, 1, 2, 3] : List Nat).map (fun x : Nat => (x : Int))).foldl zeL l := by unfold ioClL; rw [hth, if_pos rfl]; rfl
  have hlen : (ioClL ps2 l 0).length = 1024 := k1.len
  have hrd := rd_yes (ioClL ps2 l 0) 0 256 (by omega)
  rw [show ((0 : Nat) : Int) = 0 from rfl, show ((256 : Nat) : Int) = 256 from rfl] at hrd
  rw [hrd.1]
  apply List.ext_getElem?
  intro i
  unfold zeros
  rw [List.getElem?_take, List.getElem?_replicate, List.drop_zero]
  split
  · rename_i hi
    have hz : (ioClL ps2 l 0).getD i 0 = 0 := by
      rw [hL]
      refine zes_getD [0, 1, 2, 3] l h.a.len (fun f hf => by have := h.len; simp at hf; omega) i ?_
      have : i / 64 < 4 := by omega
      simp; omega
    rw [List.getD, List.getElem?_eq_getElem (by omega)] at hz
    rw [List.getElem?_eq_getElem (by omega)]
    exact congrArg some hz
  · rfl

theorem fC_1 : ioMapC ps2 l7 1 77 9 3 = 0 := by decide +kernel
theorem two7_l7 : Two7 l7 ∧ (∀ p, p < 256 → view l7 0 p = (501, 0, 0)) ∧ (∀ p, p < 256 → view l7 4 p = (501, 0, 0)) ∧ (∀ j : Nat, j < 16 → sC l7 (0 : Nat) j = 501) := two7_zero l7 l7_len l7_zero
theorem fC_2 : Two7 (ioMapL ps2 l7 1 77 9 3) ∧ view (ioMapL ps2 l7 1 77 9 3) 4 77 = (0, 9, 3) := by
  obtain ⟨h, _, _, _⟩ := two7_l7
  have hB : ioMapB ps2 l7 1 ((77 : Nat) : Int) 9 3 = true := mapB_1 l7 l7_len 77 (by omega) 9 3 (by omega) (by omega) (by omega) (by omega)
  rcases h.b.map ps2 1 ps2_1 77 9 3 hB with ⟨h1, _⟩ | ⟨_, h2, h3, h4, _⟩
  · have := fC_1
    rw [show (77 : Int) = ((77 : Nat) : Int) from rfl] at this
    omega
  · exact ⟨(h.out1 h3 h2).1, h4⟩
/-- The first device's calls. -/
theorem map0_keep (l : List UInt8) (h : Two7 l) (p : Nat) (f m : Int) : Two7 (ioMapL ps2 l 0 p f m) ∧ ∀ q, q < 256 → view (ioMapL ps2 l 0 p f m) 4 q = view l 4 q := by
  obtain ⟨h2, h3⟩ := h.a.map_any ps2 0 ps2_0 p f m
  obtain ⟨k1, k2, _⟩ := h.out0 h3 h2
  exact ⟨k1, k2⟩

def usC (q : Nat) : List Nat := [[], [12], [11, 12], [10, 11, 12]].getD q []

set_option maxHeartbeats 8000000 in
theorem law_IommuClears (v : Value) (n : Nat) (zs : List Int) (w : World) (hv : Sl w v n 1 (ints zs)) (hn : n ≤ maxLen) (hl : zs.length = n) :
    Calls Try.prog 6 #[v] w fun e w' => e = .returned (.bool true) ∧ Below w.heap.size w w' := by
  obtain ⟨A, cap, rfl, hcap, hzl, hA⟩ := hv
  unfold maxLen at hn
  have HA := Lib.hid hA; have HL := Lib.hid hl
  clear hA hl
  go_enter Try.func6, Try.ntmps6
  go_wp2_with fail
  refine (aw7_any _).mono ?_
  rintro e w1 ⟨rfl, b1⟩
  go_wp2_with fail
  refine (set7_any w w1 b1).mono ?_
  rintro e w2 ⟨g, x, t, rfl, hw, _, _, _⟩
  clear b1
  go_wp2_with fail
  refine (map_w 1 77 9 3 0 hw fC_1 rfl).mono ?_
  rintro e w3 ⟨rfl, hw3, _⟩
  clear hw
  have H0 := Lib.hid fC_2
  generalize ioMapL ps2 l7 1 77 9 3 = l1 at *
  go_upto_block 0 with fail
  go_cut [6] (fun s6 wx => ∃ l, Wd w g x t ps2 l wx ∧ Hid (Two7 l ∧ view l 4 77 = (0, 9, 3)))
  case first =>
    go_wp2_with fail
    go_loopw [6] (fun i wq => ∃ (k : Nat) (l : List UInt8), k ≤ n ∧ i = .int .i64 k ∧ Wd w g x t ps2 l wq ∧ Hid (Two7 l ∧ view l 4 77 = (0, 9, 3))) (fun i _ => n - (intOf i).toNat)
    case atStart => exact ⟨0, l1, by omega, rfl, hw3, H0⟩
    case round =>
      clear hw3
      obtain ⟨k, l, hk, rfl, hw, HT⟩ := hrel
      by_cases hgo : k < n ∧ k < 30
      · obtain ⟨hkn, hk30⟩ := hgo
        have hd : decide ((k : Int) < 30) = true := by simp; omega
        have hkn' : (k : Int) < n := by omega
        obtain ⟨b, o, rfl, hb, hcell⟩ := HA.out (by omega)
        have hc := (hw.b.cell (p := ⟨b, o + k, none⟩) hb).trans (hcell k _ (ints_get zs k (by rw [HL.out]; exact hkn)))
        generalize zs.getD k 0 = z at hc
        have hP := band z 255 (by omega) (by omega)
        generalize hP' : bits BinOp.and IntKind.i64 z 255 = P at hP
        obtain ⟨P, rfl⟩ := Int.eq_ofNat_of_zero_le hP.1
        have HT2 := Lib.hid (map0_keep l HT.out.1 P 8 3)
        clear hcell
        go_wp2_with fail
        clear hP' hc
        refine (map_w 0 (P : Int) 8 3 _ hw rfl rfl).mono ?_
        rintro e w4 ⟨rfl, hw4, _⟩
        go_wp2_with fail
        go_roundw
        case rel => exact ⟨k + 1, _, by omega, by go_num, hw4, Lib.hid ⟨HT2.out.1, (HT2.out.2 77 (by omega)).trans HT.out.2⟩⟩
        case measure => simp [intOf]; omega
      · have hx : (k : Int) ≥ n ∨ ((k : Int) < n ∧ decide ((k : Int) < 30) = false) := by
          by_cases h1 : k < n
          · exact .inr ⟨by omega, by simp; omega⟩
          · exact .inl (by omega)
        clear hgo
        rcases hx with hx | ⟨hx, hx2⟩
        all_goals
          go_wp2_with fail
          go_meet
          exact ⟨l, hw, HT⟩
  case rest =>
    clear hw3 H0
    obtain ⟨l, hw, HT⟩ := hcut
    obtain ⟨c1, c2, c3, c4, c5, c6⟩ := clear_two l HT.out.1
    have C2 := Lib.hid c2; have C3 := Lib.hid c3; have C4 := Lib.hid c4; have C6 := Lib.hid c6
    have C5 := Lib.hid ((c5 77 (by omega)).trans HT.out.2)
    go_wp2_with fail
    refine (clear_w 0 0 hw c1 rfl).mono ?_
    rintro e w5 ⟨rfl, hw5, _⟩
    clear hw c1 c2 c3 c4 c5 c6 HT
    generalize ioClL ps2 l 0 = lc at *
    go_wp2_with fail
    go_loopw [8] (fun i wq => ∃ (p : Nat), p ≤ 256 ∧ i = .int .i64 p ∧ Wd w g x t ps2 lc wq) (fun i _ => 256 - (intOf i).toNat)
    case atStart => exact ⟨0, by omega, rfl, hw5⟩
    case round =>
      clear hw5
      obtain ⟨p, hp, rfl, hw⟩ := hrel
      by_cases hlt : p < 256
      · have hlt' : (p : Int) < 256 := by omega
        have htr := page_tr lc 0 0 p 0 1 false hlt (by omega) (by omega) (by decide) rfl (0, 0) (C3.out p hlt) (.inl rfl)
        rw [show ((p * 64 + 0 : Nat) : Int) = (p : Int) * 64 by omega, show ((1 : Nat) : Int) = 1 from rfl] at htr
        have HTR := Lib.hid htr; clear htr
        go_wp2_with fail
        refine (tr_w 0 ((p : Int) * 64) 1 702 false [] hw HTR.out.1 HTR.out.2).mono ?_
        rintro e w6 ⟨A6, cap6, rfl, _, hw6, _⟩
        clear hw
        go_wp2_with (go_at_call 11; refine (num_any _ _).mono ?_; rintro e w' ⟨rfl, rfl⟩)
        go_roundw
        case rel => exact ⟨p + 1, by omega, by go_num, hw6⟩
        case measure => simp [intOf]; omega
      · have hge : ¬ ((p : Int) < 256) := by omega
        go_wp2_with fail
        refine (pread_any g lc 0 256 _ hw.pm).mono ?_
        rintro e w7 ⟨rfl, rfl⟩
        rw [C6.out, show errC (mayB 0 256 lc.length) = 0 by rw [C2.out.len]; decide]
        go_wp2_with fail
        have htr := page_tr lc 4 1 77 0 1 true (by omega) (by omega) (by omega) (by decide) rfl (9, 3) C5.out (.inr (by omega))
        have e1 : ioTrC ps2 lc 1 4928 1 true = 0 := htr.1
        have e2 : ioTrP ps2 lc 1 4928 1 true = [(9, 0, 1)] := htr.2
        refine (tr_w 1 4928 1 0 true _ hw e1 e2).mono ?_
        rintro e w8 ⟨A8, cap8, rfl, ho8, hw8, _⟩
        clear hw htr e1 e2
        go_wp2_with fail
        have HU0 : Hid (Two7 lc ∧ Used lc (usC 0)) := Lib.hid ⟨C2.out, C4.out⟩
        have ho8' : ∃ B0, w8.ownsRow B0 66 3 (.slice A8 1 cap8) 1 (flat [(9, 0, 1)]) := ⟨_, ho8⟩
        have hmk : ∀ W : World, (Instr.makeSlice 51 (.int .i64 256) (.int .i64 256)).run Try.prog W = .ok (.slice (some ⟨W.heap.size, 0, none⟩) 256 256) (W.alloc (.cells (bts (zeros 256)).toArray 5)) := fun W => make_u8 W 256 (by omega)
        have hcv := fun W => make_str W 256 (by omega)
        have HMK := Lib.hid hmk; have HCV := Lib.hid hcv
        clear ho8 hmk hcv C2 C3 C4 C5 C6
        go_loopw [15] (fun i wq => ∃ (q : Nat) (l : List UInt8), q ≤ 3 ∧ i = .int .i64 q ∧ Wd w g x t ps2 l wq ∧ Hid (Two7 l ∧ Used l (usC q)) ∧ ∃ B0, wq.ownsRow B0 66 3 (.slice A8 1 cap8) 1 (flat [(9, 0, 1)])) (fun i _ => 3 - (intOf i).toNat)
        case atStart => exact ⟨0, lc, by omega, rfl, hw8, HU0, ho8'⟩
        case round =>
          clear hw8 HU0 ho8'
          obtain ⟨q, l, hq, rfl, hw, HT, B0, ho⟩ := hrel
          by_cases hlq : q < 3
          · have hq3 : q = 0 ∨ q = 1 ∨ q = 2 := by omega
            have hmore : ioMapC ps2 l 0 (200 - 16 * (q : Int)) 8 3 = 0 ∧ Two7 (ioMapL ps2 l 0 (200 - 16 * (q : Int)) 8 3) ∧ Used (ioMapL ps2 l 0 (200 - 16 * (q : Int)) 8 3) (usC (q + 1)) := by
              rcases hq3 with rfl | rfl | rfl
              · have := HT.out.1.more [] HT.out.2 200 (by omega) (by simp) (by simp) 8 3 (by omega) (by omega) (by omega) (by omega)
                exact ⟨this.1, this.2.1, this.2.2.1⟩
              · have := HT.out.1.more [12] HT.out.2 184 (by omega) (by simp) (by simp) 8 3 (by omega) (by omega) (by omega) (by omega)
                exact ⟨this.1, this.2.1, this.2.2.1⟩
              · have := HT.out.1.more [11, 12] HT.out.2 168 (by omega) (by simp) (by simp) 8 3 (by omega) (by omega) (by omega) (by omega)
                exact ⟨this.1, this.2.1, this.2.2.1⟩
            have HM1 := Lib.hid hmore.1
            have HM2 := Lib.hid hmore.2
            have hlq' : (q : Int) < 3 := by omega
            clear hmore hq3 HT
            go_wp2_with fail
            refine (map_w 0 (200 - 16 * (q : Int)) 8 3 0 hw HM1.out rfl).mono ?_
            rintro e w9 ⟨rfl, hw9, tn9⟩
            replace ho := (hw.kp tn9).own ho (by decide) (by decide)
            clear hw tn9
            go_wp2_with (go_at_call 11; refine (num_any _ _).mono ?_; rintro e w' ⟨rfl, rfl⟩)
            go_roundw
            case rel => exact ⟨q + 1, _, by omega, by go_num, hw9, HM2, B0, ho⟩
            case measure => simp [intOf]; omega
          · obtain rfl : q = 3 := by omega
            have hfull : ioMapC ps2 l 0 5 8 3 = 701 := HT.out.1.none_left 10 11 12 HT.out.2 (by omega) (by omega) (by omega) (by omega) (by omega) (by omega) 5 (by omega) (by simp) 8 3 (by omega) (by omega) (by omega) (by omega)
            have hsame : ioMapL ps2 l 0 5 8 3 = l := ioMapL_no _ _ _ _ _ _ (by omega)
            clear HT
            go_wp2_with fail
            refine (map_w 0 5 8 3 701 hw hfull hsame).mono ?_
            rintro e w9 ⟨rfl, hw9, tn9⟩
            replace ho := (hw.kp tn9).own ho (by decide) (by decide)
            have hb9 := hw9.b
            clear hw tn9 hfull hsame hw9
            have hmk := HMK.out; have hcv := HCV.out
            go_wp2_with (go_at_call 11; refine (num_any _ _).mono ?_; rintro e w' ⟨rfl, rfl⟩)
            have bl : Below w9.heap.size w9 ((w9.alloc (.cells (bts (zeros 256)).toArray 5)).alloc (.cells (flat [(9, 0, 1)]).toArray 66)) := ((Below.refl _ _).alloc (Nat.le_refl _) _).alloc (by simp) _
            have hlit := Sl.lit (w9.alloc (.cells (bts (zeros 256)).toArray 5)) (flat [(9, 0, 1)]) 1 3 66 rfl
            have hs1 : (w9.alloc (.cells (bts (zeros 256)).toArray 5)).heap.size = w9.heap.size + 1 := by simp
            rw [hs1] at hlit
            have hsl := (Sl.own ho).below bl
            replace hb9 := Below.down hb9 bl hb9.size
            clear hmk hcv ho bl hs1
            refine (same_yes _ _ [(9, 0, 1)] _ hsl hlit (by simp)).mono ?_
            rintro e w10 ⟨rfl, q10, rfl⟩
            replace hb9 := bdrewN hb9 q10
            clear hsl hlit
            go_wp2_with (go_at_call 11; refine (num_any _ _).mono ?_; rintro e w' ⟨rfl, rfl⟩)
            go_ret
            exact ⟨rfl, hb9⟩

end Go.Proofs.Ytkiijohmadeofaa
