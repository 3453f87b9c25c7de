/-
  Layer 7's law of what was mapped last: it answers true for every input.
-/
import Derived.Test.YtkiijohmadeofaaIoRuns
import Derived.StillTailTactics
namespace Go.Proofs.Ytkiijohmadeofaa
open Go.RowKit
set_option linter.unusedVariables false
set_option linter.unusedSimpArgs false
set_option maxRecDepth 100000

/-! ### the row of what each page is to tell -/
def wl (W : Nat → Int × Int) : List Int := (List.range 96).map fun j => if j % 2 = 0 then (W (j / 2)).1 else (W (j / 2)).2
theorem wl_len (W : Nat → Int × Int) : (wl W).length = 96 := by simp [wl]
theorem wl_get (W : Nat → Int × Int) (j : Nat) (h : j < 96) : (wl W).getD j 0 = if j % 2 = 0 then (W (j / 2)).1 else (W (j / 2)).2 := by simp [wl, List.getD, h]
theorem wl_set (W : Nat → Int × Int) (q : Nat) (h : q < 48) (a b : Int) : ((wl W).set (q * 2) a).set (q * 2 + 1) b = wl (updW W q (a, b)) := by
  apply List.ext_getElem?
  intro j
  rw [List.getElem?_set, List.getElem?_set]
  by_cases hj : j < 96
  · simp only [wl, List.getElem?_map, List.getElem?_range hj, Option.map_some, List.length_map, List.length_range, List.length_set]
    unfold updW
    by_cases e1 : q * 2 + 1 = j
    · subst e1
      rw [if_pos rfl, if_pos hj, if_neg (by omega), if_pos (by omega)]
    · rw [if_neg e1]
      by_cases e2 : q * 2 = j
      · subst e2
        rw [if_pos rfl, if_pos hj, if_pos (by omega), if_pos (by omega)]
      · rw [if_neg e2]
        have : j / 2 ≠ q := by omega
        rw [if_neg this]
  · rw [if_neg (by omega), if_neg (by omega), List.getElem?_eq_none (by rw [wl_len]; omega), List.getElem?_eq_none (by rw [wl_len]; omega)]
def noW : List Int := List.replicate 96 0
theorem noW_eq : noW = wl (fun _ => (0, 0)) := by decide +kernel
def zW : Array Value := (ints noW).toArray
theorem zW_ne : ¬ (zW = #[]) := by simp [zW, noW, ints]
theorem zW_run (w : World) : Sem.run Try.prog (zeroValue 57) w = .ok (.agg zW) w := by
  have hi : (Try.prog.info? 57).map (fun i => i.zero) = some (some (.agg zW)) := by kernel_rfl
  cases h : Try.prog.info? 57 with
  | none => rw [h] at hi; cases hi
  | some i =>
    rw [h] at hi
    simp [zeroValue, typeInfo, h] at hi ⊢
    simp [hi, go_sem]

structure Wn (w0 : World) (g x t h : Nat) (l : List UInt8) (W : Nat → Int × Int) (w : World) : Prop where
  wd : Wd w0 g x t ps2 l w
  blk : Blk w h 57 (ints (wl W))
  wh : w0.heap.size ≤ h
section
variable {w0 w w' : World} {g x t h : Nat} {l l' : List UInt8} {W : Nat → Int × Int}
theorem Wn.call (e : Wn w0 g x t h l W w) (k : Wd w0 g x t ps2 l' w') (tn : Tn g t w w') : Wn w0 g x t h l' W w' := ⟨k, (e.wd.kp tn).blk e.blk (by decide) (by decide), e.wh⟩
theorem Wn.drewN (e : Wn w0 g x t h l W w) (n : Nat) : Wn w0 g x t h l W (w.drewN n) := ⟨e.wd.drewN n, e.blk.drewN n, e.wh⟩
theorem Wn.alloc (e : Wn w0 g x t h l W w) (o : Obj) : Wn w0 g x t h l W (w.alloc o) := ⟨e.wd.alloc o, e.blk.alloc o, e.wh⟩
theorem Wn.set (e : Wn w0 g x t h l W w) (q : Nat) (hq : q < 48) (a b : Int) : Wn w0 g x t h l (updW W q (a, b)) ((w.setCell ⟨h, q * 2, none⟩ (.int .i64 a)).setCell ⟨h, q * 2 + 1, none⟩ (.int .i64 b)) := by
  have b1 := e.blk.setInt (q * 2) a
  refine ⟨(e.wd.far e.blk (by decide) e.wh _ _).far b1 (by decide) e.wh _ _, ?_, e.wh⟩
  rw [← wl_set W q hq a b]
  exact b1.setInt (q * 2 + 1) b
theorem Wn.at_ (e : Wn w0 g x t h l W w) (q : Nat) (hq : q < 48) : w.cell? ⟨h, q * 2, none⟩ = some (.int .i64 (W q).1) ∧ w.cell? ⟨h, q * 2 + 1, none⟩ = some (.int .i64 (W q).2) ∧ w.frozen? ⟨h, q * 2, none⟩ = false ∧ w.frozen? ⟨h, q * 2 + 1, none⟩ = false ∧ h < w.heap.size := by
  refine ⟨?_, ?_, e.blk.frozen _, e.blk.frozen _, e.blk.lt⟩
  · rw [e.blk.int (by rw [wl_len]; omega), wl_get W _ (by omega), if_pos (by omega), show q * 2 / 2 = q by omega]
  · rw [e.blk.int (by rw [wl_len]; omega), wl_get W _ (by omega), if_neg (by omega), show (q * 2 + 1) / 2 = q by omega]
end

set_option maxHeartbeats 8000000 in
theorem law_IommuMaps (v : Value) (n : Nat) (zs : List Int) (w : World) (hv : Sl w v n 1 (ints zs)) (hn : n ≤ maxLen) (hl : zs.length = n) :
    Calls Try.prog 4 #[v] w fun e w' => e = .returned (.bool true) ∧ Below w.heap.size w w' := by
  obtain ⟨A, cap, rfl, hcap, hzl, hA⟩ := hv
  unfold maxLen at hn
  have HA := Lib.hid hA; have HL := Lib.hid hl
  have hz := zW_run
  have hne := zW_ne
  clear hA hl
  go_enter Try.func4, Try.ntmps4
  go_wp2_with fail
  refine (aw7_any _).mono ?_
  rintro e w1 ⟨rfl, b1⟩
  go_wp2_with fail
  refine (set7_any w w1 b1).mono ?_
  rintro e w2 ⟨g, x, t, rfl, hw, _, _, _⟩
  clear b1
  go_wp2_with fail
  have hw3 : Wn w g x t w2.heap.size l7 (fun _ => (0, 0)) (w2.alloc (.cells zW 57)) := ⟨hw.alloc _, by
    have := Blk.new w2 57 (ints noW)
    rw [← noW_eq]
    exact this, hw.size⟩
  have HMI := Lib.hid (mi_zero l7 l7_len l7_zero)
  clear hw hz hne
  generalize w2.alloc (.cells zW 57) = w3 at *
  generalize w2.heap.size = h at *
  go_loopw [6] (fun i wq => ∃ (k : Nat) (l : List UInt8) (W : Nat → Int × Int), k ≤ n ∧ i = .int .i64 k ∧ Wn w g x t h l W wq ∧ Hid (MI l W)) (fun i _ => n - (intOf i).toNat)
  case atStart => exact ⟨0, l7, _, by omega, rfl, hw3, HMI⟩
  case round =>
    clear hw3 HMI
    obtain ⟨k, l, W, hk, rfl, hw, HM⟩ := hrel
    by_cases hgo : k < n ∧ k < 40
    · obtain ⟨hkn, hk40⟩ := hgo
      have hd : decide ((k : Int) < 40) = true := by simp; omega
      have hkn' : (k : Int) < n := by omega
      obtain ⟨b, o, rfl, hb, hcell⟩ := HA.out (by omega)
      have hc := (hw.wd.b.cell (p := ⟨b, o + k, none⟩) hb).trans (hcell k _ (ints_get zs k (by rw [HL.out]; exact hkn)))
      generalize zs.getD k 0 = z at hc
      have hP := band z 63 (by omega) (by omega)
      have hK := band (z / 64) 3 (by omega) (by omega)
      have hF := band (z / 256) 7 (by omega) (by omega)
      have hQ := band (z / 2048) 3 (by omega) (by omega)
      generalize hP' : bits BinOp.and IntKind.i64 z 63 = P at hP
      generalize hK' : bits BinOp.and IntKind.i64 (z / 64) 3 = K at hK
      generalize hF' : bits BinOp.and IntKind.i64 (z / 256) 7 = F at hF
      generalize hQ' : bits BinOp.and IntKind.i64 (z / 2048) 3 = Q at hQ
      obtain ⟨P, rfl⟩ := Int.eq_ofNat_of_zero_le hP.1
      obtain ⟨p, hp48, hpl⟩ : ∃ p : Nat, (P : Int) % 48 = p ∧ p < 48 := ⟨P % 48, by omega, by omega⟩
      clear hcell
      by_cases hK3 : K = 3
      · subst hK3
        have hun := HM.out.unmap p hpl
        have HM2 := Lib.hid hun.2
        obtain ⟨d1, d2, d3, d4, d5⟩ := hw.at_ p hpl
        go_wp2_with fail
        rcases hun.1 with ⟨hw0, hcode⟩ | ⟨hw0, hcode⟩
        · have HCODE := Lib.hid hcode
          rw [hw0] at d2
          have HW0 := Lib.hid hw0
          clear hun hcode hw0
          refine (unmap_w 0 (p : Int) 702 hw.wd HCODE.out rfl).mono ?_
          rintro e w4 ⟨rfl, hw4, tn4⟩
          have hwc := hw.call hw4 tn4
          obtain ⟨c1, c2, c3, c4, c5⟩ := hwc.at_ p hpl
          rw [HW0.out] at c2
          go_wp2_with fail
          go_quiet ((go_at_call 11; first | exact quiet_ (fun W => num_any _ W) | exact quiet_a (fun W => num_any _ W)))
          go_wp2_with fail
          have hwn := (hwc.drewN nq).set p hpl 0 0
          obtain ⟨l2, hl2⟩ : ∃ l2, ioUnL ps2 l 0 p = l2 := ⟨_, rfl⟩
          obtain ⟨W2, hW2⟩ : ∃ W2, updW W p (0, 0) = W2 := ⟨_, rfl⟩
          rw [hl2, hW2] at hwn
          have HMM : Hid (MI l2 W2) := Lib.hid (by rw [← hl2, ← hW2]; exact HM2.out)
          clear HM2 hl2 hW2 hwc c1 c2 c3 c4 c5 d1 d2 d3 d4 d5 HM
          try clear hw
          go_loopw [10] (fun i wq => ∃ (q : Nat), q ≤ 48 ∧ i = .int .i64 q ∧ Wn w g x t h l2 W2 wq) (fun i _ => 48 - (intOf i).toNat)
          case atStart => exact ⟨0, by omega, rfl, hwn⟩
          case round =>
            clear hwn
            obtain ⟨q, hq, rfl, hwq⟩ := hrel
            by_cases hlq : q < 48
            · have hlq' : (q : Int) < 48 := by omega
              have hrng := HMM.out.rng q hlq
              have hvw := HMM.out.want q hlq
              have hot := HMM.out.other q (by omega)
              obtain ⟨d1, d2, _, _, _⟩ := hwq.at_ q hlq
              generalize hWq : W2 q = EE at hrng hvw d1 d2
              obtain ⟨ef, em⟩ := EE
              have e1 : ((q * 64 + 5 : Nat) : Int) = (q : Int) * 64 + 5 := by omega
              have e2 : ((q * 64 + 0 : Nat) : Int) = (q : Int) * 64 := by omega
              have htr := fun o' n' wr' h1 h2 he => page_tr l2 0 0 q o' n' wr' (by omega) h1 h2 (by decide) rfl (ef, em) hvw he
              have ht2 := page_tr l2 4 1 q 0 1 false (by omega) (by omega) (by omega) (by decide) rfl (0, 0) hot (.inl rfl)
              rw [e2] at ht2
              have HT2 := Lib.hid ht2
              have hem : em = 0 ∨ em = 1 ∨ em = 2 ∨ em = 3 := by
                rcases hrng with h | h
                · injection h with h1 h2; omega
                · simp only at h; omega
              rcases hem with rfl | rfl | rfl | rfl
              · have t1 := htr 5 7 false (by omega) (by omega) hrng
                have t3 := htr 0 1 true (by omega) (by omega) hrng
                rw [e1] at t1
                rw [e2] at t3
                have s1 : ioTrC ps2 l2 0 ((q : Int) * 64 + 5) 7 false = 702 ∧ ioTrP ps2 l2 0 ((q : Int) * 64 + 5) 7 false = [] := ⟨t1.1.trans (by simp [hasP]), t1.2.trans (by simp [hasP])⟩
                have s3 : ioTrC ps2 l2 0 ((q : Int) * 64) 1 true = 702 ∧ ioTrP ps2 l2 0 ((q : Int) * 64) 1 true = [] := ⟨t3.1.trans (by simp [hasP]), t3.2.trans (by simp [hasP])⟩
                have S1 := Lib.hid s1; have S3 := Lib.hid s3
                have HWQ := Lib.hid hWq
                clear t1 t3 s1 s3 htr ht2 hrng hvw hot hWq e1 e2
                go_wp2_with fail
                refine (tr_w 0 ((q : Int) * 64 + 5) 7 702 false _ hwq.wd S1.out.1 S1.out.2).mono ?_
                rintro e w5 ⟨A5, cap5, rfl, ho5, hd5, tn5⟩
                have hw5 := hwq.call hd5 tn5
                clear hd5 tn5 hwq
                go_wp2_with fail
                refine (tr_w 1 ((q : Int) * 64) 1 702 false [] hw5.wd HT2.out.1 HT2.out.2).mono ?_
                rintro e w6 ⟨A6, cap6, rfl, _, hd6, tn6⟩
                replace ho5 := (hw5.wd.kp tn6).own ho5 (by decide) (by decide)
                have hw6 := hw5.call hd6 tn6
                clear hd6 tn6 hw5
                go_wp2_with fail
                refine (tr_w 0 ((q : Int) * 64) 1 702 true _ hw6.wd S3.out.1 S3.out.2).mono ?_
                rintro e w7 ⟨A7, cap7, rfl, _, hd7, tn7⟩
                replace ho5 := (hw6.wd.kp tn7).own ho5 (by decide) (by decide)
                have hw7 := hw6.call hd7 tn7
                obtain ⟨d1, d2, _, _, _⟩ := hw7.at_ q hlq
                rw [HWQ.out] at d1 d2
                clear hd7 tn7 hw6
                clear ho5
                go_wp2_with (go_at_call 11; refine (num_any _ _).mono ?_; rintro e w' ⟨rfl, rfl⟩)
                go_roundw
                case rel => exact ⟨q + 1, by omega, by go_num, hw7⟩
                case measure => simp [intOf]; omega
              · have hef : 0 ≤ ef := by
                  rcases hrng with h | h
                  · injection h with h1 h2; omega
                  · simp only at h; omega
                obtain ⟨ef, rfl⟩ := Int.eq_ofNat_of_zero_le hef
                have HWQ := Lib.hid hWq
                have t1 := htr 5 7 false (by omega) (by omega) hrng
                have t3 := htr 0 1 true (by omega) (by omega) hrng
                rw [e1] at t1
                rw [e2] at t3
                have s1 : ioTrC ps2 l2 0 ((q : Int) * 64 + 5) 7 false = 0 ∧ ioTrP ps2 l2 0 ((q : Int) * 64 + 5) 7 false = [(ef, 5, 7)] := ⟨t1.1.trans (by simp [hasP]), t1.2.trans (by simp [hasP])⟩
                have s3 : ioTrC ps2 l2 0 ((q : Int) * 64) 1 true = 703 ∧ ioTrP ps2 l2 0 ((q : Int) * 64) 1 true = [] := ⟨t3.1.trans (by simp [hasP]), t3.2.trans (by simp [hasP])⟩
                have S1 := Lib.hid s1; have S3 := Lib.hid s3
                clear t1 t3 s1 s3 htr ht2 hrng hvw hot hWq e1 e2
                go_wp2_with fail
                refine (tr_w 0 ((q : Int) * 64 + 5) 7 0 false _ hwq.wd S1.out.1 S1.out.2).mono ?_
                rintro e w5 ⟨A5, cap5, rfl, ho5, hd5, tn5⟩
                have hw5 := hwq.call hd5 tn5
                clear hd5 tn5 hwq
                go_wp2_with fail
                refine (tr_w 1 ((q : Int) * 64) 1 702 false [] hw5.wd HT2.out.1 HT2.out.2).mono ?_
                rintro e w6 ⟨A6, cap6, rfl, _, hd6, tn6⟩
                replace ho5 := (hw5.wd.kp tn6).own ho5 (by decide) (by decide)
                have hw6 := hw5.call hd6 tn6
                clear hd6 tn6 hw5
                go_wp2_with fail
                refine (tr_w 0 ((q : Int) * 64) 1 703 true _ hw6.wd S3.out.1 S3.out.2).mono ?_
                rintro e w7 ⟨A7, cap7, rfl, _, hd7, tn7⟩
                replace ho5 := (hw6.wd.kp tn7).own ho5 (by decide) (by decide)
                have hw7 := hw6.call hd7 tn7
                obtain ⟨d1, d2, _, _, _⟩ := hw7.at_ q hlq
                rw [HWQ.out] at d1 d2
                clear hd7 tn7 hw6
                have hsl := Sl.own ho5
                go_wp2_with (go_at_call 11; refine (num_any _ _).mono ?_; rintro e w' ⟨rfl, rfl⟩)
                have bl : Below w7.heap.size w7 (w7.alloc (.cells (flat [(ef, 5, 7)]).toArray 66)) := (Below.refl _ _).alloc (Nat.le_refl _) _
                have hlit := Sl.lit w7 (flat [(ef, 5, 7)]) 1 3 66 rfl
                replace hsl := hsl.below bl
                have hw8 := hw7.alloc (.cells (flat [(ef, 5, 7)]).toArray 66)
                clear bl hw7
                refine (same_yes _ _ [(ef, 5, 7)] _ hsl hlit (by simp)).mono ?_
                rintro e w9 ⟨rfl, q9, rfl⟩
                have hw9 := hw8.drewN q9
                clear hw8 hsl hlit
                go_wp2_with (go_at_call 11; refine (num_any _ _).mono ?_; rintro e w' ⟨rfl, rfl⟩)
                go_roundw
                case rel => exact ⟨q + 1, by omega, by go_num, hw9⟩
                case measure => simp [intOf]; omega
              · have t1 := htr 5 7 false (by omega) (by omega) hrng
                have t3 := htr 0 1 true (by omega) (by omega) hrng
                rw [e1] at t1
                rw [e2] at t3
                have s1 : ioTrC ps2 l2 0 ((q : Int) * 64 + 5) 7 false = 703 ∧ ioTrP ps2 l2 0 ((q : Int) * 64 + 5) 7 false = [] := ⟨t1.1.trans (by simp [hasP]), t1.2.trans (by simp [hasP])⟩
                have s3 : ioTrC ps2 l2 0 ((q : Int) * 64) 1 true = 0 ∧ ioTrP ps2 l2 0 ((q : Int) * 64) 1 true = [(ef.toNat, 0, 1)] := ⟨t3.1.trans (by simp [hasP]), t3.2.trans (by simp [hasP])⟩
                have S1 := Lib.hid s1; have S3 := Lib.hid s3
                have HWQ := Lib.hid hWq
                clear t1 t3 s1 s3 htr ht2 hrng hvw hot hWq e1 e2
                go_wp2_with fail
                refine (tr_w 0 ((q : Int) * 64 + 5) 7 703 false _ hwq.wd S1.out.1 S1.out.2).mono ?_
                rintro e w5 ⟨A5, cap5, rfl, ho5, hd5, tn5⟩
                have hw5 := hwq.call hd5 tn5
                clear hd5 tn5 hwq
                go_wp2_with fail
                refine (tr_w 1 ((q : Int) * 64) 1 702 false [] hw5.wd HT2.out.1 HT2.out.2).mono ?_
                rintro e w6 ⟨A6, cap6, rfl, _, hd6, tn6⟩
                replace ho5 := (hw5.wd.kp tn6).own ho5 (by decide) (by decide)
                have hw6 := hw5.call hd6 tn6
                clear hd6 tn6 hw5
                go_wp2_with fail
                refine (tr_w 0 ((q : Int) * 64) 1 0 true _ hw6.wd S3.out.1 S3.out.2).mono ?_
                rintro e w7 ⟨A7, cap7, rfl, _, hd7, tn7⟩
                replace ho5 := (hw6.wd.kp tn7).own ho5 (by decide) (by decide)
                have hw7 := hw6.call hd7 tn7
                obtain ⟨d1, d2, _, _, _⟩ := hw7.at_ q hlq
                rw [HWQ.out] at d1 d2
                clear hd7 tn7 hw6
                clear ho5
                go_wp2_with (go_at_call 11; refine (num_any _ _).mono ?_; rintro e w' ⟨rfl, rfl⟩)
                go_roundw
                case rel => exact ⟨q + 1, by omega, by go_num, hw7⟩
                case measure => simp [intOf]; omega
              · have hef : 0 ≤ ef := by
                  rcases hrng with h | h
                  · injection h with h1 h2; omega
                  · simp only at h; omega
                obtain ⟨ef, rfl⟩ := Int.eq_ofNat_of_zero_le hef
                have HWQ := Lib.hid hWq
                have t1 := htr 5 7 false (by omega) (by omega) hrng
                have t3 := htr 0 1 true (by omega) (by omega) hrng
                rw [e1] at t1
                rw [e2] at t3
                have s1 : ioTrC ps2 l2 0 ((q : Int) * 64 + 5) 7 false = 0 ∧ ioTrP ps2 l2 0 ((q : Int) * 64 + 5) 7 false = [(ef, 5, 7)] := ⟨t1.1.trans (by simp [hasP]), t1.2.trans (by simp [hasP])⟩
                have s3 : ioTrC ps2 l2 0 ((q : Int) * 64) 1 true = 0 ∧ ioTrP ps2 l2 0 ((q : Int) * 64) 1 true = [(ef, 0, 1)] := ⟨t3.1.trans (by simp [hasP]), t3.2.trans (by simp [hasP])⟩
                have S1 := Lib.hid s1; have S3 := Lib.hid s3
                clear t1 t3 s1 s3 htr ht2 hrng hvw hot hWq e1 e2
                go_wp2_with fail
                refine (tr_w 0 ((q : Int) * 64 + 5) 7 0 false _ hwq.wd S1.out.1 S1.out.2).mono ?_
                rintro e w5 ⟨A5, cap5, rfl, ho5, hd5, tn5⟩
                have hw5 := hwq.call hd5 tn5
                clear hd5 tn5 hwq
                go_wp2_with fail
                refine (tr_w 1 ((q : Int) * 64) 1 702 false [] hw5.wd HT2.out.1 HT2.out.2).mono ?_
                rintro e w6 ⟨A6, cap6, rfl, _, hd6, tn6⟩
                replace ho5 := (hw5.wd.kp tn6).own ho5 (by decide) (by decide)
                have hw6 := hw5.call hd6 tn6
                clear hd6 tn6 hw5
                go_wp2_with fail
                refine (tr_w 0 ((q : Int) * 64) 1 0 true _ hw6.wd S3.out.1 S3.out.2).mono ?_
                rintro e w7 ⟨A7, cap7, rfl, _, hd7, tn7⟩
                replace ho5 := (hw6.wd.kp tn7).own ho5 (by decide) (by decide)
                have hw7 := hw6.call hd7 tn7
                obtain ⟨d1, d2, _, _, _⟩ := hw7.at_ q hlq
                rw [HWQ.out] at d1 d2
                clear hd7 tn7 hw6
                have hsl := Sl.own ho5
                go_wp2_with (go_at_call 11; refine (num_any _ _).mono ?_; rintro e w' ⟨rfl, rfl⟩)
                have bl : Below w7.heap.size w7 (w7.alloc (.cells (flat [(ef, 5, 7)]).toArray 66)) := (Below.refl _ _).alloc (Nat.le_refl _) _
                have hlit := Sl.lit w7 (flat [(ef, 5, 7)]) 1 3 66 rfl
                replace hsl := hsl.below bl
                have hw8 := hw7.alloc (.cells (flat [(ef, 5, 7)]).toArray 66)
                clear bl hw7
                refine (same_yes _ _ [(ef, 5, 7)] _ hsl hlit (by simp)).mono ?_
                rintro e w9 ⟨rfl, q9, rfl⟩
                have hw9 := hw8.drewN q9
                clear hw8 hsl hlit
                go_wp2_with (go_at_call 11; refine (num_any _ _).mono ?_; rintro e w' ⟨rfl, rfl⟩)
                go_roundw
                case rel => exact ⟨q + 1, by omega, by go_num, hw9⟩
                case measure => simp [intOf]; omega
            · have hge : ¬ ((q : Int) < 48) := by omega
              go_wp2_with fail
              go_roundw
              case rel => exact ⟨k + 1, _, _, by omega, by go_num, hwq, HMM⟩
              case measure => simp [intOf]; omega
        · have hne0 : ((W p).2 != 0) = true := by simpa using hw0
          have hne1 : ((W p).2 == 0) = false := by simpa using hw0
          have HCODE := Lib.hid hcode
          generalize hpm : (W p).2 = pm at *
          clear hun hcode
          refine (unmap_w 0 (p : Int) 0 hw.wd HCODE.out rfl).mono ?_
          rintro e w4 ⟨rfl, hw4, tn4⟩
          have hwc := hw.call hw4 tn4
          obtain ⟨c1, c2, c3, c4, c5⟩ := hwc.at_ p hpl
          go_wp2_with fail
          go_quiet ((go_at_call 11; first | exact quiet_ (fun W => num_any _ W) | exact quiet_a (fun W => num_any _ W)))
          go_wp2_with fail
          have hwn := (hwc.drewN nq).set p hpl 0 0
          obtain ⟨l2, hl2⟩ : ∃ l2, ioUnL ps2 l 0 p = l2 := ⟨_, rfl⟩
          obtain ⟨W2, hW2⟩ : ∃ W2, updW W p (0, 0) = W2 := ⟨_, rfl⟩
          rw [hl2, hW2] at hwn
          have HMM : Hid (MI l2 W2) := Lib.hid (by rw [← hl2, ← hW2]; exact HM2.out)
          clear HM2 hl2 hW2 hwc c1 c2 c3 c4 c5 d1 d2 d3 d4 d5 HM
          try clear hw
          go_loopw [10] (fun i wq => ∃ (q : Nat), q ≤ 48 ∧ i = .int .i64 q ∧ Wn w g x t h l2 W2 wq) (fun i _ => 48 - (intOf i).toNat)
          case atStart => exact ⟨0, by omega, rfl, hwn⟩
          case round =>
            clear hwn
            obtain ⟨q, hq, rfl, hwq⟩ := hrel
            by_cases hlq : q < 48
            · have hlq' : (q : Int) < 48 := by omega
              have hrng := HMM.out.rng q hlq
              have hvw := HMM.out.want q hlq
              have hot := HMM.out.other q (by omega)
              obtain ⟨d1, d2, _, _, _⟩ := hwq.at_ q hlq
              generalize hWq : W2 q = EE at hrng hvw d1 d2
              obtain ⟨ef, em⟩ := EE
              have e1 : ((q * 64 + 5 : Nat) : Int) = (q : Int) * 64 + 5 := by omega
              have e2 : ((q * 64 + 0 : Nat) : Int) = (q : Int) * 64 := by omega
              have htr := fun o' n' wr' h1 h2 he => page_tr l2 0 0 q o' n' wr' (by omega) h1 h2 (by decide) rfl (ef, em) hvw he
              have ht2 := page_tr l2 4 1 q 0 1 false (by omega) (by omega) (by omega) (by decide) rfl (0, 0) hot (.inl rfl)
              rw [e2] at ht2
              have HT2 := Lib.hid ht2
              have hem : em = 0 ∨ em = 1 ∨ em = 2 ∨ em = 3 := by
                rcases hrng with h | h
                · injection h with h1 h2; omega
                · simp only at h; omega
              rcases hem with rfl | rfl | rfl | rfl
              · have t1 := htr 5 7 false (by omega) (by omega) hrng
                have t3 := htr 0 1 true (by omega) (by omega) hrng
                rw [e1] at t1
                rw [e2] at t3
                have s1 : ioTrC ps2 l2 0 ((q : Int) * 64 + 5) 7 false = 702 ∧ ioTrP ps2 l2 0 ((q : Int) * 64 + 5) 7 false = [] := ⟨t1.1.trans (by simp [hasP]), t1.2.trans (by simp [hasP])⟩
                have s3 : ioTrC ps2 l2 0 ((q : Int) * 64) 1 true = 702 ∧ ioTrP ps2 l2 0 ((q : Int) * 64) 1 true = [] := ⟨t3.1.trans (by simp [hasP]), t3.2.trans (by simp [hasP])⟩
                have S1 := Lib.hid s1; have S3 := Lib.hid s3
                have HWQ := Lib.hid hWq
                clear t1 t3 s1 s3 htr ht2 hrng hvw hot hWq e1 e2
                go_wp2_with fail
                refine (tr_w 0 ((q : Int) * 64 + 5) 7 702 false _ hwq.wd S1.out.1 S1.out.2).mono ?_
                rintro e w5 ⟨A5, cap5, rfl, ho5, hd5, tn5⟩
                have hw5 := hwq.call hd5 tn5
                clear hd5 tn5 hwq
                go_wp2_with fail
                refine (tr_w 1 ((q : Int) * 64) 1 702 false [] hw5.wd HT2.out.1 HT2.out.2).mono ?_
                rintro e w6 ⟨A6, cap6, rfl, _, hd6, tn6⟩
                replace ho5 := (hw5.wd.kp tn6).own ho5 (by decide) (by decide)
                have hw6 := hw5.call hd6 tn6
                clear hd6 tn6 hw5
                go_wp2_with fail
                refine (tr_w 0 ((q : Int) * 64) 1 702 true _ hw6.wd S3.out.1 S3.out.2).mono ?_
                rintro e w7 ⟨A7, cap7, rfl, _, hd7, tn7⟩
                replace ho5 := (hw6.wd.kp tn7).own ho5 (by decide) (by decide)
                have hw7 := hw6.call hd7 tn7
                obtain ⟨d1, d2, _, _, _⟩ := hw7.at_ q hlq
                rw [HWQ.out] at d1 d2
                clear hd7 tn7 hw6
                clear ho5
                go_wp2_with (go_at_call 11; refine (num_any _ _).mono ?_; rintro e w' ⟨rfl, rfl⟩)
                go_roundw
                case rel => exact ⟨q + 1, by omega, by go_num, hw7⟩
                case measure => simp [intOf]; omega
              · have hef : 0 ≤ ef := by
                  rcases hrng with h | h
                  · injection h with h1 h2; omega
                  · simp only at h; omega
                obtain ⟨ef, rfl⟩ := Int.eq_ofNat_of_zero_le hef
                have HWQ := Lib.hid hWq
                have t1 := htr 5 7 false (by omega) (by omega) hrng
                have t3 := htr 0 1 true (by omega) (by omega) hrng
                rw [e1] at t1
                rw [e2] at t3
                have s1 : ioTrC ps2 l2 0 ((q : Int) * 64 + 5) 7 false = 0 ∧ ioTrP ps2 l2 0 ((q : Int) * 64 + 5) 7 false = [(ef, 5, 7)] := ⟨t1.1.trans (by simp [hasP]), t1.2.trans (by simp [hasP])⟩
                have s3 : ioTrC ps2 l2 0 ((q : Int) * 64) 1 true = 703 ∧ ioTrP ps2 l2 0 ((q : Int) * 64) 1 true = [] := ⟨t3.1.trans (by simp [hasP]), t3.2.trans (by simp [hasP])⟩
                have S1 := Lib.hid s1; have S3 := Lib.hid s3
                clear t1 t3 s1 s3 htr ht2 hrng hvw hot hWq e1 e2
                go_wp2_with fail
                refine (tr_w 0 ((q : Int) * 64 + 5) 7 0 false _ hwq.wd S1.out.1 S1.out.2).mono ?_
                rintro e w5 ⟨A5, cap5, rfl, ho5, hd5, tn5⟩
                have hw5 := hwq.call hd5 tn5
                clear hd5 tn5 hwq
                go_wp2_with fail
                refine (tr_w 1 ((q : Int) * 64) 1 702 false [] hw5.wd HT2.out.1 HT2.out.2).mono ?_
                rintro e w6 ⟨A6, cap6, rfl, _, hd6, tn6⟩
                replace ho5 := (hw5.wd.kp tn6).own ho5 (by decide) (by decide)
                have hw6 := hw5.call hd6 tn6
                clear hd6 tn6 hw5
                go_wp2_with fail
                refine (tr_w 0 ((q : Int) * 64) 1 703 true _ hw6.wd S3.out.1 S3.out.2).mono ?_
                rintro e w7 ⟨A7, cap7, rfl, _, hd7, tn7⟩
                replace ho5 := (hw6.wd.kp tn7).own ho5 (by decide) (by decide)
                have hw7 := hw6.call hd7 tn7
                obtain ⟨d1, d2, _, _, _⟩ := hw7.at_ q hlq
                rw [HWQ.out] at d1 d2
                clear hd7 tn7 hw6
                have hsl := Sl.own ho5
                go_wp2_with (go_at_call 11; refine (num_any _ _).mono ?_; rintro e w' ⟨rfl, rfl⟩)
                have bl : Below w7.heap.size w7 (w7.alloc (.cells (flat [(ef, 5, 7)]).toArray 66)) := (Below.refl _ _).alloc (Nat.le_refl _) _
                have hlit := Sl.lit w7 (flat [(ef, 5, 7)]) 1 3 66 rfl
                replace hsl := hsl.below bl
                have hw8 := hw7.alloc (.cells (flat [(ef, 5, 7)]).toArray 66)
                clear bl hw7
                refine (same_yes _ _ [(ef, 5, 7)] _ hsl hlit (by simp)).mono ?_
                rintro e w9 ⟨rfl, q9, rfl⟩
                have hw9 := hw8.drewN q9
                clear hw8 hsl hlit
                go_wp2_with (go_at_call 11; refine (num_any _ _).mono ?_; rintro e w' ⟨rfl, rfl⟩)
                go_roundw
                case rel => exact ⟨q + 1, by omega, by go_num, hw9⟩
                case measure => simp [intOf]; omega
              · have t1 := htr 5 7 false (by omega) (by omega) hrng
                have t3 := htr 0 1 true (by omega) (by omega) hrng
                rw [e1] at t1
                rw [e2] at t3
                have s1 : ioTrC ps2 l2 0 ((q : Int) * 64 + 5) 7 false = 703 ∧ ioTrP ps2 l2 0 ((q : Int) * 64 + 5) 7 false = [] := ⟨t1.1.trans (by simp [hasP]), t1.2.trans (by simp [hasP])⟩
                have s3 : ioTrC ps2 l2 0 ((q : Int) * 64) 1 true = 0 ∧ ioTrP ps2 l2 0 ((q : Int) * 64) 1 true = [(ef.toNat, 0, 1)] := ⟨t3.1.trans (by simp [hasP]), t3.2.trans (by simp [hasP])⟩
                have S1 := Lib.hid s1; have S3 := Lib.hid s3
                have HWQ := Lib.hid hWq
                clear t1 t3 s1 s3 htr ht2 hrng hvw hot hWq e1 e2
                go_wp2_with fail
                refine (tr_w 0 ((q : Int) * 64 + 5) 7 703 false _ hwq.wd S1.out.1 S1.out.2).mono ?_
                rintro e w5 ⟨A5, cap5, rfl, ho5, hd5, tn5⟩
                have hw5 := hwq.call hd5 tn5
                clear hd5 tn5 hwq
                go_wp2_with fail
                refine (tr_w 1 ((q : Int) * 64) 1 702 false [] hw5.wd HT2.out.1 HT2.out.2).mono ?_
                rintro e w6 ⟨A6, cap6, rfl, _, hd6, tn6⟩
                replace ho5 := (hw5.wd.kp tn6).own ho5 (by decide) (by decide)
                have hw6 := hw5.call hd6 tn6
                clear hd6 tn6 hw5
                go_wp2_with fail
                refine (tr_w 0 ((q : Int) * 64) 1 0 true _ hw6.wd S3.out.1 S3.out.2).mono ?_
                rintro e w7 ⟨A7, cap7, rfl, _, hd7, tn7⟩
                replace ho5 := (hw6.wd.kp tn7).own ho5 (by decide) (by decide)
                have hw7 := hw6.call hd7 tn7
                obtain ⟨d1, d2, _, _, _⟩ := hw7.at_ q hlq
                rw [HWQ.out] at d1 d2
                clear hd7 tn7 hw6
                clear ho5
                go_wp2_with (go_at_call 11; refine (num_any _ _).mono ?_; rintro e w' ⟨rfl, rfl⟩)
                go_roundw
                case rel => exact ⟨q + 1, by omega, by go_num, hw7⟩
                case measure => simp [intOf]; omega
              · have hef : 0 ≤ ef := by
                  rcases hrng with h | h
                  · injection h with h1 h2; omega
                  · simp only at h; omega
                obtain ⟨ef, rfl⟩ := Int.eq_ofNat_of_zero_le hef
                have HWQ := Lib.hid hWq
                have t1 := htr 5 7 false (by omega) (by omega) hrng
                have t3 := htr 0 1 true (by omega) (by omega) hrng
                rw [e1] at t1
                rw [e2] at t3
                have s1 : ioTrC ps2 l2 0 ((q : Int) * 64 + 5) 7 false = 0 ∧ ioTrP ps2 l2 0 ((q : Int) * 64 + 5) 7 false = [(ef, 5, 7)] := ⟨t1.1.trans (by simp [hasP]), t1.2.trans (by simp [hasP])⟩
                have s3 : ioTrC ps2 l2 0 ((q : Int) * 64) 1 true = 0 ∧ ioTrP ps2 l2 0 ((q : Int) * 64) 1 true = [(ef, 0, 1)] := ⟨t3.1.trans (by simp [hasP]), t3.2.trans (by simp [hasP])⟩
                have S1 := Lib.hid s1; have S3 := Lib.hid s3
                clear t1 t3 s1 s3 htr ht2 hrng hvw hot hWq e1 e2
                go_wp2_with fail
                refine (tr_w 0 ((q : Int) * 64 + 5) 7 0 false _ hwq.wd S1.out.1 S1.out.2).mono ?_
                rintro e w5 ⟨A5, cap5, rfl, ho5, hd5, tn5⟩
                have hw5 := hwq.call hd5 tn5
                clear hd5 tn5 hwq
                go_wp2_with fail
                refine (tr_w 1 ((q : Int) * 64) 1 702 false [] hw5.wd HT2.out.1 HT2.out.2).mono ?_
                rintro e w6 ⟨A6, cap6, rfl, _, hd6, tn6⟩
                replace ho5 := (hw5.wd.kp tn6).own ho5 (by decide) (by decide)
                have hw6 := hw5.call hd6 tn6
                clear hd6 tn6 hw5
                go_wp2_with fail
                refine (tr_w 0 ((q : Int) * 64) 1 0 true _ hw6.wd S3.out.1 S3.out.2).mono ?_
                rintro e w7 ⟨A7, cap7, rfl, _, hd7, tn7⟩
                replace ho5 := (hw6.wd.kp tn7).own ho5 (by decide) (by decide)
                have hw7 := hw6.call hd7 tn7
                obtain ⟨d1, d2, _, _, _⟩ := hw7.at_ q hlq
                rw [HWQ.out] at d1 d2
                clear hd7 tn7 hw6
                have hsl := Sl.own ho5
                go_wp2_with (go_at_call 11; refine (num_any _ _).mono ?_; rintro e w' ⟨rfl, rfl⟩)
                have bl : Below w7.heap.size w7 (w7.alloc (.cells (flat [(ef, 5, 7)]).toArray 66)) := (Below.refl _ _).alloc (Nat.le_refl _) _
                have hlit := Sl.lit w7 (flat [(ef, 5, 7)]) 1 3 66 rfl
                replace hsl := hsl.below bl
                have hw8 := hw7.alloc (.cells (flat [(ef, 5, 7)]).toArray 66)
                clear bl hw7
                refine (same_yes _ _ [(ef, 5, 7)] _ hsl hlit (by simp)).mono ?_
                rintro e w9 ⟨rfl, q9, rfl⟩
                have hw9 := hw8.drewN q9
                clear hw8 hsl hlit
                go_wp2_with (go_at_call 11; refine (num_any _ _).mono ?_; rintro e w' ⟨rfl, rfl⟩)
                go_roundw
                case rel => exact ⟨q + 1, by omega, by go_num, hw9⟩
                case measure => simp [intOf]; omega
            · have hge : ¬ ((q : Int) < 48) := by omega
              go_wp2_with fail
              go_roundw
              case rel => exact ⟨k + 1, _, _, by omega, by go_num, hwq, HMM⟩
              case measure => simp [intOf]; omega
      · have hk3 : (K == 3) = false := by simpa using hK3
        go_wp2_with fail
        obtain ⟨d1, d2, d3, d4, d5⟩ := hw.at_ p hpl
        have hpl' : (p : Int) < 48 := by omega
        go_still_tail 18, (by kernel_rfl)
        change wpList _ _ _ _ _ wr.drew
        have hwd := hw.drewN 1
        change Wn w g x t h l W wr.drew at hwd
        replace d1 : wr.drew.cell? ⟨h, p * 2, none⟩ = some (.int .i64 (W p).1) := d1
        replace d2 : wr.drew.cell? ⟨h, p * 2 + 1, none⟩ = some (.int .i64 (W p).2) := d2
        replace d3 : wr.drew.frozen? ⟨h, p * 2, none⟩ = false := d3
        replace d4 : wr.drew.frozen? ⟨h, p * 2 + 1, none⟩ = false := d4
        replace d5 : h < wr.drew.heap.size := d5
        generalize wr.drew = w4 at *
        have hwn := hwd.set p hpl (7 + F) (1 + Q % 3)
        obtain ⟨c1, c2, _, _, _⟩ := hwn.at_ p hpl
        have hup : updW W p (7 + F, 1 + Q % 3) p = (7 + F, 1 + Q % 3) := by unfold updW; rw [if_pos rfl]
        rw [hup] at c1 c2
        have hmp := HM.out.map p hpl (7 + F) (1 + Q % 3) (by omega) (by omega) (by omega) (by omega)
        have HC := Lib.hid hmp.1; have HM2 := Lib.hid hmp.2
        clear hmp hup hw
        go_wp2_with fail
        clear c1 c2 d1 d2 d3 d4 d5 hwd
        generalize ((w4.setCell ⟨h, p * 2, none⟩ (.int .i64 (7 + F))).setCell ⟨h, p * 2 + 1, none⟩ (.int .i64 (1 + Q % 3))) = w5 at *
        refine (map_w 0 (p : Int) (7 + F) (1 + Q % 3) 0 hwn.wd HC.out rfl).mono ?_
        rintro e w6 ⟨rfl, hw6, tn6⟩
        replace hwn := hwn.call hw6 tn6
        clear hw6 tn6 HC
        obtain ⟨l2, hl2⟩ : ∃ l2, ioMapL ps2 l 0 p (7 + F) (1 + Q % 3) = l2 := ⟨_, rfl⟩
        obtain ⟨W2, hW2⟩ : ∃ W2, updW W p (7 + F, 1 + Q % 3) = W2 := ⟨_, rfl⟩
        rw [hl2, hW2] at hwn
        have HMM : Hid (MI l2 W2) := Lib.hid (by rw [← hl2, ← hW2]; exact HM2.out)
        clear HM2 hl2 hW2 HM
        go_wp2_with (go_at_call 11; refine (num_any _ _).mono ?_; rintro e w' ⟨rfl, rfl⟩)
        try clear hw
        go_loopw [10] (fun i wq => ∃ (q : Nat), q ≤ 48 ∧ i = .int .i64 q ∧ Wn w g x t h l2 W2 wq) (fun i _ => 48 - (intOf i).toNat)
        case atStart => exact ⟨0, by omega, rfl, hwn⟩
        case round =>
          clear hwn
          obtain ⟨q, hq, rfl, hwq⟩ := hrel
          by_cases hlq : q < 48
          · have hlq' : (q : Int) < 48 := by omega
            have hrng := HMM.out.rng q hlq
            have hvw := HMM.out.want q hlq
            have hot := HMM.out.other q (by omega)
            obtain ⟨d1, d2, _, _, _⟩ := hwq.at_ q hlq
            generalize hWq : W2 q = EE at hrng hvw d1 d2
            obtain ⟨ef, em⟩ := EE
            have e1 : ((q * 64 + 5 : Nat) : Int) = (q : Int) * 64 + 5 := by omega
            have e2 : ((q * 64 + 0 : Nat) : Int) = (q : Int) * 64 := by omega
            have htr := fun o' n' wr' h1 h2 he => page_tr l2 0 0 q o' n' wr' (by omega) h1 h2 (by decide) rfl (ef, em) hvw he
            have ht2 := page_tr l2 4 1 q 0 1 false (by omega) (by omega) (by omega) (by decide) rfl (0, 0) hot (.inl rfl)
            rw [e2] at ht2
            have HT2 := Lib.hid ht2
            have hem : em = 0 ∨ em = 1 ∨ em = 2 ∨ em = 3 := by
              rcases hrng with h | h
              · injection h with h1 h2; omega
              · simp only at h; omega
            rcases hem with rfl | rfl | rfl | rfl
            · have t1 := htr 5 7 false (by omega) (by omega) hrng
              have t3 := htr 0 1 true (by omega) (by omega) hrng
              rw [e1] at t1
              rw [e2] at t3
              have s1 : ioTrC ps2 l2 0 ((q : Int) * 64 + 5) 7 false = 702 ∧ ioTrP ps2 l2 0 ((q : Int) * 64 + 5) 7 false = [] := ⟨t1.1.trans (by simp [hasP]), t1.2.trans (by simp [hasP])⟩
              have s3 : ioTrC ps2 l2 0 ((q : Int) * 64) 1 true = 702 ∧ ioTrP ps2 l2 0 ((q : Int) * 64) 1 true = [] := ⟨t3.1.trans (by simp [hasP]), t3.2.trans (by simp [hasP])⟩
              have S1 := Lib.hid s1; have S3 := Lib.hid s3
              have HWQ := Lib.hid hWq
              clear t1 t3 s1 s3 htr ht2 hrng hvw hot hWq e1 e2
              go_wp2_with fail
              refine (tr_w 0 ((q : Int) * 64 + 5) 7 702 false _ hwq.wd S1.out.1 S1.out.2).mono ?_
              rintro e w5 ⟨A5, cap5, rfl, ho5, hd5, tn5⟩
              have hw5 := hwq.call hd5 tn5
              clear hd5 tn5 hwq
              go_wp2_with fail
              refine (tr_w 1 ((q : Int) * 64) 1 702 false [] hw5.wd HT2.out.1 HT2.out.2).mono ?_
              rintro e w6 ⟨A6, cap6, rfl, _, hd6, tn6⟩
              replace ho5 := (hw5.wd.kp tn6).own ho5 (by decide) (by decide)
              have hw6 := hw5.call hd6 tn6
              clear hd6 tn6 hw5
              go_wp2_with fail
              refine (tr_w 0 ((q : Int) * 64) 1 702 true _ hw6.wd S3.out.1 S3.out.2).mono ?_
              rintro e w7 ⟨A7, cap7, rfl, _, hd7, tn7⟩
              replace ho5 := (hw6.wd.kp tn7).own ho5 (by decide) (by decide)
              have hw7 := hw6.call hd7 tn7
              obtain ⟨d1, d2, _, _, _⟩ := hw7.at_ q hlq
              rw [HWQ.out] at d1 d2
              clear hd7 tn7 hw6
              clear ho5
              go_wp2_with (go_at_call 11; refine (num_any _ _).mono ?_; rintro e w' ⟨rfl, rfl⟩)
              go_roundw
              case rel => exact ⟨q + 1, by omega, by go_num, hw7⟩
              case measure => simp [intOf]; omega
            · have hef : 0 ≤ ef := by
                rcases hrng with h | h
                · injection h with h1 h2; omega
                · simp only at h; omega
              obtain ⟨ef, rfl⟩ := Int.eq_ofNat_of_zero_le hef
              have HWQ := Lib.hid hWq
              have t1 := htr 5 7 false (by omega) (by omega) hrng
              have t3 := htr 0 1 true (by omega) (by omega) hrng
              rw [e1] at t1
              rw [e2] at t3
              have s1 : ioTrC ps2 l2 0 ((q : Int) * 64 + 5) 7 false = 0 ∧ ioTrP ps2 l2 0 ((q : Int) * 64 + 5) 7 false = [(ef, 5, 7)] := ⟨t1.1.trans (by simp [hasP]), t1.2.trans (by simp [hasP])⟩
              have s3 : ioTrC ps2 l2 0 ((q : Int) * 64) 1 true = 703 ∧ ioTrP ps2 l2 0 ((q : Int) * 64) 1 true = [] := ⟨t3.1.trans (by simp [hasP]), t3.2.trans (by simp [hasP])⟩
              have S1 := Lib.hid s1; have S3 := Lib.hid s3
              clear t1 t3 s1 s3 htr ht2 hrng hvw hot hWq e1 e2
              go_wp2_with fail
              refine (tr_w 0 ((q : Int) * 64 + 5) 7 0 false _ hwq.wd S1.out.1 S1.out.2).mono ?_
              rintro e w5 ⟨A5, cap5, rfl, ho5, hd5, tn5⟩
              have hw5 := hwq.call hd5 tn5
              clear hd5 tn5 hwq
              go_wp2_with fail
              refine (tr_w 1 ((q : Int) * 64) 1 702 false [] hw5.wd HT2.out.1 HT2.out.2).mono ?_
              rintro e w6 ⟨A6, cap6, rfl, _, hd6, tn6⟩
              replace ho5 := (hw5.wd.kp tn6).own ho5 (by decide) (by decide)
              have hw6 := hw5.call hd6 tn6
              clear hd6 tn6 hw5
              go_wp2_with fail
              refine (tr_w 0 ((q : Int) * 64) 1 703 true _ hw6.wd S3.out.1 S3.out.2).mono ?_
              rintro e w7 ⟨A7, cap7, rfl, _, hd7, tn7⟩
              replace ho5 := (hw6.wd.kp tn7).own ho5 (by decide) (by decide)
              have hw7 := hw6.call hd7 tn7
              obtain ⟨d1, d2, _, _, _⟩ := hw7.at_ q hlq
              rw [HWQ.out] at d1 d2
              clear hd7 tn7 hw6
              have hsl := Sl.own ho5
              go_wp2_with (go_at_call 11; refine (num_any _ _).mono ?_; rintro e w' ⟨rfl, rfl⟩)
              have bl : Below w7.heap.size w7 (w7.alloc (.cells (flat [(ef, 5, 7)]).toArray 66)) := (Below.refl _ _).alloc (Nat.le_refl _) _
              have hlit := Sl.lit w7 (flat [(ef, 5, 7)]) 1 3 66 rfl
              replace hsl := hsl.below bl
              have hw8 := hw7.alloc (.cells (flat [(ef, 5, 7)]).toArray 66)
              clear bl hw7
              refine (same_yes _ _ [(ef, 5, 7)] _ hsl hlit (by simp)).mono ?_
              rintro e w9 ⟨rfl, q9, rfl⟩
              have hw9 := hw8.drewN q9
              clear hw8 hsl hlit
              go_wp2_with (go_at_call 11; refine (num_any _ _).mono ?_; rintro e w' ⟨rfl, rfl⟩)
              go_roundw
              case rel => exact ⟨q + 1, by omega, by go_num, hw9⟩
              case measure => simp [intOf]; omega
            · have t1 := htr 5 7 false (by omega) (by omega) hrng
              have t3 := htr 0 1 true (by omega) (by omega) hrng
              rw [e1] at t1
              rw [e2] at t3
              have s1 : ioTrC ps2 l2 0 ((q : Int) * 64 + 5) 7 false = 703 ∧ ioTrP ps2 l2 0 ((q : Int) * 64 + 5) 7 false = [] := ⟨t1.1.trans (by simp [hasP]), t1.2.trans (by simp [hasP])⟩
              have s3 : ioTrC ps2 l2 0 ((q : Int) * 64) 1 true = 0 ∧ ioTrP ps2 l2 0 ((q : Int) * 64) 1 true = [(ef.toNat, 0, 1)] := ⟨t3.1.trans (by simp [hasP]), t3.2.trans (by simp [hasP])⟩
              have S1 := Lib.hid s1; have S3 := Lib.hid s3
              have HWQ := Lib.hid hWq
              clear t1 t3 s1 s3 htr ht2 hrng hvw hot hWq e1 e2
              go_wp2_with fail
              refine (tr_w 0 ((q : Int) * 64 + 5) 7 703 false _ hwq.wd S1.out.1 S1.out.2).mono ?_
              rintro e w5 ⟨A5, cap5, rfl, ho5, hd5, tn5⟩
              have hw5 := hwq.call hd5 tn5
              clear hd5 tn5 hwq
              go_wp2_with fail
              refine (tr_w 1 ((q : Int) * 64) 1 702 false [] hw5.wd HT2.out.1 HT2.out.2).mono ?_
              rintro e w6 ⟨A6, cap6, rfl, _, hd6, tn6⟩
              replace ho5 := (hw5.wd.kp tn6).own ho5 (by decide) (by decide)
              have hw6 := hw5.call hd6 tn6
              clear hd6 tn6 hw5
              go_wp2_with fail
              refine (tr_w 0 ((q : Int) * 64) 1 0 true _ hw6.wd S3.out.1 S3.out.2).mono ?_
              rintro e w7 ⟨A7, cap7, rfl, _, hd7, tn7⟩
              replace ho5 := (hw6.wd.kp tn7).own ho5 (by decide) (by decide)
              have hw7 := hw6.call hd7 tn7
              obtain ⟨d1, d2, _, _, _⟩ := hw7.at_ q hlq
              rw [HWQ.out] at d1 d2
              clear hd7 tn7 hw6
              clear ho5
              go_wp2_with (go_at_call 11; refine (num_any _ _).mono ?_; rintro e w' ⟨rfl, rfl⟩)
              go_roundw
              case rel => exact ⟨q + 1, by omega, by go_num, hw7⟩
              case measure => simp [intOf]; omega
            · have hef : 0 ≤ ef := by
                rcases hrng with h | h
                · injection h with h1 h2; omega
                · simp only at h; omega
              obtain ⟨ef, rfl⟩ := Int.eq_ofNat_of_zero_le hef
              have HWQ := Lib.hid hWq
              have t1 := htr 5 7 false (by omega) (by omega) hrng
              have t3 := htr 0 1 true (by omega) (by omega) hrng
              rw [e1] at t1
              rw [e2] at t3
              have s1 : ioTrC ps2 l2 0 ((q : Int) * 64 + 5) 7 false = 0 ∧ ioTrP ps2 l2 0 ((q : Int) * 64 + 5) 7 false = [(ef, 5, 7)] := ⟨t1.1.trans (by simp [hasP]), t1.2.trans (by simp [hasP])⟩
              have s3 : ioTrC ps2 l2 0 ((q : Int) * 64) 1 true = 0 ∧ ioTrP ps2 l2 0 ((q : Int) * 64) 1 true = [(ef, 0, 1)] := ⟨t3.1.trans (by simp [hasP]), t3.2.trans (by simp [hasP])⟩
              have S1 := Lib.hid s1; have S3 := Lib.hid s3
              clear t1 t3 s1 s3 htr ht2 hrng hvw hot hWq e1 e2
              go_wp2_with fail
              refine (tr_w 0 ((q : Int) * 64 + 5) 7 0 false _ hwq.wd S1.out.1 S1.out.2).mono ?_
              rintro e w5 ⟨A5, cap5, rfl, ho5, hd5, tn5⟩
              have hw5 := hwq.call hd5 tn5
              clear hd5 tn5 hwq
              go_wp2_with fail
              refine (tr_w 1 ((q : Int) * 64) 1 702 false [] hw5.wd HT2.out.1 HT2.out.2).mono ?_
              rintro e w6 ⟨A6, cap6, rfl, _, hd6, tn6⟩
              replace ho5 := (hw5.wd.kp tn6).own ho5 (by decide) (by decide)
              have hw6 := hw5.call hd6 tn6
              clear hd6 tn6 hw5
              go_wp2_with fail
              refine (tr_w 0 ((q : Int) * 64) 1 0 true _ hw6.wd S3.out.1 S3.out.2).mono ?_
              rintro e w7 ⟨A7, cap7, rfl, _, hd7, tn7⟩
              replace ho5 := (hw6.wd.kp tn7).own ho5 (by decide) (by decide)
              have hw7 := hw6.call hd7 tn7
              obtain ⟨d1, d2, _, _, _⟩ := hw7.at_ q hlq
              rw [HWQ.out] at d1 d2
              clear hd7 tn7 hw6
              have hsl := Sl.own ho5
              go_wp2_with (go_at_call 11; refine (num_any _ _).mono ?_; rintro e w' ⟨rfl, rfl⟩)
              have bl : Below w7.heap.size w7 (w7.alloc (.cells (flat [(ef, 5, 7)]).toArray 66)) := (Below.refl _ _).alloc (Nat.le_refl _) _
              have hlit := Sl.lit w7 (flat [(ef, 5, 7)]) 1 3 66 rfl
              replace hsl := hsl.below bl
              have hw8 := hw7.alloc (.cells (flat [(ef, 5, 7)]).toArray 66)
              clear bl hw7
              refine (same_yes _ _ [(ef, 5, 7)] _ hsl hlit (by simp)).mono ?_
              rintro e w9 ⟨rfl, q9, rfl⟩
              have hw9 := hw8.drewN q9
              clear hw8 hsl hlit
              go_wp2_with (go_at_call 11; refine (num_any _ _).mono ?_; rintro e w' ⟨rfl, rfl⟩)
              go_roundw
              case rel => exact ⟨q + 1, by omega, by go_num, hw9⟩
              case measure => simp [intOf]; omega
          · have hge : ¬ ((q : Int) < 48) := by omega
            go_wp2_with fail
            go_roundw
            case rel => exact ⟨k + 1, _, _, by omega, by go_num, hwq, HMM⟩
            case measure => simp [intOf]; omega
    · have hb := hw.wd.b
      have hx : (k : Int) ≥ n ∨ ((k : Int) < n ∧ decide ((k : Int) < 40) = false) := by
        by_cases h1 : k < n
        · exact .inr ⟨by omega, by simp; omega⟩
        · exact .inl (by omega)
      clear hgo hw HM
      rcases hx with hx | ⟨hx, hx2⟩
      all_goals
        go_wp2_with fail
        go_ret
        exact ⟨rfl, hb⟩

end Go.Proofs.Ytkiijohmadeofaa
