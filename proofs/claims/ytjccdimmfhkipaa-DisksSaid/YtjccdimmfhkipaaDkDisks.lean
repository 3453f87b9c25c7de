/-
  Layer 19's law Disks: it answers true for every input.
-/
import Derived.Test.YtjccdimmfhkipaaDkLaw
namespace Go.Proofs.Ytjccdimmfhkipaa
open Go.RowKit Go.ChangeShapes Go.WideShapes Go.Deep
set_option linter.unusedVariables false
set_option linter.unusedSimpArgs false
set_option maxRecDepth 100000

/-- The act's cells. -/
theorem actd_cells {w : World} {h : Nat} {t : TypeId} {K P A M : Int} {s : ByteArray} (ha : Blk w h t [.int .i64 K, .int .i64 P, .int .i64 A, .int .i64 M, .string s]) : w.cell? ⟨h, 0, none⟩ = some (.int .i64 K) ∧ w.cell? ⟨h, 1, none⟩ = some (.int .i64 P) ∧ w.cell? ⟨h, 2, none⟩ = some (.int .i64 A) ∧ w.cell? ⟨h, 3, none⟩ = some (.int .i64 M) ∧ w.cell? ⟨h, 4, none⟩ = some (.string s) :=
  ⟨by rw [ha.cell]; rfl, by rw [ha.cell]; rfl, by rw [ha.cell]; rfl, by rw [ha.cell]; rfl, by rw [ha.cell]; rfl⟩

set_option maxHeartbeats 8000000 in
theorem disks_yes (u : Value) (N : Nat) (q : Int) (v : Value) (l : List Pa) (m : Nat) (xs : List Value) (w : World) (hs : PaS w u l) (hz : PaZ l) (hE : extB (l.map Pa.fc) N = true) (q0 : 0 ≤ q) (q64 : q ≤ 64)
    (hv : Sl w v m 5 xs) (hm : m ≤ maxLen) (hr : ∀ i, i < m → ActD xs i) :
    Calls Try.prog 3 #[u, .int .i64 N, .int .i64 q, v] w fun e w' => e = .returned (.bool true) ∧ Below w.heap.size w w' := by
  have HS := Lib.hid hs; have HZ := Lib.hid hz; have HE := Lib.hid hE
  obtain ⟨A0, cap0, hu, -⟩ := hs
  obtain ⟨n, hln⟩ : ∃ n, l.length = n := ⟨_, rfl⟩
  have HLN := Lib.hid hln
  have hlm : (l.map Pa.fc).length = n := by rw [List.length_map]; exact hln
  have hn14 := extB_parts hE
  rw [hlm] at hn14
  obtain ⟨hn1, hn4, -, -, -⟩ := hn14
  rw [hln] at hu
  subst hu
  obtain ⟨A3, cap3, hv3, -, -, hA3⟩ := hv
  subst hv3
  have HA3 := Lib.hid hA3; have HR := Lib.hid hr
  unfold maxLen at hm
  have HLM := Lib.hid hlm
  clear hz hE hln hA3 hr hlm
  go_enter Try.func3, Try.ntmps3
  go_wp2_with fail
  refine (copy_parts _ l _ HS.out HZ.out).mono ?_
  rintro e w1 ⟨x, rfl, ho, hb⟩
  obtain ⟨Lp, hLp, hrow, hfr⟩ := ho
  have HX := Lib.hid (show PaS w1 x l from PaO.pas ⟨Lp, hLp, hrow, hfr⟩)
  have hLpn : Lp.length = n := by rw [← HLN.out, ← hLp, List.length_map]
  rw [hLpn] at hrow
  have HT := Lib.hid ((Tk.empty w).addR hb hrow)
  have HFI : Hid (FiI (pcl Lp) n ∧ (pcl Lp).length = n * 5) := Lib.hid ⟨by rw [← hLpn]; exact FiI.of Lp, by rw [pcl_len, hLpn]⟩
  obtain ⟨bx, cx, ex, -⟩ := hrow.form (by omega)
  subst ex
  have HB1 := Lib.hid hb
  clear hb hrow hfr hLp
  generalize pcl Lp = ys at *
  clear hLpn Lp
  go_wp2_with fail
  refine (dnew_yes _ _ _ _ _ (HX.out.pts HZ.out) HE.out q0 q64).mono ?_
  rintro e w2 ⟨g, rfl, t2⟩
  have HX := Lib.hid (HX.out.below t2.below)
  have HT := Lib.hid (HT.out.add (ps := [_]) t2)
  clear t2 HB1
  go_wp2_with fail
  refine (rdnew_yes _ _ _ _ _ ((HS.out.below HT.out.below).pts HZ.out) HE.out q0 q64).mono ?_
  rintro e w3 ⟨r, rfl, t3⟩
  have HX := Lib.hid (HX.out.below t3.below)
  have HT := Lib.hid (HT.out.add (ps := [_]) t3)
  clear t3
  obtain ⟨ps, hps⟩ : ∃ ps, l.map Pa.fc = ps := ⟨_, rfl⟩
  rw [hps] at HT HLM
  generalize qF q ps.length = L0 at HT
  generalize zeros 1024 = l0 at HT
  have S1 : Hid (Tk nos w [obRD r ps N q L0 l0, obPD g ps q L0 l0, obR 39 5 (.slice (some ⟨bx, 0, none⟩) n cx) n ys] w3) := Lib.hid HT.out
  clear HT hps HE
  go_wp2_with (go_at_call 11; refine (num_any _ _).mono ?_; rintro e w' ⟨rfl, rfl⟩)
  have hsm := same_parts _ _ l _ HX.out (HS.out.below S1.out.below) HZ.out
  refine hsm.mono ?_
  rintro e w4 ⟨rfl, qq, rfl⟩
  have S2 := Lib.hid (S1.out.drewN qq)
  clear hsm S1 HX HS HZ
  generalize w3.drewN qq = w4 at *
  go_wp2_with fail
  go_loopw [14] (fun i wr => ∃ k : Nat, k ≤ n ∧ i = .int .i64 k ∧ Hid (∃ ys : List Value, (FiI ys n ∧ ys.length = n * 5) ∧ Tk nos w [obRD r ps N q L0 l0, obPD g ps q L0 l0, obR 39 5 (.slice (some ⟨bx, 0, none⟩) n cx) n ys] wr)) (fun i _ => n - (intOf i).toNat)
  case atStart => exact ⟨0, by omega, rfl, Lib.hid ⟨ys, HFI.out, S2.out⟩⟩
  case round =>
    clear S2 HFI
    obtain ⟨k, hk, rfl, H⟩ := hrel
    by_cases hlt : k < n
    · obtain ⟨zs, ⟨hfi, hzl⟩, tk⟩ := H.out
      obtain ⟨fi, hfik⟩ := hfi k hlt
      have hrow := tk.row (i := 2) rfl
      have c0 : wr.cell? ⟨bx, k * 5 + 3, none⟩ = some (.int .i64 fi) := by rw [hrow.cellAt _ (by omega)]; exact hfik
      have f0 := hrow.frozenAt (k * 5 + 3)
      have hltI : (k : Int) < n := by omega
      obtain ⟨own2, gr2⟩ := hrow.stored (k * 5 + 3) (.int .i64 (bits BinOp.xor IntKind.i64 fi 90))
      have t2 := tk.turnR (i := 2) rfl gr2 own2 (fun x hx => .inl hx)
      have T2 : Hid (∃ ys : List Value, (FiI ys n ∧ ys.length = n * 5) ∧ Tk nos w [obRD r ps N q L0 l0, obPD g ps q L0 l0, obR 39 5 (.slice (some ⟨bx, 0, none⟩) n cx) n ys] (wr.setCell ⟨bx, k * 5 + 3, none⟩ (.int .i64 (bits BinOp.xor IntKind.i64 fi 90)))) := Lib.hid ⟨_, ⟨hfi.set k _ hzl, by rw [List.length_set]; exact hzl⟩, t2⟩
      clear tk hrow own2 gr2 t2 hfi hzl hfik H
      go_wp2_with fail
      go_roundw
      case rel => exact ⟨k + 1, by omega, by go_num, T2⟩
      case measure => simp [intOf]; omega
    · obtain rfl : n = k := by omega
      have S3 : Hid (BoD w g r ps N q wr) := by
        obtain ⟨zs, _, tk⟩ := H.out
        exact Lib.hid ⟨L0, l0, (tk.perm (.swap _ _ _)).drop 2⟩
      clear H hlt hk
      go_wp2_with fail
      generalize wr = w5 at *
      go_loopw [15] (fun i wr => ∃ (k : Nat), k ≤ m ∧ k ≤ 60 ∧ i = .int .i64 k ∧ Hid (BoD w g r ps N q wr)) (fun i _ => 60 - (intOf i).toNat)
      case atStart => exact ⟨0, by omega, by omega, rfl, S3⟩
      case round =>
        clear S3
        obtain ⟨k, hkn, hk60, rfl, HS⟩ := hrel
        by_cases hgo : k < m ∧ k < 60
        · obtain ⟨hlt, h60⟩ := hgo
          obtain ⟨b, o, rfl, hbw, hcell⟩ := HA3.out (by omega)
          obtain ⟨K, P, A, M, s, x0, x1, x2, x3, x4, hs⟩ := HR.out k hlt
          obtain ⟨L, l, tk⟩ := HS.out
          have hbel := tk.below
          have c0 := (hbel.cell (p := ⟨b, o + k * 5, none⟩) hbw).trans (hcell _ _ x0)
          have y1 := hcell _ _ x1
          have y2 := hcell _ _ x2
          have y3 := hcell _ _ x3
          have y4 := hcell _ _ x4
          rw [← Nat.add_assoc] at y1 y2 y3 y4
          have c1 := (hbel.cell (p := ⟨b, o + k * 5 + 1, none⟩) hbw).trans y1
          have c2 := (hbel.cell (p := ⟨b, o + k * 5 + 2, none⟩) hbw).trans y2
          have c3 := (hbel.cell (p := ⟨b, o + k * 5 + 3, none⟩) hbw).trans y3
          have c4 := (hbel.cell (p := ⟨b, o + k * 5 + 4, none⟩) hbw).trans y4
          have hltI : (k : Int) < m := by omega
          have h60d : decide ((k : Int) < 60) = true := by simp; omega
          have ta := tk.alloc 41 [.int .i64 K, .int .i64 P, .int .i64 A, .int .i64 M, .string s]
          have HT := Lib.hid ta
          clear tk hbel y1 y2 y3 y4 hcell x0 x1 x2 x3 x4 ta HS
          go_upto_block 4 with fail
          go_cut [17, 18, 19, 20, 21, 22, 23, 24, 25, 26, 27] (fun want got s1 t1 _ _ _ _ _ _ _ wx => ∃ (C : Int) (X : ByteArray), want = .int .i64 C ∧ got = .int .i64 C ∧ s1 = .string X ∧ t1 = .string X ∧ Hid (BoD w g r ps N q wx))
          case first =>
            have hsz := HT.out.size
            generalize wr.alloc (.cells #[.int .i64 K, .int .i64 P, .int .i64 A, .int .i64 M, .string s] 41) = w5 at *
            generalize wr.heap.size = hh at *
            obtain ⟨a0, a1, a2, a3, a4⟩ := actd_cells (HT.out.blk (i := 0) rfl)
            clear c0 c1 c2 c3 c4
            rcases (show K < 3 ∨ (3 ≤ K ∧ K < 6) ∨ (6 ≤ K ∧ K < 8) ∨ 8 ≤ K by omega) with hK | hK | hK | hK
            · -- a Write
              have hk3 : K < 3 := hK
              go_wp2_with fail
              refine (tk_dwrite (i := 1) P A s _ HT.out rfl hs _ rfl rfl).mono ?_
              rintro e w6 ⟨rfl, t6⟩
              obtain ⟨a0, a1, a2, a3, a4⟩ := actd_cells (t6.blk (i := 0) rfl)
              have T6 := Lib.hid t6
              clear t6 HT
              go_wp2_with (go_at_call 11; refine (num_any _ _).mono ?_; rintro e w' ⟨rfl, rfl⟩)
              refine (tk_rwrite (i := 2) P A s _ T6.out rfl hs).mono ?_
              rintro e w7 ⟨rfl, t7⟩
              have T7 : Hid (BoD w g r ps N q w7) := Lib.hid ⟨_, _, Tk.tail (a := obB hh 41 [.int .i64 K, .int .i64 P, .int .i64 A, .int .i64 M, .string s]) t7⟩
              generalize dwC ps P A s.data.toList = C at *
              clear t7 T6 a0 a1 a2 a3 a4
              go_wp2_with fail
              go_meet
              exact ⟨C, ⟨#[]⟩, rfl, rfl, rfl, rfl, T7⟩
            · -- a Read
              have hk3 : ¬ K < 3 := by omega
              have hk6 : K < 6 := by omega
              go_wp2_with fail
              refine (tk_dread (i := 1) P A M _ HT.out rfl _ _ rfl rfl).mono ?_
              rintro e w6 ⟨rfl, t6⟩
              obtain ⟨a0, a1, a2, a3, a4⟩ := actd_cells (t6.blk (i := 0) rfl)
              have T6 := Lib.hid t6
              clear t6 HT
              go_wp2_with (go_at_call 11; refine (num_any _ _).mono ?_; rintro e w' ⟨rfl, rfl⟩)
              refine (tk_rread (i := 2) P A M _ T6.out rfl).mono ?_
              rintro e w7 ⟨rfl, t7⟩
              have T7 : Hid (BoD w g r ps N q w7) := Lib.hid ⟨_, _, Tk.tail (a := obB hh 41 [.int .i64 K, .int .i64 P, .int .i64 A, .int .i64 M, .string s]) t7⟩
              generalize (toC ps P A M).2 = C at *
              generalize str (drT ps l P A M) = X at *
              clear t7 T6 a0 a1 a2 a3 a4
              go_wp2_with (go_at_call 11; refine (num_any _ _).mono ?_; rintro e w' ⟨rfl, rfl⟩)
              go_meet
              exact ⟨C, X, rfl, rfl, rfl, rfl, T7⟩
            · -- a Spend
              have hk3 : ¬ K < 3 := by omega
              have hk6 : ¬ K < 6 := by omega
              have hk8 : K < 8 := by omega
              go_wp2_with fail
              refine (tk_dspend (i := 1) P M _ HT.out rfl _ rfl rfl).mono ?_
              rintro e w6 ⟨rfl, t6⟩
              obtain ⟨a0, a1, a2, a3, a4⟩ := actd_cells (t6.blk (i := 0) rfl)
              have T6 := Lib.hid t6
              clear t6 HT
              go_wp2_with (go_at_call 11; refine (num_any _ _).mono ?_; rintro e w' ⟨rfl, rfl⟩)
              refine (tk_rspend (i := 2) P M _ T6.out rfl).mono ?_
              rintro e w7 ⟨rfl, t7⟩
              have T7 : Hid (BoD w g r ps N q w7) := Lib.hid ⟨_, _, Tk.tail (a := obB hh 41 [.int .i64 K, .int .i64 P, .int .i64 A, .int .i64 M, .string s]) t7⟩
              generalize dsC ps.length L P M = C at *
              clear t7 T6 a0 a1 a2 a3 a4
              go_wp2_with fail
              go_meet
              exact ⟨C, ⟨#[]⟩, rfl, rfl, rfl, rfl, T7⟩
            · -- an Open
              have hk3 : ¬ K < 3 := by omega
              have hk6 : ¬ K < 6 := by omega
              have hk8 : ¬ K < 8 := by omega
              go_wp2_with fail
              refine (tk_dopen (i := 1) P _ HT.out rfl _ rfl rfl).mono ?_
              rintro e w6 ⟨rfl, t6⟩
              obtain ⟨a0, a1, a2, a3, a4⟩ := actd_cells (t6.blk (i := 0) rfl)
              have T6 := Lib.hid t6
              clear t6 HT
              go_wp2_with (go_at_call 11; refine (num_any _ _).mono ?_; rintro e w' ⟨rfl, rfl⟩)
              refine (tk_ropen (i := 2) P _ T6.out rfl).mono ?_
              rintro e w7 ⟨rfl, t7⟩
              have T7 : Hid (BoD w g r ps N q w7) := Lib.hid ⟨_, _, Tk.tail (a := obB hh 41 [.int .i64 K, .int .i64 P, .int .i64 A, .int .i64 M, .string s]) t7⟩
              generalize doC ps.length P = C at *
              clear t7 T6 a0 a1 a2 a3 a4
              go_wp2_with fail
              go_meet
              exact ⟨C, ⟨#[]⟩, rfl, rfl, rfl, rfl, T7⟩
          case rest =>
            obtain ⟨C, X, rfl, rfl, rfl, rfl, HQ⟩ := hcut
            have HQ := HQ
            clear HT c0 c1 c2 c3 c4
            generalize wc = w5 at *
            have e1 : (C != C) = false := by simp
            go_wp2_with fail
            go_loopw [28] (fun i wr => ∃ pp : Int, -1 ≤ pp ∧ pp ≤ n + 1 ∧ i = .int .i64 pp ∧ Hid (BoD w g r ps N q wr)) (fun i _ => (n + 1 - intOf i).toNat)
            case atStart => exact ⟨-1, by omega, by omega, rfl, HQ⟩
            case round =>
              clear HQ
              obtain ⟨pp, hp0, hp1, rfl, HQ⟩ := hrel
              by_cases hlp : pp ≤ n
              · obtain ⟨L5, l5, tk⟩ := HQ.out
                have H1 := Lib.hid (tk_dleft (i := 0) pp _ tk rfl (dlX ps.length L5 pp) rfl)
                have H2 := Lib.hid (tk_rleft (i := 1) pp _ tk rfl)
                generalize dlX ps.length L5 pp = D at *
                clear tk
                go_wp2_with fail
                refine H1.out.mono ?_
                rintro e w' ⟨rfl, rfl⟩
                go_wp2_with fail
                refine H2.out.mono ?_
                rintro e w' ⟨rfl, rfl⟩
                go_wp2_with fail
                go_roundw
                case rel => exact ⟨pp + 1, by omega, by omega, by go_num, HQ⟩
                case measure => simp [intOf]; omega
              · go_wp2_with fail
                go_roundw
                case rel => exact ⟨k + 1, by omega, by omega, by go_num, HQ⟩
                case measure => simp [intOf]; omega
        · have hx : (k : Int) ≥ m ∨ ((k : Int) < m ∧ decide ((k : Int) < 60) = false) := by
            by_cases h1 : k < m
            · exact .inr ⟨by omega, by simp; omega⟩
            · exact .inl (by omega)
          have HB : Hid (Below w.heap.size w wr) := by
            obtain ⟨L, l, tk⟩ := HS.out
            exact Lib.hid tk.below
          clear hgo HS
          rcases hx with hx | ⟨hx, hx2⟩
          all_goals
            go_wp2_with fail
            refine (dkawake_any _).mono ?_
            rintro e wa ⟨rfl, ba⟩
            have BA := Lib.hid ba
            clear ba
            go_wp2_with fail
            go_ret
            exact ⟨rfl, Below.down HB.out BA.out HB.out.size⟩

theorem law_Disks (u : Value) (s q : Int) (v : Value) (m : Nat) (xs : List Value) (w : World) (h : ∃ l, PaS w u l ∧ PaZ l) (hv : Sl w v m 5 xs) (hm : m ≤ maxLen) (hr : ∀ i, i < m → ActD xs i) :
    Calls Try.prog 3 #[u, .int .i64 s, .int .i64 q, v] w fun e w' => e = .returned (.bool true) ∧ Below w.heap.size w w' := by
  obtain ⟨l, hs, hz⟩ := h
  by_cases hc : extB (l.map Pa.fc) s = true ∧ 0 ≤ q ∧ q ≤ 64
  · obtain ⟨hE, q0, q64⟩ := hc
    obtain ⟨N, rfl⟩ := Int.eq_ofNat_of_zero_le (extB_parts hE).2.2.1
    exact disks_yes u N q v l m xs w hs hz hE q0 q64 hv hm hr
  · exact disks_no u s q v l w hs hz hc

end Go.Proofs.Ytjccdimmfhkipaa
