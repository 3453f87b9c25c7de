/-
  Layer 6's law TlbDrops: it answers true for every input.
-/
import Derived.Test.YtiegonnnokldkaaTlbAwake
import Derived.Test.YtiegonnnokldkaaTlbDr0
import Derived.Test.YtiegonnnokldkaaArgs
import Derived.Deep.CutBlock
import Derived.Deep.DeepCutAuto
namespace Go.Proofs.Ytiegonnnokldkaa
open Go.RowKit Go.Deep
set_option linter.unusedVariables false

/-- The k-th number of a slice of ints. -/
theorem rec1d {w : World} {A : Option Addr} {n c : Nat} {zs : List Int} (h : Sl w (.slice A n c) n 1 (ints zs)) (k : Nat) (hk : k < n) :
    ∃ b o, A = some ⟨b, o, none⟩ ∧ b < w.heap.size ∧ w.cell? ⟨b, o + k, none⟩ = some (.int .i64 (zs.getD k 0)) := by
  obtain ⟨A', c', e, _, hl, hA⟩ := h
  simp only [Value.slice.injEq] at e
  obtain ⟨rfl, _, rfl⟩ := e
  obtain ⟨b, o, rfl, hb, hc⟩ := hA (by omega)
  rw [ints_len] at hl
  exact ⟨b, o, rfl, hb, hc _ _ (ints_get zs _ (by omega))⟩

/-- The program's cache, and the law's own table. -/
structure Dr (w : World) (g h : Nat) (l : List Ln) (F : Nat → Nat → Bool) (w' : World) : Prop where
  pt : PT w' g 16 l.length l
  blk : Blk w' h 48 (cellsF F)
  b : Below w.heap.size w w'
  hg : w.heap.size ≤ g
  hh : w.heap.size ≤ h

section
variable {w w1 w2 : World} {g h : Nat} {l l' : List Ln} {F G : Nat → Nat → Bool}
theorem Dr.ne (d : Dr w g h l F w1) : g ≠ h := by obtain ⟨z, _, hb⟩ := d.pt; exact hb.apart d.blk (by decide)
theorem Dr.below (d : Dr w g h l F w1) (b : Below w1.heap.size w1 w2) : Dr w g h l F w2 := ⟨d.pt.below b d.pt.lt, d.blk.below b d.blk.lt, Below.down d.b b d.b.size, d.hg, d.hh⟩
theorem Dr.drewN (d : Dr w g h l F w1) (n : Nat) : Dr w g h l F (w1.drewN n) := ⟨d.pt.drewN n, d.blk.drewN n, bdrewN d.b n, d.hg, d.hh⟩
theorem Dr.call (d : Dr w g h l F w1) (hp : PT w2 g 16 l'.length l') (gr : w1.grownBy w2 (some g)) : Dr w g h l' F w2 :=
  ⟨hp, d.blk.grown gr (by intro e; injection e with e; exact d.ne e.symm), bone d.b gr d.b.size d.hg, d.hg, d.hh⟩
theorem Dr.set (d : Dr w g h l F w1) (i j : Nat) (b : Bool) (hi : i < 2) (hj : j < 8) : Dr w g h l (upd F i j b) (w1.setCell ⟨h, i * 8 + j, none⟩ (.bool b)) := by
  refine ⟨d.pt.far (p := ⟨h, _, none⟩) d.ne _, ?_, d.b.setCell (p := ⟨h, _, none⟩) d.hh _, d.hg, d.hh⟩
  have := d.blk.set (i * 8 + j) (.bool b)
  rwa [cellsF_set F i j b hi hj] at this
theorem Dr.as (d : Dr w g h l F w1) (e : ∀ d p, d < 2 → p < 8 → F d p = G d p) : Dr w g h l G w1 := ⟨d.pt, by rw [← cellsF_congr F G e]; exact d.blk, d.b, d.hg, d.hh⟩
theorem Dr.at_ (d : Dr w g h l F w1) (i j : Nat) (hi : i < 2) (hj : j < 8) : w1.cell? ⟨h, i * 8 + j, none⟩ = some (.bool (F i j)) := by rw [d.blk.cell, cellsF_get F i j hi hj]
end

theorem beq_cast (a b : Nat) : (((a : Nat) : Int) == ((b : Nat) : Int)) = decide (a = b) := by
  by_cases h : a = b
  · subst h; simp
  · rw [decide_eq_false h]; simp; omega

/-- A table of which the first m of row D are turned. -/
def Fk (F : Nat → Nat → Bool) (D m : Nat) : Nat → Nat → Bool := fun d p => F d p && !(decide (d = D) && decide (p < m))
theorem Fk_next (F : Nat → Nat → Bool) (D m : Nat) : ∀ d p, d < 2 → p < 8 → upd (Fk F D m) D m false d p = Fk F D (m + 1) d p := by
  intro d p _ _
  unfold upd Fk
  by_cases e : d = D ∧ p = m
  · rw [if_pos e, decide_eq_true e.1, decide_eq_true (by omega : p < m + 1)]; simp
  · rw [if_neg e]
    by_cases e1 : d = D
    · have e2 : ¬ p = m := fun h => e ⟨e1, h⟩
      by_cases e3 : p < m
      · rw [decide_eq_true e3, decide_eq_true (by omega : p < m + 1)]
      · rw [decide_eq_false e3, decide_eq_false (by omega : ¬ p < m + 1)]
    · rw [decide_eq_false e1]; simp
theorem tab_keep {w : World} {h D P : Nat} {F : Nat → Nat → Bool} {fb : Bool} (hb : Blk w h 48 (cellsF F)) (hD : D < 2) (hP : P < 8) (e : F D P = fb) : w.cell? ⟨h, D * 8 + P, none⟩ = some (.bool fb) ∧ Blk w h 48 (cellsF F) :=
  ⟨by rw [hb.cell, cellsF_get F D P hD hP, e], hb⟩

def Drs (w : World) (g h : Nat) (w' : World) : Prop := ∃ (l : List Ln) (F : Nat → Nat → Bool), Dr w g h l F w' ∧ Hid (Uq l) ∧ Hid (Keys l) ∧ Hid (Fits l F)

set_option maxRecDepth 100000 in
set_option maxHeartbeats 8000000 in
theorem law_TlbDrops (v v1 : Value) (n n1 : Nat) (zs ys : List Int) (w : World) (hv : Sl w v n 1 (ints zs)) (hn : n ≤ maxLen) (hv1 : Sl w v1 n1 1 (ints ys)) (hn1 : n1 ≤ maxLen) :
    Calls Try.prog 6 #[v, v1] w fun e w' => e = .returned (.bool true) ∧ Below w.heap.size w w' := by
  obtain ⟨A, cap, rfl⟩ : ∃ A cap, v = .slice A n cap := by obtain ⟨A, c, e, _⟩ := hv; exact ⟨A, c, e⟩
  obtain ⟨A1, cap1, rfl⟩ : ∃ A cap, v1 = .slice A n1 cap := by obtain ⟨A, c, e, _⟩ := hv1; exact ⟨A, c, e⟩
  unfold maxLen at hn hn1
  have HV := Lib.hid hv; clear hv
  have HV1 := Lib.hid hv1; clear hv1
  go_enter Try.func6, Try.ntmps6
  go_wp2_with fail
  refine (tawake_any _).mono ?_
  rintro e wa ⟨rfl, ba⟩
  have hsa := ba.size
  go_wp2_with fail
  refine (tnew 16 _ (by omega) (by omega)).mono ?_
  rintro e w1 ⟨rfl, t1, b1⟩
  have b1' := Below.down ba b1 hsa
  rw [show (16 : Int).toNat = 16 from rfl] at t1
  generalize wa.heap.size = g at *
  clear ba b1
  go_wp2_with fail
  refine (num_any _ _).mono ?_
  rintro e w' ⟨rfl, rfl⟩
  go_upto_block 0 with fail
  change Code.wp _ _ _ _ (w1.alloc (.cells (cellsF (fun _ _ => false)).toArray 48))
  have hst : Drs w g w1.heap.size (w1.alloc (.cells (cellsF (fun _ _ => false)).toArray 48)) := ⟨[], fun _ _ => false, ⟨t1.alloc _, Blk.new _ _ _, b1'.alloc b1'.size _, hsa, b1'.size⟩, Lib.hid List.Pairwise.nil, Lib.hid (by intro x hx; cases hx), Lib.hid (by intro d p _ _; rfl)⟩
  generalize w1.alloc (.cells (cellsF (fun _ _ => false)).toArray 48) = w2 at *
  generalize w1.heap.size = h at *
  clear t1 b1'
  go_cut [8] (fun s8 wx => Drs w g h wx)
  case first =>
    go_wp2_with fail
    go_loopw [8] (fun i wq => ∃ (k : Nat), k ≤ n ∧ i = .int .i64 k ∧ Drs w g h wq) (fun i _ => n - (intOf i).toNat)
    case atStart => exact ⟨0, by omega, rfl, hst⟩
    case round =>
      clear hst
      obtain ⟨k, hk, rfl, l, F, hdr, HU, HK, HF⟩ := hrel
      by_cases hgo : k < n ∧ k < 40
      · obtain ⟨hkn, hk40⟩ := hgo
        have hd : decide ((k : Int) < 40) = true := by simp; omega
        obtain ⟨b, o, rfl, hblt, c0⟩ := rec1d HV.out k hkn
        replace c0 := (hdr.b.cell (p := ⟨b, o + k, none⟩) hblt).trans c0
        generalize zs.getD k 0 = z at c0
        have hP := band z 1 (by omega) (by omega)
        have hR := band (z / 2) 7 (by omega) (by omega)
        generalize hP' : bits BinOp.and IntKind.i64 z 1 = D at hP
        generalize hR' : bits BinOp.and IntKind.i64 (z / 2) 7 = P at hR
        obtain ⟨hD0, hD1⟩ := hP
        obtain ⟨hP0, hP1⟩ := hR
        obtain ⟨D, rfl⟩ := Int.eq_ofNat_of_zero_le hD0
        obtain ⟨P, rfl⟩ := Int.eq_ofNat_of_zero_le hP0
        have hD : D < 2 := by omega
        have hP : P < 8 := by omega
        have hmay : mayB D P P (1 + D) = true := decide_eq_true (by omega)
        have hkn' : (k : Int) < n := by omega
        go_wp2_with fail
        go_quiet (fail)
        go_wp2_with fail
        refine (pput_is g 16 l (putL 16 l ⟨D, P, P, 1 + D⟩) D P P (1 + D) 0 _ (hdr.pt.drewN nq) (by omega) (by omega) (keys_len l HU.out HK.out) (by simp [putA, hmay]) (by simp [putC, hmay])).mono ?_
        rintro e w3 ⟨rfl, t3, g3⟩
        have hdr3 := (hdr.drewN nq).call t3 g3
        obtain ⟨hk3, hf3⟩ := put_dr l D P HU.out HK.out (by omega) (by omega)
        have HU3 := Lib.hid (HU.out.put 16 ⟨D, P, P, 1 + D⟩)
        have HK3 := Lib.hid hk3
        have HF3 : Hid (Fits (putL 16 l ⟨D, P, P, 1 + D⟩) (upd F D P true)) := Lib.hid (by
          intro d' p' h1 h2
          rw [hf3 d' p', ← HF.out d' p' h1 h2]
          unfold upd
          by_cases e : d' = D ∧ p' = P
          · rw [if_pos e, decide_eq_true (by omega)]; rfl
          · rw [if_neg e, decide_eq_false (by omega)]; rfl)
        have hdr4 := hdr3.set D P true hD hP
        have hc := hdr3.at_ D P hD hP
        have hfz := hdr3.blk.frozen (D * 8 + P)
        generalize F D P = fb at hc
        clear hdr hdr3 t3 g3 hk3 hf3 c0 hP' hR' hmay HU HK HF
        generalize putL 16 l ⟨D, P, P, 1 + D⟩ = L at *
        generalize upd F D P true = G at *
        go_wp2_with fail
        generalize World.setCell w3 (⟨h, D * 8 + P, none⟩ : Addr) (.bool true) = w4 at *
        refine (num_any _ _).mono ?_
        rintro e w' ⟨rfl, rfl⟩
        go_wp2_with fail
        go_roundw
        case rel => exact ⟨k + 1, by omega, by go_num, L, G, hdr4, HU3, HK3, HF3⟩
        case measure => simp [intOf]; omega
      · have hx : (k : Int) ≥ n ∨ ((k : Int) < n ∧ decide ((k : Int) < 40) = false) := by
          by_cases h1 : k < n
          · exact .inr ⟨by omega, by simp; omega⟩
          · exact .inl (by omega)
        clear hgo
        have hst : Drs w g h wr := ⟨l, F, hdr, HU, HK, HF⟩
        clear hdr HU HK HF
        rcases hx with hx | ⟨hx, hx2⟩
        all_goals
          go_wp2_with fail
          go_meet
          exact hst
  case rest =>
    clear hst
    have hst := hcut
    clear hcut
    go_upto_block 2 with fail
    go_cut [12] (fun s12 wx => Drs w g h wx)
    case first =>
      go_wp2_with fail
      go_loopw [12] (fun i wq => ∃ (k : Nat), k ≤ n1 ∧ i = .int .i64 k ∧ Drs w g h wq) (fun i _ => n1 - (intOf i).toNat)
      case atStart => exact ⟨0, by omega, rfl, hst⟩
      case round =>
        clear hst
        obtain ⟨k1, hk1, rfl, l, F, hdr, HU, HK, HF⟩ := hrel
        by_cases hgo : k1 < n1 ∧ k1 < 20
        · obtain ⟨hkn, hk20⟩ := hgo
          have hd : decide ((k1 : Int) < 20) = true := by simp; omega
          obtain ⟨b, o, rfl, hblt, c0⟩ := rec1d HV1.out k1 hkn
          replace c0 := (hdr.b.cell (p := ⟨b, o + k1, none⟩) hblt).trans c0
          generalize ys.getD k1 0 = z at c0
          have hP := band z 1 (by omega) (by omega)
          have hR := band (z / 2) 7 (by omega) (by omega)
          generalize hP' : bits BinOp.and IntKind.i64 z 1 = D at hP
          generalize hR' : bits BinOp.and IntKind.i64 (z / 2) 7 = P at hR
          generalize hQ' : bits BinOp.and IntKind.i64 (z / 16) 7 = Q
          obtain ⟨hD0, hD1⟩ := hP
          obtain ⟨hP0, hP1⟩ := hR
          obtain ⟨D, rfl⟩ := Int.eq_ofNat_of_zero_le hD0
          obtain ⟨P, rfl⟩ := Int.eq_ofNat_of_zero_le hP0
          have hD : D < 2 := by omega
          have hP : P < 8 := by omega
          have hkn' : (k1 : Int) < n1 := by omega
          have hDi : (D : Int) < 2 := by omega
          have hPi : (P : Int) < 8 := by omega
          have hll := keys_len l HU.out HK.out
          by_cases hq : Q = 7
          · have hq' : (Q == 7) = true := by simpa using hq
            clear hq
            go_wp2_with fail
            go_quiet (fail)
            replace hdr := hdr.drewN nq
            replace c0 : (wr.drewN nq).cell? ⟨b, o + k1, none⟩ = some (.int .i64 z) := c0
            generalize wr.drewN nq = wx at *
            go_wp2_with fail
            clear c0 hP' hR' hQ' hq'
            go_loopw [15, 16] (fun vm vk wq => ∃ (m : Nat), m ≤ 8 ∧ vk = .int .i64 m ∧ vm = .int .i64 (cD l D m : Nat) ∧ Dr w g h l (Fk F D m) wq) (fun _ vk _ => 8 - (intOf vk).toNat)
            case atStart => exact ⟨0, by omega, rfl, by rw [cD_zero l D HK.out]; rfl, hdr.as (fun d p _ _ => by simp [Fk])⟩
            case round =>
              clear hdr
              obtain ⟨m, hm8, rfl, rfl, hdr⟩ := hrel
              have hs2 := cD_le l D m
              by_cases hml : m < 8
              · have hc := hdr.at_ D m hD hml
                have hfk : Fk F D m D m = getB l D m := by rw [← HF.out D m hD hml]; simp [Fk]
                rw [hfk] at hc
                have hfz := hdr.blk.frozen (D * 8 + m)
                have hdr2 := (hdr.set D m false hD hml).as (Fk_next F D m)
                have HCS := Lib.hid (cD_succ l HU.out D m)
                generalize hC : cD l D m = C at *
                have hCb : C ≤ 32 := by omega
                clear hfk hdr hC hs2
                cases hg : getB l D m with
                | true =>
                  rw [hg] at hc HCS
                  clear hg
                  go_wp2_with fail
                  go_roundw
                  case rel => exact ⟨m + 1, by omega, by go_num, by rw [HCS.out, if_pos rfl]; go_num, hdr2⟩
                  case measure => simp [intOf]; omega
                | false =>
                  rw [hg] at hc HCS
                  clear hg
                  go_wp2_with fail
                  go_roundw
                  case rel => exact ⟨m + 1, by omega, by go_num, by rw [HCS.out, if_neg (by simp)]; rfl, hdr2⟩
                  case measure => simp [intOf]; omega
              · obtain rfl : m = 8 := by omega
                have HCD := Lib.hid (cD_drop l HK.out D)
                have HU2 := Lib.hid (HU.out.filter (fun x => !isD D x))
                have HK2 := Lib.hid (HK.out.filter (fun x => !isD D x))
                have HF2 : Hid (Fits (l.filter (fun x => !isD D x)) (Fk F D 8)) := Lib.hid (by
                  intro d p h1 h2
                  rw [getB_filter l _ d p (!decide (d = D)) (by intro x _ e1 e2; unfold isD; rw [e1, beq_cast]), ← HF.out d p h1 h2]
                  simp [Fk, h2])
                generalize hC : cD l D 8 = C at *
                have hCC : (((C : Nat) : Int) != ((C : Nat) : Int)) = false := by simp
                clear hC hs2
                go_wp2_with fail
                refine (pall_is g 16 l (l.filter (fun x => !isD D x)) D C _ hdr.pt rfl HCD.out).mono ?_
                rintro e wy ⟨rfl, ty, gy⟩
                have hdr2 := hdr.call ty gy
                clear hdr ty gy
                go_wp2_with fail
                go_roundw
                case rel => exact ⟨k1 + 1, by omega, by go_num, _, _, hdr2, HU2, HK2, HF2⟩
                case measure => simp [intOf]; omega
          · have hq' : (Q == 7) = false := by simpa using hq
            clear hq
            go_wp2_with fail
            go_quiet (fail)
            replace hdr := hdr.drewN nq
            replace c0 : (wr.drewN nq).cell? ⟨b, o + k1, none⟩ = some (.int .i64 z) := c0
            generalize wr.drewN nq = wx at *
            go_wp2_with fail
            clear c0 hP' hR' hQ' hq'
            have HFB := Lib.hid (HF.out D P hD hP)
            have HU2 := Lib.hid (HU.out.filter (fun x => !isK D P x))
            have HK2 := Lib.hid (HK.out.filter (fun x => !isK D P x))
            have HF2 : Hid (Fits (l.filter (fun x => !isK D P x)) (upd F D P false)) := Lib.hid (by
              intro d p h1 h2
              rw [getB_filter l _ d p (!decide (d = D ∧ p = P)) (by intro x _ e1 e2; unfold isK; rw [e1, e2, beq_cast, beq_cast, Bool.decide_and]), ← HF.out d p h1 h2]
              unfold upd
              by_cases e : d = D ∧ p = P
              · rw [if_pos e, decide_eq_true e]; simp
              · rw [if_neg e, decide_eq_false e]; simp)
            have hc := hdr.at_ D P hD hP
            have hb0 := hdr.blk
            generalize hfb : F D P = fb at *
            have HG := Lib.hid (show getB l D P = fb by rw [← HFB.out])
            have hdrd : Dr w g h l F wx.drew := hdr.drewN 1
            have hbb : (fb != fb) = false := by simp
            have HFb := Lib.hid hfb
            clear hdr hfb
            go_region_held3 (fun w' => w'.cell? ⟨h, D * 8 + P, none⟩ = some (.bool fb) ∧ Blk w' h 48 (cellsF F))
              ((go_split_ands; have hq := (by assumption : Blk _ h 48 (cellsF F)); first | exact tab_keep hq hD hP HFb.out | exact tab_keep (hq.drewN 1) hD hP HFb.out | exact tab_keep (hq.grown g4 (by intro e; injection e with e; exact hdrd.ne e.symm)) hD hP HFb.out))
              ((go_at_call 13; (with_reducible refine (pdrop_is g 16 l (l.filter (fun x => !isK D P x)) D P fb _ hdrd.pt HG.out rfl).mono ?_); rintro e w4 ⟨rfl, t4, g4⟩))
            have hdr := hdrd.call t4 g4
            have hc := hdr.at_ D P hD hP
            have hfz := hdr.blk.frozen (D * 8 + P)
            have hdr2 := hdr.set D P false hD hP
            clear hdrd t4 g4 hb0 hdr
            go_wp2_with fail
            go_roundw
            case rel => exact ⟨k1 + 1, by omega, by go_num, _, _, hdr2, HU2, HK2, HF2⟩
            case measure => simp [intOf]; omega
        · have hy : (k1 : Int) ≥ n1 ∨ ((k1 : Int) < n1 ∧ decide ((k1 : Int) < 20) = false) := by
            by_cases h1 : k1 < n1
            · exact .inr ⟨by omega, by simp; omega⟩
            · exact .inl (by omega)
          have hst : Drs w g h wr := ⟨l, F, hdr, HU, HK, HF⟩
          clear hgo hdr HU HK HF
          rcases hy with hy | ⟨hy, hy2⟩
          all_goals
            go_wp2_with fail
            go_meet
            exact hst
    case rest =>
      clear hst
      obtain ⟨l, F, hdr, HU, HK, HF⟩ := hcut
      go_wp2_with fail
      go_loopw [17, 18] (fun vm vd wq => ∃ (d : Nat), d ≤ 2 ∧ vd = .int .i64 d ∧ vm = .int .i64 (cS l d : Nat) ∧ Dr w g h l F wq) (fun _ vd _ => 2 - (intOf vd).toNat)
      case atStart => exact ⟨0, by omega, rfl, by rw [show ((0 : Nat) : Int) = 0 from rfl, cS_zero l HK.out]; rfl, hdr⟩
      case round =>
        clear hdr
        obtain ⟨d, hd2, rfl, rfl, hdr⟩ := hrel
        have hll := keys_len l HU.out HK.out
        by_cases hdl : d < 2
        · have hdl' : decide ((d : Int) < 2) = true := by simp; omega
          have hs1 := cS_le l d
          go_wp2_with fail
          go_loopw [17, 19] (fun vm vp wq => ∃ (p : Nat), p ≤ 8 ∧ vp = .int .i64 p ∧ vm = .int .i64 (cS l d + cD l d p : Nat) ∧ Dr w g h l F wq) (fun _ vp _ => 8 - (intOf vp).toNat)
          case atStart => exact ⟨0, by omega, rfl, by rw [cD_zero l d HK.out]; simp, hdr⟩
          case round =>
            clear hdr
            obtain ⟨p, hp8, rfl, rfl, hdr⟩ := hrel
            have hs2 := cD_le l d p
            by_cases hpl : p < 8
            · have HFB := Lib.hid (HF.out d p hdl hpl)
              have HCS := Lib.hid (cD_succ l HU.out d p)
              generalize hS : cS l d + cD l d p = S at *
              have hSb : S ≤ 32 := by omega
              have HSS := Lib.hid hS; clear hS hs2
              generalize hbb : getB l d p = bb at HFB HCS
              generalize hFF : getF l d p = F'
              generalize hMM : getM l d p = M'
              have HG : Hid (bb = true → F' = (p : Int) ∧ M' = 1 + (d : Int)) := Lib.hid (by
                intro h
                rw [h] at hbb
                obtain ⟨x, hx, e1, e2⟩ := (getB_iff _ _ _).1 hbb
                have hm := get_mem l HU.out x hx
                rw [e1, e2, hFF, hMM] at hm
                have := HK.out x hx
                omega)
              have HBB := Lib.hid hbb; have HFF := Lib.hid hFF; have HMM := Lib.hid hMM
              clear hbb hFF hMM
              go_wp2_with fail
              refine (pget_is g 16 l d p F' M' bb _ hdr.pt HFF.out HMM.out HBB.out).mono ?_
              rintro e wh ⟨rfl, bh⟩
              replace hdr := hdr.below bh
              have hdr2 := hdr.below ((Below.refl _ _).alloc (Nat.le_refl wh.heap.size) (.cells #[Value.int .i64 F', .int .i64 M'] 33))
              have hc := hdr.at_ d p hdl hpl
              rw [HFB.out] at hc
              have hhl := hdr.blk.lt
              clear bh hdr
              cases bb with
              | true =>
                obtain ⟨e1, e2⟩ := HG.out rfl
                subst e1 e2
                have hpp : ((p : Int) != (p : Int)) = false := by simp
                go_wp2_with fail
                go_roundw
                case rel => exact ⟨p + 1, by omega, by go_num, by have e := HCS.out; simp only [if_true] at e; rw [e, ← Nat.add_assoc, HSS.out]; go_num, hdr2⟩
                case measure => simp [intOf]; omega
              | false =>
                go_wp2_with fail
                go_roundw
                case rel => exact ⟨p + 1, by omega, by go_num, by rw [HCS.out, if_neg (by simp), Nat.add_zero, HSS.out], hdr2⟩
                case measure => simp [intOf]; omega
            · obtain rfl : p = 8 := by omega
              have HCS := Lib.hid (cS_succ l HK.out d)
              generalize hS : cS l d + cD l d 8 = S at *
              have HSS := Lib.hid hS; clear hS hs2
              go_wp2_with fail
              go_roundw
              case rel => exact ⟨d + 1, by omega, by go_num, by rw [show ((d + 1 : Nat) : Int) = (d : Int) + 1 by omega, HCS.out], hdr⟩
              case measure => simp [intOf]; omega
        · obtain rfl : d = 2 := by omega
          have e2 := cS_two l HK.out
          rw [show (((2 : Nat) : Int)) = 2 from rfl, e2]
          clear e2
          go_wp2_with fail
          refine (plen_any g 16 l.length l _ hdr.pt hdr.pt.len).mono ?_
          rintro e wz ⟨rfl, q, rfl⟩
          replace hdr := hdr.drewN q
          have hll2 : (((l.length : Nat) : Int) == ((l.length : Nat) : Int)) = true := by simp
          go_wp2_with fail
          go_ret
          exact ⟨rfl, hdr.b⟩

end Go.Proofs.Ytiegonnnokldkaa
