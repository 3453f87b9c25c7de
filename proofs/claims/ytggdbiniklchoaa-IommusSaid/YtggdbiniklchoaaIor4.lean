/-
  Contracts of the document's Iommu: fresh, Unmap, Clear.
-/
import Derived.Test.YtggdbiniklchoaaIor2
import Derived.Test.YtggdbiniklchoaaIor3
import Derived.Test.YtggdbiniklchoaaIopC
import Derived.Test.YtggdbiniklchoaaIop12
import Derived.StillTailTactics
import Derived.Deep.RegionHeld3
namespace Go.Proofs.Ytggdbiniklchoaa
open Go.RowKit
set_option linter.unusedVariables false
set_option maxRecDepth 100000

theorem freshI_found (l : List UInt8) (pl : List Int) (j : Nat) (hj : 1 + j < pl.length) (hd : ((pl.drop (1 + j)).find? (isL l (pl.getD 0 0))) = ((pl.drop 1).find? (isL l (pl.getD 0 0)))) (h : isL l (pl.getD 0 0) (pl.getD (1 + j) 0) = true) : freshI l pl = pl.getD (1 + j) 0 := by
  show ((pl.drop 1).find? (isL l (pl.getD 0 0))).getD (-1) = _
  rw [← hd, List.drop_eq_getElem_cons hj, List.find?_cons_of_pos]
  · simp [List.getD, List.getElem?_eq_getElem hj]
  · simpa [List.getD, List.getElem?_eq_getElem hj] using h
theorem freshI_end (l : List UInt8) (pl : List Int) (j : Nat) (hj : pl.length ≤ 1 + j) (hd : ((pl.drop (1 + j)).find? (isL l (pl.getD 0 0))) = ((pl.drop 1).find? (isL l (pl.getD 0 0)))) : freshI l pl = -1 := by
  show ((pl.drop 1).find? (isL l (pl.getD 0 0))).getD (-1) = _
  rw [← hd, List.drop_of_length_le hj]
  rfl
def useK (l : List UInt8) (r : Int) (k : Nat) : List Int := (List.range k).map fun i => lfI l r ((i : Nat) : Int)
theorem useK_len (l : List UInt8) (r : Int) (k : Nat) : (useK l r k).length = k := by simp [useK]
theorem useK_step (l : List UInt8) (r : Int) (k : Nat) : useK l r (k + 1) = useK l r k ++ [lfI l r (k : Int)] := by
  unfold useK; rw [List.range_succ, List.map_append]; rfl
theorem infoInt4 : (Try.prog.info? 3).map (fun i => (i.zero, i.size, i.bytes)) = some (some (.int .i64 0), 1, 8) := by kernel_rfl

section
variable {B : Nat} {w w' : World} {y r b : Nat} {v : Value} {ps : List (List Int)} {l l' : List UInt8}
theorem Rx.mem (h : Rx B w y r b v ps l) (hm : RM w' r b l') (hl : l'.length = l.length) (gr : w.grownBy w' (some b)) : Rx B w' y r b v ps l' :=
  ⟨h.sx.grown gr (by simpa using h.sx.apart h.rm.2.2.2 (by decide)), h.pl.grown gr h.rm.2.2.2 (by decide), hm, h.n1, h.n4, h.lens, fun p hp f hf => by have := h.inr p hp f hf; unfold Proofs.Ytggdbiniklchoaa.frs at *; rw [hl]; exact this⟩
end
/-- The document's Iommu in a region. -/
def Yb (y r b : Nat) (v : Value) (w : World) : Prop := Blk w y 76 [.pointer (some ⟨r, 0, none⟩), v] ∧ y ≠ b
section
variable {w w' : World} {y r b : Nat} {v : Value}
theorem Yb.all (h : Yb y r b v w) : w.cell? ⟨y, 0, none⟩ = some (.pointer (some ⟨r, 0, none⟩)) ∧ Yb y r b v w := ⟨(h.1.cell 0).trans rfl, h⟩
theorem Yb.drew (h : Yb y r b v w) : Yb y r b v w.drew := ⟨h.1.drewN 1, h.2⟩
theorem Yb.below (h : Yb y r b v w) (hb : Below w.heap.size w w') : Yb y r b v w' := ⟨h.1.below hb h.1.lt, h.2⟩
theorem Yb.grown (h : Yb y r b v w) (gr : w.grownBy w' (some b)) : Yb y r b v w' := ⟨h.1.grown gr (by simpa using h.2), h.2⟩
end

section
variable {B : Nat} {y r b : Nat} {v : Value} {ps : List (List Int)} {l : List UInt8}
set_option maxHeartbeats 8000000 in
theorem rfresh_any (d : Int) (w : World) (h : Rx B w y r b v ps l) (h0 : 0 ≤ d) (h1 : d < ps.length) :
    Calls Try.prog 53 #[.pointer (some ⟨y, 0, none⟩), .int .i64 d] w fun e w' => e = .returned (.int .i64 (freshI l (ioPool ps d))) ∧ Below w.heap.size w w' := by
  obtain ⟨_, hl, hl5, hr0, hr1⟩ := h.pool h0 h1
  have KL := Lib.hid (fun i W hW => rleaf_any (B := B) (y := y) (r := r) (b := b) (v := v) (ps := ps) (l := l) d i W hW h0 h1)
  have HX := Lib.hid h
  have n4 := h.n4
  obtain ⟨k, rfl⟩ := Int.eq_ofNat_of_zero_le h0
  have hkn : k < ps.length := by omega
  have hP : ps.getD k [] = ioPool ps ((k : Nat) : Int) := by unfold ioPool; rw [Int.toNat_natCast]
  have hR : ioRoot ps ((k : Nat) : Int) = (ioPool ps ((k : Nat) : Int)).getD 0 0 := rfl
  obtain ⟨b0, cap, rfl, _, hbl, hp⟩ := h.pl.slice h.n1
  obtain ⟨qb, c, c2, _, hql, hlc, c3⟩ := hp k hkn (by rw [hP]; omega)
  rw [hP] at c2 c3 hlc
  obtain ⟨cy0, cy1⟩ := h.cells
  have hyl := h.sx.lt
  generalize ioRoot ps ((k : Nat) : Int) = R at *
  generalize ioPool ps ((k : Nat) : Int) = pl at *
  obtain ⟨np, hnp⟩ : ∃ np, pl.length = np := ⟨_, rfl⟩
  rw [hnp] at c2 c3 hlc hl hl5
  have HNP := Lib.hid hnp; have C3 := Lib.hid c3; have C2 := Lib.hid c2; have CY1 := Lib.hid cy1; have HR := Lib.hid hR
  obtain ⟨i0, hi, hz0, hz1, hz2⟩ := info_parts infoInt4
  have HI := Lib.hid hi; have HZ0 := Lib.hid hz0; have HZ1 := Lib.hid hz1; have HZ2 := Lib.hid hz2
  clear hi hz0 hz1 hz2 hP hp c3 c2 cy0 cy1 h hnp hR h0
  go_enter Try.func53, Try.ntmps53
  go_wp2_with fail
  go_loopw [5, 6] (fun u s wq => ∃ (q : Nat), q ≤ 16 ∧ s = .int .i64 q ∧ wq.ownsRow w.heap.size 3 1 u q (ints (useK l R q)) ∧ Below w.heap.size w wq) (fun _ s _ => 16 - (intOf s).toNat)
  case atStart => exact ⟨0, by omega, rfl, World.ownsRow_nil _ _ _ _, Below.refl _ _⟩
  case round =>
    obtain ⟨q, hq, rfl, hown, hbel⟩ := hrel
    by_cases hlt : q < 16
    · have hlt' : (q : Int) < 16 := by omega
      have hst := useK_step l R q
      generalize hLF : lfI l R (q : Int) = LF at *
      have HST := Lib.hid hst; have HLF := Lib.hid hLF
      clear hst hLF
      go_wp2_with fail
      refine (KL.out (q : Int) _ (HX.out.below hbel (Nat.le_refl _)) (by omega) (by omega)).mono ?_
      rintro e w1 ⟨rfl, b1⟩
      rw [HLF.out]
      have hown1 := own_below hown b1
      replace hbel := Below.down hbel b1 hbel.size
      clear hown b1
      go_wp2_with (at_builtin; refine wpList_append_own _ rfl _ _ 35 rfl w.heap.size 3 i0 _ 1 8 Try.underlying35 HI.out HZ0.out HZ1.out HZ2.out rfl (by decide) _ q (ints (useK l R q)) rfl ?d1 ⟨w1.heap.size, 0, none⟩ 1 1 [.int .i64 LF] rfl rfl ?d2 ?d3 ?d4 ?d5 ?d6 ?_)
      case d1 => exact own_stay hown1 (fun k cs hk => Below.heap_alloc _ _ k hk.lt)
      case d2 => exact row_new w1 [.int .i64 LF] _
      case d3 => intro u hu; rw [List.mem_singleton.1 hu]; rfl
      case d4 => unfold maxLen; omega
      case d5 => omega
      case d6 => have := hbel.size; simp; omega
      intro v' w2 hown2 hgrow _
      have hbel2 := (hbel.alloc hbel.size (.cells #[.int .i64 LF] 3)).grown hgrow (by have := hbel.size; simp; omega) (fun i e => own_ge hown1 e)
      clear hown1 hbel hgrow
      go_wp2
      go_roundw
      case rel => exact ⟨q + 1, by omega, by go_num, by rw [HST.out, ints_append]; exact hown2, hbel2⟩
      case measure => simp [intOf]; omega
    · obtain rfl : q = 16 := by omega
      have hge : ¬ (((16 : Nat) : Int) < 16) := by omega
      have hus : useK l R 16 = usedI l R := rfl
      obtain ⟨A5, cap5, hu5, hc5, _, _⟩ := own_slice hown
      subst hu5
      have HOWN := Lib.hid hown
      rw [hus] at HOWN
      clear hown
      go_wp2_with fail
      go_loopw [7] (fun s wq => ∃ (j : Nat), 1 + j ≤ np ∧ s = .int .i64 ((1 + j : Nat) : Int) ∧ wq.ownsRow w.heap.size 3 1 (.slice A5 16 cap5) 16 (ints (usedI l R)) ∧ Below w.heap.size w wq ∧ Hid (((pl.drop (1 + j)).find? (isL l (pl.getD 0 0))) = ((pl.drop 1).find? (isL l (pl.getD 0 0))))) (fun s _ => np - (intOf s).toNat)
      case atStart => exact ⟨0, by omega, rfl, HOWN.out, hbel, Lib.hid rfl⟩
      case round =>
        clear HOWN hbel
        obtain ⟨j, hj, rfl, hown, hbel, D⟩ := hrel
        have cy1 := (hbel.cell (p := ⟨y, 1, none⟩) hyl).trans CY1.out
        have c2 := (hbel.cell (p := ⟨b0, k, none⟩) hbl).trans C2.out
        by_cases hlt : 1 + j < np
        · have c3 := (hbel.cell (p := ⟨qb, 1 + j, none⟩) hql).trans (C3.out (1 + j) hlt)
          have hlt2 : (((1 + j : Nat) : Int)) < np := by omega
          have hnx := fresh_next l pl j (by rw [HNP.out]; exact hlt) D.out
          have hfd := freshI_found l pl j (by rw [HNP.out]; exact hlt) D.out
          unfold isL at hnx hfd
          rw [← HR.out] at hnx hfd
          generalize pl.getD (1 + j) 0 = F at *
          have HH := Lib.hid (has_any (.slice A5 16 cap5) 16 (usedI l R) F _ (Sl.own hown) (by omega))
          cases hU : (usedI l R).contains F with
          | true =>
            have hcalls := HH.out
            rw [hU] at hcalls hnx
            have HC := Lib.hid hcalls
            have D2 : Hid (((pl.drop (1 + (j + 1))).find? (isL l (pl.getD 0 0))) = ((pl.drop 1).find? (isL l (pl.getD 0 0)))) := Lib.hid (by
              have := hnx rfl
              unfold isL
              rw [← HR.out]
              exact this)
            clear hU hnx hfd HH hcalls D
            go_wp2_with fail
            refine HC.out.mono ?_
            rintro e w1 ⟨rfl, rfl⟩
            go_wp2_with fail
            go_roundw
            case rel => exact ⟨j + 1, by omega, by go_num, hown, hbel, D2⟩
            case measure => simp [intOf]; omega
          | false =>
            have hcalls := HH.out
            rw [hU] at hcalls hfd
            have HC := Lib.hid hcalls
            have HF := Lib.hid (hfd rfl)
            clear hU hnx hfd HH hcalls D
            go_wp2_with fail
            refine HC.out.mono ?_
            rintro e w1 ⟨rfl, rfl⟩
            go_wp2_with fail
            go_ret
            exact ⟨by rw [HF.out]; rfl, hbel⟩
        · have hge2 : ¬ ((((1 + j : Nat) : Int)) < np) := by omega
          have HF := Lib.hid (freshI_end l pl j (by rw [HNP.out]; omega) D.out)
          clear D
          go_wp2_with fail
          go_ret
          exact ⟨by rw [HF.out]; rfl, hbel⟩

theorem rleaf_rx (i R LF : Int) (d : Int) (w : World) (h : Rx B w y r b v ps l) (h0 : 0 ≤ d) (h1 : d < ps.length) (hi0 : 0 ≤ i) (hi1 : i < 16) (hR : ioRoot ps d = R) (hLF : lfI l R i = LF) :
    Calls Try.prog 52 #[.pointer (some ⟨y, 0, none⟩), .int .i64 d, .int .i64 i] w fun e w' => e = .returned (.int .i64 LF) ∧ Below w.heap.size w w' := by
  subst hR hLF
  exact rleaf_any d i w h h0 h1 hi0 hi1

theorem adr16 (F p : Int) (h0 : 0 ≤ F) (h1 : F < 64) (hp0 : 0 ≤ p) : IntKind.i64.wrap (IntKind.i64.wrap (F * 64) + IntKind.i64.wrap (4 * p.tmod 16)) = F * 64 + 4 * (p % 16) := by
  rw [Int.tmod_eq_emod_of_nonneg hp0, IntWalk.i64_in (F * 64) (by omega), IntWalk.i64_in (4 * (p % 16)) (by omega)]
  exact IntWalk.i64_in _ (by omega)

/-- What a call of the document's may leave. -/
def RmP (B : Nat) (y r b : Nat) (v : Value) (ps : List (List Int)) (l : List UInt8) (w : World) (c : Int) (e : Ending) (w' : World) : Prop :=
  e = .returned (.int .i64 c) ∧ Rx B w' y r b v ps l ∧ w.grownBy w' (some b)

set_option maxHeartbeats 8000000 in
theorem runmap_any (d p : Int) (w : World) (h : Rx B w y r b v ps l) :
    Calls Try.prog 32 #[.pointer (some ⟨y, 0, none⟩), .int .i64 d, .int .i64 p] w (RmP B y r b v ps (ioUnL ps l d p) w (ioUnC ps l d p)) := by
  have hthd : thB ps.length d p = true → 0 ≤ d ∧ d < ps.length ∧ 0 ≤ p ∧ p < 256 := by unfold thB; simp only [decide_eq_true_eq]; exact id
  have hpg := there_any d p w h
  have hU : ioUnC ps l d p = if thB ps.length d p then uC l (ioRoot ps d) p else 700 := rfl
  have hno := un_no ps l d p
  cases hth : thB ps.length d p with
  | false =>
    rw [hth] at hpg hU
    have e1 : ioUnC ps l d p = 700 := hU
    rw [hno (by omega), e1]
    have HP := Lib.hid hpg
    clear hth hthd hU hno e1 hpg
    go_enter Try.func32, Try.ntmps32
    go_wp2_with fail
    refine HP.out.mono ?_
    rintro e w1 ⟨rfl, rfl⟩
    go_wp2_with fail
    go_ret
    exact ⟨rfl, h, grefl _ _⟩
  | true =>
    rw [hth] at hpg hU
    obtain ⟨h0, h1, hp0, hp1⟩ := hthd hth
    obtain ⟨m, hm⟩ : ∃ m : Nat, l.length = 64 * m := ⟨l.length / 64, by have := h.rm.2.1.2; omega⟩
    have hfr : frs l = m := by unfold frs; omega
    obtain ⟨_, _, _, hr0, hr1⟩ := h.pool h0 h1
    rw [hfr] at hr1
    have hE := rwlk_any d p w h h0 h1 hp0 hp1
    have hlf := un_leaf l (ioRoot ps d) p m hm hr0 hr1 hp0 hp1
    have hL0 : ioUnC ps l d p = 0 → ioUnL ps l d p = pwL l (lfI l (ioRoot ps d) (p / 16) * 64 + 4 * (p % 16)) 0 := by intro e; unfold ioUnL; rw [if_pos e]
    have hU' : ioUnC ps l d p = uC l (ioRoot ps d) p := hU
    obtain ⟨R, hR⟩ : ∃ R, ioRoot ps d = R := ⟨_, rfl⟩
    rw [hR] at hE hlf hL0 hU' hr0 hr1
    have HP := Lib.hid hpg; have HE := Lib.hid hE; have HR := Lib.hid hR
    rw [hU'] at hno hL0 ⊢
    clear hth hthd hU hpg hE hU' hR
    by_cases hu : uC l R p = 0
    · obtain ⟨hb, hn, hF0, hF1⟩ := hlf hu
      rw [hn] at hF0 hF1
      rw [hL0 hu, hu]
      generalize hLF : lfI l R (p / 16) = F at *
      have HU := Lib.hid hu; have HLF := Lib.hid hLF
      have hm64 : m ≤ 64 := by have := h.rm.1; omega
      have HPW := Lib.hid (pw_yes l (F * 64 + 4 * (p % 16)) 0 (by omega) (by omega) (by omega) (by omega) (by omega))
      have hyb : y ≠ b := h.sx.apart h.rm.2.2.2 (by decide)
      clear hL0 hno hlf hn hu hm hfr hLF hb
      go_enter Try.func32, Try.ntmps32
      go_wp2_with fail
      refine HP.out.mono ?_
      rintro e w1 ⟨rfl, rfl⟩
      go_wp2_with fail
      refine HE.out.mono ?_
      rintro e w2 ⟨rfl, b2⟩
      rw [HU.out]
      have b3 := b2.alloc b2.size (.cells #[.int .i64 (wF l R p), .int .i64 (wP l R p)] 46)
      have hx := h.below b3 (Nat.le_refl _)
      have HB3 := Lib.hid b3
      clear b2 b3 h
      go_wp2_with fail
      generalize w2.alloc (.cells #[.int .i64 (wF l R p), .int .i64 (wP l R p)] 46) = w3 at *
      have hy : Yb y r b v w3 := ⟨hx.sx, hyb⟩
      have hxd : Rx B w3.drew y r b v ps l := hx.drewN 1
      clear hx
      obtain ⟨cy0, hy⟩ := hy.all
      have KLL := rleaf_rx (p / 16) R F d _ hxd h0 h1 (by omega) (by omega) HR.out HLF.out
      have e16 : IntKind.i64.wrap (p.tdiv 16) = p / 16 := by rw [Int.tdiv_eq_ediv_of_nonneg hp0]; exact IntWalk.i64_in _ (by omega)
      rw [← e16] at KLL
      have HKL := Lib.hid KLL; clear KLL e16
      go_region_held3 (fun w' => w'.cell? ⟨y, 0, none⟩ = some (.pointer (some ⟨r, 0, none⟩)) ∧ Yb y r b v w')
        ((go_split_ands; refine Yb.all ?_; (first | assumption | (exact Yb.drew (by assumption)) | (exact Yb.below (by assumption) (by assumption)) | (exact Yb.grown (by assumption) (by assumption)))))
        (first
          | (go_at_call 52; (with_reducible refine HKL.out.mono ?_); rintro e w5 ⟨rfl, b5⟩; have hx5 := hxd.below b5 (Nat.le_refl _))
          | (go_at_call 38; (with_reducible refine (rputword_any r b l _ 0 _ hx5.rm).mono ?_); rintro e w6 ⟨rfl, hm6, gr6⟩))
      rw [adr16 F p (by omega) (by omega) hp0] at hm6
      have hx6 := hx5.mem hm6 (pwL_len _ _ _) gr6
      have g6 := gtrans (gdrewN (gof HB3.out (some b)) 1) (gtrans (gof b5 (some b)) gr6)
      clear hxd hx5 hm6 hy cy0
      go_wp2_with fail
      go_ret
      exact ⟨rfl, hx6, g6⟩
    · rw [hno hu]
      generalize uC l R p = C at *
      have hc1 : (C == 0) = false := by simpa using hu
      have hc2 : (C != 0) = true := by simpa using hu
      have HH := Lib.hid h
      clear hL0 hno hlf hm hfr hu h
      go_enter Try.func32, Try.ntmps32
      go_wp2_with fail
      refine HP.out.mono ?_
      rintro e w1 ⟨rfl, rfl⟩
      go_wp2_with fail
      refine HE.out.mono ?_
      rintro e w2 ⟨rfl, b2⟩
      go_wp2_with fail
      go_ret
      exact ⟨rfl, (HH.out.below b2 (Nat.le_refl _)).alloc _, galloc (gof b2 _) _⟩

set_option maxHeartbeats 8000000 in
theorem rclear_any (d : Int) (w : World) (h : Rx B w y r b v ps l) :
    Calls Try.prog 36 #[.pointer (some ⟨y, 0, none⟩), .int .i64 d] w (RmP B y r b v ps (ioClL ps l d) w (ioClC ps d)) := by
  have hpg := there_any d 0 w h
  have hC : ioClC ps d = if thB ps.length d 0 then 0 else 700 := rfl
  have hL : ioClL ps l d = if thB ps.length d 0 then (ioPool ps d).foldl zeL l else l := rfl
  rw [hC, hL]
  clear hC hL
  cases hth : thB ps.length d 0 with
  | false =>
    rw [hth] at hpg
    have HP := Lib.hid hpg
    have hI := h
    clear hpg hth
    go_enter Try.func36, Try.ntmps36
    go_wp2_with fail
    refine HP.out.mono ?_
    rintro e w1 ⟨rfl, rfl⟩
    go_wp2_with fail
    go_ret
    exact ⟨rfl, hI, grefl _ _⟩
  | true =>
    rw [hth] at hpg
    have hd : 0 ≤ d ∧ d < ps.length ∧ (0 : Int) ≤ 0 ∧ (0 : Int) < 256 := by unfold thB at hth; simpa using hth
    obtain ⟨h0, h1, _, _⟩ := hd
    obtain ⟨_, hl, hl5, _, _⟩ := h.pool h0 h1
    have hlm := h.rm.2.1.2
    obtain ⟨k, rfl⟩ := Int.eq_ofNat_of_zero_le h0
    have hkn : k < ps.length := by omega
    have n4 := h.n4
    have hP : ps.getD k [] = ioPool ps ((k : Nat) : Int) := by unfold ioPool; rw [Int.toNat_natCast]
    obtain ⟨b0, cap, rfl, _, _, hp⟩ := h.pl.slice h.n1
    obtain ⟨qb, c, hc2, _, _, hlc, hc3⟩ := hp k hkn (by rw [hP]; omega)
    rw [hP] at hc2 hc3 hlc
    have hb0l := cell_lt hc2
    have hql := cell_lt (hc3 0 (by omega))
    have HX := Lib.hid h
    generalize ioPool ps ((k : Nat) : Int) = pl at *
    obtain ⟨np, hnp⟩ : ∃ np, pl.length = np := ⟨_, rfl⟩
    rw [hnp] at hc2 hc3 hlc hl hl5
    have HNP := Lib.hid hnp; have HPG := Lib.hid hpg
    have hbk0 : ∃ cs, Blk w b0 35 cs := by
      obtain ⟨vs, hv1, _⟩ := h.pl
      exact own_blk hv1 rfl
    have hbk1 : ∃ cs, Blk w qb 3 cs := by
      obtain ⟨b', cap', u', hv', hcu, hown⟩ := h.pl.row k hkn
      have hb' : b' = b0 := by injection hv' with hv'; injection hv' with hv'; injection hv' with hv'; exact hv'.symm
      subst hb'
      rw [hc2] at hcu
      have hu' := Option.some.inj hcu
      subst hu'
      exact own_blk hown rfl
    -- the rows stay while the bytes turn
    have hstay : ∀ wq, w.grownBy wq (some b) → wq.cell? ⟨y, 0, none⟩ = some (.pointer (some ⟨r, 0, none⟩)) ∧ wq.cell? ⟨y, 1, none⟩ = some (.slice (some ⟨b0, 0, none⟩) ps.length cap) ∧ wq.cell? ⟨b0, k, none⟩ = some (.slice (some ⟨qb, 0, none⟩) np c) ∧ ∀ j, j < np → wq.cell? ⟨qb, j, none⟩ = some (.int .i64 (pl.getD j 0)) := by
      intro wq gr
      have hy := h.sx.grown gr (by simpa using h.sx.apart h.rm.2.2.2 (by decide))
      obtain ⟨cs0, hk0⟩ := hbk0
      obtain ⟨cs1, hk1⟩ := hbk1
      have e0 := ((hk0.grown gr (by simpa using hk0.apart h.rm.2.2.2 (by decide))).cell k).trans (hk0.cell k).symm
      have e1 := fun j => ((hk1.grown gr (by simpa using hk1.apart h.rm.2.2.2 (by decide))).cell j).trans (hk1.cell j).symm
      exact ⟨(hy.cell 0).trans rfl, (hy.cell 1).trans rfl, e0.trans hc2, fun j hj => (e1 j).trans (hc3 j hj)⟩
    have HST := Lib.hid hstay
    have HRM := Lib.hid h.rm
    clear hth hpg hP hp hc2 hc3 h hnp hstay hbk0 hbk1
    go_enter Try.func36, Try.ntmps36
    go_wp2_with fail
    refine HPG.out.mono ?_
    rintro e w1 ⟨rfl, rfl⟩
    go_wp2_with fail
    go_loopw [5] (fun s wq => ∃ (q : Nat), q ≤ np ∧ s = .int .i64 q ∧ RM wq r b ((pl.take q).foldl zeL l) ∧ w.grownBy wq (some b)) (fun s _ => np - (intOf s).toNat)
    case atStart => exact ⟨0, by omega, rfl, HRM.out, grefl _ _⟩
    case round =>
      obtain ⟨q, hq, rfl, hm, gr⟩ := hrel
      obtain ⟨cy0, cy1, cb0, cq⟩ := HST.out _ gr
      by_cases hlt : q < np
      · have hlt' : (q : Int) < np := by omega
        have cq1 := cq q hlt
        have hst : (pl.take (q + 1)).foldl zeL l = zeL ((pl.take q).foldl zeL l) (pl.getD q 0) := by
          rw [List.take_add_one, List.foldl_append, List.getD, List.getElem?_eq_getElem (by rw [HNP.out]; exact hlt)]
          rfl
        have HSS := Lib.hid hst
        generalize pl.getD q 0 = F at *
        clear cq hst
        go_wp2_with fail
        go_still_tail 14, (by kernel_rfl)
        change wpList _ _ _ _ _ wr.drew
        replace hm : RM wr.drew r b ((pl.take q).foldl zeL l) := hm.drewN 1
        replace gr : w.grownBy wr.drew (some b) := gdrewN gr 1
        clear cy0 cy1 cb0 cq1
        generalize wr.drew = wd at *
        go_wp2_with fail
        refine (rzero_any r b _ F _ hm).mono ?_
        rintro e w2 ⟨rfl, hm2, gr2⟩
        go_wp2_with fail
        go_roundw
        case rel => exact ⟨q + 1, by omega, by go_num, by rw [HSS.out]; exact hm2, gtrans gr gr2⟩
        case measure => simp [intOf]; omega
      · have hge : ¬ ((q : Int) < np) := by omega
        have htk : pl.take q = pl := List.take_of_length_le (by rw [HNP.out]; omega)
        rw [htk] at hm
        have hx2 := HX.out.mem hm (zes_len _ _ hlm) gr
        have HX2 := Lib.hid hx2
        clear hx2 hm htk cq
        go_wp2_with fail
        go_ret
        exact ⟨rfl, HX2.out, gr⟩
end

end Go.Proofs.Ytggdbiniklchoaa
