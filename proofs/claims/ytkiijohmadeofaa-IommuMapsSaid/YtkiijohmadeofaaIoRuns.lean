/-
  Layer 7's law of a run over pages: it answers true for every input.
-/
import Derived.Test.YtkiijohmadeofaaIoSet
import Derived.Test.YtkiijohmadeofaaPlain2
import Derived.Deep.CutBlock
import Derived.Deep.DeepCutAuto
namespace Go.Proofs.Ytkiijohmadeofaa
open Go.RowKit
set_option linter.unusedVariables false
set_option maxRecDepth 100000

theorem Wd.far {w0 w : World} {g x t : Nat} {ps : List (List Int)} {l : List UInt8} (h : Wd w0 g x t ps l w) {k : Nat} {T : TypeId} {cs : List Value} (hk : Blk w k T cs) (hT : T ≠ 84 ∧ T ≠ 75 ∧ T ≠ 108 ∧ T ≠ 35 ∧ T ≠ 3) (hw : w0.heap.size ≤ k) (i : Nat) (u : Value) : Wd w0 g x t ps l (w.setCell ⟨k, i, none⟩ u) := by
  obtain ⟨B, v, e⟩ := h.ix
  have n1 : x ≠ k := e.sx.apart hk (fun q => hT.1 q.symm)
  have n2 : g ≠ k := by obtain ⟨m, r, _, _, _, _, hg⟩ := e.pm; exact hg.apart hk (fun q => hT.2.1 q.symm)
  obtain ⟨L, hp, hL⟩ := h.cw
  have n3 : t ≠ k := by obtain ⟨z, _, hb⟩ := hp; exact hb.apart hk (fun q => hT.2.2.1 q.symm)
  exact ⟨⟨B, v, ⟨e.sx.far n1 _, e.pl.grown (gone _) hk ⟨hT.2.2.2.1, hT.2.2.2.2⟩, e.pm.far n2 _, e.n1, e.n4, e.lens, e.inr⟩⟩, ⟨L, hp.far n3 _, hL⟩, h.b.setCell (p := ⟨k, i, none⟩) hw u, h.wg, h.wt⟩

/-! ### the rights of the first pages -/
def hvL (H : Nat → Int) (i : Nat) : List Int := (List.range 8).map fun q => if q < i then H q else 0
theorem hvL_len (H : Nat → Int) (i : Nat) : (hvL H i).length = 8 := by simp [hvL]
theorem hvL_get (H : Nat → Int) (i q : Nat) (h : q < 8) : (hvL H i).getD q 0 = if q < i then H q else 0 := by simp [hvL, List.getD, h]
theorem hvL_set (H : Nat → Int) (i : Nat) (h : i < 8) : (hvL H i).set i (H i) = hvL H (i + 1) := by
  apply List.ext_getElem?
  intro j
  rw [List.getElem?_set]
  by_cases hj : j < 8
  · simp only [hvL, List.getElem?_map, List.getElem?_range hj, Option.map_some, List.length_map, List.length_range]
    by_cases e : i = j
    · subst e; simp [h]
    · rw [if_neg e]
      by_cases h1 : j < i
      · rw [if_pos h1, if_pos (by omega)]
      · rw [if_neg h1, if_neg (by omega)]
  · rw [if_neg (by omega), List.getElem?_eq_none (by rw [hvL_len]; omega), List.getElem?_eq_none (by rw [hvL_len]; omega)]
def wr7 (H : Nat → Int) (i : Nat) : Nat → Int × Int := fun q => if q < i ∧ H q ≠ 0 then (8 + (q : Int), H q) else (0, 0)
theorem wr7_zero (H : Nat → Int) : wr7 H 0 = fun _ => (0, 0) := by
  funext q; unfold wr7; rw [if_neg (by omega)]
theorem wr7_skip (H : Nat → Int) (i : Nat) (h : H i = 0) : wr7 H i = wr7 H (i + 1) := by
  funext q; unfold wr7
  by_cases e : q = i
  · subst e; rw [if_neg (by omega), if_neg (fun g => g.2 h)]
  · by_cases g : q < i ∧ H q ≠ 0
    · rw [if_pos g, if_pos ⟨by omega, g.2⟩]
    · rw [if_neg g, if_neg (fun k => g ⟨by omega, k.2⟩)]
theorem wr7_put (H : Nat → Int) (i : Nat) (h : H i ≠ 0) : updW (wr7 H i) i (8 + (i : Int), H i) = wr7 H (i + 1) := by
  funext q; unfold updW wr7
  by_cases e : q = i
  · subst e; rw [if_pos rfl, if_pos ⟨by omega, h⟩]
  · rw [if_neg e]
    by_cases g : q < i ∧ H q ≠ 0
    · rw [if_pos g, if_pos ⟨by omega, g.2⟩]
    · rw [if_neg g, if_neg (fun k => g ⟨by omega, k.2⟩)]

/-- A page's answer, by what it is to tell. -/
theorem pg_view (l : List UInt8) (write : Bool) (q : Nat) (e : Int × Int) (hv : view l 0 q = wantV e) : pgC l 0 write (q : Int) = (if e.2 = 0 then 702 else if hasP e.2 write then 0 else 703) ∧ (pgC l 0 write (q : Int) = 0 → wF l 0 (q : Int) = e.1) := by
  unfold view wantV at hv
  by_cases e0 : e.2 = 0
  · rw [if_pos e0] at hv
    simp only [Prod.mk.injEq] at hv
    have hu : uC l 0 q = 702 := by unfold uC; rw [show ((0 : Nat) : Int) = 0 from rfl] at hv; rw [hv.1]; rfl
    have hp : pgC l 0 write q = 702 := by unfold pgC; rw [hu]; rfl
    rw [hp, if_pos e0]
    exact ⟨rfl, fun h => by omega⟩
  · rw [if_neg e0] at hv
    simp only [Prod.mk.injEq] at hv
    rw [show ((0 : Nat) : Int) = 0 from rfl] at hv
    have hu : uC l 0 q = 0 := by unfold uC; rw [hv.1]; rfl
    refine ⟨by unfold pgC; rw [hu, if_pos rfl, hv.2.2, if_neg e0], fun _ => hv.2.1⟩
theorem pgsC_zero (l : List UInt8) (r : Int) (write : Bool) : ∀ n s, pgsC l r write s n = 0 → ∀ i, i < n → pgC l r write ((s + i : Nat) : Int) = 0 := by
  intro n
  induction n with
  | zero => intro s _ i hi; omega
  | succ n ih =>
    intro s h i hi
    unfold pgsC at h
    by_cases h0 : pgC l r write ((s : Nat) : Int) = 0
    · rw [if_pos h0] at h
      match i with
      | 0 => exact h0
      | i + 1 =>
        have := ih (s + 1) h i (by omega)
        rw [show s + 1 + i = s + (i + 1) by omega] at this
        exact this
    · rw [if_neg h0] at h; exact absurd h h0

/-- What the law knows while the rights are set. -/
structure Rn7 (w0 : World) (g x t h : Nat) (l : List UInt8) (H : Nat → Int) (i : Nat) (w : World) : Prop where
  wd : Wd w0 g x t ps2 l w
  blk : Blk w h 68 (ints (hvL H i))
  wh : w0.heap.size ≤ h
section
variable {w0 w w' : World} {g x t h i : Nat} {l l' : List UInt8} {H : Nat → Int}
theorem Rn7.call (e : Rn7 w0 g x t h l H i w) (k : Wd w0 g x t ps2 l' w') (tn : Tn g t w w') : Rn7 w0 g x t h l' H i w' := ⟨k, (e.wd.kp tn).blk e.blk (by decide) (by decide), e.wh⟩
theorem Rn7.set (e : Rn7 w0 g x t h l H i w) (hi : i < 8) : Rn7 w0 g x t h l H (i + 1) (w.setCell ⟨h, i, none⟩ (.int .i64 (H i))) := by
  refine ⟨e.wd.far e.blk (by decide) e.wh _ _, ?_, e.wh⟩
  rw [← hvL_set H i hi]
  exact e.blk.setInt i (H i)
theorem Rn7.at_ (e : Rn7 w0 g x t h l H i w) (q : Nat) (hq : q < 8) : w.cell? ⟨h, q, none⟩ = some (.int .i64 (if q < i then H q else 0)) := by
  rw [e.blk.int (by rw [hvL_len]; exact hq), hvL_get H i q hq]
end

set_option maxHeartbeats 8000000 in
theorem law_IommuRuns (v : Value) (n : Nat) (zs : List Int) (a k : Int) (write : Bool) (w : World) (hv : Sl w v n 1 (ints zs)) (hn : n ≤ maxLen) (hl : zs.length = n) :
    Calls Try.prog 5 #[v, .int .i64 a, .int .i64 k, .bool write] w fun e w' => e = .returned (.bool true) ∧ Below w.heap.size w w' := by
  obtain ⟨A, cap, rfl, hcap, hzl, hA⟩ := hv
  unfold maxLen at hn
  have HA := Lib.hid hA; have HL := Lib.hid hl
  obtain ⟨H, hH1, hH2⟩ : ∃ H : Nat → Int, (∀ i, i < n → H i = bits BinOp.and IntKind.i64 (zs.getD i 0) 3) ∧ (∀ i, ¬ i < n → H i = 3) := ⟨fun i => if i < n then bits BinOp.and IntKind.i64 (zs.getD i 0) 3 else 3, fun i hi => if_pos hi, fun i hi => if_neg hi⟩
  have hHb : ∀ i, 0 ≤ H i ∧ H i ≤ 3 := by
    intro i
    by_cases hi : i < n
    · rw [hH1 i hi]; exact band _ 3 (by omega) (by omega)
    · rw [hH2 i hi]; omega
  have HH1 := Lib.hid hH1; have HH2 := Lib.hid hH2; have HHB := Lib.hid hHb
  have hXa := band a 255 (by omega) (by omega)
  have hXk := band k 255 (by omega) (by omega)
  generalize hXa' : bits BinOp.and IntKind.i64 a 255 = XA at hXa
  generalize hXk' : bits BinOp.and IntKind.i64 k 255 = XK at hXk
  obtain ⟨a7, rfl⟩ := Int.eq_ofNat_of_zero_le hXa.1
  obtain ⟨k7, rfl⟩ := Int.eq_ofNat_of_zero_le hXk.1
  have ha7 : a7 ≤ 255 := by omega
  have hk7 : k7 ≤ 255 := by omega
  clear hA hl hH1 hH2 hHb hXa hXk
  go_enter Try.func5, Try.ntmps5
  go_wp2_with fail
  refine (aw7_any _).mono ?_
  rintro e w1 ⟨rfl, b1⟩
  go_wp2_with fail
  refine (set7_any w w1 b1).mono ?_
  rintro e w2 ⟨g, x, t, rfl, hw, _, _, _⟩
  clear b1
  go_wp2_with fail
  have hr : Rn7 w g x t w2.heap.size l7 H 0 (w2.alloc (.cells (ints (hvL H 0)).toArray 68)) := ⟨hw.alloc _, Blk.new _ _ _, hw.size⟩
  change Code.wp _ _ _ _ (w2.alloc (.cells (ints (hvL H 0)).toArray 68))
  have hmi : MI l7 (wr7 H 0) := by rw [wr7_zero]; exact mi_zero l7 l7_len l7_zero
  have HMI := Lib.hid hmi
  clear hw hmi
  generalize w2.alloc (.cells (ints (hvL H 0)).toArray 68) = w3 at *
  generalize w2.heap.size = h at *
  go_loopw [12] (fun s wq => ∃ (i : Nat) (l : List UInt8), i ≤ 8 ∧ s = .int .i64 i ∧ Rn7 w g x t h l H i wq ∧ Hid (MI l (wr7 H i))) (fun s _ => 8 - (intOf s).toNat)
  case atStart => exact ⟨0, l7, by omega, rfl, hr, HMI⟩
  case round =>
    clear hr HMI
    obtain ⟨i, l, hi, rfl, hr, HM⟩ := hrel
    by_cases hi8 : i < 8
    · have hi8' : (i : Int) < 8 := by omega
      have hpb := HHB.out i
      by_cases hin : i < n
      · obtain ⟨b, o, rfl, hb, hcell⟩ := HA.out (by omega)
        have hc := (hr.wd.b.cell (p := ⟨b, o + i, none⟩) hb).trans (hcell i _ (ints_get zs i (by rw [HL.out]; exact hin)))
        have hz := (HH1.out i hin).symm
        obtain ⟨p, hp⟩ : ∃ p, H i = p := ⟨_, rfl⟩
        have HP := Lib.hid hp
        rw [hp] at hz hpb
        clear hcell hp
        generalize zs.getD i 0 = z at *
        have hin' : (i : Int) < n := by omega
        have hc0 := hr.at_ i hi8
        rw [if_neg (by omega)] at hc0
        have hfz := hr.blk.frozen i
        have hll := hr.blk.lt
        have hr2 := hr.set hi8
        rw [HP.out] at hr2
        by_cases hp0 : p = 0
        · subst hp0
          have HM2 := Lib.hid (show MI l (wr7 H (i + 1)) by rw [← wr7_skip H i HP.out]; exact HM.out)
          clear hr
          go_wp2_with fail
          go_roundw
          case rel => exact ⟨i + 1, l, by omega, by go_num, hr2, HM2⟩
          case measure => simp [intOf]; omega
        · have hp1 : 0 < p := by omega
          have hmap := HM.out.map i (by omega) (8 + (i : Int)) p (by omega) (by omega) (by omega) (by omega)
          have hup := wr7_put H i (by rw [HP.out]; exact hp0)
          rw [HP.out] at hup
          rw [hup] at hmap
          have HC := Lib.hid hmap.1; have HM2 := Lib.hid hmap.2
          clear hr hmap hup
          go_wp2_with fail
          generalize (wr.setCell ⟨h, i, none⟩ (.int .i64 p)) = w4 at *
          refine (map_w 0 (i : Int) (8 + (i : Int)) p 0 hr2.wd HC.out rfl).mono ?_
          rintro e w5 ⟨rfl, hw5, tn5⟩
          have hr3 := hr2.call hw5 tn5
          clear hr2 hw5 tn5
          go_wp2_with (go_at_call 11; refine (num_any _ _).mono ?_; rintro e w' ⟨rfl, rfl⟩)
          go_roundw
          case rel => exact ⟨i + 1, _, by omega, by go_num, hr3, HM2⟩
          case measure => simp [intOf]; omega

      · have hp := HH2.out i hin
        have hin' : (n : Int) ≤ i := by omega
        obtain ⟨p, rfl⟩ : ∃ p : Int, p = 3 := ⟨_, rfl⟩
        have HP := Lib.hid hp
        rw [hp] at hpb
        clear hp
        have hc0 := hr.at_ i hi8
        rw [if_neg (by omega)] at hc0
        have hfz := hr.blk.frozen i
        have hll := hr.blk.lt
        have hr2 := hr.set hi8
        rw [HP.out] at hr2
        have hp1 : (0 : Int) < 3 := by omega
        have hmap := HM.out.map i (by omega) (8 + (i : Int)) 3 (by omega) (by omega) (by omega) (by omega)
        have hup := wr7_put H i (by rw [HP.out]; omega)
        rw [HP.out] at hup
        rw [hup] at hmap
        have HC := Lib.hid hmap.1; have HM2 := Lib.hid hmap.2
        clear hr hmap hup
        go_wp2_with fail
        generalize (wr.setCell ⟨h, i, none⟩ (.int .i64 3)) = w4 at *
        refine (map_w 0 (i : Int) (8 + (i : Int)) 3 0 hr2.wd HC.out rfl).mono ?_
        rintro e w5 ⟨rfl, hw5, tn5⟩
        have hr3 := hr2.call hw5 tn5
        clear hr2 hw5 tn5
        go_wp2_with (go_at_call 11; refine (num_any _ _).mono ?_; rintro e w' ⟨rfl, rfl⟩)
        go_roundw
        case rel => exact ⟨i + 1, _, by omega, by go_num, hr3, HM2⟩
        case measure => simp [intOf]; omega
    · obtain rfl : i = 8 := by omega
      have HV7 : Hid (∀ q : Nat, q < 8 → pgC l 0 write (q : Int) = (if H q = 0 then 702 else if hasP (H q) write then 0 else 703) ∧ (pgC l 0 write (q : Int) = 0 → wF l 0 (q : Int) = 8 + (q : Int))) := Lib.hid (by
        intro q hq
        have hv := HM.out.want q (by omega)
        by_cases h0 : H q = 0
        · have hw : wr7 H 8 q = (0, 0) := by unfold wr7; rw [if_neg (fun e => e.2 h0)]
          rw [hw] at hv
          have hp := (pg_view l write q _ hv).1
          rw [if_pos rfl] at hp
          rw [if_pos h0]
          exact ⟨hp, fun e => by rw [hp] at e; exact absurd e (by decide)⟩
        · have hw : wr7 H 8 q = (8 + (q : Int), H q) := by unfold wr7; rw [if_pos ⟨hq, h0⟩]
          rw [hw] at hv
          exact pg_view l write q _ hv)
      clear HM HH1 HH2
      -- the run
      have hC : ioTrC ps2 l 0 (a7 : Int) (1 + (k7 : Int)) write = pgsC l 0 write (a7 / 64) ((a7 + k7) / 64 + 1 - a7 / 64) := by
        unfold ioTrC
        rw [show ioTrB ps2 0 (a7 : Int) (1 + (k7 : Int)) = true by unfold ioTrB thB mayB; rw [← Bool.decide_and, ← Bool.decide_and]; exact decide_eq_true (by rw [ps2_len]; omega), if_pos rfl, Int.toNat_natCast, show (1 + (k7 : Int)).toNat = k7 + 1 by omega]
        have := runC_pages l (ioRoot ps2 0) write (k7 + 1) a7 (by omega)
        rw [show a7 + (k7 + 1) - 1 = a7 + k7 by omega] at this
        exact this
      have hP : ioTrP ps2 l 0 (a7 : Int) (1 + (k7 : Int)) write = if ioTrC ps2 l 0 (a7 : Int) (1 + (k7 : Int)) write = 0 then (spl a7 (k7 + 1)).map (fun x => ((wF l 0 ((x.1 : Nat) : Int)).toNat, x.2.1, x.2.2)) else [] := by
        unfold ioTrP
        rw [Int.toNat_natCast, show (1 + (k7 : Int)).toNat = k7 + 1 by omega]
        rfl
      generalize hCC : ioTrC ps2 l 0 (a7 : Int) (1 + (k7 : Int)) write = C at *
      generalize hPP : ioTrP ps2 l 0 (a7 : Int) (1 + (k7 : Int)) write = P at *
      have HC := Lib.hid hC; have HP := Lib.hid hP; have HCC := Lib.hid hCC; have HPP := Lib.hid hPP
      clear hC hP hCC hPP
      go_wp2_with fail
      refine (tr_w 0 (a7 : Int) (1 + (k7 : Int)) C write P hr.wd HCC.out HPP.out).mono ?_
      rintro e w5 ⟨A5, cap5, rfl, ho5, hw5, tn5⟩
      replace hr := hr.call hw5 tn5
      have HO5 : Hid (∃ B0, w5.ownsRow B0 66 3 (.slice A5 P.length cap5) P.length (flat P)) := Lib.hid ⟨_, ho5⟩
      clear hw5 tn5 ho5
      obtain ⟨NP, hNP⟩ : ∃ NP, P.length = NP := ⟨_, rfl⟩
      rw [hNP] at HO5 ⊢
      have HNP := Lib.hid hNP; clear hNP
      go_upto_if 73 with fail
      go_cut [19] (fun s19 wx => s19 = .int .i64 (if write then 2 else 1) ∧ Rn7 w g x t h l H 8 wx ∧ Hid (∃ B0, wx.ownsRow B0 66 3 (.slice A5 NP cap5) NP (flat P)))
      case first =>
        cases write with
        | true =>
          go_wp2_with fail
          go_meet
          case rel => exact ⟨rfl, hr, HO5⟩
        | false =>
          go_wp2_with fail
          go_meet
          case rel => exact ⟨rfl, hr, HO5⟩
      case rest =>
        clear hr HO5
        obtain ⟨rfl, hr, HO5⟩ := hcut
        have HAND := Lib.hid (fun Q h1 h3 => has_and Q h1 h3 write)
        generalize (if write then (2 : Int) else 1) = need at *
        obtain ⟨E, hE⟩ : ∃ E, (a7 + k7) / 64 = E := ⟨_, rfl⟩
        rw [hE] at HC
        have hE7 : E ≤ 7 := by omega
        have haE : a7 / 64 ≤ E := by omega
        have hEi : ((a7 : Int) + (1 + (k7 : Int)) - 1) / 64 = (E : Int) := by omega
        have HEI := Lib.hid hEi; have HE := Lib.hid hE
        clear hEi hE
        go_upto_block 2 with fail
        go_cut [20] (fun s20 wx => s20 = .int .i64 C ∧ Rn7 w g x t h l H 8 wx ∧ Hid (∃ B0, wx.ownsRow B0 66 3 (.slice A5 NP cap5) NP (flat P)))
        case first =>
          go_wp2_with fail
          go_loopw [20, 21] (fun s20 s21 wq => ∃ (c : Int) (i : Nat), s20 = .int .i64 c ∧ s21 = .int .i64 i ∧ i ≤ E + 1 ∧ Rn7 w g x t h l H 8 wq ∧ Hid (∃ B0, wq.ownsRow B0 66 3 (.slice A5 NP cap5) NP (flat P)) ∧ Hid ((c = 0 → pgsC l 0 write i (E + 1 - i) = C) ∧ (c ≠ 0 → c = C))) (fun _ s21 _ => E + 1 - (intOf s21).toNat)
          case atStart => exact ⟨0, a7 / 64, rfl, by first | rfl | (congr 1), by omega, hr, HO5, Lib.hid ⟨fun _ => HC.out.symm, fun e => absurd rfl e⟩⟩
          case round =>
            clear hr HO5
            obtain ⟨c, i, rfl, rfl, hi, hr, HO5, HR⟩ := hrel
            by_cases hgo : i ≤ E ∧ c = 0
            · obtain ⟨hiE, rfl⟩ := hgo
              have hi8 : i < 8 := by omega
              have h1 : (i : Int) ≤ ((a7 : Int) + (1 + (k7 : Int)) - 1) / 64 := by rw [HEI.out]; omega
              have hst : pgsC l 0 write i (E + 1 - i) = C := HR.out.1 rfl
              rw [show E + 1 - i = (E - i) + 1 by omega] at hst
              unfold pgsC at hst
              have hv := (HV7.out i hi8).1
              have hcc := hr.at_ i hi8
              rw [if_pos hi8] at hcc
              have hpb := HHB.out i
              rw [hv] at hst
              have hand := HAND.out (H i)
              generalize H i = p at *
              by_cases hp0 : p = 0
              · subst hp0
                rw [if_pos rfl, if_neg (by omega)] at hst
                have HR2 : Hid (((702 : Int) = 0 → pgsC l 0 write (i + 1) (E + 1 - (i + 1)) = C) ∧ ((702 : Int) ≠ 0 → (702 : Int) = C)) := Lib.hid ⟨fun e => by omega, fun _ => hst⟩
                clear hst hv HR hand hpb
                go_wp2_with fail
                go_roundw
                case rel => exact ⟨702, i + 1, rfl, by go_num, by omega, hr, HO5, HR2⟩
                case measure => simp [intOf]; omega
              · rw [if_neg hp0] at hst
                have hp1 : (p == 0) = false := by simpa using hp0
                have hand2 := hand (by omega) hpb.2
                generalize hZ : bits BinOp.and IntKind.i64 p need = Z at *
                rcases hand2 with ⟨hz, hh⟩ | ⟨hz, hh⟩
                · subst hz
                  rw [hh] at hst
                  replace hst : (703 : Int) = C := by simpa using hst
                  have HR2 : Hid (((703 : Int) = 0 → pgsC l 0 write (i + 1) (E + 1 - (i + 1)) = C) ∧ ((703 : Int) ≠ 0 → (703 : Int) = C)) := Lib.hid ⟨fun e => by omega, fun _ => hst⟩
                  clear hst hv HR hand hpb hh
                  go_wp2_with fail
                  go_roundw
                  case rel => exact ⟨703, i + 1, rfl, by go_num, by omega, hr, HO5, HR2⟩
                  case measure => simp [intOf]; omega
                · rw [hh, if_pos rfl, if_pos rfl] at hst
                  have hz1 : (Z == 0) = false := by simpa using hz
                  have HR2 : Hid (((0 : Int) = 0 → pgsC l 0 write (i + 1) (E + 1 - (i + 1)) = C) ∧ ((0 : Int) ≠ 0 → (0 : Int) = C)) := Lib.hid ⟨fun _ => by rw [show E + 1 - (i + 1) = E - i by omega]; exact hst, fun e => absurd rfl e⟩
                  clear hst hv HR hand hpb hh
                  go_wp2_with fail
                  go_roundw
                  case rel => exact ⟨0, i + 1, rfl, by go_num, by omega, hr, HO5, HR2⟩
                  case measure => simp [intOf]; omega
            · have hcC : c = C := by
                by_cases h0 : c = 0
                · have hi1 : i = E + 1 := by omega
                  have := HR.out.1 h0
                  rw [hi1, Nat.sub_self] at this
                  rw [h0]
                  exact this
                · exact HR.out.2 h0
              have hx : (i : Int) > ((a7 : Int) + (1 + (k7 : Int)) - 1) / 64 ∨ ((i : Int) ≤ ((a7 : Int) + (1 + (k7 : Int)) - 1) / 64 ∧ (c == 0) = false) := by
                rw [HEI.out]
                by_cases h1 : i ≤ E
                · exact .inr ⟨by omega, beq_eq_false_iff_ne.2 (fun e => hgo ⟨h1, e⟩)⟩
                · exact .inl (by omega)
              clear hgo HR
              subst hcC
              rcases hx with hx | ⟨hx, hx2⟩
              all_goals
                go_wp2_with fail
                go_meet
                exact ⟨rfl, hr, HO5⟩
        case rest =>
          clear hr HO5
          obtain ⟨rfl, hr, HO5⟩ := hcut
          have hbw := hr.wd.b
          by_cases hC0 : C = 0
          · subst hC0
            have hPS : P = (spl a7 (k7 + 1)).map (fun x => ((wF l 0 ((x.1 : Nat) : Int)).toNat, x.2.1, x.2.2)) := by rw [HP.out, if_pos rfl]
            have hSL : (spl a7 (k7 + 1)).length = NP := by rw [← HNP.out, hPS, List.length_map]
            have hall := pgsC_zero l 0 write _ _ HC.out.symm
            have hcnt := spl_count (k7 + 1) a7 (by omega)
            have hfacts : ∀ q (hq : q < NP), ∃ p2 p3 : Nat, (flat P)[q * 3]? = some (.int .i64 (8 + ((a7 + pre (spl a7 (k7 + 1)) q : Nat) : Int) / 64)) ∧ (flat P)[q * 3 + 1]? = some (.int .i64 p2) ∧ (flat P)[q * 3 + 2]? = some (.int .i64 p3) ∧ (p2 : Int) = ((a7 + pre (spl a7 (k7 + 1)) q : Nat) : Int) % 64 ∧ 1 ≤ p3 ∧ pre (spl a7 (k7 + 1)) (q + 1) = pre (spl a7 (k7 + 1)) q + p3 := by
              intro q hq
              have hqS : q < (spl a7 (k7 + 1)).length := by omega
              have hqP : q < P.length := by rw [HNP.out]; exact hq
              obtain ⟨f1, f2, f3⟩ := flat_get P q hqP
              obtain ⟨s1, s2, s3⟩ := spl_at (k7 + 1) a7 q hqS
              have hPq : P[q] = ((wF l 0 (((spl a7 (k7 + 1))[q].1 : Nat) : Int)).toNat, (spl a7 (k7 + 1))[q].2.1, (spl a7 (k7 + 1))[q].2.2) := by simp [hPS]
              have hpre := pre_step (spl a7 (k7 + 1)) q hqS
              have hpl := pre_le (k7 + 1) a7 (q + 1) (by omega)
              have hpg : (spl a7 (k7 + 1))[q].1 < 8 := by omega
              have hlo : a7 / 64 ≤ (spl a7 (k7 + 1))[q].1 := by omega
              have hEe := HE.out
              have hz := hall ((spl a7 (k7 + 1))[q].1 - a7 / 64) (by omega)
              rw [show a7 / 64 + ((spl a7 (k7 + 1))[q].1 - a7 / 64) = (spl a7 (k7 + 1))[q].1 by omega] at hz
              have hf := (HV7.out _ hpg).2 hz
              refine ⟨(spl a7 (k7 + 1))[q].2.1, (spl a7 (k7 + 1))[q].2.2, ?_, ?_, ?_, by omega, s2, hpre⟩
              · have e1 : (((8 + (((spl a7 (k7 + 1))[q].1 : Nat) : Int)).toNat : Nat) : Int) = 8 + ((a7 + pre (spl a7 (k7 + 1)) q : Nat) : Int) / 64 := by omega
                rw [f1, hPq]
                show some (Value.int .i64 _) = _
                rw [hf, e1]
              · rw [f2, hPq]
              · rw [f3, hPq]
            have hend : pre (spl a7 (k7 + 1)) NP = k7 + 1 := by rw [← hSL]; exact spl_pre (k7 + 1) a7
            have hNPb : NP ≤ 65536 := by have := spl_len (k7 + 1) a7; omega
            have HF := Lib.hid hfacts; have HEND := Lib.hid hend
            have HPL := Lib.hid (fun i hi => pre_le (k7 + 1) a7 i (by rw [hSL]; exact hi))
            have hp0 : pre (spl a7 (k7 + 1)) 0 = 0 := pre_zero _
            generalize spl a7 (k7 + 1) = S at *
            clear hfacts hend hPS hall hcnt hSL HV7 HC HP
            go_wp2_with fail
            go_loopw [22, 23] (fun s22 s23 wq => ∃ (q : Nat), q ≤ NP ∧ s22 = .int .i64 ((a7 + pre S q : Nat) : Int) ∧ s23 = .int .i64 q ∧ Rn7 w g x t h l H 8 wq ∧ Hid (∃ B0, wq.ownsRow B0 66 3 (.slice A5 NP cap5) NP (flat P)) ∧ pre S q ≤ 256) (fun _ s23 _ => NP - (intOf s23).toNat)
            case atStart => exact ⟨0, by omega, by rw [hp0]; rfl, rfl, hr, HO5, by omega⟩
            case round =>
              clear hr HO5
              obtain ⟨q, hq, rfl, rfl, hr, HO5, hq256⟩ := hrel
              by_cases hlq : q < NP
              · have hlq' : (q : Int) < NP := by omega
                obtain ⟨p2, p3, g1, g2, g3, g4, g5, g6⟩ := HF.out q hlq
                obtain ⟨B0, ho⟩ := HO5.out
                obtain ⟨b5, hA5⟩ : ∃ b5, A5 = some ⟨b5, 0, none⟩ := by
                  rcases ho.2 with ⟨_, h'⟩ | ⟨b5, cap, cur, h', _⟩
                  · omega
                  · exact ⟨b5, by injection h'⟩
                subst hA5
                have d1 := (ho.cellAt (q * 3) (by omega)).trans g1
                have d2 := (ho.cellAt (q * 3 + 1) (by omega)).trans g2
                have d3 := (ho.cellAt (q * 3 + 2) (by omega)).trans g3
                have hlen : a7 + pre S q ≤ 511 := by omega
                generalize hY : a7 + pre S q = Y at *
                have hq2 : a7 + pre S (q + 1) = Y + p3 := by omega
                have HQ2 := Lib.hid hq2
                have hle : pre S (q + 1) ≤ 256 := by
                  have := HPL.out (q + 1) (by omega)
                  omega
                have hp3 : p3 ≤ 256 := by omega
                have e2 : ((p2 : Int) != (Y : Int) % 64) = false := by simp [g4]
                have e2' : ((p2 : Int) == (Y : Int) % 64) = true := by simp [g4]
                have e3 : decide ((p3 : Int) < 1) = false := decide_eq_false (by omega)
                clear ho g1 g2 g3 g6 hq2
                rw [g4] at d2
                go_wp2_with fail
                go_roundw
                case rel => exact ⟨q + 1, by omega, by rw [HQ2.out]; go_num, by go_num, hr, HO5, hle⟩
                case measure => simp [intOf]; omega
              · obtain rfl : q = NP := by omega
                have hb := hr.wd.b
                have hnn : ¬ ((q : Int) < q) := by omega
                have e1 : (((a7 : Int) + (pre S q : Nat)) == (a7 : Int) + (1 + (k7 : Int))) = true := by rw [HEND.out]; simp; omega
                clear HO5 hr
                go_wp2_with (go_at_call 11; refine (num_any _ _).mono ?_; rintro e w' ⟨rfl, rfl⟩)
                go_ret
                exact ⟨rfl, hb⟩
          · have hP0 : P = [] := by rw [HP.out, if_neg hC0]
            have hN0 : NP = 0 := by rw [← HNP.out, hP0]; rfl
            subst hN0
            have hc1 : (C == 0) = false := by simpa using hC0
            have hc2 : (C == C) = true := by simp
            clear HP HC HV7 HHB HAND
            go_wp2_with (go_at_call 11; refine (num_any _ _).mono ?_; rintro e w' ⟨rfl, rfl⟩)
            go_ret
            exact ⟨rfl, hbw⟩

end Go.Proofs.Ytkiijohmadeofaa
