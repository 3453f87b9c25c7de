/-
  Contracts: the document's inside, CheckRing.
-/
import Derived.Test.YtcjmgjdejljjkaaRi4
import Derived.Test.YtcjmgjdejljjkaaDe3
import Derived.BigQuiet
import Derived.Deep.CutBlock
import Derived.Deep.DeepCutAuto
namespace Go.Proofs.Ytcjmgjdejljjkaa
open Go.RowKit
set_option linter.unusedVariables false
set_option linter.unusedSimpArgs false
set_option maxRecDepth 100000

theorem rdemay_is (o x l b n : Int) (B : Bool) (w : World) (h : deB o x l b n = B) :
    Calls Try.prog 29 #[.agg #[.int .i64 o, .int .i64 x, .int .i64 l, .int .i64 b, .int .i64 n]] w fun e w' => e = .returned (.bool B) ∧ Below w.heap.size w w' := by
  subst h; exact rdemay_any o x l b n w

/-- Is one of the first k the number p? -/
def inK (fs : List Int) (p : Int) (k : Nat) : Bool := (fs.take k).contains p
theorem inK_step (fs : List Int) (p : Int) (k : Nat) (h : k < fs.length) (h0 : inK fs p k = false) : inK fs p (k + 1) = (fs.getD k 0 == p) := by
  unfold inK at *
  rw [take_succ fs k h, List.contains_append, h0]
  simp only [List.contains_cons, List.contains_nil, Bool.or_false, Bool.false_or]
  exact Bool.beq_comm
theorem inK_yes (fs : List Int) (p : Int) (k : Nat) (h : inK fs p k = true) : fs.contains p = true := by
  unfold inK at h
  rw [List.contains_iff_mem] at *
  exact List.mem_of_mem_take h
theorem inK_all (fs : List Int) (p : Int) (k : Nat) (h : fs.length ≤ k) : inK fs p k = fs.contains p := by unfold inK; rw [List.take_of_length_le h]

set_option maxHeartbeats 2000000 in
theorem inside_any (b m : Int) (vf : Value) (n : Nat) (fs : List Int) (w : World) (hf : Sl w vf n 1 (ints fs)) (hfl : fs.length = n) (hfn : n ≤ maxLen) (hb0 : 0 ≤ b) (hb1 : b ≤ 65535) (hm0 : 0 ≤ m) (hm1 : m ≤ 4) :
    Calls Try.prog 30 #[.int .i64 b, .int .i64 (m * 16), vf] w fun e w' => e = .returned (.bool (bufB b m fs)) ∧ Below w.heap.size w w' := by
  unfold maxLen at hfn
  have HSF := Lib.hid hf
  obtain ⟨Af, capf, rfl, -, -, -⟩ := hf
  by_cases hm : b + m * 16 ≤ 4096
  · obtain ⟨L, hL⟩ : ∃ L, spl b.toNat (m * 16).toNat = L := ⟨_, rfl⟩
    have hR : bufB b m fs = okF fs (L.drop 0) := by unfold bufB; rw [hL, decide_eq_true hm, List.drop_zero]; rfl
    obtain ⟨R, hR2⟩ : ∃ R, okF fs (L.drop 0) = R := ⟨_, rfl⟩
    rw [hR, hR2]
    have HR := Lib.hid hR2
    have hLl : L.length ≤ 64 := by have := spl_len (m * 16).toNat b.toNat; rw [hL] at this; omega
    have HL := Lib.hid hL
    have HFL := Lib.hid hfl
    clear hR hR2 hL
    go_enter Try.func30, Try.ntmps30
    go_wp2_with fail
    refine (rsplit_yes b (m * 16) _ hb0 (by omega) hm).mono ?_
    rw [HL.out]
    rintro e w1 ⟨v, rfl, hown, b2⟩
    have hsl := Sl.own hown
    have HB := Lib.hid b2
    have hs1 := HB.out.size
    obtain ⟨A, cap, rfl, hc, hxl, hA⟩ := hsl
    have HA := Lib.hid hA
    clear b2 hown hA
    go_wp2_with fail
    go_loopw [9] (fun i wr => ∃ k : Nat, k ≤ L.length ∧ i = .int .i64 k ∧ Hid (okF fs (L.drop k) = R ∧ Below w1.heap.size w1 wr)) (fun i _ => L.length - (intOf i).toNat)
    case atStart => exact ⟨0, by omega, rfl, Lib.hid ⟨HR.out, Below.refl _ _⟩⟩
    case round =>
      obtain ⟨k, hk, rfl, H⟩ := hrel
      by_cases hlt : k < L.length
      · obtain ⟨bb, oo, rfl, hbb, hcell⟩ := HA.out (by omega)
        have f := flat_get L k hlt
        have a0 := (H.out.2.cell (p := ⟨bb, oo + k * 3, none⟩) hbb).trans (hcell _ _ f.1)
        have hst := okF_step fs L k hlt
        rw [H.out.1] at hst
        obtain ⟨q, hq⟩ : ∃ q, L[k].1 = q := ⟨_, rfl⟩
        rw [hq] at a0 hst
        have HST := Lib.hid hst
        have hwr := H.out.2.size
        have HBr := Lib.hid H.out.2
        have hbr := Below.down HB.out H.out.2 hs1
        have HSr := Lib.hid (HSF.out.below hbr)
        clear hcell f hst hq H hbr
        have HA0 := Lib.hid a0
        clear a0
        go_wp2_with fail
        go_loopw [10, 11] (fun s t wx => ∃ (j p : Nat) (B : Bool), s = .bool B ∧ t = .int .i64 j ∧ j ≤ n ∧ wx = wr.drewN p ∧ Hid (inK fs q j = B)) (fun _ t _ => n - (intOf t).toNat)
        case atStart => exact ⟨0, 0, false, rfl, rfl, by omega, rfl, Lib.hid rfl⟩
        case round =>
          obtain ⟨j, p, B, rfl, rfl, hj, rfl, HK⟩ := hrel
          have HBp := Lib.hid (bdrewN HBr.out p)
          cases B
          · by_cases hjn : j < n
            · obtain ⟨cA, cc, ec, -, -, hcA⟩ := HSr.out
              simp only [Value.slice.injEq] at ec
              obtain ⟨rfl, -, rfl⟩ := ec
              obtain ⟨b', o', rfl, hb', hcell⟩ := hcA (by omega)
              have hj0 := hcell j _ (ints_get fs j (by rw [HFL.out]; exact hjn))
              have HKS := Lib.hid (inK_step fs q j (by rw [HFL.out]; exact hjn) HK.out)
              have a0 := HA0.out
              obtain ⟨z, hz⟩ : ∃ z, fs.getD j 0 = z := ⟨_, rfl⟩
              rw [hz] at hj0 HKS
              have HZ := Lib.hid hz
              obtain ⟨E, hE⟩ : ∃ E, (z == (q : Int)) = E := ⟨_, rfl⟩
              rw [hE] at HKS
              clear hcell hcA hz
              go_wp2
              go_quiet (fail)
              go_wp2
              go_roundw
              case rel => exact ⟨j + 1, _, E, rfl, by go_num, by omega, rfl, HKS⟩
              case measure => simp [intOf]; omega
            · have HNO : Hid (fs.contains (q : Int) = false) := Lib.hid (by rw [← inK_all fs q j (by rw [HFL.out]; omega)]; exact HK.out)
              have HRF : Hid (R = false) := Lib.hid (by rw [HST.out, HNO.out]; rfl)
              have HBB := Lib.hid ((HB.out).trans (HBp.out.mono hs1))
              go_wp2_with fail
              go_ret
              exact ⟨by rw [HRF.out]; rfl, HBB.out⟩
          · have HYES := Lib.hid (inK_yes fs q j HK.out)
            have HRT : Hid (okF fs (L.drop (k + 1)) = R) := Lib.hid (by rw [HST.out, HYES.out]; rfl)
            by_cases hjn : j < n
            · go_wp2_with fail
              go_roundw
              case rel => exact ⟨k + 1, by omega, by go_num, Lib.hid ⟨HRT.out, HBp.out⟩⟩
              case measure => simp [intOf]; omega
            · go_wp2_with fail
              go_roundw
              case rel => exact ⟨k + 1, by omega, by go_num, Lib.hid ⟨HRT.out, HBp.out⟩⟩
              case measure => simp [intOf]; omega
      · go_wp2
        go_ret
        exact ⟨by rw [← H.out.1, okF_end _ _ _ (by omega)]; rfl, HB.out.trans (H.out.2.mono hs1)⟩
  · have hR : bufB b m fs = false := by unfold bufB; rw [decide_eq_false hm]; rfl
    rw [hR]
    have hno : ¬ (0 ≤ b ∧ 0 ≤ m * 16 ∧ b ≤ 4096 ∧ m * 16 ≤ 4096 - b) := by omega
    have HNO := Lib.hid hno
    clear hR hno hm
    go_enter Try.func30, Try.ntmps30
    go_wp2_with fail
    refine (rsplit_no b (m * 16) _ HNO.out).mono ?_
    rintro e w' ⟨rfl, rfl⟩
    go_wp2_with fail
    go_loopw [9] (fun i wr => i = .int .i64 0 ∧ wr = w) (fun i _ => 0)
    case atStart => exact ⟨rfl, rfl⟩
    case round =>
      obtain ⟨rfl, rfl⟩ := hrel
      go_wp2
      go_ret
      exact ⟨rfl, Below.refl _ _⟩

set_option maxHeartbeats 4000000 in
theorem rcheck_any (v vr vw : Value) (n nr nw : Nat) (l : List Ds) (rs ws : List Int) (w : World) (hs : Sl w v n 5 (ints (dss l))) (hll : l.length = n) (hn : n ≤ maxLen)
    (hr : Sl w vr nr 1 (ints rs)) (hrl : rs.length = nr) (hrn : nr ≤ maxLen) (hw : Sl w vw nw 1 (ints ws)) (hwl : ws.length = nw) (hwn : nw ≤ maxLen) (C : Int) (hC : ckC l rs ws = C) :
    Calls Try.prog 15 #[v, vr, vw] w fun e w' => e = .returned (.int .i64 C) ∧ Below w.heap.size w w' := by
  have HR := Lib.hid (fun (b m : Int) (h0 : 0 ≤ b) (h1 : b ≤ 65535) (h2 : 0 ≤ m) (h3 : m ≤ 4) W (hW : Below w.heap.size w W) => inside_any b m vr nr rs W (hr.below hW) hrl hrn h0 h1 h2 h3)
  have HW := Lib.hid (fun (b m : Int) (h0 : 0 ≤ b) (h1 : b ≤ 65535) (h2 : 0 ≤ m) (h3 : m ≤ 4) W (hW : Below w.heap.size w W) => inside_any b m vw nw ws W (hw.below hW) hwl hwn h0 h1 h2 h3)
  have HC := Lib.hid hC
  have HS := Lib.hid hs
  obtain ⟨A, cap, rfl, -, -, -⟩ := hs
  unfold maxLen at hn
  clear hr hrl hrn hw hwl hwn hC
  go_enter Try.func15, Try.ntmps15
  go_wp2_with fail
  go_loopw [7] (fun i wr => ∃ j : Nat, j ≤ n ∧ i = .int .i64 j ∧ Hid (ckC (l.drop j) rs ws = C ∧ Below w.heap.size w wr)) (fun i _ => n - (intOf i).toNat)
  case atStart => exact ⟨0, by omega, rfl, Lib.hid ⟨HC.out, Below.refl _ _⟩⟩
  case round =>
    obtain ⟨j, hj, rfl, H⟩ := hrel
    by_cases hlt : j < n
    · have hjl : j < l.length := by omega
      have hwr := H.out.2.size
      obtain ⟨bb, oo, rfl, -, c0, c1, c2, c3, c4⟩ := ds_at (HS.out.below H.out.2) hll j hjl
      have hst := ck_step l rs ws j hjl
      rw [H.out.1] at hst
      generalize l[j] = d at *
      obtain ⟨o, x, lb, b, m⟩ := d
      simp only at c0 c1 c2 c3 c4 hst
      obtain ⟨E, hE⟩ : ∃ E, oneC ⟨o, x, lb, b, m⟩ rs ws = E := ⟨_, rfl⟩
      rw [hE] at hst
      have HST := Lib.hid hst
      have hq := one_ways o x lb b m rs ws
      rw [hE] at hq
      have HBr := Lib.hid (H.out.2.alloc hwr (.cells #[.int .i64 o, .int .i64 x, .int .i64 lb, .int .i64 b, .int .i64 m] 42))
      have t0 := box_at wr o x lb b m
      clear hst hE H
      go_wp2_with fail
      generalize wr.alloc (.cells #[.int .i64 o, .int .i64 x, .int .i64 lb, .int .i64 b, .int .i64 m] 42) = wa at *
      have hd : ∃ D, deB o x lb b m = D := ⟨_, rfl⟩
      obtain ⟨D, hD⟩ := hd
      rw [hD] at hq
      have HD := Lib.hid hD
      have hbb : D = true → 0 ≤ b ∧ b ≤ 65535 := fun h => by have := (de_iff o x lb b m).1 (by rw [hD, h]); omega
      have HBB := Lib.hid hbb
      clear hD hbb
      refine (rdemay_is o x lb b m D _ HD.out).mono ?_
      rintro e w3 ⟨rfl, b3⟩
      have HBr := Lib.hid (Below.down HBr.out b3 HBr.out.size)
      have hs3 := HBr.out.size
      obtain ⟨e0, e1, e2, e3, e4⟩ := five_at (t0.below b3 t0.lt)
      clear b3 t0 c0 c1 c2 c3 c4
      rcases hq with ⟨rfl, rfl⟩ | ⟨rfl, h0, rfl⟩ | ⟨rfl, h0, h1, rfl⟩ | ⟨rfl, h0, h1, rfl, hq⟩ | ⟨rfl, h0, h1, rfl, hq⟩ | ⟨rfl, h0, h1, z1, z0, rfl⟩
      · have HCE : Hid (C = 1700) := Lib.hid (by rw [HST.out]; rfl)
        go_wp2_with fail
        go_ret
        exact ⟨by rw [HCE.out]; rfl, HBr.out⟩
      · have HCE : Hid (C = 1700) := Lib.hid (by rw [HST.out]; rfl)
        go_wp2_with fail
        go_ret
        exact ⟨by rw [HCE.out]; rfl, HBr.out⟩
      · have HCE : Hid (C = 1700) := Lib.hid (by rw [HST.out]; rfl)
        go_wp2_with fail
        go_ret
        exact ⟨by rw [HCE.out]; rfl, HBr.out⟩
      · obtain ⟨y0, y1⟩ := HBB.out rfl
        obtain ⟨Z, hZ⟩ : ∃ Z, bufB b m rs = Z := ⟨_, rfl⟩
        rw [hZ] at hq
        have HZ := Lib.hid hZ
        have HQ := Lib.hid hq
        clear hZ hq
        go_wp2_with fail
        refine (HR.out b m y0 y1 (by omega) h1 _ HBr.out).mono ?_
        rintro e w4 ⟨rfl, b4⟩
        rw [HZ.out]
        have HBr := Lib.hid (Below.down HBr.out b4 hs3)
        clear b4
        cases Z
        · have HCE : Hid (C = 1703) := Lib.hid (by rw [HST.out, HQ.out]; rfl)
          go_wp2_with fail
          go_ret
          exact ⟨by rw [HCE.out]; rfl, HBr.out⟩
        · have HCE : Hid (ckC (l.drop (j + 1)) rs ws = C) := Lib.hid (by rw [HST.out, HQ.out]; rfl)
          go_wp2_with fail
          go_roundw
          case rel => exact ⟨j + 1, by omega, by go_num, Lib.hid ⟨HCE.out, HBr.out⟩⟩
          case measure => simp [intOf]; omega
      · obtain ⟨y0, y1⟩ := HBB.out rfl
        obtain ⟨Z, hZ⟩ : ∃ Z, bufB b m ws = Z := ⟨_, rfl⟩
        rw [hZ] at hq
        have HZ := Lib.hid hZ
        have HQ := Lib.hid hq
        clear hZ hq
        go_wp2_with fail
        refine (HW.out b m y0 y1 (by omega) h1 _ HBr.out).mono ?_
        rintro e w4 ⟨rfl, b4⟩
        rw [HZ.out]
        have HBr := Lib.hid (Below.down HBr.out b4 hs3)
        clear b4
        cases Z
        · have HCE : Hid (C = 1703) := Lib.hid (by rw [HST.out, HQ.out]; rfl)
          go_wp2_with fail
          go_ret
          exact ⟨by rw [HCE.out]; rfl, HBr.out⟩
        · have HCE : Hid (ckC (l.drop (j + 1)) rs ws = C) := Lib.hid (by rw [HST.out, HQ.out]; rfl)
          go_wp2_with fail
          go_roundw
          case rel => exact ⟨j + 1, by omega, by go_num, Lib.hid ⟨HCE.out, HBr.out⟩⟩
          case measure => simp [intOf]; omega
      · have HCE : Hid (ckC (l.drop (j + 1)) rs ws = C) := Lib.hid (by rw [HST.out]; rfl)
        go_wp2_with fail
        go_roundw
        case rel => exact ⟨j + 1, by omega, by go_num, Lib.hid ⟨HCE.out, HBr.out⟩⟩
        case measure => simp [intOf]; omega
    · go_wp2
      go_ret
      exact ⟨by rw [← H.out.1, ck_end _ _ _ _ (by omega)]; rfl, H.out.2⟩

end Go.Proofs.Ytcjmgjdejljjkaa
