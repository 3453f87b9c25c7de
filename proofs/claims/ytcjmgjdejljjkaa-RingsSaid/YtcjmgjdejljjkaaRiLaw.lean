/-
  Layer 17's law Rings: it answers true for every input.
-/
import Derived.Test.YtcjmgjdejljjkaaRiAwake
import Derived.Test.YtcjmgjdejljjkaaRi5
import Derived.Test.YtcjmgjdejljjkaaRi6
import Derived.Test.YtcjmgjdejljjkaaRi7
namespace Go.Proofs.Ytcjmgjdejljjkaa
open Go.RowKit
set_option linter.unusedVariables false
set_option linter.unusedSimpArgs false
set_option maxRecDepth 100000

theorem LentD.row {B : Nat} {w : World} {v : Value} {n : Nat} {l : List Ds} (h : LentD B w v n l) : ∃ g cap, v = .slice (some ⟨g, 0, none⟩) n cap ∧ n + 2 ≤ cap ∧ w.ownsRow B 42 5 (.slice (some ⟨g, 0, none⟩) (n + 2) cap) (n + 2) (ints (dss l ++ roomD)) := h
theorem LentI.row {B : Nat} {w : World} {v : Value} {n : Nat} {l : List Int} (h : LentI B w v n l) : ∃ g cap, v = .slice (some ⟨g, 0, none⟩) n cap ∧ n + 2 ≤ cap ∧ w.ownsRow B 3 1 (.slice (some ⟨g, 0, none⟩) (n + 2) cap) (n + 2) (ints (l ++ roomI)) := h

set_option maxHeartbeats 4000000 in
theorem law_Rings (s : ByteArray) (h : Int) (u ur uw : Value) (n nr nw : Nat) (zs rs ws : List Int) (w : World)
    (hs : Sl w u n 5 (ints zs)) (hn : n ≤ maxLen) (hl : zs.length = n * 5) (hz : ∀ A n c, u = .slice A n c → n * 40 ≤ 140737488351232 ∧ (A = none → c = 0))
    (hr : Sl w ur nr 1 (ints rs)) (hrn : nr ≤ maxLen) (hrl : rs.length = nr) (hrz : ∀ A n c, ur = .slice A n c → n * 8 ≤ 140737488351232 ∧ (A = none → c = 0))
    (hw : Sl w uw nw 1 (ints ws)) (hwn : nw ≤ maxLen) (hwl : ws.length = nw) (hwz : ∀ A n c, uw = .slice A n c → n * 8 ≤ 140737488351232 ∧ (A = none → c = 0)) :
    Calls Try.prog 3 #[.string s, .int .i64 h, u, ur, uw] w fun e w' => e = .returned (.bool true) ∧ Below w.heap.size w w' := by
  obtain ⟨l, rfl, hll⟩ := dss_of n zs hl
  obtain ⟨A, cap, rfl, -, -, -⟩ := id hs
  obtain ⟨Ar, capr, rfl, -, -, -⟩ := id hr
  obtain ⟨Aw', capw, rfl, -, -, -⟩ := id hw
  obtain ⟨hz1, hz2⟩ := hz A n cap rfl
  obtain ⟨hrz1, hrz2⟩ := hrz Ar nr capr rfl
  obtain ⟨hwz1, hwz2⟩ := hwz Aw' nw capw rfl
  have HLD := Lib.hid (fun W (b : Below w.heap.size w W) => lend_descs (.slice A n cap) n l W (hs.below b) hll hz1 (by intro m c e; simp only [Value.slice.injEq] at e; obtain ⟨e1, e2, e3⟩ := e; subst e3; exact hz2 e1))
  have HLR := Lib.hid (fun W (b : Below w.heap.size w W) => lend_intz (.slice Ar nr capr) nr rs W (hr.below b) hrl hrz1 (by intro m c e; simp only [Value.slice.injEq] at e; obtain ⟨e1, e2, e3⟩ := e; subst e3; exact hrz2 e1))
  have HLW := Lib.hid (fun W (b : Below w.heap.size w W) => lend_intz (.slice Aw' nw capw) nw ws W (hw.below b) hwl hwz1 (by intro m c e; simp only [Value.slice.injEq] at e; obtain ⟨e1, e2, e3⟩ := e; subst e3; exact hwz2 e1))
  have HU := Lib.hid hs; have HR := Lib.hid hr; have HW := Lib.hid hw
  obtain ⟨C, hC⟩ : ∃ C, ckC l rs ws = C := ⟨_, rfl⟩
  have HC := Lib.hid hC
  have eC : (C == C) = true := by simp
  obtain ⟨P, hP⟩ : ∃ P, riP s.data.toList h = P := ⟨_, rfl⟩
  have HP := Lib.hid hP
  have hPl : P.2.length ≤ 8 := by rw [← hP]; exact riL_len _ _
  obtain ⟨E, L⟩ := P
  simp only at hPl
  have eE : (E == E) = true := by simp
  have HRC := Lib.hid (fun W => hP ▸ rchain_any s h W)
  have H40 := Lib.hid hz1; have H8r := Lib.hid hrz1; have H8w := Lib.hid hwz1
  clear hz hrz hwz hz1 hz2 hrz1 hrz2 hwz1 hwz2 hl hC hP hs hr hw
  go_enter Try.func3, Try.ntmps3
  go_wp2_with fail
  refine (chain_is s h (E, L) _ HP.out).mono ?_
  rintro e w1 ⟨va, rfl, ho, b⟩
  simp only at ho
  have hT := (Tk.empty w).addR b ho
  clear ho b
  go_wp2_with fail
  refine (HRC.out _).mono ?_
  rintro e w2 ⟨vb, rfl, ho, b⟩
  simp only at ho
  have hT := hT.addR b ho
  clear ho b HRC
  have HT := Lib.hid hT
  clear hT
  go_wp2_with fail
  refine (HLD.out _ HT.out.below).mono ?_
  rintro e w3 ⟨vx, rfl, hk, b⟩
  obtain ⟨gx, cx, rfl, hcx, ho⟩ := hk.row
  have HT := Lib.hid (HT.out.addR b ho)
  clear hk ho b HLD
  go_wp2_with fail
  refine (HLR.out _ HT.out.below).mono ?_
  rintro e w4 ⟨vr, rfl, hk, b⟩
  obtain ⟨gr, cr, rfl, hcr, ho⟩ := hk.row
  have HT := Lib.hid (HT.out.addR b ho)
  clear hk ho b HLR
  go_wp2_with fail
  refine (HLW.out _ HT.out.below).mono ?_
  rintro e w5 ⟨vw, rfl, hk, b⟩
  obtain ⟨gw, cw, rfl, hcw, ho⟩ := hk.row
  have HT := Lib.hid (HT.out.addR b ho)
  clear hk ho b HLW
  have HGX : ∀ (W : World), W.ownsRow 0 42 5 (.slice (some ⟨gx, 0, none⟩) (n + 2) cx) (n + 2) (ints (dss l ++ roomD)) → LentD 0 W (.slice (some ⟨gx, 0, none⟩) n cx) n l := fun _ h => ⟨gx, cx, rfl, hcx, h⟩
  have HGR : ∀ (W : World), W.ownsRow 0 3 1 (.slice (some ⟨gr, 0, none⟩) (nr + 2) cr) (nr + 2) (ints (rs ++ roomI)) → LentI 0 W (.slice (some ⟨gr, 0, none⟩) nr cr) nr rs := fun _ h => ⟨gr, cr, rfl, hcr, h⟩
  have HGW : ∀ (W : World), W.ownsRow 0 3 1 (.slice (some ⟨gw, 0, none⟩) (nw + 2) cw) (nw + 2) (ints (ws ++ roomI)) → LentI 0 W (.slice (some ⟨gw, 0, none⟩) nw cw) nw ws := fun _ h => ⟨gw, cw, rfl, hcw, h⟩
  have HGX := Lib.hid HGX; have HGR := Lib.hid HGR; have HGW := Lib.hid HGW
  clear hcx hcr hcw
  go_wp2_with fail
  refine (check_any _ _ _ n nr nw l rs ws _ ((HGX.out _ (HT.out.row (i := 2) rfl)).sl hll) hll hn ((HGR.out _ (HT.out.row (i := 1) rfl)).sl hrl) hrl hrn ((HGW.out _ (HT.out.row (i := 0) rfl)).sl hwl) hwl hwn C HC.out).mono ?_
  rintro e w6 ⟨rfl, b⟩
  have HT := Lib.hid (HT.out.next b)
  clear b
  go_wp2_with fail
  refine (same_descs va vb L.length L _ (HT.out.sl (i := 4) rfl) (HT.out.sl (i := 3) rfl) rfl (by unfold maxLen; omega)).mono ?_
  rintro e w7 ⟨rfl, k, rfl⟩
  have HT := Lib.hid (HT.out.drewN k)
  generalize w6.drewN k = w7 at HT
  go_wp2_with fail
  refine (num_any _ _).mono ?_; rintro e w' ⟨rfl, rfl⟩
  go_wp2_with fail
  refine (num_any _ _).mono ?_; rintro e w' ⟨rfl, rfl⟩
  go_wp2_with fail
  refine (rcheck_any _ _ _ n nr nw l rs ws _ (HU.out.below HT.out.below) hll hn (HR.out.below HT.out.below) hrl hrn (HW.out.below HT.out.below) hwl hwn C HC.out).mono ?_
  rintro e w8 ⟨rfl, b⟩
  have HT := Lib.hid (HT.out.next b)
  clear b
  go_wp2_with fail
  refine (spoil_descs va 0 L.length _ _ (HT.out.row (i := 4) rfl) (Dck.dss L) (by omega)).mono ?_
  rintro e w9 ⟨rfl, b⟩
  have HT := Lib.hid (HT.out.spoilR (i := 4) rfl b)
  clear b
  go_wp2_with fail
  refine (chain_is s h (E, L) _ HP.out).mono ?_
  rintro e w10 ⟨vc, rfl, ho, b⟩
  simp only at ho
  have HT := Lib.hid (HT.out.addR b ho)
  clear ho b
  go_wp2_with fail
  refine (same_descs vc vb L.length L _ (HT.out.sl (i := 0) rfl) (HT.out.sl (i := 4) rfl) rfl (by unfold maxLen; omega)).mono ?_
  rintro e w11 ⟨rfl, k, rfl⟩
  have HT := Lib.hid (HT.out.drewN k)
  generalize w10.drewN k = w11 at HT
  go_wp2_with fail
  refine (kept_descs 0 _ _ n l _ (HGX.out _ (HT.out.row (i := 3) rfl)) (HU.out.below HT.out.below) hll H40.out).mono ?_
  rintro e w12 ⟨rfl, b⟩
  have HT := Lib.hid (HT.out.next b)
  clear b
  go_wp2_with fail
  refine (kept_intz 0 _ _ nr rs _ (HGR.out _ (HT.out.row (i := 2) rfl)) (HR.out.below HT.out.below) hrl H8r.out).mono ?_
  rintro e w13 ⟨rfl, b⟩
  have HT := Lib.hid (HT.out.next b)
  clear b
  go_wp2_with fail
  refine (kept_intz 0 _ _ nw ws _ (HGW.out _ (HT.out.row (i := 1) rfl)) (HW.out.below HT.out.below) hwl H8w.out).mono ?_
  rintro e w14 ⟨rfl, b⟩
  have HT := Lib.hid (HT.out.next b)
  clear b
  go_wp2_with fail
  refine (riawake_any _).mono ?_
  rintro e w15 ⟨rfl, b⟩
  have HT := Lib.hid (HT.out.next b)
  clear b
  go_wp2_with fail
  go_ret
  exact ⟨rfl, HT.out.below⟩

end Go.Proofs.Ytcjmgjdejljjkaa
