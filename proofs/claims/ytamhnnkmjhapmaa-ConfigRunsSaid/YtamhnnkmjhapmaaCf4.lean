/-
  Contracts of config's ownersOf, framesUnlike.
-/
import Derived.Test.YtamhnnkmjhapmaaCf3
namespace Go.Proofs.Ytamhnnkmjhapmaa
open Go.RowKit
set_option linter.unusedVariables false
set_option linter.unusedSimpArgs false
set_option maxRecDepth 100000

/-- What ownersOf answers: a table, or nil. -/
def OwnsOf (c : Cf) (w : World) (e : Ending) (w' : World) : Prop :=
  Below w.heap.size w w' ∧ (unB c = true ∧ (∃ g, e = .returned (.pointer (some ⟨g, 0, none⟩)) ∧ w.heap.size ≤ g ∧ Tab w' g (tabL c.fr.toNat (ownM c))) ∨ unB c = false ∧ e = .returned (.pointer none))
/-- What its first loop keeps, its second. -/
def OwA (c : Cf) (w1 : World) (g k : Nat) (W : World) : Prop :=
  Tab W g (tabL c.fr.toNat (gpT 0 freeT (c.ps.take k))) ∧ Below w1.heap.size w1 W ∧ gpB c.fr 0 freeT c.ps = gpB c.fr k (gpT 0 freeT (c.ps.take k)) (c.ps.drop k)
def OwB (c : Cf) (w1 : World) (g k : Nat) (W : World) : Prop :=
  Tab W g (tabL c.fr.toNat (gdT (gpT 0 freeT c.ps) (c.ds.take k))) ∧ Below w1.heap.size w1 W ∧ gpB c.fr 0 freeT c.ps = true ∧ gdB c.fr (gpT 0 freeT c.ps) c.ds = gdB c.fr (gdT (gpT 0 freeT c.ps) (c.ds.take k)) (c.ds.drop k)

section
variable {w : World} {c : Cf} {vp vd vw vg : Value}
set_option maxHeartbeats 2000000 in
theorem owners_any (h : CfAt w vp vd vw vg c) (hF : 1 ≤ c.fr ∧ c.fr ≤ 64) (hp4 : c.ps.length ≤ 4) : Calls Try.prog 64 #[.agg #[.int .i64 c.fr, vp, vd, .int .i64 c.mj, vw, vg, .int .i64 c.se, .int .i64 c.qu, .int .i64 c.qt]] w (OwnsOf c w) := by
  obtain ⟨F, hFe⟩ : ∃ F : Nat, c.fr = F := ⟨c.fr.toNat, by omega⟩
  obtain ⟨hb, hB⟩ := cf_box w c vp vd vw vg
  have h1 := h.below hB
  have hFn : c.fr.toNat = F := by omega
  rw [hFe] at hb hB h1 hF
  obtain ⟨A, cap, b, o, sv, rfl, hA, hr⟩ := h1.ps.rows
  obtain ⟨A', cap', b', o', sv', rfl, hA', hr'⟩ := h1.ds.rows
  have hz := h.pz; have hz' := h.dz
  have HZ := Lib.hid hz.2; have HZ' := Lib.hid hz'.2
  have hz1 := hz.1; have hz1' := hz'.1
  obtain ⟨k0, k1, k2, -⟩ := cf_at hb
  have HB := Lib.hid hB; have HK := Lib.hid hb
  have HNW := Lib.hid (fun (W : World) => onew_yes F W (by omega) (by omega))
  have hsz : (w.alloc (.cells #[.int .i64 F, .slice A c.ps.length cap, .slice A' c.ds.length cap', .int .i64 c.mj, vw, vg, .int .i64 c.se, .int .i64 c.qu, .int .i64 c.qt] 27)).heap.size = w.heap.size + 1 := by simp
  have HA := Lib.hid hA; have HA' := Lib.hid hA'; have HR := Lib.hid hr; have HR' := Lib.hid hr'
  have HFe := Lib.hid hFe; have HFn := Lib.hid hFn
  obtain ⟨hF1, hF2⟩ := hF
  rw [hFe] at k0 ⊢
  clear h h1 hb hB hA hr hA' hr' hz hz' hFe hFn
  generalize hn : c.ps.length = n at *
  generalize hn' : c.ds.length = n' at *
  have HN := Lib.hid hn; have HN' := Lib.hid hn'
  clear hn hn'
  go_enter Try.func64, Try.ntmps64
  go_wp2_with fail
  generalize w.alloc (.cells #[.int .i64 (F : Int), .slice A n cap, .slice A' n' cap', .int .i64 c.mj, vw, vg, .int .i64 c.se, .int .i64 c.qu, .int .i64 c.qt] 27) = w1 at *
  have hsy : w.heap.size ≤ w1.heap.size := by omega
  refine (HNW.out w1).mono ?_
  rintro e w2 ⟨rfl, ht, hb2⟩
  have q1 := (hb2.cell (p := ⟨w.heap.size, 1, none⟩) (show w.heap.size < w1.heap.size by omega)).trans k1
  have q2 := (hb2.cell (p := ⟨w.heap.size, 2, none⟩) (show w.heap.size < w1.heap.size by omega)).trans k2
  have HT0 : Hid (OwA c w1 w1.heap.size 0 w2) := Lib.hid ⟨by rw [HFn.out, List.take_zero]; show Tab w2 _ (tabL F freeT); rw [tabL_free]; exact ht, hb2, by rw [List.take_zero, List.drop_zero]; rfl⟩
  have hlt1 : w.heap.size < w1.heap.size := by omega
  clear ht hb2 HNW
  generalize hge : w1.heap.size = g at *
  have HGE := Lib.hid hge
  clear hge hsz
  go_wp2_with fail
  clear q1 q2 k0
  go_loopw [18] (fun i wr => ∃ k : Nat, k ≤ n ∧ i = .int .i64 k ∧ Hid (OwA c w1 g k wr)) (fun i _ => n - (intOf i).toNat)
  case atStart => exact ⟨0, by omega, rfl, HT0⟩
  case round =>
    obtain ⟨k, hk, rfl, H⟩ := hrel
    obtain ⟨hT, hbel, hgp⟩ := H.out
    by_cases hlt : k < n
    · obtain ⟨rfl, hbw⟩ := HA.out (by omega)
      obtain ⟨⟨r0, r1, r2, r3, r4⟩, hsl⟩ := HR.out k hlt
      have gc := fun x => hbel.cell (p := ⟨b, x, none⟩) (show b < w1.heap.size by have := HGE.out; omega)
      rw [← gc] at r0 r1 r2 r3 r4
      have HSL := Lib.hid hsl
      obtain ⟨A2, c2, e2, -⟩ := hsl
      rw [e2] at r2 HSL
      have hfl : (c.ps.getD k paD).fr.length ≤ maxLen := by have := HZ.out k; unfold maxLen; omega
      have hst := gpB_at c.fr c.ps 0 freeT k (by rw [HN.out]; exact hlt)
      rw [Int.zero_add, Int.zero_add, ← hgp] at hst
      have htk := gpT_take c.ps 0 freeT k (by rw [HN.out]; exact hlt)
      rw [Int.zero_add] at htk
      rw [HFe.out] at hst
      have hws := hbel.size
      have HCL := Lib.hid (fun (W : World) (hW : Below w1.heap.size w1 W) (hT : Tab W g (tabL F (gpT 0 freeT (c.ps.take k)))) => give_any (.slice A2 (c.ps.getD k paD).fr.length c2) (c.ps.getD k paD).fr k F g (gpT 0 freeT (c.ps.take k)) w1 W HSL.out hfl hW (by have := HGE.out; omega) hT (by omega))
      have hFT : ∀ {W : World}, Tab W g (tabL c.fr.toNat (gpT 0 freeT (c.ps.take k))) → Tab W g (tabL F (gpT 0 freeT (c.ps.take k))) := fun h => by rw [← HFn.out]; exact h
      have HST := Lib.hid hst; have HTK := Lib.hid htk; have HBL := Lib.hid hbel; have HTB := Lib.hid (fun (W : World) (hW : Below wr.heap.size wr W) => hFT (hT.below hW hT.lt))
      clear hFT hst htk hbel hT hgp e2 gc hfl
      generalize (c.ps.getD k paD).fr.length = m at *
      go_wp2_with fail
      refine (HCL.out _ (HBL.out.alloc hws _) (HTB.out _ ((Below.refl _ _).alloc (Nat.le_refl _) _))).mono ?_
      rintro e w3 ⟨rfl, ⟨T', q1, q2⟩, hf⟩
      have hb3 : Below w1.heap.size w1 w3 := hf.bel (HBL.out.alloc hws _) (by have := HGE.out; omega)
      have HB3 := Lib.hid hb3; have HQ1 := Lib.hid q1; have HQ2 := Lib.hid q2
      have HGB : Hid (∃ R, giB (F : Int) (k : Int) (gpT 0 freeT (c.ps.take k)) (c.ps.getD k paD).fr = R) := Lib.hid ⟨_, rfl⟩
      obtain ⟨R, hR⟩ := HGB.out
      rw [hR] at HST HQ2 ⊢
      clear hb3 q1 q2 hf HGB hR r0 r1 r2 r3 r4 HCL
      cases R with
      | false =>
        have HUN : Hid (unB c = false) := Lib.hid (by unfold unB; rw [HFe.out, HST.out]; rfl)
        go_wp2_with fail
        go_ret
        exact ⟨Below.down HB.out HB3.out (by have := HGE.out; omega), .inr ⟨HUN.out, rfl⟩⟩
      | true =>
        have HN1 : Hid (OwA c w1 g (k + 1) w3) := Lib.hid ⟨by rw [HTK.out, HFn.out, ← HQ2.out rfl]; exact HQ1.out, HB3.out, by rw [HFe.out, HST.out, Bool.true_and]⟩
        go_wp2_with fail
        go_roundw
        case rel => exact ⟨k + 1, by omega, by go_num, HN1⟩
        case measure => simp [intOf]; omega
    · obtain rfl : k = n := by omega
      have hgt : gpB c.fr 0 freeT c.ps = true := by rw [hgp, List.drop_eq_nil_of_le (by rw [HN.out]; exact Nat.le_refl _)]; rfl
      rw [show c.ps.take k = c.ps by rw [← HN.out, List.take_length]] at hT
      have HB0 : Hid (OwB c w1 g 0 wr) := Lib.hid ⟨by rw [List.take_zero]; exact hT, hbel, hgt, by rw [List.take_zero, List.drop_zero]; rfl⟩
      have q2 := (hbel.cell (p := ⟨w.heap.size, 2, none⟩) (show w.heap.size < w1.heap.size by have := HGE.out; omega)).trans k2
      clear hT hbel hgp hgt
      go_wp2_with fail
      clear q2
      go_loopw [33] (fun i wr => ∃ k : Nat, k ≤ n' ∧ i = .int .i64 k ∧ Hid (OwB c w1 g k wr)) (fun i _ => n' - (intOf i).toNat)
      case atStart => exact ⟨0, by omega, rfl, HB0⟩
      case round =>
        obtain ⟨j, hj, rfl, H2⟩ := hrel
        obtain ⟨hT, hbel, hgp, hgd⟩ := H2.out
        by_cases hlt : j < n'
        · obtain ⟨rfl, hbw⟩ := HA'.out (by omega)
          obtain ⟨⟨r0, r1⟩, hsl⟩ := HR'.out j hlt
          have gc := fun x => hbel.cell (p := ⟨b', x, none⟩) (show b' < w1.heap.size by have := HGE.out; omega)
          rw [← gc] at r0 r1
          have HSL := Lib.hid hsl
          obtain ⟨A2, c2, e2, -⟩ := hsl
          rw [e2] at r1 HSL
          have hfl : (c.ds.getD j deD).po.length ≤ maxLen := by have := HZ'.out j; unfold maxLen; omega
          have hst := gdB_at c.fr c.ds (gpT 0 freeT c.ps) j (by rw [HN'.out]; exact hlt)
          rw [← hgd] at hst
          have htk := gdT_take c.ds (gpT 0 freeT c.ps) j (by rw [HN'.out]; exact hlt)
          rw [HFe.out] at hst
          have hws := hbel.size
          have HCL := Lib.hid (fun (W : World) (hW : Below w1.heap.size w1 W) (hT : Tab W g (tabL F (gdT (gpT 0 freeT c.ps) (c.ds.take j)))) => give_any (.slice A2 (c.ds.getD j deD).po.length c2) (c.ds.getD j deD).po (-2) F g (gdT (gpT 0 freeT c.ps) (c.ds.take j)) w1 W HSL.out hfl hW (by have := HGE.out; omega) hT (by omega))
          have hFT : ∀ {W : World}, Tab W g (tabL c.fr.toNat (gdT (gpT 0 freeT c.ps) (c.ds.take j))) → Tab W g (tabL F (gdT (gpT 0 freeT c.ps) (c.ds.take j))) := fun h => by rw [← HFn.out]; exact h
          have HST := Lib.hid hst; have HTK := Lib.hid htk; have HBL := Lib.hid hbel; have HTB := Lib.hid (fun (W : World) (hW : Below wr.heap.size wr W) => hFT (hT.below hW hT.lt)); have HGP := Lib.hid hgp
          clear hFT hst htk hbel hT hgd e2 gc hfl hgp
          generalize (c.ds.getD j deD).po.length = m at *
          go_wp2_with fail
          refine (HCL.out _ (HBL.out.alloc hws _) (HTB.out _ ((Below.refl _ _).alloc (Nat.le_refl _) _))).mono ?_
          rintro e w3 ⟨rfl, ⟨T', q1, q2⟩, hf⟩
          have hb3 : Below w1.heap.size w1 w3 := hf.bel (HBL.out.alloc hws _) (by have := HGE.out; omega)
          have HB3 := Lib.hid hb3; have HQ1 := Lib.hid q1; have HQ2 := Lib.hid q2
          have HGB : Hid (∃ R, giB (F : Int) (-2) (gdT (gpT 0 freeT c.ps) (c.ds.take j)) (c.ds.getD j deD).po = R) := Lib.hid ⟨_, rfl⟩
          obtain ⟨R, hR⟩ := HGB.out
          rw [hR] at HST HQ2 ⊢
          clear hb3 q1 q2 hf HGB hR r0 r1 HCL
          cases R with
          | false =>
            have HUN : Hid (unB c = false) := Lib.hid (by unfold unB; rw [HFe.out, HST.out]; simp)
            go_wp2_with fail
            go_ret
            exact ⟨Below.down HB.out HB3.out (by have := HGE.out; omega), .inr ⟨HUN.out, rfl⟩⟩
          | true =>
            have HN1 : Hid (OwB c w1 g (j + 1) w3) := Lib.hid ⟨by rw [HTK.out, HFn.out, ← HQ2.out rfl]; exact HQ1.out, HB3.out, HGP.out, by rw [HFe.out, HST.out, Bool.true_and]⟩
            go_wp2_with fail
            go_roundw
            case rel => exact ⟨j + 1, by omega, by go_num, HN1⟩
            case measure => simp [intOf]; omega
        · obtain rfl : j = n' := by omega
          have HGT : Hid (unB c = true) := Lib.hid (by unfold unB; rw [hgp, hgd, List.drop_eq_nil_of_le (by rw [HN'.out]; exact Nat.le_refl _)]; rfl)
          rw [show c.ds.take j = c.ds by rw [← HN'.out, List.take_length]] at hT
          have HTB := Lib.hid hT; have HBL := Lib.hid hbel
          clear hT hbel hgp hgd
          go_wp2_with fail
          go_ret
          exact ⟨Below.down HB.out HBL.out (by have := HGE.out; omega), .inl ⟨HGT.out, _, rfl, by omega, HTB.out⟩⟩

theorem unlike_any (h : CfAt w vp vd vw vg c) (hF : 1 ≤ c.fr ∧ c.fr ≤ 64) (hp4 : c.ps.length ≤ 4) : Calls Try.prog 40 #[.agg #[.int .i64 c.fr, vp, vd, .int .i64 c.mj, vw, vg, .int .i64 c.se, .int .i64 c.qu, .int .i64 c.qt]] w fun e w' => e = .returned (.bool (unB c)) ∧ Below w.heap.size w w' := by
  obtain ⟨hb, hB⟩ := cf_box w c vp vd vw vg
  have HC := Lib.hid (owners_any (h.below hB) hF hp4)
  obtain ⟨k0, k1, k2, k3, k4, k5, k6, k7, k8⟩ := cf_at hb
  have HB := Lib.hid hB
  obtain ⟨Q, hQ⟩ : ∃ Q, unB c = Q := ⟨_, rfl⟩
  rw [hQ]
  have HQ := Lib.hid hQ
  clear hb hB h hF hp4 hQ
  go_enter Try.func40, Try.ntmps40
  go_wp2_with fail
  refine HC.out.mono ?_
  rintro e w1 ⟨b1, ⟨hu, g, rfl, -, -⟩ | ⟨hu, rfl⟩⟩
  · have e : Q = true := by rw [← HQ.out, hu]
    subst e
    clear hu
    go_wp2_with fail
    go_ret
    exact ⟨rfl, Below.down HB.out b1 HB.out.size⟩
  · have e : Q = false := by rw [← HQ.out, hu]
    subst e
    clear hu
    go_wp2_with fail
    go_ret
    exact ⟨rfl, Below.down HB.out b1 HB.out.size⟩
end
end Go.Proofs.Ytamhnnkmjhapmaa
