/-
  What the proofs lean on: contracts of the program's functions, plain facts.
-/
import Derived.Test.YtkaalinoiilmoaaGreatViewsW8
import Derived.Test.YtkaalinoiilmoaaGreatViewsW3
import Derived.Test.YtkaalinoiilmoaaGreatViewsW9
import Derived.Test.YtkaalinoiilmoaaGreatViewsW1
import Derived.BigRegion
import Derived.Deep.DeepCutAuto
import Derived.Test.YtkaalinoiilmoaaGreatViewsW2
namespace Go.Proofs.YtkaalinoiilmoaaGreat
open Go.RowKit
set_option linter.unusedVariables false
set_option linter.unusedSimpArgs false
set_option maxRecDepth 100000
theorem infoInG : (Tryz.prog.info? 3).map (fun i => (i.zero, i.size, i.bytes)) = some (some (.int .i64 0), 1, 8) := by kernel_rfl
theorem ints_oneG (fs : List Int) : ∀ u ∈ ints fs, u.oneCell' = true := by intro u hu; obtain ⟨x, _, rfl⟩ := List.mem_map.1 hu; rfl
theorem frs_take (l : List Pa) (k : Nat) (hk : k < l.length) : (l.take (k + 1)).flatMap (·.fr) = (l.take k).flatMap (·.fr) ++ (l.getD k paD).fr := by
  rw [List.take_add_one, List.getElem?_eq_getElem hk, List.flatMap_append]
  simp [List.getD, List.getElem?_eq_getElem hk]
theorem pos_take (l : List De) (k : Nat) (hk : k < l.length) : (l.take (k + 1)).flatMap (·.po) = (l.take k).flatMap (·.po) ++ (l.getD k deD).po := by
  rw [List.take_add_one, List.getElem?_eq_getElem hk, List.flatMap_append]
  simp [List.getD, List.getElem?_eq_getElem hk]
theorem all_take {α : Type} (l : List α) (d : α) (f : α → Bool) (k : Nat) (hk : k < l.length) : (l.take (k + 1)).all f = ((l.take k).all f && f (l.getD k d)) := by
  rw [List.take_add_one, List.getElem?_eq_getElem hk, List.all_append]
  simp [List.getD, List.getElem?_eq_getElem hk]
theorem all_take_no {α : Type} (l : List α) (d : α) (f : α → Bool) (k : Nat) (hk : k < l.length) (h : f (l.getD k d) = false) : l.all f = false := by
  refine List.all_eq_false.2 ⟨l.getD k d, ?_, by rw [h]; simp⟩
  simp only [List.getD, List.getElem?_eq_getElem hk, Option.getD_some]; exact List.getElem_mem hk
theorem frs_len {l : List Pa} : l.all fr64 = true → (l.flatMap (·.fr)).length ≤ l.length * 64 := by
  induction l with
  | nil => intro _; simp
  | cons p l ih =>
    intro h
    rw [List.all_cons, Bool.and_eq_true] at h
    have h1 := ih h.2
    have h2 := (btw_iff0.1 h.1).2
    simp only [List.flatMap_cons, List.length_append, List.length_cons]
    omega
theorem pos_len {n : Nat} {l : List De} : l.all (dvB_Cf0 n) = true → (l.flatMap (·.po)).length ≤ l.length * 5 := by
  induction l with
  | nil => intro _; simp
  | cons p l ih =>
    intro h
    rw [List.all_cons, Bool.and_eq_true] at h
    have h1 := ih h.2
    have h0 := h.1
    unfold dvB_Cf0 at h0
    rw [Bool.and_eq_true] at h0
    have h2 := (btw_iff0.1 h0.2).2
    simp only [List.flatMap_cons, List.length_append, List.length_cons]
    omega
theorem unlB_at (F : Int) (U : Nat → Bool) (l : List Int) (k : Nat) (hk : k < l.length) : unlB F U (l.drop k) = ((decide (0 ≤ l.getD k 0 ∧ l.getD k 0 < F) && !U (l.getD k 0).toNat) && unlB F (bitF U (l.getD k 0).toNat true) (l.drop (k + 1))) := by
  rw [List.drop_eq_getElem_cons hk]
  simp only [unlB, List.getD, List.getElem?_eq_getElem hk, Option.getD_some]
def GaA (c : Cf) (w2 : World) (k : Nat) (v : Value) (W : World) : Prop :=
  W.ownsRow w2.heap.size 3 1 v ((c.ps.take k).flatMap (·.fr)).length (ints ((c.ps.take k).flatMap (·.fr))) ∧ Below w2.heap.size w2 W ∧ (c.ps.take k).all fr64 = true
def GaB (c : Cf) (w2 : World) (k : Nat) (v : Value) (W : World) : Prop :=
  W.ownsRow w2.heap.size 3 1 v (c.ps.flatMap (·.fr) ++ (c.ds.take k).flatMap (·.po)).length (ints (c.ps.flatMap (·.fr) ++ (c.ds.take k).flatMap (·.po))) ∧ Below w2.heap.size w2 W ∧ c.ps.all fr64 = true ∧ (c.ds.take k).all (dvB_Cf0 c.ps.length) = true
section
variable {w : World} {c : Cf} {vp vd vw vg : Value}
set_option maxHeartbeats 4000000 in
theorem rframes_any_Cg1 (h : CfAt w vp vd vw vg c) (hF : 1 ≤ c.fr ∧ c.fr ≤ 64) (hp4 : c.ps.length ≤ 4) (hd4 : c.ds.length ≤ 4) : Calls Tryz.prog 41 #[.agg #[.int .i64 c.fr, vp, vd, .int .i64 c.mj, vw, vg, .int .i64 c.se, .int .i64 c.qu, .int .i64 c.qt]] w fun e w' => e = .returned (.bool (rfB c)) ∧ Below w.heap.size w w' := by
  obtain ⟨hb, hB⟩ := cf_box w c vp vd vw vg
  obtain ⟨F, hFe⟩ : ∃ F : Nat, c.fr = F := ⟨c.fr.toNat, by omega⟩
  obtain ⟨A, cap, rfl, hA⟩ := h.ps
  obtain ⟨A', cap', rfl, hA'⟩ := h.ds
  have hsz : (w.alloc (.cells #[.int .i64 c.fr, .slice A c.ps.length cap, .slice A' c.ds.length cap', .int .i64 c.mj, vw, vg, .int .i64 c.se, .int .i64 c.qu, .int .i64 c.qt] 27)).heap.size = w.heap.size + 1 := by simp
  have hzr := fun W => zSs_runR W; have hzn := zSs_ne
  have HB2 := Lib.hid (hB.alloc hB.size (.cells zSs 106))
  have HCB := Lib.hid (hb.alloc (.cells zSs 106))
  have HUB : Hid (Blk ((w.alloc (.cells #[.int .i64 c.fr, .slice A c.ps.length cap, .slice A' c.ds.length cap', .int .i64 c.mj, vw, vg, .int .i64 c.se, .int .i64 c.qu, .int .i64 c.qt] 27)).alloc (.cells zSs 106)) (w.heap.size + 1) 106 (bitc noB 64)) := Lib.hid (by
    have := Blk.new (w.alloc (.cells #[.int .i64 c.fr, .slice A c.ps.length cap, .slice A' c.ds.length cap', .int .i64 c.mj, vw, vg, .int .i64 c.se, .int .i64 c.qu, .int .i64 c.qt] 27)) 106 (bitc noB 64)
    rw [hsz] at this
    exact this)
  have hsz2 : ((w.alloc (.cells #[.int .i64 c.fr, .slice A c.ps.length cap, .slice A' c.ds.length cap', .int .i64 c.mj, vw, vg, .int .i64 c.se, .int .i64 c.qu, .int .i64 c.qt] 27)).alloc (.cells zSs 106)).heap.size = w.heap.size + 1 + 1 := by simp
  have HA := Lib.hid hA; have HA' := Lib.hid hA'
  have HZ := Lib.hid h.pz.2; have HZ' := Lib.hid h.dz.2
  have HFe := Lib.hid hFe
  obtain ⟨i0, hi, hz0, hz1, hz2⟩ := info_parts infoInG
  have HI := Lib.hid hi; have HZ0 := Lib.hid hz0; have HZ1 := Lib.hid hz1; have HZ2 := Lib.hid hz2
  obtain ⟨Q, hQ⟩ : ∃ Q, rfB c = Q := ⟨_, rfl⟩
  rw [hQ]
  have HQ : Hid ((c.ps.all fr64 && (c.ds.all (dvB_Cf0 c.ps.length) && unlB c.fr noB (allF c))) = Q) := Lib.hid hQ
  clear h hb hB hA hA' hFe hi hz0 hz1 hz2 hQ
  generalize hpn : c.ps.length = n at *
  generalize hdn : c.ds.length = n' at *
  have HPN := Lib.hid hpn; have HDN := Lib.hid hdn
  obtain ⟨hF1, hF2⟩ := hF
  clear hpn hdn hF1
  have q1 := HCB.out.cell 1
  have e1 : (cfc c (.slice A n cap) (.slice A' n' cap') vw vg)[1]? = some (.slice A n cap) := rfl
  rw [e1] at q1
  clear e1
  go_enter Tryz.func41, Tryz.ntmps41
  go_wp2_with fail
  generalize (w.alloc (.cells #[.int .i64 c.fr, .slice A n cap, .slice A' n' cap', .int .i64 c.mj, vw, vg, .int .i64 c.se, .int .i64 c.qu, .int .i64 c.qt] 27)).alloc (.cells zSs 106) = w2 at *
  have hlt2 : w.heap.size + 1 < w2.heap.size := by omega
  clear hsz hsz2 hzr hzn q1
  go_loopw [4, 5] (fun v i wr => ∃ (k : Nat) (v' : Value), k ≤ n ∧ v' = v ∧ i = .int .i64 k ∧ Hid (GaA c w2 k v' wr)) (fun _ i _ => n - (intOf i).toNat)
  case atStart => exact ⟨0, _, by omega, rfl, rfl, Lib.hid ⟨by rw [List.take_zero]; exact World.ownsRow_nil _ _ _ _, Below.refl _ _, by rw [List.take_zero]; rfl⟩⟩
  case round =>
    obtain ⟨k, v, hk, rfl, rfl, H⟩ := hrel
    obtain ⟨hown, hbel, hall⟩ := H.out
    have gy := fun x => hbel.cell (p := ⟨w.heap.size, x, none⟩) (show w.heap.size < w2.heap.size by omega)
    have p1 := (gy 1).trans (HCB.out.cell 1)
    have e1 : (cfc c (.slice A n cap) (.slice A' n' cap') vw vg)[1]? = some (.slice A n cap) := rfl
    rw [e1] at p1
    by_cases hlt : k < n
    · obtain ⟨b, o, rfl, hbw, hat⟩ := HA.out (by omega)
      have hat2 := ((hat k hlt).below HB2.out hbw)
      have hbw2 : b < w2.heap.size := by omega
      obtain ⟨A2, c2, -, -, r2, -, -, hsl, hnil⟩ := (show PaAt wr b (o + k * 5) (c.ps.getD k paD) from by
        obtain ⟨A2, c2, a0, a1, a2, a3, a4, a5, a6⟩ := hat2
        have g := fun x => hbel.cell (p := ⟨b, x, none⟩) hbw2
        exact ⟨A2, c2, (g _).trans a0, (g _).trans a1, (g _).trans a2, (g _).trans a3, (g _).trans a4, a5.below hbel, a6⟩)
      have hzf := HZ.out k
      have hL := frs_len hall
      rw [List.length_take] at hL
      have HTK := Lib.hid (frs_take c.ps k (by rw [HPN.out]; exact hlt))
      have HAT := Lib.hid (all_take c.ps paD fr64 k (by rw [HPN.out]; exact hlt))
      have HNO := Lib.hid (all_take_no c.ps paD fr64 k (by rw [HPN.out]; exact hlt))
      have HBE := Lib.hid hbel; have HALL := Lib.hid hall; have HOW := Lib.hid hown
      have HSL := Lib.hid hsl
      have HNIL : Hid (∀ q z, Value.slice A2 (c.ps.getD k paD).fr.length c2 = .slice none q z → z = 0) := Lib.hid (by
        intro q z e; simp only [Value.slice.injEq] at e; rw [← e.2.2]; exact hnil e.1)
      have H64 : Hid (fr64 (c.ps.getD k paD) = btw 1 64 ((c.ps.getD k paD).fr.length : Int)) := Lib.hid rfl
      have hbs := hbel.size
      clear hown hbel hall gy hat hat2 hsl hnil H
      generalize c.ps.getD k paD = pk at *
      generalize hLk : (c.ps.take k).flatMap (·.fr) = L at *
      have HLK := Lib.hid hLk
      obtain ⟨plv, pct, fr, pfi, pco⟩ := pk
      simp only at *
      generalize hm : fr.length = m at *
      have HMM := Lib.hid hm
      clear hm hLk
      by_cases hm1 : m < 1
      · have e : Q = false := by
          rw [← HQ.out, HNO.out (by rw [H64.out]; unfold btw; exact decide_eq_false (by omega))]; rfl
        subst e
        go_wp2_with fail
        go_ret
        exact ⟨rfl, Below.down HB2.out HBE.out (by omega)⟩
      · by_cases hm2 : 64 < m
        · have e : Q = false := by
            rw [← HQ.out, HNO.out (by rw [H64.out]; unfold btw; exact decide_eq_false (by omega))]; rfl
          subst e
          go_wp2_with fail
          go_ret
          exact ⟨rfl, Below.down HB2.out HBE.out (by omega)⟩
        · have H1 := Lib.hid (ints_oneG fr)
          have hd : decide (64 < m) = false := decide_eq_false hm2
          have hd1 : decide (m < 1) = false := decide_eq_false hm1
          go_wp2_with (at_builtin; refine wpList_append_sl rfl _ _ 44 rfl w2.heap.size 3 i0 _ 1 8 Tryz.underlying44 HI.out HZ0.out HZ1.out HZ2.out rfl (by decide) _ L.length (ints L) rfl HOW.out _ m (ints fr) rfl HSL.out HNIL.out H1.out (by unfold maxLen; omega) (by omega) (by omega) ?_)
          intro v' w3 ho3 hg3
          have HN : Hid (GaA c w2 (k + 1) v' w3) := Lib.hid ⟨by rw [HTK.out, List.length_append, ints_append, HMM.out]; exact ho3, HBE.out.grown hg3 (by omega) (fun x hx => (HOW.out.lt x hx).1), by rw [HAT.out, HALL.out, H64.out]; unfold btw; exact decide_eq_true (by omega)⟩
          clear ho3 hg3
          go_wp2_with fail
          go_roundw
          case rel => exact ⟨k + 1, _, by omega, rfl, by go_num, HN⟩
          case measure => simp [intOf]; omega
    · obtain rfl : k = n := by omega
      have et : c.ps.take k = c.ps := by rw [← HPN.out, List.take_length]
      rw [et] at hown hall
      have HB0 : Hid (GaB c w2 0 v wr) := Lib.hid ⟨by rw [List.take_zero, List.flatMap_nil, List.append_nil]; exact hown, hbel, hall, by rw [List.take_zero]; rfl⟩
      clear hown hbel hall gy H et
      go_wp2_with fail
      clear p1
      go_loopw [4, 6] (fun v i wr => ∃ (k : Nat) (v' : Value), k ≤ n' ∧ v' = v ∧ i = .int .i64 k ∧ Hid (GaB c w2 k v' wr)) (fun _ i _ => n' - (intOf i).toNat)
      case atStart => exact ⟨0, _, by omega, rfl, rfl, HB0⟩
      case round =>
        obtain ⟨j, v, hj, rfl, rfl, H⟩ := hrel
        obtain ⟨hown, hbel, hall, hdl⟩ := H.out
        have gy := fun x => hbel.cell (p := ⟨w.heap.size, x, none⟩) (show w.heap.size < w2.heap.size by omega)
        have p1 := (gy 1).trans (HCB.out.cell 1)
        have e1 : (cfc c (.slice A k cap) (.slice A' n' cap') vw vg)[1]? = some (.slice A k cap) := rfl
        rw [e1] at p1
        have p2 := (gy 2).trans (HCB.out.cell 2)
        have e2 : (cfc c (.slice A k cap) (.slice A' n' cap') vw vg)[2]? = some (.slice A' n' cap') := rfl
        rw [e2] at p2
        by_cases hlt : j < n'
        · obtain ⟨b, o, rfl, hbw, hat⟩ := HA'.out (by omega)
          have hat2 := ((hat j hlt).below HB2.out hbw)
          have hbw2 : b < w2.heap.size := by omega
          obtain ⟨A2, c2, r0, r1, hsl, hnil⟩ := (show DeAt wr b (o + j * 2) (c.ds.getD j deD) from by
            obtain ⟨A2, c2, a0, a1, a5, a6⟩ := hat2
            have g := fun x => hbel.cell (p := ⟨b, x, none⟩) hbw2
            exact ⟨A2, c2, (g _).trans a0, (g _).trans a1, a5.below hbel, a6⟩)
          have hzf := HZ'.out j
          have hL := frs_len hall
          have hL2 := pos_len hdl
          rw [List.length_take] at hL2
          rw [HPN.out] at hL
          have HTK := Lib.hid (pos_take c.ds j (by rw [HDN.out]; exact hlt))
          have HAT := Lib.hid (all_take c.ds deD (dvB_Cf0 c.ps.length) j (by rw [HDN.out]; exact hlt))
          have HNO := Lib.hid (all_take_no c.ds deD (dvB_Cf0 k) j (by rw [HDN.out]; exact hlt))
          have hwz : wr.heap.size < (wr.alloc (.cells #[.int .i64 (c.ds.getD j deD).pt, .slice A2 (c.ds.getD j deD).po.length c2] 46)).heap.size := by simp
          have hbA : Below wr.heap.size wr (wr.alloc (.cells #[.int .i64 (c.ds.getD j deD).pt, .slice A2 (c.ds.getD j deD).po.length c2] 46)) := (Below.refl _ _).alloc (Nat.le_refl _) _
          have HBE := Lib.hid (hbel.alloc hbel.size (.cells #[.int .i64 (c.ds.getD j deD).pt, .slice A2 (c.ds.getD j deD).po.length c2] 46)); have HALL := Lib.hid hall; have HOW := Lib.hid (own_below hown hbA); have HDL := Lib.hid hdl
          have hbd : Blk (wr.alloc (.cells #[.int .i64 (c.ds.getD j deD).pt, .slice A2 (c.ds.getD j deD).po.length c2] 46)) wr.heap.size 46 [.int .i64 (c.ds.getD j deD).pt, .slice A2 (c.ds.getD j deD).po.length c2] := Blk.new _ _ _
          have HSL := Lib.hid (hsl.below hbA)
          have HNIL : Hid (∀ q z, Value.slice A2 (c.ds.getD j deD).po.length c2 = .slice none q z → z = 0) := Lib.hid (by
            intro q z e; simp only [Value.slice.injEq] at e; rw [← e.2.2]; exact hnil e.1)
          have H64 : Hid (dvB_Cf0 k (c.ds.getD j deD) = (inP k (c.ds.getD j deD).pt && btw 2 5 ((c.ds.getD j deD).po.length : Int))) := Lib.hid rfl
          have hbs := hbel.size
          have u0 := hbd.cell 0
          have u1 := hbd.cell 1
          simp only [List.getElem?_cons_zero, List.getElem?_cons_succ] at u0 u1
          have v1 := (hbA.cell (p := ⟨w.heap.size, 1, none⟩) (show w.heap.size < wr.heap.size by omega)).trans p1
          clear hown hbel hall hdl gy hat hat2 hsl hnil H hbA hbd
          generalize c.ds.getD j deD = pk at *
          generalize hLk : (c.ps.flatMap (·.fr) ++ (c.ds.take j).flatMap (·.po)) = L at *
          have hLl : L.length ≤ k * 64 + j * 5 := by rw [← hLk, List.length_append]; omega
          have HLK := Lib.hid hLk
          obtain ⟨pt, po⟩ := pk
          simp only at *
          generalize hm : po.length = m at *
          have HMM := Lib.hid hm
          clear hm hLk hL hL2
          by_cases hin : 0 ≤ pt ∧ pt < (k : Int)
          · obtain ⟨in0, in1⟩ := hin
            have hinp : inP k pt = true := decide_eq_true ⟨in0, in1⟩
            by_cases hm1 : m < 2
            · have e : Q = false := by
                rw [← HQ.out, HNO.out (by rw [H64.out, hinp]; unfold btw; exact decide_eq_false (by omega))]; simp
              subst e
              go_wp2_with fail
              go_ret
              exact ⟨rfl, Below.down HB2.out HBE.out (by omega)⟩
            · by_cases hm2 : 5 < m
              · have e : Q = false := by
                  rw [← HQ.out, HNO.out (by rw [H64.out, hinp]; unfold btw; exact decide_eq_false (by omega))]; simp
                subst e
                go_wp2_with fail
                go_ret
                exact ⟨rfl, Below.down HB2.out HBE.out (by omega)⟩
              · have H1 := Lib.hid (ints_oneG po)
                have HIN := Lib.hid hinp
                have hd : decide (5 < m) = false := decide_eq_false hm2
                have hd1 : decide (m < 2) = false := decide_eq_false hm1
                clear hinp
                go_wp2_with (at_builtin; refine wpList_append_sl rfl _ _ 44 rfl w2.heap.size 3 i0 _ 1 8 Tryz.underlying44 HI.out HZ0.out HZ1.out HZ2.out rfl (by decide) _ L.length (ints L) rfl HOW.out _ m (ints po) rfl HSL.out HNIL.out H1.out (by unfold maxLen; omega) (by omega) (by omega) ?_)
                intro v' w3 ho3 hg3
                have HN : Hid (GaB c w2 (j + 1) v' w3) := Lib.hid ⟨by rw [HTK.out, ← List.append_assoc, HLK.out, List.length_append, ints_append, HMM.out]; exact ho3, HBE.out.grown hg3 (by omega) (fun x hx => (HOW.out.lt x hx).1), HALL.out, by rw [HAT.out, HDL.out, HPN.out, H64.out, HIN.out]; unfold btw; exact decide_eq_true (by omega)⟩
                clear ho3 hg3
                go_wp2_with fail
                go_roundw
                case rel => exact ⟨j + 1, _, by omega, rfl, by go_num, HN⟩
                case measure => simp [intOf]; omega
          · have e : Q = false := by
              rw [← HQ.out, HNO.out (by rw [H64.out, show inP k pt = false from decide_eq_false hin]; rfl)]; simp
            subst e
            by_cases hp0 : pt < 0
            · clear hin
              go_wp2_with fail
              go_ret
              exact ⟨rfl, Below.down HB2.out HBE.out (by omega)⟩
            · have hp1 : (k : Int) ≤ pt := by omega
              have hp2 : 0 ≤ pt := by omega
              clear hin hp0
              go_wp2_with fail
              go_ret
              exact ⟨rfl, Below.down HB2.out HBE.out (by omega)⟩
        · obtain rfl : j = n' := by omega
          have et : c.ds.take j = c.ds := by rw [← HDN.out, List.take_length]
          rw [et] at hown hdl
          have hL := frs_len hall
          have hL2 := pos_len hdl
          rw [HPN.out] at hL
          rw [HDN.out] at hL2
          have hdk : c.ds.all (dvB_Cf0 k) = true := by rw [← HPN.out]; exact hdl
          have HQ2 : Hid (Q = unlB F noB (allF c)) := Lib.hid (by rw [← HQ.out, hall, hdk, HFe.out]; rfl)
          clear hdk
          change wr.ownsRow w2.heap.size 3 1 v (allF c).length (ints (allF c)) at hown
          have hLl : (allF c).length ≤ 276 := by unfold allF; rw [List.length_append]; omega
          have p0 := (gy 0).trans (HCB.out.cell 0)
          have e0 : (cfc c (.slice A k cap) (.slice A' j cap') vw vg)[0]? = some (.int .i64 (F : Int)) := by rw [← HFe.out]; rfl
          rw [e0] at p0
          have hub : Blk wr (w.heap.size + 1) 106 (bitc noB 64) := HUB.out.below hbel hlt2
          have HBE := Lib.hid hbel
          generalize allF c = L at *
          have HLT := Lib.hid (fun x hx => (hown.lt x hx).1)
          obtain ⟨Ar, capr, rfl, hcr, hxl, hAr⟩ := Sl.own hown
          have HAR := Lib.hid hAr
          have hbs := hbel.size
          obtain ⟨N, hN⟩ : ∃ N, L.length = N := ⟨_, rfl⟩
          have HN := Lib.hid hN
          rw [hN] at hLl HAR
          have hF64 := hF2
          rw [HFe.out] at hF64
          have HU0 : Hid (unlB F noB L = unlB F noB (L.drop 0) ∧ Blk wr (w.heap.size + 1) 106 (bitc noB 64) ∧ Fo (· = w.heap.size + 1) wr wr) := Lib.hid ⟨by rw [List.drop_zero], hub, Fo.refl _ _⟩
          clear hown hbel hall hdl gy H et hL hL2 hub hAr hxl e0 e1 e2
          rw [hN]
          clear hN
          generalize wr = wz at *
          go_wp2_with fail
          clear p1 p2
          go_loopw [8] (fun i wr => ∃ (q : Nat), q ≤ N ∧ i = .int .i64 q ∧ Hid (∃ U, unlB F noB L = unlB F U (L.drop q) ∧ Blk wr (w.heap.size + 1) 106 (bitc U 64) ∧ Fo (· = w.heap.size + 1) wz wr)) (fun i _ => N - (intOf i).toNat)
          case atStart => exact ⟨0, by omega, rfl, Lib.hid ⟨noB, HU0.out⟩⟩
          case round =>
            obtain ⟨q, hq, rfl, H⟩ := hrel
            obtain ⟨U, hun, hub, hfo⟩ := H.out
            by_cases hlt : q < N
            · obtain ⟨b, o, rfl, hbw, hcell⟩ := HAR.out (by omega)
              have hbge : w2.heap.size ≤ b := HLT.out b rfl
              have c0 := hcell q _ (ints_get L q (by rw [HN.out]; exact hlt))
              have hbk := hfo.block b hbw (by omega)
              have hck : ∀ x, wr.cell? ⟨b, x, none⟩ = wz.cell? ⟨b, x, none⟩ := fun x => by
                simp only [World.cell?, hbk]
              rw [← hck] at c0
              have hyk : wr.cell? ⟨w.heap.size, 0, none⟩ = wz.cell? ⟨w.heap.size, 0, none⟩ := by
                simp only [World.cell?, hfo.block w.heap.size (by omega) (by omega)]
              have d0 := hyk.trans p0
              have hst := unlB_at F U L q (by rw [HN.out]; exact hlt)
              rw [← hun, ← HQ2.out] at hst
              have HST := Lib.hid hst; have HUB := Lib.hid hub; have HFO := Lib.hid hfo; have HUN := Lib.hid hun
              have hws := hfo.size
              clear hcell hbk hck hyk hst hub hfo hun H
              generalize L.getD q 0 = x at *
              by_cases hx0 : 0 ≤ x
              · by_cases hx1 : x < (F : Int)
                · obtain ⟨x, rfl⟩ := Int.eq_ofNat_of_zero_le hx0
                  have hx64 : x < 64 := by omega
                  have hxi : (x : Int) < 64 := by omega
                  have hxn : x < F := by omega
                  have hxd : decide (F ≤ x) = false := decide_eq_false (by omega)
                  have u0 := HUB.out.cell x
                  rw [bitc_get _ _ _ hx64] at u0
                  have ufz := HUB.out.frozen x
                  have hst2 := HST.out
                  rw [Int.toNat_natCast, decide_eq_true ⟨hx0, hx1⟩, Bool.true_and] at hst2
                  have HST2 := Lib.hid hst2
                  clear hst2 HST
                  cases hU : U x with
                  | true =>
                    have e : Q = false := by rw [HST2.out, hU]; rfl
                    rw [hU] at u0
                    subst e
                    clear hU
                    go_wp2_with fail
                    go_quiet (fail)
                    go_wp2_with fail
                    go_ret
                    exact ⟨rfl, bdrewN (HFO.out.below (Below.down HB2.out HBE.out (by omega)) (by omega) (fun i e => by omega)) _⟩
                  | false =>
                    have HS3 : Hid (Q = unlB F (bitF U x true) (L.drop (q + 1))) := Lib.hid (by rw [HST2.out, hU]; rfl)
                    rw [hU] at u0
                    clear hU
                    have hbs := HUB.out.set x (.bool true)
                    rw [bitc_set] at hbs
                    have HBS := Lib.hid (fun (W : World) (hW : Blk W (w.heap.size + 1) 106 (bitc U 64)) => (show Blk (W.setCell ⟨w.heap.size + 1, x, none⟩ (.bool true)) (w.heap.size + 1) 106 (bitc (bitF U x true) 64) from by have := hW.set x (.bool true); rw [bitc_set] at this; exact this))
                    clear hbs
                    go_wp2_with fail
                    go_quiet (fail)
                    go_wp2_with fail
                    go_roundw
                    case rel => exact ⟨q + 1, by omega, by go_num, Lib.hid ⟨_, by rw [← HQ2.out]; exact HS3.out, HBS.out _ (HUB.out.drewN _), (HFO.out.drewN _).set (.inl rfl) _⟩⟩
                    case measure => simp [intOf]; omega
                · have e : Q = false := by rw [HST.out, decide_eq_false (fun h => hx1 h.2)]; rfl
                  subst e
                  have hx2 : (F : Int) ≤ x := by omega
                  clear hx1
                  go_wp2_with fail
                  go_quiet (fail)
                  go_wp2_with fail
                  go_ret
                  exact ⟨rfl, bdrewN (HFO.out.below (Below.down HB2.out HBE.out (by omega)) (by omega) (fun i e => by omega)) _⟩
              · have e : Q = false := by rw [HST.out, decide_eq_false (fun h => hx0 h.1)]; rfl
                subst e
                have hx2 : x < 0 := by omega
                clear hx0
                go_wp2_with fail
                go_quiet (fail)
                go_wp2_with fail
                go_ret
                exact ⟨rfl, bdrewN (HFO.out.below (Below.down HB2.out HBE.out (by omega)) (by omega) (fun i e => by omega)) _⟩
            · obtain rfl : q = N := by omega
              have e : Q = true := by rw [HQ2.out, hun, List.drop_eq_nil_of_le (by rw [HN.out]; exact Nat.le_refl _)]; rfl
              subst e
              have HFO := Lib.hid hfo
              clear hun hub hfo H
              go_wp2_with fail
              go_ret
              exact ⟨rfl, HFO.out.below (Below.down HB2.out HBE.out (by omega)) (by omega) (fun i e => by omega)⟩
end
end Go.Proofs.YtkaalinoiilmoaaGreat
namespace Go.Proofs.YtkaalinoiilmoaaGreat
open Go.RowKit
set_option linter.unusedVariables false
set_option linter.unusedSimpArgs false
set_option maxRecDepth 100000
def ucs (u : Nat → Bool) : List Value := (List.range 64).map fun j => .bool (u j)
theorem ucs_get (u : Nat → Bool) (j : Nat) (h : j < 64) : (ucs u)[j]? = some (.bool (u j)) := by simp [ucs, h]
theorem ucs_set (u : Nat → Bool) (j : Nat) (h : j < 64) (v : Nat → Bool) (hv : ∀ i, v i = (u i || decide (i = j))) : (ucs u).set j (.bool true) = ucs v := by
  apply List.ext_getElem? 
  intro i
  rw [List.getElem?_set]
  by_cases e : j = i
  · subst e
    rw [if_pos rfl, if_pos (by simpa [ucs] using h), ucs_get v _ h, hv]; simp
  · rw [if_neg e]
    by_cases hi : i < 64
    · rw [ucs_get u i hi, ucs_get v i hi, hv]; simp [show ¬ i = j from fun h => e h.symm]
    · rw [List.getElem?_eq_none (by simpa [ucs] using hi), List.getElem?_eq_none (by simpa [ucs] using hi)]
def usedTo (l : List Win) (s : Int) (c : Nat) (j : Nat) : Bool := used l j || decide (s ≤ j ∧ (j : Int) < s + c)
theorem usedTo_zero (l : List Win) (s : Int) : usedTo l s 0 = used l := by
  funext j; unfold usedTo
  rw [decide_eq_false (by omega), Bool.or_false]
theorem usedTo_step (l : List Win) (s c i : Nat) : usedTo l s (c + 1) i = (usedTo l s c i || decide (i = s + c)) := by
  unfold usedTo
  rw [Bool.or_assoc]
  congr 1
  by_cases h : i = s + c
  · rw [decide_eq_true h, Bool.or_true]; exact decide_eq_true (by omega)
  · rw [decide_eq_false h, Bool.or_false]
    by_cases h2 : (s : Int) ≤ i ∧ (i : Int) < s + c
    · rw [decide_eq_true h2]; exact decide_eq_true (by omega)
    · rw [decide_eq_false h2]; exact decide_eq_false (by omega)
theorem used_take (l : List Win) (k : Nat) (hk : k < l.length) (c : Nat) (hc : l[k].l = c) : usedTo (l.take k) l[k].s c = used (l.take (k + 1)) := by
  funext j
  rw [List.take_add_one, List.getElem?_eq_getElem hk]
  show _ = used (l.take k ++ [l[k]]) j
  rw [used_snoc, hc]
  rfl
theorem usedTo_at (l : List Win) (s c : Nat) : usedTo l s c (s + c) = used l (s + c) := by
  unfold usedTo
  rw [decide_eq_false (by omega), Bool.or_false]
theorem fit_parts2 (x : Win) (m p : Int) (hm : 1 ≤ m) (hm2 : m ≤ 64) : fitW x m p = true ∧ 0 ≤ x.p ∧ x.p < p ∧ 0 ≤ x.s ∧ 1 ≤ x.l ∧ x.s ≤ m ∧ x.l ≤ m - x.s ∧ x.s ≤ x.d ∧ x.d - x.s < x.l ∨
    fitW x m p = false ∧ (x.p < 0 ∨ 0 ≤ x.p ∧ p ≤ x.p ∨ 0 ≤ x.p ∧ x.p < p ∧ x.l < 1 ∨ 0 ≤ x.p ∧ x.p < p ∧ 1 ≤ x.l ∧ ¬ (0 ≤ x.s ∧ 0 ≤ x.l ∧ x.s ≤ m ∧ x.l ≤ m - x.s) ∨
      0 ≤ x.p ∧ x.p < p ∧ 1 ≤ x.l ∧ (0 ≤ x.s ∧ 0 ≤ x.l ∧ x.s ≤ m ∧ x.l ≤ m - x.s) ∧ x.d < x.s ∨ 0 ≤ x.p ∧ x.p < p ∧ 1 ≤ x.l ∧ (0 ≤ x.s ∧ 0 ≤ x.l ∧ x.s ≤ m ∧ x.l ≤ m - x.s) ∧ x.s ≤ x.d ∧ x.l ≤ x.d - x.s) := by
  by_cases h : 0 ≤ x.p ∧ x.p < p ∧ 0 ≤ x.s ∧ 1 ≤ x.l ∧ x.s + x.l ≤ m ∧ x.s ≤ x.d ∧ x.d < x.s + x.l
  · exact .inl ⟨decide_eq_true h, by omega⟩
  · refine .inr ⟨decide_eq_false h, ?_⟩
    omega
def Usd (w : World) (h : Nat) (u : Nat → Bool) (wr : World) : Prop := Blk wr h 106 (ucs u) ∧ Below w.heap.size w wr ∧ w.heap.size ≤ h
def zUsed : Array Value := (ucs (used [])).toArray
theorem zUsed_ne : ¬ (zUsed = #[]) := by
  intro h
  have := congrArg Array.size h
  simp [zUsed, ucs] at this
theorem zUsed_run (w : World) : Sem.run Tryz.prog (zeroValue 106) w = .ok (.agg zUsed) w := by
  have hi : (Tryz.prog.info? 106).map (fun i => i.zero) = some (some (.agg zUsed)) := by kernel_rfl
  cases h : Tryz.prog.info? 106 with
  | none => rw [h] at hi; cases hi
  | some i =>
    rw [h] at hi
    simp only [Option.map_some, Option.some.injEq] at hi
    simp [zeroValue, typeInfo, h, hi]
set_option maxHeartbeats 4000000 in
theorem rwmay_any (A : Option Addr) (n cap : Nat) (l : List Win) (m p : Int) (w : World) (hs : Sl w (.slice A n cap) n 4 (ints (wins l))) (hn : n ≤ maxLen) (hl : l.length = n) (hw : ∀ x ∈ l, W64 x) :
    Calls Tryz.prog 43 #[.slice A n cap, .int .i64 m, .int .i64 p] w fun e w' => e = .returned (.bool (mayW l m p)) ∧ Below w.heap.size w w' := by
  have HS := Lib.hid hs; have HL := Lib.hid hl; have HW := Lib.hid hw
  unfold maxLen at hn
  rcases head_parts n m p with ⟨hh, h0, h1, h2, h3, h4, h5⟩ | ⟨hh, hh2⟩
  · rw [← hl] at hh
    have HH := Lib.hid hh
    clear hs hl hw hh
    go_enter Tryz.func43, Tryz.ntmps43
    have hz := zUsed_run
    have hne := zUsed_ne
    go_wp2_with fail
    clear hz hne
    have hu0 : Usd w w.heap.size (used (l.take 0)) (w.alloc (.cells zUsed 106)) := ⟨Blk.new _ _ _, (Below.refl _ _).alloc (Nat.le_refl _) _, Nat.le_refl _⟩
    generalize w.alloc (.cells zUsed 106) = wz at *
    go_loopw [8] (fun i wr => ∃ (k : Nat), k ≤ n ∧ i = .int .i64 k ∧ (∀ j, j < k → okB l m p j = true) ∧ Usd w w.heap.size (used (l.take k)) wr) (fun i _ => n - (intOf i).toNat)
    case atStart => exact ⟨0, by omega, rfl, fun j hj => by omega, hu0⟩
    case round =>
      clear hu0
      obtain ⟨k, hk, rfl, hall, hu⟩ := hrel
      have HALL := Lib.hid hall; clear hall
      by_cases hlt : k < n
      · have hkl : k < l.length := by rw [HL.out]; exact hlt
        obtain ⟨b, o, rfl, hb, c0, c1, c2, c3⟩ := wd_at (HS.out.below hu.2.1) HL.out k hkl
        have hwx := HW.out l[k] (List.getElem_mem hkl)
        have hno := Lib.hid (fun (h : fitW l[k] m p = false) => mayW_no hkl (ok_no_fit hkl h))
        have hmt := Lib.hid (fun (h : (l.take k).any (metB l[k]) = true) => mayW_no (m := m) (p := p) hkl (ok_meets hkl h))
        have hys := Lib.hid (fun (h : fitW l[k] m p = true) (h' : (l.take k).any (metB l[k]) = false) => ok_yes hkl h h')
        have hut := Lib.hid (fun c (hc : l[k].l = ((c : Nat) : Int)) => used_take l k hkl c hc)
        generalize l[k] = x at *
        have hto : Hid (∀ y ∈ l.take k, 0 ≤ y.s ∧ 1 ≤ y.l) := Lib.hid (by
          intro o ho
          obtain ⟨j, hj, rfl⟩ := List.getElem_of_mem ho
          have hjk : j < k := by rw [List.length_take] at hj; omega
          rw [List.getElem_take]
          have := fit_of (ok_fit (by omega) (HALL.out j hjk))
          omega)
        have hub := hu.2.1.alloc hu.2.1.size (.cells #[.int .i64 x.p, .int .i64 x.s, .int .i64 x.l, .int .i64 x.d] 82)
        have huk := hu.1.alloc (.cells #[.int .i64 x.p, .int .i64 x.s, .int .i64 x.l, .int .i64 x.d] 82)
        have hux := Blk.new wr 82 (wdv x)
        change Blk (wr.alloc (.cells #[.int .i64 x.p, .int .i64 x.s, .int .i64 x.l, .int .i64 x.d] 82)) _ _ _ at hux
        have huh := hu.2.2
        have hug := hu.1.lt
        clear hu
        obtain ⟨xp, xs, xl, xd⟩ := x
        simp only at *
        have HFP := fit_parts2 ⟨xp, xs, xl, xd⟩ m p h0 h1
        simp only at HFP
        have HX := Lib.hid hwx; clear hwx
        obtain ⟨⟨p0, p1⟩, ⟨s0, s1⟩, ⟨l0, l1⟩, ⟨d0, d1⟩⟩ := HX.out
        simp only at p0 p1 s0 s1 l0 l1 d0 d1
        rcases HFP with ⟨hf, f0, f1, f2, f3, f4, f5, f6, f7⟩ | ⟨hf, f⟩
        · obtain ⟨s, rfl⟩ := Int.eq_ofNat_of_zero_le f2
          obtain ⟨L, rfl⟩ := Int.eq_ofNat_of_zero_le (show 0 ≤ xl by omega)
          have HF := Lib.hid hf; clear hf hno HX
          have HM := Lib.hid (fun w => rmay_yes (s : Int) (L : Int) m w f2 (by omega) f4 f5 (by omega))
          go_wp2_with (go_at_call 70; refine (HM.out _).mono ?_; rintro e w' ⟨rfl, rfl⟩)
          generalize wr.alloc (.cells #[.int .i64 xp, .int .i64 (s : Int), .int .i64 (L : Int), .int .i64 xd] 82) = w1 at *
          have hgh : w.heap.size ≠ wr.heap.size := by omega
          have hwg : w.heap.size ≤ wr.heap.size := by omega
          generalize wr.heap.size = g at *
          rw [← usedTo_zero (l.take k) (s : Int)] at huk
          clear c0 c1 c2 c3 hb
          go_loopw [10] (fun j wq => ∃ (c : Nat), c ≤ L ∧ j = .int .i64 ((s + c : Nat) : Int) ∧ (∀ i, i < c → used (l.take k) (s + i) = false) ∧ Blk wq w.heap.size 106 (ucs (usedTo (l.take k) s c)) ∧ Blk wq g 82 (wdv ⟨xp, s, L, xd⟩) ∧ Below w.heap.size w wq) (fun j _ => s + L - (intOf j).toNat)
          case atStart => exact ⟨0, by omega, rfl, fun i hi => by omega, huk, hux, hub⟩
          case round =>
            clear huk hux hub
            obtain ⟨c, hc, rfl, hall, huk, hux, hub⟩ := hrel
            have HA2 := Lib.hid hall; clear hall
            obtain ⟨q0, q1, q2, q3⟩ := four_at hux
            simp only at q0 q1 q2 q3
            have hsum : IntKind.i64.wrap ((s : Int) + (L : Int)) = (s : Int) + (L : Int) := IntWalk.i64_in _ (by omega)
            by_cases hcl : c < L
            · have hcell := (huk.cell (s + c)).trans (ucs_get _ _ (by omega))
              rw [usedTo_at] at hcell
              have hfr := huk.frozen (s + c)
              have hset := huk.set (s + c) (.bool true)
              rw [ucs_set _ (s + c) (by omega) (usedTo (l.take k) s (c + 1)) (fun i => usedTo_step _ _ _ _)] at hset
              have hux2 := hux.far (p := ⟨w.heap.size, s + c, none⟩) (fun e => hgh e.symm) (.bool true)
              have hub2 := hub.setCell (p := ⟨w.heap.size, s + c, none⟩) (Nat.le_refl _) (.bool true)
              have h64 : ((s + c : Nat) : Int) < 64 := by omega
              have h640 : (0 : Int) ≤ ((s + c : Nat) : Int) := by omega
              generalize hU : used (l.take k) (s + c) = U at *
              have HU := Lib.hid hU
              clear huk hux hU
              have hj : ((s + c : Nat) : Int) < (s : Int) + (L : Int) := by omega
              have hnx : IntKind.i64.wrap (((s + c : Nat) : Int) + 1) = ((s + (c + 1) : Nat) : Int) := by rw [IntWalk.i64_in _ (by omega)]; omega
              generalize hjj : s + c = j at *
              have HJ := Lib.hid hjj; clear hjj
              cases U with
              | true =>
                have hmt2 := Lib.hid (hmt.out (used_meets (x := ⟨xp, s, L, xd⟩) HU.out (show (s : Int) ≤ (j : Int) by have := HJ.out; omega) (show (j : Int) < (s : Int) + L by omega)))
                go_wp2_with fail
                go_ret
                exact ⟨by rw [hmt2.out]; rfl, hub⟩
              | false =>
                clear hub
                go_wp2_with fail
                go_roundw
                case rel => exact ⟨c + 1, by omega, by go_num, fun i hi => by
                  by_cases e : i = c
                  · subst e; rw [HJ.out]; exact HU.out
                  · exact HA2.out i (by omega), hset, hux2, hub2⟩
                case measure => have := HJ.out; simp [intOf]; omega
            · obtain rfl : c = L := by omega
              rw [hut.out c rfl] at huk
              have hnm := Lib.hid (meets_used (l := l.take k) (x := ⟨xp, s, c, xd⟩) (by simp only; omega) (by simp only; omega) hto.out (fun j hj1 hj2 => by
                simp only at hj1 hj2
                have := HA2.out (j - s) (by omega)
                rwa [show s + (j - s) = j by omega] at this))
              go_wp2_with fail
              go_roundw
              case rel => exact ⟨k + 1, by omega, by go_num, fun j hj => by
                by_cases e : j = k
                · subst e; exact hys.out HF.out hnm.out
                · exact HALL.out j (by omega), huk, hub, Nat.le_refl _⟩
              case measure => simp [intOf]; omega
        · have HF := Lib.hid (hno.out hf)
          clear hf
          rcases f with f0 | ⟨f0, f1⟩ | ⟨f0, f1, f2⟩ | ⟨f0, f1, f2, f3⟩ | ⟨f0, f1, f2, f3, f4⟩ | ⟨f0, f1, f2, f3, f4, f5⟩
          · go_wp2_with fail
            go_ret
            exact ⟨by rw [HF.out]; rfl, hub⟩
          · go_wp2_with fail
            go_ret
            exact ⟨by rw [HF.out]; rfl, hub⟩
          · go_wp2_with fail
            go_ret
            exact ⟨by rw [HF.out]; rfl, hub⟩
          · have HM := Lib.hid (fun w => rmay_no xs xl m w f3 (by omega))
            clear f3
            go_wp2_with (go_at_call 70; refine (HM.out _).mono ?_; rintro e w' ⟨rfl, rfl⟩)
            go_ret
            exact ⟨by rw [HF.out]; rfl, hub⟩
          · obtain ⟨g0, g1, g2, g3⟩ := f3
            have HM := Lib.hid (fun w => rmay_yes xs xl m w g0 g1 g2 g3 (by omega))
            go_wp2_with (go_at_call 70; refine (HM.out _).mono ?_; rintro e w' ⟨rfl, rfl⟩)
            go_ret
            exact ⟨by rw [HF.out]; rfl, hub⟩
          · obtain ⟨g0, g1, g2, g3⟩ := f3
            have HM := Lib.hid (fun w => rmay_yes xs xl m w g0 g1 g2 g3 (by omega))
            go_wp2_with (go_at_call 70; refine (HM.out _).mono ?_; rintro e w' ⟨rfl, rfl⟩)
            go_ret
            exact ⟨by rw [HF.out]; rfl, hub⟩
      · go_wp2_with fail
        go_ret
        exact ⟨by rw [mayW_yes HH.out (fun j hj => HALL.out j (by have := HL.out; omega))]; rfl, hu.2.1⟩
  · have hM := mayW_head (l := l) (m := m) (p := p) (by rw [hl]; exact hh)
    rw [hM]
    clear hs hl hw hM hh
    rcases hh2 with h0 | ⟨h0, h1⟩ | ⟨h0, h1, h2⟩ | ⟨h0, h1, h2, h3⟩ | ⟨h0, h1, h2, h3, h4⟩ | ⟨h0, h1, h2, h3, h4, h5⟩
    all_goals
      go_enter Tryz.func43, Tryz.ntmps43
      go_wp2_with fail
      go_ret
      exact ⟨rfl, Below.refl _ _⟩
end Go.Proofs.YtkaalinoiilmoaaGreat
namespace Go.Proofs.YtkaalinoiilmoaaGreat
open Go.RowKit
set_option linter.unusedVariables false
set_option linter.unusedSimpArgs false
set_option maxRecDepth 100000
theorem hasW_take (l : List Win) (k : Nat) (i : Int) (hk : k < l.length) : hasW (l.take (k + 1)) i = (hasW (l.take k) i || decide (l[k].p = i)) := by
  unfold hasW
  rw [List.take_add_one, List.getElem?_eq_getElem hk, List.any_append]
  simp
section
variable {w : World} {c : Cf} {vp vd vw vg : Value}
set_option maxHeartbeats 4000000 in
theorem rcmay_any (h : CfAt w vp vd vw vg c) : Calls Tryz.prog 21 #[.agg #[.int .i64 c.fr, vp, vd, .int .i64 c.mj, vw, vg, .int .i64 c.se, .int .i64 c.qu, .int .i64 c.qt]] w fun e w' => e = .returned (.bool (cfMay c)) ∧ Below w.heap.size w w' := by
  rw [← cf_ref c]
  obtain ⟨hb, hB⟩ := cf_box w c vp vd vw vg
  have h1 := h.below hB
  have hps := h1.ps; have hds := h1.ds; have hws := h1.ws
  have hz1 := h.pz.1; have hz2 := h.dz.1
  obtain ⟨A, cap, rfl, hA⟩ := hps
  obtain ⟨A', cap', rfl, -⟩ := hds
  obtain ⟨Aw, capw, rfl⟩ := hws.form
  have hlt1 : w.heap.size < (w.alloc (.cells #[.int .i64 c.fr, .slice A c.ps.length cap, .slice A' c.ds.length cap', .int .i64 c.mj, .slice Aw c.ws.length capw, vg, .int .i64 c.se, .int .i64 c.qu, .int .i64 c.qt] 27)).heap.size := by simp
  have HB := Lib.hid hB; have HCB := Lib.hid hb; have H1 := Lib.hid h1; have HA := Lib.hid hA
  have HWS := Lib.hid hws
  have hwl : c.ws.length ≤ 9223372036854775807 := by have := h.wz; omega
  have HFRM := Lib.hid (fun W hW (q1 : 1 ≤ c.fr ∧ c.fr ≤ 64) (q2 : c.ps.length ≤ 4) (q3 : c.ds.length ≤ 4) => rframes_any_Cg1 (w := W) (c := c) (vp := .slice A c.ps.length cap) (vd := .slice A' c.ds.length cap') (vw := .slice Aw c.ws.length capw) (vg := vg) hW q1 q2 q3)
  have HGR := Lib.hid (fun W hW => rgrants_any (w := W) (c := c) (vp := .slice A c.ps.length cap) (vd := .slice A' c.ds.length cap') (vw := .slice Aw c.ws.length capw) (vg := vg) hW)
  have HWM := Lib.hid (fun W (hW : CfAt W (.slice A c.ps.length cap) (.slice A' c.ds.length cap') (.slice Aw c.ws.length capw) vg c) => rwmay_any Aw c.ws.length capw c.ws c.mj c.ps.length W hW.ws.sl hW.ws.big rfl hW.ws.in64)
  have HEX := Lib.hid (fun W (hW : CfAt W (.slice A c.ps.length cap) (.slice A' c.ds.length cap') (.slice Aw c.ws.length capw) vg c) => rextmay_any _ _ c.se _ (hW.ps.pts hW.pz))
  obtain ⟨Q, hQ⟩ : ∃ Q, rcMay c = Q := ⟨_, rfl⟩
  rw [hQ]
  have HX : Hid (((((((((btw 1 64 c.fr && btw 1 4 c.ps.length) && btw 1 4 c.ds.length) && rfB c) && gsB c) && mayW c.ws c.mj c.ps.length) && extB (c.ps.map Pa.fc) c.se) && (List.range c.ps.length).all (rpB c)) && (btw 0 64 c.qu && btw 1 8 c.qt)) = Q) := Lib.hid hQ
  obtain ⟨f0, f1, f2, -⟩ := cf_at hb
  clear h h1 hb hB hws hA hQ
  generalize hM : mayW c.ws c.mj c.ps.length = RWM at *
  generalize hE : extB (c.ps.map Pa.fc) c.se = RE at *
  generalize hFF : rfB c = RF at *
  generalize hGG : gsB c = RG at *
  clear hM hE hFF hGG
  generalize hpn : c.ps.length = n at *
  generalize hdn : c.ds.length = n' at *
  generalize hwn : c.ws.length = m at *
  have HPN := Lib.hid hpn; have HWN := Lib.hid hwn
  clear hpn hdn hwn
  have way : c.fr < 1 ∨ 1 ≤ c.fr ∧ 64 < c.fr ∨ 1 ≤ c.fr ∧ c.fr ≤ 64 ∧ n < 1 ∨ 1 ≤ c.fr ∧ c.fr ≤ 64 ∧ 1 ≤ n ∧ 4 < n ∨ 1 ≤ c.fr ∧ c.fr ≤ 64 ∧ 1 ≤ n ∧ n ≤ 4 ∧ n' < 1 ∨ 1 ≤ c.fr ∧ c.fr ≤ 64 ∧ 1 ≤ n ∧ n ≤ 4 ∧ 1 ≤ n' ∧ 4 < n' ∨ 1 ≤ c.fr ∧ c.fr ≤ 64 ∧ 1 ≤ n ∧ n ≤ 4 ∧ 1 ≤ n' ∧ n' ≤ 4 := by omega
  rcases way with a1 | ⟨a1, a2⟩ | ⟨a1, a2, a3⟩ | ⟨a1, a2, a3, a4⟩ | ⟨a1, a2, a3, a4, a5⟩ | ⟨a1, a2, a3, a4, a5, a6⟩ | ⟨a1, a2, a3, a4, a5, a6⟩
  · have e : Q = false := by rw [← HX.out, show btw 1 64 c.fr = false from decide_eq_false (by omega)]; simp
    subst e
    go_enter Tryz.func21, Tryz.ntmps21
    go_wp2_with fail
    go_ret
    exact ⟨rfl, HB.out⟩
  · have e : Q = false := by rw [← HX.out, show btw 1 64 c.fr = false from decide_eq_false (by omega)]; simp
    subst e
    go_enter Tryz.func21, Tryz.ntmps21
    go_wp2_with fail
    go_ret
    exact ⟨rfl, HB.out⟩
  · have e : Q = false := by rw [← HX.out, show btw 1 4 (n : Int) = false from decide_eq_false (by omega)]; simp
    subst e
    go_enter Tryz.func21, Tryz.ntmps21
    go_wp2_with fail
    go_ret
    exact ⟨rfl, HB.out⟩
  · have e : Q = false := by rw [← HX.out, show btw 1 4 (n : Int) = false from decide_eq_false (by omega)]; simp
    have d1 : decide (n < 1) = false := decide_eq_false (by omega)
    subst e
    go_enter Tryz.func21, Tryz.ntmps21
    go_wp2_with fail
    go_ret
    exact ⟨rfl, HB.out⟩
  · have e : Q = false := by rw [← HX.out, show btw 1 4 (n' : Int) = false from decide_eq_false (by omega)]; simp
    have d1 : decide (n < 1) = false := decide_eq_false (by omega)
    have d2 : decide (4 < n) = false := decide_eq_false (by omega)
    subst e
    go_enter Tryz.func21, Tryz.ntmps21
    go_wp2_with fail
    go_ret
    exact ⟨rfl, HB.out⟩
  · have e : Q = false := by rw [← HX.out, show btw 1 4 (n' : Int) = false from decide_eq_false (by omega)]; simp
    have d1 : decide (n < 1) = false := decide_eq_false (by omega)
    have d2 : decide (4 < n) = false := decide_eq_false (by omega)
    have d3 : decide (n' < 1) = false := decide_eq_false (by omega)
    subst e
    go_enter Tryz.func21, Tryz.ntmps21
    go_wp2_with fail
    go_ret
    exact ⟨rfl, HB.out⟩
  · have HX2 : Hid (((((((RF && RG) && RWM) && RE) && (List.range n).all (rpB c)) && (btw 0 64 c.qu && btw 1 8 c.qt)) = Q)) := Lib.hid (by
      rw [← HX.out, show btw 1 64 c.fr = true from decide_eq_true ⟨a1, a2⟩, show btw 1 4 (n : Int) = true from decide_eq_true (by omega), show btw 1 4 (n' : Int) = true from decide_eq_true (by omega)]; rfl)
    have d1 : decide (n < 1) = false := decide_eq_false (by omega)
    have d2 : decide (4 < n) = false := decide_eq_false (by omega)
    have d3 : decide (n' < 1) = false := decide_eq_false (by omega)
    have d4 : decide (4 < n') = false := decide_eq_false (by omega)
    obtain ⟨f0, f1, f2, f3, f4, f5, f6, f7, f8⟩ := cf_at HCB.out
    have HC1 := Lib.hid (HFRM.out _ H1.out ⟨a1, a2⟩ a4 a6)
    clear HX HFRM
    go_enter Tryz.func21, Tryz.ntmps21
    go_wp2_with fail
    generalize w.alloc (.cells #[.int .i64 c.fr, .slice A n cap, .slice A' n' cap', .int .i64 c.mj, .slice Aw m capw, vg, .int .i64 c.se, .int .i64 c.qu, .int .i64 c.qt] 27) = w1 at *
    refine HC1.out.mono ?_
    rintro e w2 ⟨rfl, b2⟩
    have H2 := Lib.hid (H1.out.below b2)
    have HB2 := Lib.hid (Below.down HB.out b2 HB.out.size)
    have HS2 := Lib.hid b2
    obtain ⟨f0, f1, f2, f3, f4, f5, f6, f7, f8⟩ := cf_at (HCB.out.below b2 hlt1)
    clear b2 HC1
    cases RF with
    | false =>
      have e : Q = false := by rw [← HX2.out]; simp
      subst e
      go_wp2_with fail
      go_ret
      exact ⟨rfl, HB2.out⟩
    | true =>
      have HX3 : Hid ((((((RG && RWM) && RE) && (List.range n).all (rpB c)) && (btw 0 64 c.qu && btw 1 8 c.qt)) = Q)) := Lib.hid (by rw [← HX2.out, Bool.true_and])
      clear HX2
      go_wp2_with fail
      refine (HGR.out _ H2.out).mono ?_
      rintro e w3 ⟨rfl, b3⟩
      have H3 := Lib.hid (H2.out.below b3)
      have HB3 := Lib.hid (Below.down HB2.out b3 HB2.out.size)
      have HS3 := Lib.hid (Below.down HS2.out b3 HS2.out.size)
      obtain ⟨f0, f1, f2, f3, f4, f5, f6, f7, f8⟩ := cf_at (HCB.out.below HS3.out hlt1)
      clear b3
      cases RG with
      | false =>
        have e : Q = false := by rw [← HX3.out]; simp
        subst e
        go_wp2_with fail
        go_ret
        exact ⟨rfl, HB3.out⟩
      | true =>
        have HX4 : Hid (((((RWM && RE) && (List.range n).all (rpB c)) && (btw 0 64 c.qu && btw 1 8 c.qt)) = Q)) := Lib.hid (by rw [← HX3.out, Bool.true_and])
        clear HX3
        go_wp2_with fail
        refine (HWM.out _ H3.out).mono ?_
        rintro e w4 ⟨rfl, b4⟩
        have H4 := Lib.hid (H3.out.below b4)
        have HB4 := Lib.hid (Below.down HB3.out b4 HB3.out.size)
        have HS4 := Lib.hid (Below.down HS3.out b4 HS3.out.size)
        obtain ⟨f0, f1, f2, f3, f4, f5, f6, f7, f8⟩ := cf_at (HCB.out.below HS4.out hlt1)
        clear b4
        cases RWM with
        | false =>
          have e : Q = false := by rw [← HX4.out]; simp
          subst e
          go_wp2_with fail
          go_ret
          exact ⟨rfl, HB4.out⟩
        | true =>
          have HX5 : Hid ((((RE && (List.range n).all (rpB c)) && (btw 0 64 c.qu && btw 1 8 c.qt)) = Q)) := Lib.hid (by rw [← HX4.out, Bool.true_and])
          clear HX4
          go_wp2_with fail
          refine (HEX.out _ H4.out).mono ?_
          rintro e w5 ⟨rfl, b5⟩
          have HS5 := Lib.hid (Below.down HS4.out b5 HS4.out.size)
          obtain ⟨f0, f1, f2, f3, f4, f5, f6, f7, f8⟩ := cf_at (HCB.out.below HS5.out hlt1)
          clear b5
          cases RE with
          | false =>
            have e : Q = false := by rw [← HX5.out]; simp
            subst e
            go_wp2_with fail
            go_ret
            exact ⟨rfl, Below.down HB.out HS5.out HB.out.size⟩
          | true =>
            have HX6 : Hid ((((List.range n).all (rpB c)) && (btw 0 64 c.qu && btw 1 8 c.qt)) = Q) := Lib.hid (by rw [← HX5.out, Bool.true_and])
            clear HX5 HGR HWM HEX
            go_wp2_with fail
            clear f0 f1 f2 f3 f4 f5 f6 f7 f8
            go_loopw [4] (fun i wr => ∃ k : Nat, k ≤ n ∧ i = .int .i64 k ∧ Hid ((∀ j, j < k → rpB c j = true) ∧ Below w1.heap.size w1 wr)) (fun i _ => n - (intOf i).toNat)
            case atStart => exact ⟨0, by omega, rfl, Lib.hid ⟨fun j hj => by omega, HS5.out⟩⟩
            case round =>
              obtain ⟨k, hk, rfl, H⟩ := hrel
              obtain ⟨hall, hbel⟩ := H.out
              obtain ⟨f0, f1, f2, f3, f4, f5, f6, f7, f8⟩ := cf_at (HCB.out.below hbel hlt1)
              have HALL := Lib.hid hall; have HBL := Lib.hid hbel
              clear hall hbel H
              by_cases hlt : k < n
              · obtain ⟨b, o, rfl, hbw, hat⟩ := HA.out (by omega)
                obtain ⟨A2, c2, r0, r1, -⟩ := hat k hlt
                have g := fun x => HBL.out.cell (p := ⟨b, x, none⟩) hbw
                rw [← g] at r0 r1
                have HRP : Hid (rpB c k = (hasW c.ws k && lB (c.ps.getD k paD).lv (c.ps.getD k paD).ct)) := Lib.hid rfl
                clear hat g
                generalize c.ps.getD k paD = pk at *
                obtain ⟨lv, ct, pfr, pfi, pco⟩ := pk
                simp only at *
                go_wp2_with fail
                go_loop [5, 6] (fun v i => ∃ (j : Nat) (R : Bool), j ≤ m ∧ v = .bool R ∧ i = .int .i64 j ∧ Hid (hasW (c.ws.take j) k = R)) (fun _ i => m - (intOf i).toNat)
                case atStart => exact ⟨0, false, by omega, rfl, rfl, Lib.hid (by rw [List.take_zero]; rfl)⟩
                case round =>
                  obtain ⟨j, R, hj, rfl, rfl, HJ⟩ := hrel
                  by_cases hjm : j < m
                  · have hjl : j < c.ws.length := by rw [HWN.out]; exact hjm
                    obtain ⟨b', o', rfl, -, s0, -⟩ := wd_at (HWS.out.sl.below HBL.out) HWN.out j hjl
                    have HTK := Lib.hid (hasW_take c.ws j k hjl)
                    generalize c.ws[j] = x at *
                    obtain ⟨xp, xs, xl, xd⟩ := x
                    simp only at *
                    cases R with
                    | true =>
                      go_wp2
                      go_round
                      case rel => exact ⟨j + 1, true, by omega, rfl, by go_num, Lib.hid (by rw [HTK.out, HJ.out]; rfl)⟩
                      case measure => simp [intOf]; omega
                    | false =>
                      by_cases he : xp = (k : Int)
                      · have HE : Hid (hasW (c.ws.take (j + 1)) k = true) := Lib.hid (by rw [HTK.out, decide_eq_true he]; simp)
                        subst he
                        go_wp2
                        go_round
                        case rel => exact ⟨j + 1, true, by omega, rfl, by go_num, HE⟩
                        case measure => simp [intOf]; omega
                      · have HE : Hid (hasW (c.ws.take (j + 1)) k = false) := Lib.hid (by rw [HTK.out, HJ.out, decide_eq_false he]; rfl)
                        have he2 : (xp == (k : Int)) = false := by simpa using he
                        clear he
                        go_wp2
                        go_round
                        case rel => exact ⟨j + 1, false, by omega, rfl, by go_num, HE⟩
                        case measure => simp [intOf]; omega
                  · obtain rfl : j = m := by omega
                    have HR : Hid (hasW c.ws k = R) := Lib.hid (by rw [← HJ.out, ← HWN.out, List.take_length])
                    cases R with
                    | false =>
                      have e : Q = false := by
                        rw [← HX6.out, show (List.range n).all (rpB c) = false from List.all_eq_false.2 ⟨k, List.mem_range.2 hlt, by rw [HRP.out, HR.out]; simp⟩]; rfl
                      subst e
                      go_wp2_with fail
                      go_ret
                      exact ⟨rfl, Below.down HB.out HBL.out HB.out.size⟩
                    | true =>
                      cases hl : lB lv ct with
                      | false =>
                        have e : Q = false := by
                          rw [← HX6.out, show (List.range n).all (rpB c) = false from List.all_eq_false.2 ⟨k, List.mem_range.2 hlt, by rw [HRP.out, hl]; simp⟩]; rfl
                        have HL := Lib.hid hl
                        subst e
                        clear hl
                        go_wp2_with fail
                        refine (rlmay_is lv ct false _ HL.out).mono ?_
                        rintro e w6 ⟨rfl, b6⟩
                        go_wp2_with fail
                        go_ret
                        exact ⟨rfl, Below.down (Below.down HB.out HBL.out HB.out.size) b6 (by have := HB.out.size; have := HBL.out.size; omega)⟩
                      | true =>
                        have HL := Lib.hid hl
                        clear hl
                        go_wp2_with fail
                        refine (rlmay_is lv ct true _ HL.out).mono ?_
                        rintro e w6 ⟨rfl, b6⟩
                        have HB6 := Lib.hid (Below.down HBL.out b6 HBL.out.size)
                        clear b6
                        go_wp2_with fail
                        go_roundw
                        case rel => exact ⟨k + 1, by omega, by go_num, Lib.hid ⟨fun q hq => by
                          by_cases e : q = k
                          · rw [e, HRP.out, HR.out, HL.out]; rfl
                          · exact HALL.out q (by omega), HB6.out⟩⟩
                        case measure => simp [intOf]; omega
              · obtain rfl : k = n := by omega
                have HX7 : Hid ((btw 0 64 c.qu && btw 1 8 c.qt) = Q) := Lib.hid (by rw [← HX6.out, range_all_iff.2 HALL.out, Bool.true_and])
                by_cases u0 : 0 ≤ c.qu
                · by_cases u1 : c.qu ≤ 64
                  · have u2 : btw 0 64 c.qu = true := decide_eq_true ⟨u0, u1⟩
                    by_cases v0 : 1 ≤ c.qt
                    · by_cases v1 : c.qt ≤ 8
                      · have e : Q = true := by rw [← HX7.out, u2, show btw 1 8 c.qt = true from decide_eq_true ⟨v0, v1⟩]; rfl
                        have dd : decide (c.qt ≤ 8) = true := decide_eq_true v1
                        subst e
                        clear v1 u2
                        go_wp2_with fail
                        go_ret
                        exact ⟨rfl, Below.down HB.out HBL.out HB.out.size⟩
                      · have e : Q = false := by rw [← HX7.out, show btw 1 8 c.qt = false from decide_eq_false (by omega)]; simp
                        have dd : decide (c.qt ≤ 8) = false := decide_eq_false v1
                        subst e
                        clear v1 u2
                        go_wp2_with fail
                        go_ret
                        exact ⟨rfl, Below.down HB.out HBL.out HB.out.size⟩
                    · have e : Q = false := by rw [← HX7.out, show btw 1 8 c.qt = false from decide_eq_false (by omega)]; simp
                      have dd : c.qt < 1 := by omega
                      subst e
                      clear v0 u2
                      go_wp2_with fail
                      go_ret
                      exact ⟨rfl, Below.down HB.out HBL.out HB.out.size⟩
                  · have e : Q = false := by rw [← HX7.out, show btw 0 64 c.qu = false from decide_eq_false (by omega)]; rfl
                    have dd : 64 < c.qu := by omega
                    subst e
                    clear u1
                    go_wp2_with fail
                    go_ret
                    exact ⟨rfl, Below.down HB.out HBL.out HB.out.size⟩
                · have e : Q = false := by rw [← HX7.out, show btw 0 64 c.qu = false from decide_eq_false (by omega)]; rfl
                  have dd : c.qu < 0 := by omega
                  subst e
                  clear u0
                  go_wp2_with fail
                  go_ret
                  exact ⟨rfl, Below.down HB.out HBL.out HB.out.size⟩
end
end Go.Proofs.YtkaalinoiilmoaaGreat
namespace Go.Proofs.YtkaalinoiilmoaaGreat
open Go.RowKit
set_option linter.unusedVariables false
set_option linter.unusedSimpArgs false
set_option maxRecDepth 100000
structure FrW (w0 : World) (c : Cf) (vp vd vw vg : Value) (y g : Nat) (F : Nat → Bool) (w : World) : Prop where
  fb : Blk w g 60 (bitc F 4)
  cb : Blk w y 27 (cfc c vp vd vw vg)
  ge : w0.heap.size ≤ g
  below : Below w0.heap.size w0 w
section
variable {w0 w w' : World} {c : Cf} {vp vd vw vg : Value} {y g : Nat} {F : Nat → Bool}
theorem FrW.next (h : FrW w0 c vp vd vw vg y g F w) (hb : Below w.heap.size w w') : FrW w0 c vp vd vw vg y g F w' := ⟨h.fb.below hb h.fb.lt, h.cb.below hb h.cb.lt, h.ge, Below.down h.below hb h.below.size⟩
theorem FrW.put (h : FrW w0 c vp vd vw vg y g F w) (k : Nat) (b : Bool) : FrW w0 c vp vd vw vg y g (bitF F k b) (w.setCell ⟨g, k, none⟩ (.bool b)) :=
  ⟨by have := h.fb.set k (.bool b); rwa [bitc_set] at this, h.cb.far (h.cb.apart h.fb (by decide)) _, h.ge, h.below.setCell h.ge _⟩
end
theorem flB_out {c : Cf} {x y : Int} (h : inP c.ps.length x = false ∨ inP c.ps.length y = false) : flB c x y = false := by
  unfold flB flI
  rcases h with h | h <;> rw [h] <;> simp
theorem cfMay_le4 {c : Cf} (h : cfMay c = true) : c.ps.length ≤ 4 := by
  unfold cfMay psB at h
  simp only [Bool.and_eq_true, btw_iff] at h
  omega
set_option maxHeartbeats 4000000 in
theorem rflows_any {w : World} {c : Cf} {vp vd vw vg : Value} (hc : CfAt w vp vd vw vg c) (x y : Int) :
    Calls Tryz.prog 11 #[.agg #[.int .i64 c.fr, vp, vd, .int .i64 c.mj, vw, vg, .int .i64 c.se, .int .i64 c.qu, .int .i64 c.qt], .int .i64 x, .int .i64 y] w fun e w' => e = .returned (.bool (flB c x y)) ∧ Below w.heap.size w w' := by
  obtain ⟨Ap, capp, rfl, -⟩ := hc.ps
  obtain ⟨hb, hB⟩ := cf_box w c (.slice Ap c.ps.length capp) vd vw vg
  have hpz := hc.pz.1
  have HV := Lib.hid hb; have HB := Lib.hid hB; have HA := Lib.hid (hc.below hB)
  have HM := Lib.hid (rcmay_any HA.out)
  obtain ⟨q0, q1, q2, q3, q4, q5, q6, q7, q8⟩ := cf_at hb
  clear hb hB hc
  generalize hn : c.ps.length = n at *
  have HN := Lib.hid hn
  clear hn
  cases hm : cfMay c with
  | false =>
    have HR := Lib.hid (show flB c x y = false by unfold flB; rw [hm]; rfl)
    rw [hm] at HM
    clear hm
    go_enter Tryz.func11, Tryz.ntmps11
    go_wp2_with fail
    generalize w.alloc (.cells #[.int .i64 c.fr, .slice Ap n capp, vd, .int .i64 c.mj, vw, vg, .int .i64 c.se, .int .i64 c.qu, .int .i64 c.qt] 27) = w1 at *
    refine HM.out.mono ?_
    rintro e w2 ⟨rfl, b2⟩
    have HB2 := Lib.hid b2
    obtain ⟨q0, q1, q2, q3, q4, q5, q6, q7, q8⟩ := cf_at (HV.out.below b2 HV.out.lt)
    clear b2
    go_wp2_with fail
    go_ret
    exact ⟨by rw [HR.out]; rfl, Below.down HB.out HB2.out HB.out.size⟩
  | true =>
    rw [hm] at HM
    have HMM := Lib.hid hm
    have hn4 : n ≤ 4 := by have := cfMay_le4 hm; rw [HN.out] at this; exact this
    clear hm
    rcases (show x < 0 ∨ (0 ≤ x ∧ (n : Int) ≤ x) ∨ (0 ≤ x ∧ x < n ∧ y < 0) ∨ (0 ≤ x ∧ x < n ∧ 0 ≤ y ∧ (n : Int) ≤ y) ∨ (0 ≤ x ∧ x < n ∧ 0 ≤ y ∧ y < n) by omega) with h1 | ⟨h1, h2⟩ | ⟨h1, h2, h3⟩ | ⟨h1, h2, h3, h4⟩ | ⟨h1, h2, h3, h4⟩
    · have HR := Lib.hid (show flB c x y = false from flB_out (.inl (by unfold inP; exact decide_eq_false (by omega))))
      go_enter Tryz.func11, Tryz.ntmps11
      go_wp2_with fail
      generalize w.alloc (.cells #[.int .i64 c.fr, .slice Ap n capp, vd, .int .i64 c.mj, vw, vg, .int .i64 c.se, .int .i64 c.qu, .int .i64 c.qt] 27) = w1 at *
      refine HM.out.mono ?_
      rintro e w2 ⟨rfl, b2⟩
      have HB2 := Lib.hid b2
      obtain ⟨q0, q1, q2, q3, q4, q5, q6, q7, q8⟩ := cf_at (HV.out.below b2 HV.out.lt)
      clear b2
      go_wp2_with fail
      go_ret
      exact ⟨by rw [HR.out]; rfl, Below.down HB.out HB2.out HB.out.size⟩
    · have HR := Lib.hid (show flB c x y = false from flB_out (.inl (by rw [HN.out]; unfold inP; exact decide_eq_false (by omega))))
      have t1 : decide (x < 0) = false := by simp; omega
      have t2 : decide ((n : Int) ≤ x) = true := by simp; omega
      go_enter Tryz.func11, Tryz.ntmps11
      go_wp2_with fail
      generalize w.alloc (.cells #[.int .i64 c.fr, .slice Ap n capp, vd, .int .i64 c.mj, vw, vg, .int .i64 c.se, .int .i64 c.qu, .int .i64 c.qt] 27) = w1 at *
      refine HM.out.mono ?_
      rintro e w2 ⟨rfl, b2⟩
      have HB2 := Lib.hid b2
      obtain ⟨q0, q1, q2, q3, q4, q5, q6, q7, q8⟩ := cf_at (HV.out.below b2 HV.out.lt)
      clear b2
      go_wp2_with fail
      go_ret
      exact ⟨by rw [HR.out]; rfl, Below.down HB.out HB2.out HB.out.size⟩
    · have HR := Lib.hid (show flB c x y = false from flB_out (.inr (by unfold inP; exact decide_eq_false (by omega))))
      have t1 : decide (x < 0) = false := by simp; omega
      have t2 : decide ((n : Int) ≤ x) = false := by simp; omega
      go_enter Tryz.func11, Tryz.ntmps11
      go_wp2_with fail
      generalize w.alloc (.cells #[.int .i64 c.fr, .slice Ap n capp, vd, .int .i64 c.mj, vw, vg, .int .i64 c.se, .int .i64 c.qu, .int .i64 c.qt] 27) = w1 at *
      refine HM.out.mono ?_
      rintro e w2 ⟨rfl, b2⟩
      have HB2 := Lib.hid b2
      obtain ⟨q0, q1, q2, q3, q4, q5, q6, q7, q8⟩ := cf_at (HV.out.below b2 HV.out.lt)
      clear b2
      go_wp2_with fail
      go_ret
      exact ⟨by rw [HR.out]; rfl, Below.down HB.out HB2.out HB.out.size⟩
    · have HR := Lib.hid (show flB c x y = false from flB_out (.inr (by rw [HN.out]; unfold inP; exact decide_eq_false (by omega))))
      have t1 : decide (x < 0) = false := by simp; omega
      have t2 : decide ((n : Int) ≤ x) = false := by simp; omega
      have t3 : decide (y < 0) = false := by simp; omega
      have t4 : decide ((n : Int) ≤ y) = true := by simp; omega
      go_enter Tryz.func11, Tryz.ntmps11
      go_wp2_with fail
      generalize w.alloc (.cells #[.int .i64 c.fr, .slice Ap n capp, vd, .int .i64 c.mj, vw, vg, .int .i64 c.se, .int .i64 c.qu, .int .i64 c.qt] 27) = w1 at *
      refine HM.out.mono ?_
      rintro e w2 ⟨rfl, b2⟩
      have HB2 := Lib.hid b2
      obtain ⟨q0, q1, q2, q3, q4, q5, q6, q7, q8⟩ := cf_at (HV.out.below b2 HV.out.lt)
      clear b2
      go_wp2_with fail
      go_ret
      exact ⟨by rw [HR.out]; rfl, Below.down HB.out HB2.out HB.out.size⟩
    · obtain ⟨a, rfl⟩ : ∃ a : Nat, x = a := ⟨x.toNat, by omega⟩
      obtain ⟨b, rfl⟩ : ∃ b : Nat, y = b := ⟨y.toNat, by omega⟩
      have ha : a < n := by omega
      have hb : b < n := by omega
      have hai : (a : Int) < 4 := by omega
      have hbi : (b : Int) < 4 := by omega
      have HAN := Lib.hid ha; have HBN := Lib.hid hb
      have t1 : decide ((a : Int) < 0) = false := by simp
      have t2 : decide ((n : Int) ≤ (a : Int)) = false := by simp; omega
      have t3 : decide ((b : Int) < 0) = false := by simp
      have t4 : decide ((n : Int) ≤ (b : Int)) = false := by simp; omega
      have t5 : decide (n ≤ a) = false := by simp; omega
      have t6 : decide (n ≤ b) = false := by simp; omega
      clear h1 h2 h3 h4
      have HR := Lib.hid (show flB c a b = FL c a b by unfold flB flI; rw [HMM.out, HN.out, inP_at hb, inP_at ha]; simp)
      go_enter Tryz.func11, Tryz.ntmps11
      go_wp2_with fail
      generalize w.alloc (.cells #[.int .i64 c.fr, .slice Ap n capp, vd, .int .i64 c.mj, vw, vg, .int .i64 c.se, .int .i64 c.qu, .int .i64 c.qt] 27) = w1 at *
      refine HM.out.mono ?_
      rintro e w2 ⟨rfl, b2⟩
      have HB2 := Lib.hid b2
      obtain ⟨q0, q1, q2, q3, q4, q5, q6, q7, q8⟩ := cf_at (HV.out.below b2 HV.out.lt)
      clear b2
      have hbb : Blk (w2.alloc (.cells #[.bool false, .bool false, .bool false, .bool false] 60)) w2.heap.size 60 (bitc noB 4) := Blk.new _ _ (bitc noB 4)
      have c0 := (hbb.cell a).trans (bitc_get noB 4 a (by omega))
      have f0 := hbb.frozen a
      have hset : ([.bool false, .bool false, .bool false, .bool false] : List Value).set a (.bool true) = bitc (bitF noB a true) 4 := bitc_set noB 4 a true
      have H0 : Hid (FrW w1 c (.slice Ap n capp) vd vw vg w.heap.size w2.heap.size (bitF noB a true) (w2.alloc (.cells (([.bool false, .bool false, .bool false, .bool false] : List Value).set a (.bool true)).toArray 60))) := Lib.hid ⟨by rw [hset]; exact Blk.new _ _ _, (HV.out.below HB2.out HV.out.lt).alloc _, HB2.out.size, HB2.out.alloc HB2.out.size _⟩
      have HD := Lib.hid (fun (W : World) (hW : Below w1.heap.size w1 W) (i j : Nat) (hi : i < c.ps.length) (hj : j < c.ps.length) => (show Calls Tryz.prog 28 #[.agg #[.int .i64 c.fr, .slice Ap n capp, vd, .int .i64 c.mj, vw, vg, .int .i64 c.se, .int .i64 c.qu, .int .i64 c.qt], .int .i64 (i : Int), .int .i64 (j : Int)] W fun e w' => e = .returned (.bool (dN c i j)) ∧ Below W.heap.size W w' by rw [← rd_dN HMM.out hi hj]; exact rdirect_any (HA.out.below hW) i j hi hj))
      rw [HN.out] at HD
      clear hbb hset
      go_wp2_with fail
      generalize hsz : w2.alloc (.cells (([.bool false, .bool false, .bool false, .bool false] : List Value).set a (.bool true)).toArray 60) = w3 at *
      generalize w2.heap.size = g at *
      generalize hyy : w.heap.size = yb at *
      clear hsz c0 f0 q0 q1 q2 q3 q4 q5 q6 q7 q8 HB2
      go_loopw [8, 9, 10] (fun v8 v9 v10 wr => ∃ k : Nat, k ≤ 4 ∧ v8 = .int .i64 k ∧ v9 = v9 ∧ v10 = v10 ∧ Hid (∃ F, Fnd (dN c) n a k F ∧ FrW w1 c (.slice Ap n capp) vd vw vg yb g F wr)) (fun v8 _ _ _ => 4 - (intOf v8).toNat)
      case atStart => exact ⟨0, by omega, rfl, rfl, rfl, Lib.hid ⟨_, Fnd.start HAN.out, H0.out⟩⟩
      case round =>
        clear H0
        obtain ⟨k, hk4, rfl, -, -, HX⟩ := hrel
        by_cases hlt : k < 4
        · have hkb : decide ((k : Int) < 4) = true := by simp; omega
          obtain ⟨F, hF, hW⟩ := HX.out
          have HF := Lib.hid hF; have HW := Lib.hid hW
          clear hF hW HX
          go_wp2_with fail
          go_loopw [9, 10] (fun v9 v10 wr => ∃ i : Nat, i ≤ n ∧ v9 = .int .i64 i ∧ v10 = v10 ∧ Hid (∃ G, Rnd (dN c) n i 0 F G ∧ FrW w1 c (.slice Ap n capp) vd vw vg yb g G wr)) (fun v9 _ _ => n - (intOf v9).toNat)
          case atStart => exact ⟨0, by omega, rfl, rfl, Lib.hid ⟨_, Rnd.start, HW.out⟩⟩
          case round =>
            clear HW
            obtain ⟨i, hin, rfl, -, HX⟩ := hrel
            obtain ⟨G, hG, hW⟩ := HX.out
            obtain ⟨-, q1, -⟩ := cf_at hW.cb
            have HG := Lib.hid hG; have HW := Lib.hid hW
            clear hG hW HX
            by_cases hli : i < n
            · have hii : (i : Int) < n := by omega
              have hi4 : (i : Int) < 4 := by omega
              go_wp2_with fail
              clear q1
              go_loopw [10] (fun v10 wr => ∃ j : Nat, j ≤ n ∧ v10 = .int .i64 j ∧ Hid (∃ G, Rnd (dN c) n i j F G ∧ FrW w1 c (.slice Ap n capp) vd vw vg yb g G wr)) (fun v10 _ => n - (intOf v10).toNat)
              case atStart => exact ⟨0, by omega, rfl, Lib.hid ⟨_, HG.out, HW.out⟩⟩
              case round =>
                clear HG HW
                obtain ⟨j, hjn, rfl, HX⟩ := hrel
                obtain ⟨G, hG, hW⟩ := HX.out
                obtain ⟨q0, q1, q2, q3, q4, q5, q6, q7, q8⟩ := cf_at hW.cb
                have HG := Lib.hid hG; have HW := Lib.hid hW
                clear hG hW HX
                by_cases hlj : j < n
                · have hji : (j : Int) < n := by omega
                  have hj4 : (j : Int) < 4 := by omega
                  have kj := (HW.out.fb.cell j).trans (bitc_get G 4 j (by omega))
                  have ki := (HW.out.fb.cell i).trans (bitc_get G 4 i (by omega))
                  have fj := HW.out.fb.frozen j
                  cases hgj : G j with
                  | true =>
                    have HNX := Lib.hid (HG.out.step hli hlj true (by rw [hgj]; rfl))
                    have HNW := Lib.hid (HW.out.put j true)
                    rw [hgj] at kj
                    clear hgj ki
                    go_wp2_with fail
                    go_roundw
                    case rel => exact ⟨j + 1, by omega, by go_num, Lib.hid ⟨_, HNX.out, HNW.out⟩⟩
                    case measure => simp [intOf]; omega
                  | false =>
                    cases hgi : G i with
                    | false =>
                      have HNX := Lib.hid (HG.out.step hli hlj false (by rw [hgj, hgi]; rfl))
                      have HNW := Lib.hid (HW.out.put j false)
                      rw [hgj] at kj
                      rw [hgi] at ki
                      clear hgj hgi
                      go_wp2_with fail
                      go_roundw
                      case rel => exact ⟨j + 1, by omega, by go_num, Lib.hid ⟨_, HNX.out, HNW.out⟩⟩
                      case measure => simp [intOf]; omega
                    | true =>
                      have HNX := Lib.hid (HG.out.step hli hlj (dN c i j) (by rw [hgj, hgi]; simp))
                      have HC := Lib.hid (HD.out wr HW.out.below i j hli hlj)
                      rw [hgj] at kj
                      rw [hgi] at ki
                      clear hgj hgi
                      go_wp2_with fail
                      refine HC.out.mono ?_
                      rintro e w5 ⟨rfl, b5⟩
                      have HW5 := Lib.hid (HW.out.next b5)
                      have kj5 := (HW5.out.fb.cell j).trans (bitc_get G 4 j (by omega))
                      have fj5 := HW5.out.fb.frozen j
                      have HNW := Lib.hid (HW5.out.put j (dN c i j))
                      clear b5 kj ki fj q0 q1 q2 q3 q4 q5 q6 q7 q8
                      generalize dN c i j = dd at *
                      go_wp2_with fail
                      go_roundw
                      case rel => exact ⟨j + 1, by omega, by go_num, Lib.hid ⟨_, HNX.out, HNW.out⟩⟩
                      case measure => simp [intOf]; omega
                · obtain rfl : j = n := by omega
                  go_wp2_with fail
                  go_roundw
                  case rel => exact ⟨i + 1, by omega, by go_num, trivial, Lib.hid ⟨_, HG.out.row, HW.out⟩⟩
                  case measure => simp [intOf]; omega
            · obtain rfl : i = n := by omega
              go_wp2_with fail
              go_roundw
              case rel => exact ⟨k + 1, by omega, by go_num, trivial, trivial, Lib.hid ⟨_, HF.out.next HG.out, HW.out⟩⟩
              case measure => simp [intOf]; omega
        · obtain rfl : k = 4 := by omega
          obtain ⟨F, hF, hW⟩ := HX.out
          have kb := (hW.fb.cell b).trans (bitc_get F 4 b (by omega))
          have HE := Lib.hid (show FL c a b = F b by rw [Bool.eq_iff_iff, FL_iff, HN.out, hF.all hn4])
          have HW := Lib.hid hW
          clear hF hW HX
          go_wp2_with fail
          go_ret
          exact ⟨by rw [HR.out, HE.out]; rfl, by rw [hyy]; exact Below.down HB.out HW.out.below (by have := HB.out.size; omega)⟩
end Go.Proofs.YtkaalinoiilmoaaGreat
