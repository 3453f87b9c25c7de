/-
  The contract of the document's cache: Put.
-/
import Derived.Test.YtiegonnnokldkaaTlbR2
import Derived.Test.YtiegonnnokldkaaTlb6
import Derived.Deep.RegionLaw
import Derived.Deep.DrawnRows
namespace Go.Proofs.Ytiegonnnokldkaa
open Go.RowKit
set_option linter.unusedVariables false
attribute [local go_sem ↓] Go.wp_at_zero Go.wp_at_succ

set_option maxRecDepth 100000 in
theorem rput_no (B r c : Nat) (v : Value) (l : List Ln) (d p f m : Int) (w : World) (h : RT w B r c v l) (hB : B ≤ w.heap.size) (hm : mayB d p f m = false) :
    Calls Try.prog 12 #[.pointer (some ⟨r, 0, none⟩), .int .i64 d, .int .i64 p, .agg #[.int .i64 f, .int .i64 m]] w fun e w' => e = .returned (.int .i64 600) ∧ Below w.heap.size w w' := by
  have H := Lib.hid h; clear h
  by_cases h1 : 0 ≤ d
  · by_cases h2 : d < 4
    · have h2' : decide (4 ≤ d) = false := by simp; omega
      by_cases h3 : 0 ≤ p
      · by_cases h4 : p < 256
        · have h4' : decide (256 ≤ p) = false := by simp; omega
          rw [mayB_eq d p f m ⟨h1, h2, h3, h4⟩] at hm
          cases he : eB f m with
          | false =>
            have HE := Lib.hid he; clear he hm
            go_enter Try.func12, Try.ntmps12
            go_wp2_with fail
            refine (remay_any f m _).mono ?_
            rw [HE.out]
            rintro e w1 ⟨rfl, b1⟩
            go_wp2_with fail
            go_ret
            exact ⟨rfl, Below.down ((Below.refl _ _).alloc (Nat.le_refl _) _) b1 (by simp)⟩
          | true =>
            rw [he] at hm
            have HE := Lib.hid he; clear he
            have hm0 : (m == 0) = true := by simpa using hm
            obtain rfl : m = 0 := by simpa using hm0
            clear hm hm0
            go_enter Try.func12, Try.ntmps12
            go_wp2_with fail
            refine (remay_any f 0 _).mono ?_
            rw [HE.out]
            rintro e w1 ⟨rfl, b1⟩
            obtain ⟨hc, hf⟩ := bcell b1
            go_wp2_with fail
            go_ret
            exact ⟨rfl, Below.down ((Below.refl _ _).alloc (Nat.le_refl _) _) b1 (by simp)⟩
        · have h4' : decide (256 ≤ p) = true := by simp; omega
          clear hm
          go_enter Try.func12, Try.ntmps12
          go_wp2_with fail
          go_ret
          exact ⟨rfl, (Below.refl _ _).alloc (Nat.le_refl _) _⟩
      · have h3' : p < 0 := by omega
        clear hm
        go_enter Try.func12, Try.ntmps12
        go_wp2_with fail
        go_ret
        exact ⟨rfl, (Below.refl _ _).alloc (Nat.le_refl _) _⟩
    · have h2' : decide (4 ≤ d) = true := by simp; omega
      clear hm
      go_enter Try.func12, Try.ntmps12
      go_wp2_with fail
      go_ret
      exact ⟨rfl, (Below.refl _ _).alloc (Nat.le_refl _) _⟩
  · have h1' : d < 0 := by omega
    clear hm
    go_enter Try.func12, Try.ntmps12
    go_wp2_with fail
    go_ret
    exact ⟨rfl, (Below.refl _ _).alloc (Nat.le_refl _) _⟩

/-- An entry's two numbers written into the document's row. -/
theorem RT.put2 {w : World} {B r c b cap : Nat} {l : List Ln} (h : RT w B r c (.slice (some ⟨b, 0, none⟩) l.length cap) l) (i : Nat) (hi : i < l.length) (f m : Int) :
    RT ((w.setCell ⟨b, i * 4 + 2, none⟩ (.int .i64 f)).setCell ⟨b, i * 4 + 3, none⟩ (.int .i64 m)) B r c (.slice (some ⟨b, 0, none⟩) l.length cap) (l.set i ⟨l[i].d, l[i].p, f, m⟩) := by
  have hbr : r ≠ b := fun e => h.apart (by rw [e]; rfl)
  have o1 := (h.own.stored (i * 4 + 2) (.int .i64 f)).1
  have o2 := (o1.stored (i * 4 + 3) (.int .i64 m)).1
  refine ⟨by rw [List.length_set]; exact h.len, (h.blk.far (p := ⟨b, i * 4 + 2, none⟩) hbr _).far (p := ⟨b, i * 4 + 3, none⟩) hbr _, ?_⟩
  rw [List.length_set]
  have e := lns_set2 l [] i hi f m
  simp only [List.append_nil] at e
  rw [ints_set, ints_set, e] at o2
  exact o2

/-- The cells that a Put reads behind its append. -/
def SPut (r h : Nat) (v : Value) (f m : Int) (w' : World) : Prop := w'.cell? ⟨r, 1, none⟩ = some v ∧ w'.cell? ⟨h, 0, none⟩ = some (.int .i64 f) ∧ w'.cell? ⟨h, 1, none⟩ = some (.int .i64 m) ∧ w'.frozen? ⟨r, 1, none⟩ = false
theorem SPut.al {w1 : World} {r h : Nat} {v : Value} {c f m : Int} (o : Obj) (hb : Blk w1 r 57 [.int .i64 c, v]) (hv : Blk w1 h 33 (ints [f, m])) : SPut r h v f m (w1.alloc o).drew := by
  have hb2 : Blk (w1.alloc o).drew r _ _ := (hb.alloc o).drewN 1
  have hv2 : Blk (w1.alloc o).drew h _ _ := (hv.alloc o).drewN 1
  exact ⟨by rw [hb2.cell]; rfl, by rw [hv2.cell]; rfl, by rw [hv2.cell]; rfl, hb2.frozen 1⟩
theorem SPut.of {w1 w2 : World} {B r h n : Nat} {v : Value} {c f m : Int} {xs : List Value} (o : Obj) (hb : Blk w1 r 57 [.int .i64 c, v]) (hv : Blk w1 h 33 (ints [f, m])) (own : w1.ownsRow B 68 4 v n xs)
    (gr : (w1.alloc o).drew.grownBy w2 v.ownBlock) : SPut r h v f m w2 := by
  have hb2 : Blk w2 r _ _ := (show Blk (w1.alloc o).drew r _ _ from (hb.alloc o).drewN 1).grown gr (fun e => own_apart_blk own hb (by decide) e.symm)
  have hv2 : Blk w2 h _ _ := (show Blk (w1.alloc o).drew h _ _ from (hv.alloc o).drewN 1).grown gr (fun e => own_apart_blk own hv (by decide) e.symm)
  exact ⟨by rw [hb2.cell]; rfl, by rw [hv2.cell]; rfl, by rw [hv2.cell]; rfl, hb2.frozen 1⟩

set_option maxRecDepth 100000 in
set_option maxHeartbeats 4000000 in
theorem rput_yes (B r c : Nat) (v : Value) (l : List Ln) (d p f m : Int) (w : World) (h : RT w B r c v l) (hB : B ≤ w.heap.size) (h1 : 1 ≤ c) (h2 : c ≤ 16) (h3 : l.length ≤ c) (hm : mayB d p f m = true) :
    Calls Try.prog 12 #[.pointer (some ⟨r, 0, none⟩), .int .i64 d, .int .i64 p, .agg #[.int .i64 f, .int .i64 m]] w fun e w' => e = .returned (.int .i64 0) ∧ (∃ v', RT w' B r c v' (putL c l ⟨d, p, f, m⟩)) ∧ Fr r v.ownBlock w w' := by
  have hrg : 0 ≤ d ∧ d < 4 ∧ 0 ≤ p ∧ p < 256 := by unfold mayB at hm; simp at hm; omega
  rw [mayB_eq d p f m hrg, Bool.and_eq_true] at hm
  have hm0 : (m == 0) = false := by simpa using hm.2
  have HE := Lib.hid hm.1
  obtain ⟨g1, g2, g3, g4⟩ := hrg
  have g2' : decide (4 ≤ d) = false := by simp; omega
  have g4' : decide (256 ≤ p) = false := by simp; omega
  have H := Lib.hid h
  have hlen := h.len
  have hrl := h.blk.lt
  clear h hm
  go_enter Try.func12, Try.ntmps12
  go_wp2_with fail
  change Calls _ _ _ (w.alloc (.cells (ints [f, m]).toArray 33)) _
  have hv : Blk (w.alloc (.cells (ints [f, m]).toArray 33)) w.heap.size 33 (ints [f, m]) := Blk.new _ _ _
  have hwv : Below w.heap.size w (w.alloc (.cells (ints [f, m]).toArray 33)) := (Below.refl _ _).alloc (Nat.le_refl _) _
  generalize w.alloc (.cells (ints [f, m]).toArray 33) = wv at *
  generalize hh : w.heap.size = h at *
  have hwh : w.heap.size ≤ h := by omega
  have hhw : h ≤ w.heap.size := by omega
  have HH := Lib.hid hh; clear hh
  refine (remay_any f m _).mono ?_
  rw [HE.out]
  rintro e w1 ⟨rfl, b1⟩
  replace hv := hv.below b1 hv.lt
  replace hwv := Below.down hwv b1 (by have := hwv.size; omega)
  clear b1
  have v0 := hv.cell 0
  have v1 := hv.cell 1
  have hvl := hv.lt
  simp only [ints, List.map_cons, List.getElem?_cons_zero, List.getElem?_cons_succ] at v0 v1
  have hrt := H.out.below (show Below w.heap.size w w1 by rw [HH.out]; exact hwv)
  have fr1 : Fr r v.ownBlock w w1 := Fr.of (show Below w.heap.size w w1 by rw [HH.out]; exact hwv) r _
  have hrt' := hrt
  go_wp2_with fail
  refine (rat_any B r c v l d p _ hrt).mono ?_
  rintro e w2 ⟨rfl, rfl⟩
  rcases idx_cases (isK d p) l with ⟨he, _⟩ | ⟨k, hk, he, hy, _⟩
  · rw [he]
    have HL : Hid (putL c l ⟨d, p, f, m⟩ = addL c l ⟨d, p, f, m⟩) := Lib.hid (by unfold putL addL; rw [he, if_neg (by omega)])
    clear he
    obtain ⟨A, cap, rfl, hcap⟩ := hrt.form
    have hc := hrt.cell1
    have hc0 := hrt.cell0
    obtain ⟨n, hn⟩ : ∃ n, n = l.length := ⟨_, rfl⟩
    have how := hrt.own
    have hblk := hrt.blk
    rw [← hn] at hlen hc hcap h3
    have HN := Lib.hid hn; clear hn
    obtain ⟨i0, hi, hz0, hz1, hz2⟩ := info_parts infoRln
    have HI := Lib.hid hi; have HZ0 := Lib.hid hz0; have HZ1 := Lib.hid hz1; have HZ2 := Lib.hid hz2; clear hi hz0 hz1 hz2
    have HV := Lib.hid hv
    have hfz := hblk.frozen 1
    clear hrt' hv hwv
    have HOW := Lib.hid how
    have HBK := Lib.hid hblk
    have HFR := Lib.hid fr1
    have HRT := Lib.hid hrt
    have hBw : B ≤ w1.heap.size := Nat.le_trans hB (by omega)
    have hrl1 : r < w1.heap.size := by omega
    clear how hblk fr1 hrt H
    go_wp2_with fail
    go_region_law ((refine step_append_lies _ (by rfl) _ _ 55 (by rfl) B 68 i0 _ 4 32 Try.underlying55 HI.out HZ0.out HZ1.out HZ2.out (by rfl) (by decide) (.slice A l.length cap) l.length (ints (lns l)) (by rw [← HN.out]; rfl) (own_drewN (HOW.out.alloc _) 1) ⟨w1.heap.size, 0, none⟩ 1 1 (ints (ln4 ⟨d, p, f, m⟩)) (by rfl) (by rfl) (by exact row_new w1 (ints (ln4 ⟨d, p, f, m⟩)) _) (ints_one _) (by omega) (by unfold maxLen; have := HN.out; omega) (by have := HN.out; omega) (by simp; omega) (w1.heap.size + 1) (by simp) ?_; intro g cap2 w2 own2 gr2 hat hlt; obtain ⟨hc2, _, _, hf2⟩ := SPut.of _ HBK.out HV.out HOW.out gr2))
    all_goals
      obtain rfl := HN.out
      have hb2 : Blk w2 r _ _ := (show Blk (w1.alloc _).drew r _ _ from (HBK.out.alloc _).drewN 1).grown gr2 (fun e => own_apart_blk HOW.out HBK.out (by decide) e.symm)
      have fr2 : Fr r (Value.slice A l.length cap).ownBlock w w2 := ((HFR.out.alloc _).drewN 1).grown gr2 (fun i hi => .inr (.inr hi.symm))
      have hl3 : (l ++ [(⟨d, p, f, m⟩ : Ln)]).length = l.length + 1 := by simp
      have own3 : w2.ownsRow B 68 4 (.slice (some ⟨g, 0, none⟩) (l.length + 1) cap2) (l ++ [(⟨d, p, f, m⟩ : Ln)]).length (ints (lns (l ++ [(⟨d, p, f, m⟩ : Ln)]))) := by
        rw [hl3, lns_append, ints_append]; simpa [lns] using own2
      have h4 := RT.row_ hb2 own3 (by rw [hl3]; omega)
      have fr4 := fr2.set (p := ⟨r, 1, none⟩) (.inr (.inl rfl)) (.slice (some ⟨g, 0, none⟩) (l.length + 1) cap2)
      clear hb2 fr2 own3 own2 gr2 hat hlt hc2 hf2 hc hc0 hfz v0 v1
      generalize w2.setCell ⟨r, 1, none⟩ _ = w3 at *
      have hc3 := h4.cell1
      have hs3 := h4.cell0
      by_cases hcn : c < l.length + 1
      · have hd : decide (c < l.length + 1) = true := by simpa using hcn
        have HA : Hid (addL c l ⟨d, p, f, m⟩ = (l ++ [(⟨d, p, f, m⟩ : Ln)]).drop 1) := Lib.hid (by unfold addL; rw [if_pos hcn]; simp)
        go_wp2_with fail
        go_quiet (fail)
        replace h4 := h4.drewN nq
        replace fr4 := fr4.drewN nq
        clear hc3 hs3 hd
        generalize w3.drewN nq = w4 at *
        have hB4 : B ≤ w4.heap.size := by have := fr4.size; omega
        have hrl4 := h4.blk.lt
        have hgl4 := (h4.own.lt g rfl).2
        have hc4 := h4.cell1
        obtain ⟨A4, cp4, hv4, hcp4⟩ := h4.form
        simp only [Value.slice.injEq] at hv4
        obtain ⟨rfl, -, rfl⟩ := hv4
        rw [hl3] at hcp4
        have H1 : Hid (RT (w4.alloc (.cells #[] 68)) B r c (.slice (some ⟨g, 0, none⟩) (l.length + 1) cap2) (l ++ [(⟨d, p, f, m⟩ : Ln)])) := Lib.hid (h4.alloc _)
        have H4 := Lib.hid h4; have FR4 := Lib.hid fr4
        obtain ⟨o, ho, hsl0⟩ := rsl_from g (l.length + 1) cap2 1 (by omega) hcp4 (by omega)
        have hsl : ∀ w, (Instr.slice 55 (.slice (some ⟨g, 0, none⟩) (l.length + 1) cap2) (some (.int .i64 1)) none none).run Try.prog w = .ok (.slice (some ⟨g, o, none⟩) l.length (cap2 - 1)) w := by
          intro w; have := hsl0 w; simpa using this
        have HN2 : Hid ((ints (lns ((l ++ [(⟨d, p, f, m⟩ : Ln)]).drop 1))).length = l.length * 4) := Lib.hid (by rw [ints_len, lns_len, List.length_drop, hl3]; rfl)
        have HL3 := Lib.hid hl3
        clear hsl0 h4 fr4 hl3
        go_wp2_with (at_builtin; refine wpList_append_own _ rfl _ _ 55 rfl w4.heap.size 68 i0 _ 4 32 Try.underlying55 HI.out HZ0.out HZ1.out HZ2.out rfl (by decide) _ 0 [] rfl (World.ownsRow_made w4 #[] 0 (Nat.le_refl _) (by decide) rfl) ⟨g, o, none⟩ l.length _ (ints (lns ((l ++ [(⟨d, p, f, m⟩ : Ln)]).drop 1))) rfl HN2.out (H1.out.news_drop 1 (by simp) (by rw [HL3.out]; exact ho)) (ints_one _) (by unfold maxLen; omega) (by omega) (by simp <;> omega) ?_)
        intro v5 w5 own5 gr5 _
        rw [← List.drop_one] at own5
        have hb5 : Blk w5 r _ _ := (H4.out.blk.alloc _).grown gr5 (by intro e; simp [Value.ownBlock] at e; omega)
        have hs4 := FR4.out.size
        have fr5 := (FR4.out.alloc (.cells #[] 68)).grown gr5 (by intro i hi; simp [Value.ownBlock] at hi; omega)
        obtain ⟨A5, c5, hv5, _⟩ := Sl.own own5
        subst hv5
        have HDL : Hid (((l ++ [(⟨d, p, f, m⟩ : Ln)]).drop 1).length = l.length) := Lib.hid (by rw [List.length_drop, HL3.out]; rfl)
        generalize (l ++ [(⟨d, p, f, m⟩ : Ln)]).drop 1 = L at *
        have H6 := Lib.hid (RT.row_ hb5 (by rw [HDL.out]; exact own_lower own5 hB4) (by rw [HDL.out]; omega))
        have fr6 := fr5.set (p := ⟨r, 1, none⟩) (.inr (.inl rfl)) (.slice A5 l.length c5)
        have hc5 : w5.cell? ⟨r, 1, none⟩ = some (.slice (some ⟨g, 0, none⟩) (l.length + 1) cap2) := by rw [hb5.cell]; rfl
        have hf5 := hb5.frozen 1
        clear hc4 hb5 own5 gr5 fr5 hsl
        go_wp2_with fail
        go_ret
        rw [HL.out, HA.out]
        exact ⟨rfl, ⟨_, H6.out⟩, fr6⟩
      · have hd : decide (c < l.length + 1) = false := by simpa using hcn
        have HA : Hid (addL c l ⟨d, p, f, m⟩ = l ++ [(⟨d, p, f, m⟩ : Ln)]) := Lib.hid (by unfold addL; rw [if_neg hcn])
        have H4 := Lib.hid h4
        go_wp2_with fail
        go_quiet (fail)
        go_wp2_with fail
        go_ret
        rw [HL.out, HA.out]
        exact ⟨rfl, ⟨_, H4.out.drewN nq⟩, fr4.drewN nq⟩
  · rw [he]
    have hyy := (isK_iff _ _ _).1 hy
    have HL : Hid (putL c l ⟨d, p, f, m⟩ = l.set k ⟨l[k].d, l[k].p, f, m⟩) := Lib.hid (by unfold putL; rw [he, if_pos (by omega), hyy.1, hyy.2]; rfl)
    clear he hyy hy
    obtain ⟨b, cap, rfl, hbr, hcap, c0, c1, c2, c3⟩ := hrt.at_ k hk
    have hc := hrt.cell1
    have hk' : (k : Int) < l.length := by omega
    have hdk : decide ((k : Int) < 0) = false := by simp
    clear c0 c1
    go_wp2_with fail
    go_still_tail 8, (by kernel_rfl)
    change wpList _ _ _ _ _ w1.drew
    have hrd : RT w1.drew B r c (.slice (some ⟨b, 0, none⟩) l.length cap) l := hrt.drewN 1
    have frd : Fr r (Value.slice (some ⟨b, 0, none⟩) l.length cap).ownBlock w w1.drew := fr1.drewN 1
    have c2 : w1.drew.cell? ⟨b, k * 4 + 2, none⟩ = some (.int .i64 l[k].f) := c2
    have c3 : w1.drew.cell? ⟨b, k * 4 + 3, none⟩ = some (.int .i64 l[k].m) := c3
    have f2 := hrd.own.frozenAt (k * 4 + 2)
    have f3 := hrd.own.frozenAt (k * 4 + 3)
    have h4 := Lib.hid (hrd.put2 k hk f m)
    have fr4 := (frd.set (p := ⟨b, k * 4 + 2, none⟩) (.inr (.inr rfl)) (.int .i64 f)).set (p := ⟨b, k * 4 + 3, none⟩) (.inr (.inr rfl)) (.int .i64 m)
    clear hrt hrt' fr1 hc v0 v1 hv hwv hrd frd
    generalize w1.drew = wd at *
    go_wp2_with fail
    go_ret
    rw [HL.out]
    exact ⟨rfl, ⟨_, h4.out⟩, fr4⟩

theorem rput_any (B r c : Nat) (v : Value) (l : List Ln) (d p f m : Int) (w : World) (h : RT w B r c v l) (hB : B ≤ w.heap.size) (h1 : 1 ≤ c) (h2 : c ≤ 16) (h3 : l.length ≤ c) :
    Calls Try.prog 12 #[.pointer (some ⟨r, 0, none⟩), .int .i64 d, .int .i64 p, .agg #[.int .i64 f, .int .i64 m]] w fun e w' => e = .returned (.int .i64 (putC ⟨d, p, f, m⟩)) ∧ (∃ v', RT w' B r c v' (putA c l ⟨d, p, f, m⟩)) ∧ Fr r v.ownBlock w w' := by
  cases hm : mayB d p f m with
  | false =>
    have e1 : putC ⟨d, p, f, m⟩ = 600 := by simp [putC, hm]
    have e2 : putA c l ⟨d, p, f, m⟩ = l := by simp [putA, hm]
    rw [e1, e2]
    exact (rput_no B r c v l d p f m w h hB hm).mono fun e w' ⟨he, hb⟩ => ⟨he, ⟨v, h.below hb⟩, Fr.of hb _ _⟩
  | true =>
    have e1 : putC ⟨d, p, f, m⟩ = 0 := by simp [putC, hm]
    have e2 : putA c l ⟨d, p, f, m⟩ = putL c l ⟨d, p, f, m⟩ := by simp [putA, hm]
    rw [e1, e2]
    exact rput_yes B r c v l d p f m w h hB h1 h2 h3 hm

end Go.Proofs.Ytiegonnnokldkaa
