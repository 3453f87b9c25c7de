/-
  Plain words: the document's questions of a config, and that they are the program's. No Go function here.
-/
import Derived.Test.YtamhnnkmjhapmaaCf0
import Derived.Test.YtamhnnkmjhapmaaBitc
import Derived.Test.YtamhnnkmjhapmaaCf1
import Derived.Test.YtamhnnkmjhapmaaEx2
import Derived.Test.YtamhnnkmjhapmaaFo
import Derived.Test.YtamhnnkmjhapmaaApn
import Derived.Test.YtamhnnkmjhapmaaSchAwake
import Derived.Test.YtamhnnkmjhapmaaSch4
import Derived.Test.YtamhnnkmjhapmaaLat1
import Derived.StillTailTactics
namespace Go.Proofs.Ytamhnnkmjhapmaa
open Go.RowKit
set_option linter.unusedVariables false
set_option linter.unusedSimpArgs false
set_option maxRecDepth 100000

/-- Are these numbers there, and unlike one another and those of a set? -/
def unlB (F : Int) : (Nat → Bool) → List Int → Bool
  | _, [] => true
  | U, x :: l => (decide (0 ≤ x ∧ x < F) && !U x.toNat) && unlB F (bitF U x.toNat true) l
/-- All frames of a config. -/
def allF (c : Cf) : List Int := c.ps.flatMap (·.fr) ++ c.ds.flatMap (·.po)
def fr64 (p : Pa) : Bool := btw 1 64 p.fr.length
/-- What the document asks of frames. -/
def rfB (c : Cf) : Bool := c.ps.all fr64 && (c.ds.all (dvB c.ps.length) && unlB c.fr noB (allF c))
/-- .. of each part behind. -/
def rpB (c : Cf) (i : Nat) : Bool := hasW c.ws i && lB (c.ps.getD i paD).lv (c.ps.getD i paD).ct
def rcMay (c : Cf) : Bool := (((((((frB c && btw 1 4 c.ps.length) && btw 1 4 c.ds.length) && rfB c) && gsB c) && mayW c.ws c.mj c.ps.length) && shB c) && (List.range c.ps.length).all (rpB c)) && (quB c && qtB c)

def usd (T : Nat → Int) : Nat → Bool := fun i => decide (T i ≠ -1)
theorem usd_upd (T : Nat → Int) (k : Nat) (o : Int) (ho : o ≠ -1) : usd (updT T k o) = bitF (usd T) k true := by
  funext i
  unfold usd updT bitF
  by_cases h : i = k
  · rw [if_pos h, if_pos h]; exact decide_eq_true ho
  · rw [if_neg h, if_neg h]
theorem giB_unl {F o : Int} (ho : o ≠ -1) (m : List Int) : ∀ (l : List Int) (T : Nat → Int), (giB F o T l && unlB F (usd (giT o T l)) m) = unlB F (usd T) (l ++ m) := by
  intro l
  induction l with
  | nil => intro T; simp [giB, giT]
  | cons x l ih =>
    intro T
    simp only [giB, giT, List.cons_append, unlB]
    rw [Bool.and_assoc, ih, usd_upd _ _ _ ho]
    have e : fgB F T x = (decide (0 ≤ x ∧ x < F) && !usd T x.toNat) := by
      unfold fgB usd
      congr 1
      by_cases h : T x.toNat = -1
      · simp [h]
      · simp [h]
    rw [e]
theorem gpB_unl {F : Int} (m : List Int) : ∀ (l : List Pa) (i : Int) (T : Nat → Int), 0 ≤ i → (gpB F i T l && unlB F (usd (gpT i T l)) m) = unlB F (usd T) (l.flatMap (·.fr) ++ m) := by
  intro l
  induction l with
  | nil => intro i T _; simp [gpB, gpT]
  | cons p l ih =>
    intro i T hi
    simp only [gpB, gpT, List.flatMap_cons]
    rw [Bool.and_assoc, ih _ _ (by omega), giB_unl (by omega), List.append_assoc]
theorem gdB_unl {F : Int} : ∀ (l : List De) (T : Nat → Int), gdB F T l = unlB F (usd T) (l.flatMap (·.po)) := by
  intro l
  induction l with
  | nil => intro T; simp [gdB, unlB]
  | cons d l ih =>
    intro T
    simp only [gdB, List.flatMap_cons]
    rw [ih, giB_unl (by omega)]
theorem unB_unl (c : Cf) : unB c = unlB c.fr noB (allF c) := by
  unfold unB allF
  have e : usd freeT = noB := by funext i; rfl
  rw [gdB_unl, gpB_unl _ _ _ _ (by omega), e]

/-- How many of the first frames are given. -/
def cntU (T : Nat → Int) : Nat → Nat
  | 0 => 0
  | k + 1 => cntU T k + if T k = -1 then 0 else 1
theorem btw_iff0 {lo hi n : Int} : btw lo hi n = true ↔ lo ≤ n ∧ n ≤ hi := by unfold btw; rw [decide_eq_true_eq]
theorem cntU_le (T : Nat → Int) (k : Nat) : cntU T k ≤ k := by
  induction k with
  | zero => simp [cntU]
  | succ k ih => simp only [cntU]; split <;> omega
theorem cntU_upd (T : Nat → Int) (x : Nat) (o : Int) (ho : o ≠ -1) (hx : T x = -1) (k : Nat) : cntU (updT T x o) k = cntU T k + if x < k then 1 else 0 := by
  induction k with
  | zero => simp [cntU]
  | succ k ih =>
    simp only [cntU]
    rw [ih]
    unfold updT
    by_cases h : k = x
    · subst h
      rw [if_pos rfl, if_neg ho, if_pos hx, if_neg (by omega), if_pos (by omega)]
    · rw [if_neg h]
      by_cases h2 : x < k
      · rw [if_pos h2, if_pos (show x < k + 1 by omega)]; omega
      · rw [if_neg h2, if_neg (show ¬ x < k + 1 by omega)]; omega
theorem giB_len {F : Nat} {o : Int} (ho : o ≠ -1) : ∀ (l : List Int) (T : Nat → Int), giB F o T l = true → l.length + cntU T F ≤ F := by
  intro l
  induction l with
  | nil => intro T _; have := cntU_le T F; simp; omega
  | cons x l ih =>
    intro T h
    simp only [giB, Bool.and_eq_true] at h
    obtain ⟨h0, h1, h2⟩ := fgB_of h.1
    have := ih _ h.2
    rw [cntU_upd _ _ _ ho h2, if_pos (by omega)] at this
    rw [List.length_cons]; omega
theorem gpB_len {F : Nat} (hF : F ≤ 64) : ∀ (l : List Pa) (i : Int) (T : Nat → Int), 0 ≤ i → gpB F i T l = true → ∀ p ∈ l, p.fr.length ≤ 64 := by
  intro l
  induction l with
  | nil => intro i T _ _ p hp; cases hp
  | cons q l ih =>
    intro i T hi h p hp
    simp only [gpB, Bool.and_eq_true] at h
    rcases List.mem_cons.1 hp with rfl | hp
    · have := giB_len (show i ≠ -1 by omega) _ _ h.1; omega
    · exact ih (i + 1) _ (by omega) h.2 p hp

theorem all_at {α : Type} (l : List α) (d : α) (f : α → Bool) : l.all f = true ↔ ∀ i, i < l.length → f (l.getD i d) = true := by
  rw [← all_range l d f, range_all_iff]

/-- The document's questions are the program's. -/
theorem cf_ref (c : Cf) : rcMay c = cfMay c := by
  rw [Bool.eq_iff_iff]
  unfold rcMay cfMay psB dsB wsB rfB
  rw [← unB_unl]
  simp only [Bool.and_eq_true, range_all_iff, rpB, and_assoc]
  constructor
  · rintro ⟨h1, h2, h3, h4, h5, h6, h7, h8, h9, h10, h11, h12⟩
    refine ⟨h1, h2, ?_, h3, h5, h6, h8, fun j hj => (h10 j hj).1, h7, h9, h11, h12⟩
    rw [all_at _ paD]
    intro i hi
    have a := (h10 i hi).2
    have b := (all_at _ paD _).1 h4 i hi
    unfold paB
    rw [a, Bool.true_and]
    unfold fr64 at b
    have := (btw_iff0.1 b).1
    exact decide_eq_true (by omega)
  · rintro ⟨h1, h2, h4, h3, h5, h6, h8, h10, h7, h9, h11, h12⟩
    refine ⟨h1, h2, h3, ?_, h5, h6, h7, h8, h9, fun j hj => ⟨h10 j hj, ?_⟩, h11, h12⟩
    · rw [all_at _ paD]
      intro i hi
      have b := (all_at _ paD _).1 h4 i hi
      unfold paB at b
      rw [Bool.and_eq_true, decide_eq_true_eq] at b
      have hf := btw_iff0.1 h1
      obtain ⟨F, hFe⟩ : ∃ F : Nat, c.fr = F := ⟨c.fr.toNat, by omega⟩
      have hu := h6
      unfold unB at hu
      rw [Bool.and_eq_true, hFe] at hu
      have hm : c.ps.getD i paD ∈ c.ps := by
        simp only [List.getD, List.getElem?_eq_getElem hi, Option.getD_some]; exact List.getElem_mem hi
      have := gpB_len (by omega) _ _ _ (by omega) hu.1 _ hm
      exact btw_iff0.2 (by omega)
    · have b := (all_at _ paD _).1 h4 j hj
      unfold paB at b
      rw [Bool.and_eq_true] at b
      exact b.1

end Go.Proofs.Ytamhnnkmjhapmaa

namespace Go.Proofs.Ytamhnnkmjhapmaa
open Go.RowKit
set_option linter.unusedVariables false
set_option linter.unusedSimpArgs false
set_option maxRecDepth 100000

theorem infoInG : (Try.prog.info? 3).map (fun i => (i.zero, i.size, i.bytes)) = some (some (.int .i64 0), 1, 8) := by kernel_rfl

theorem ints_oneG (fs : List Int) : ∀ u ∈ ints fs, u.oneCell' = true := by intro u hu; obtain ⟨x, _, rfl⟩ := List.mem_map.1 hu; rfl
theorem frs_take (l : List Pa) (k : Nat) (hk : k < l.length) : (l.take (k + 1)).flatMap (·.fr) = (l.take k).flatMap (·.fr) ++ (l.getD k paD).fr := by
  rw [List.take_add_one, List.getElem?_eq_getElem hk, List.flatMap_append]
  simp [List.getD, List.getElem?_eq_getElem hk]
theorem pos_take (l : List De) (k : Nat) (hk : k < l.length) : (l.take (k + 1)).flatMap (·.po) = (l.take k).flatMap (·.po) ++ (l.getD k deD).po := by
  rw [List.take_add_one, List.getElem?_eq_getElem hk, List.flatMap_append]
  simp [List.getD, List.getElem?_eq_getElem hk]
theorem all_take {α : Type} (l : List α) (d : α) (f : α → Bool) (k : Nat) (hk : k < l.length) : (l.take (k + 1)).all f = ((l.take k).all f && f (l.getD k d)) := by
  rw [List.take_add_one, List.getElem?_eq_getElem hk, List.all_append]
  simp [List.getD, List.getElem?_eq_getElem hk]
theorem all_take_no {α : Type} (l : List α) (d : α) (f : α → Bool) (k : Nat) (hk : k < l.length) (h : f (l.getD k d) = false) : l.all f = false := by
  refine List.all_eq_false.2 ⟨l.getD k d, ?_, by rw [h]; simp⟩
  simp only [List.getD, List.getElem?_eq_getElem hk, Option.getD_some]; exact List.getElem_mem hk
theorem frs_len {l : List Pa} : l.all fr64 = true → (l.flatMap (·.fr)).length ≤ l.length * 64 := by
  induction l with
  | nil => intro _; simp
  | cons p l ih =>
    intro h
    rw [List.all_cons, Bool.and_eq_true] at h
    have h1 := ih h.2
    have h2 := (btw_iff0.1 h.1).2
    simp only [List.flatMap_cons, List.length_append, List.length_cons]
    omega
theorem pos_len {n : Nat} {l : List De} : l.all (dvB n) = true → (l.flatMap (·.po)).length ≤ l.length * 5 := by
  induction l with
  | nil => intro _; simp
  | cons p l ih =>
    intro h
    rw [List.all_cons, Bool.and_eq_true] at h
    have h1 := ih h.2
    have h0 := h.1
    unfold dvB at h0
    rw [Bool.and_eq_true] at h0
    have h2 := (btw_iff0.1 h0.2).2
    simp only [List.flatMap_cons, List.length_append, List.length_cons]
    omega
theorem unlB_at (F : Int) (U : Nat → Bool) (l : List Int) (k : Nat) (hk : k < l.length) : unlB F U (l.drop k) = ((decide (0 ≤ l.getD k 0 ∧ l.getD k 0 < F) && !U (l.getD k 0).toNat) && unlB F (bitF U (l.getD k 0).toNat true) (l.drop (k + 1))) := by
  rw [List.drop_eq_getElem_cons hk]
  simp only [unlB, List.getD, List.getElem?_eq_getElem hk, Option.getD_some]

/-- What the gathering loops keep: w2 the world behind the two blocks of the call's own. -/
def GaA (c : Cf) (w2 : World) (k : Nat) (v : Value) (W : World) : Prop :=
  W.ownsRow w2.heap.size 3 1 v ((c.ps.take k).flatMap (·.fr)).length (ints ((c.ps.take k).flatMap (·.fr))) ∧ Below w2.heap.size w2 W ∧ (c.ps.take k).all fr64 = true
def GaB (c : Cf) (w2 : World) (k : Nat) (v : Value) (W : World) : Prop :=
  W.ownsRow w2.heap.size 3 1 v (c.ps.flatMap (·.fr) ++ (c.ds.take k).flatMap (·.po)).length (ints (c.ps.flatMap (·.fr) ++ (c.ds.take k).flatMap (·.po))) ∧ Below w2.heap.size w2 W ∧ c.ps.all fr64 = true ∧ (c.ds.take k).all (dvB c.ps.length) = true

section
variable {w : World} {c : Cf} {vp vd vw vg : Value}
set_option maxHeartbeats 4000000 in
theorem rframes_any (h : CfAt w vp vd vw vg c) (hF : 1 ≤ c.fr ∧ c.fr ≤ 64) (hp4 : c.ps.length ≤ 4) (hd4 : c.ds.length ≤ 4) : Calls Try.prog 23 #[.agg #[.int .i64 c.fr, vp, vd, .int .i64 c.mj, vw, vg, .int .i64 c.se, .int .i64 c.qu, .int .i64 c.qt]] w fun e w' => e = .returned (.bool (rfB c)) ∧ Below w.heap.size w w' := by
  obtain ⟨hb, hB⟩ := cf_box w c vp vd vw vg
  obtain ⟨F, hFe⟩ : ∃ F : Nat, c.fr = F := ⟨c.fr.toNat, by omega⟩
  obtain ⟨A, cap, rfl, hA⟩ := h.ps
  obtain ⟨A', cap', rfl, hA'⟩ := h.ds
  have hsz : (w.alloc (.cells #[.int .i64 c.fr, .slice A c.ps.length cap, .slice A' c.ds.length cap', .int .i64 c.mj, vw, vg, .int .i64 c.se, .int .i64 c.qu, .int .i64 c.qt] 27)).heap.size = w.heap.size + 1 := by simp
  have hzr := fun W => zSs_runR W; have hzn := zSs_ne
  have HB2 := Lib.hid (hB.alloc hB.size (.cells zSs 66))
  have HCB := Lib.hid (hb.alloc (.cells zSs 66))
  have HUB : Hid (Blk ((w.alloc (.cells #[.int .i64 c.fr, .slice A c.ps.length cap, .slice A' c.ds.length cap', .int .i64 c.mj, vw, vg, .int .i64 c.se, .int .i64 c.qu, .int .i64 c.qt] 27)).alloc (.cells zSs 66)) (w.heap.size + 1) 66 (bitc noB 64)) := Lib.hid (by
    have := Blk.new (w.alloc (.cells #[.int .i64 c.fr, .slice A c.ps.length cap, .slice A' c.ds.length cap', .int .i64 c.mj, vw, vg, .int .i64 c.se, .int .i64 c.qu, .int .i64 c.qt] 27)) 66 (bitc noB 64)
    rw [hsz] at this
    exact this)
  have hsz2 : ((w.alloc (.cells #[.int .i64 c.fr, .slice A c.ps.length cap, .slice A' c.ds.length cap', .int .i64 c.mj, vw, vg, .int .i64 c.se, .int .i64 c.qu, .int .i64 c.qt] 27)).alloc (.cells zSs 66)).heap.size = w.heap.size + 1 + 1 := by simp
  have HA := Lib.hid hA; have HA' := Lib.hid hA'
  have HZ := Lib.hid h.pz.2; have HZ' := Lib.hid h.dz.2
  have HFe := Lib.hid hFe
  obtain ⟨i0, hi, hz0, hz1, hz2⟩ := info_parts infoInG
  have HI := Lib.hid hi; have HZ0 := Lib.hid hz0; have HZ1 := Lib.hid hz1; have HZ2 := Lib.hid hz2
  obtain ⟨Q, hQ⟩ : ∃ Q, rfB c = Q := ⟨_, rfl⟩
  rw [hQ]
  have HQ : Hid ((c.ps.all fr64 && (c.ds.all (dvB c.ps.length) && unlB c.fr noB (allF c))) = Q) := Lib.hid hQ
  clear h hb hB hA hA' hFe hi hz0 hz1 hz2 hQ
  generalize hpn : c.ps.length = n at *
  generalize hdn : c.ds.length = n' at *
  have HPN := Lib.hid hpn; have HDN := Lib.hid hdn
  obtain ⟨hF1, hF2⟩ := hF
  clear hpn hdn hF1
  have q1 := HCB.out.cell 1
  have e1 : (cfc c (.slice A n cap) (.slice A' n' cap') vw vg)[1]? = some (.slice A n cap) := rfl
  rw [e1] at q1
  clear e1
  go_enter Try.func23, Try.ntmps23
  go_wp2_with fail
  generalize (w.alloc (.cells #[.int .i64 c.fr, .slice A n cap, .slice A' n' cap', .int .i64 c.mj, vw, vg, .int .i64 c.se, .int .i64 c.qu, .int .i64 c.qt] 27)).alloc (.cells zSs 66) = w2 at *
  have hlt2 : w.heap.size + 1 < w2.heap.size := by omega
  clear hsz hsz2 hzr hzn q1
  go_loopw [4, 5] (fun v i wr => ∃ (k : Nat) (v' : Value), k ≤ n ∧ v' = v ∧ i = .int .i64 k ∧ Hid (GaA c w2 k v' wr)) (fun _ i _ => n - (intOf i).toNat)
  case atStart => exact ⟨0, _, by omega, rfl, rfl, Lib.hid ⟨by rw [List.take_zero]; exact World.ownsRow_nil _ _ _ _, Below.refl _ _, by rw [List.take_zero]; rfl⟩⟩
  case round =>
    obtain ⟨k, v, hk, rfl, rfl, H⟩ := hrel
    obtain ⟨hown, hbel, hall⟩ := H.out
    have gy := fun x => hbel.cell (p := ⟨w.heap.size, x, none⟩) (show w.heap.size < w2.heap.size by omega)
    have p1 := (gy 1).trans (HCB.out.cell 1)
    have e1 : (cfc c (.slice A n cap) (.slice A' n' cap') vw vg)[1]? = some (.slice A n cap) := rfl
    rw [e1] at p1
    by_cases hlt : k < n
    · obtain ⟨b, o, rfl, hbw, hat⟩ := HA.out (by omega)
      have hat2 := ((hat k hlt).below HB2.out hbw)
      have hbw2 : b < w2.heap.size := by omega
      obtain ⟨A2, c2, -, -, r2, -, -, hsl, hnil⟩ := (show PaAt wr b (o + k * 5) (c.ps.getD k paD) from by
        obtain ⟨A2, c2, a0, a1, a2, a3, a4, a5, a6⟩ := hat2
        have g := fun x => hbel.cell (p := ⟨b, x, none⟩) hbw2
        exact ⟨A2, c2, (g _).trans a0, (g _).trans a1, (g _).trans a2, (g _).trans a3, (g _).trans a4, a5.below hbel, a6⟩)
      have hzf := HZ.out k
      have hL := frs_len hall
      rw [List.length_take] at hL
      have HTK := Lib.hid (frs_take c.ps k (by rw [HPN.out]; exact hlt))
      have HAT := Lib.hid (all_take c.ps paD fr64 k (by rw [HPN.out]; exact hlt))
      have HNO := Lib.hid (all_take_no c.ps paD fr64 k (by rw [HPN.out]; exact hlt))
      have HBE := Lib.hid hbel; have HALL := Lib.hid hall; have HOW := Lib.hid hown
      have HSL := Lib.hid hsl
      have HNIL : Hid (∀ q z, Value.slice A2 (c.ps.getD k paD).fr.length c2 = .slice none q z → z = 0) := Lib.hid (by
        intro q z e; simp only [Value.slice.injEq] at e; rw [← e.2.2]; exact hnil e.1)
      have H64 : Hid (fr64 (c.ps.getD k paD) = btw 1 64 ((c.ps.getD k paD).fr.length : Int)) := Lib.hid rfl
      have hbs := hbel.size
      clear hown hbel hall gy hat hat2 hsl hnil H
      generalize c.ps.getD k paD = pk at *
      generalize hLk : (c.ps.take k).flatMap (·.fr) = L at *
      have HLK := Lib.hid hLk
      obtain ⟨plv, pct, fr, pfi, pco⟩ := pk
      simp only at *
      generalize hm : fr.length = m at *
      have HMM := Lib.hid hm
      clear hm hLk
      by_cases hm1 : m < 1
      · have e : Q = false := by
          rw [← HQ.out, HNO.out (by rw [H64.out]; unfold btw; exact decide_eq_false (by omega))]; rfl
        subst e
        go_wp2_with fail
        go_ret
        exact ⟨rfl, Below.down HB2.out HBE.out (by omega)⟩
      · by_cases hm2 : 64 < m
        · have e : Q = false := by
            rw [← HQ.out, HNO.out (by rw [H64.out]; unfold btw; exact decide_eq_false (by omega))]; rfl
          subst e
          go_wp2_with fail
          go_ret
          exact ⟨rfl, Below.down HB2.out HBE.out (by omega)⟩
        · have H1 := Lib.hid (ints_oneG fr)
          have hd : decide (64 < m) = false := decide_eq_false hm2
          have hd1 : decide (m < 1) = false := decide_eq_false hm1
          go_wp2_with (at_builtin; refine wpList_append_sl rfl _ _ 38 rfl w2.heap.size 3 i0 _ 1 8 Try.underlying38 HI.out HZ0.out HZ1.out HZ2.out rfl (by decide) _ L.length (ints L) rfl HOW.out _ m (ints fr) rfl HSL.out HNIL.out H1.out (by unfold maxLen; omega) (by omega) (by omega) ?_)
          intro v' w3 ho3 hg3
          have HN : Hid (GaA c w2 (k + 1) v' w3) := Lib.hid ⟨by rw [HTK.out, List.length_append, ints_append, HMM.out]; exact ho3, HBE.out.grown hg3 (by omega) (fun x hx => (HOW.out.lt x hx).1), by rw [HAT.out, HALL.out, H64.out]; unfold btw; exact decide_eq_true (by omega)⟩
          clear ho3 hg3
          go_wp2_with fail
          go_roundw
          case rel => exact ⟨k + 1, _, by omega, rfl, by go_num, HN⟩
          case measure => simp [intOf]; omega
    · obtain rfl : k = n := by omega
      have et : c.ps.take k = c.ps := by rw [← HPN.out, List.take_length]
      rw [et] at hown hall
      have HB0 : Hid (GaB c w2 0 v wr) := Lib.hid ⟨by rw [List.take_zero, List.flatMap_nil, List.append_nil]; exact hown, hbel, hall, by rw [List.take_zero]; rfl⟩
      clear hown hbel hall gy H et
      go_wp2_with fail
      clear p1
      go_loopw [4, 6] (fun v i wr => ∃ (k : Nat) (v' : Value), k ≤ n' ∧ v' = v ∧ i = .int .i64 k ∧ Hid (GaB c w2 k v' wr)) (fun _ i _ => n' - (intOf i).toNat)
      case atStart => exact ⟨0, _, by omega, rfl, rfl, HB0⟩
      case round =>
        obtain ⟨j, v, hj, rfl, rfl, H⟩ := hrel
        obtain ⟨hown, hbel, hall, hdl⟩ := H.out
        have gy := fun x => hbel.cell (p := ⟨w.heap.size, x, none⟩) (show w.heap.size < w2.heap.size by omega)
        have p1 := (gy 1).trans (HCB.out.cell 1)
        have e1 : (cfc c (.slice A k cap) (.slice A' n' cap') vw vg)[1]? = some (.slice A k cap) := rfl
        rw [e1] at p1
        have p2 := (gy 2).trans (HCB.out.cell 2)
        have e2 : (cfc c (.slice A k cap) (.slice A' n' cap') vw vg)[2]? = some (.slice A' n' cap') := rfl
        rw [e2] at p2
        by_cases hlt : j < n'
        · obtain ⟨b, o, rfl, hbw, hat⟩ := HA'.out (by omega)
          have hat2 := ((hat j hlt).below HB2.out hbw)
          have hbw2 : b < w2.heap.size := by omega
          obtain ⟨A2, c2, r0, r1, hsl, hnil⟩ := (show DeAt wr b (o + j * 2) (c.ds.getD j deD) from by
            obtain ⟨A2, c2, a0, a1, a5, a6⟩ := hat2
            have g := fun x => hbel.cell (p := ⟨b, x, none⟩) hbw2
            exact ⟨A2, c2, (g _).trans a0, (g _).trans a1, a5.below hbel, a6⟩)
          have hzf := HZ'.out j
          have hL := frs_len hall
          have hL2 := pos_len hdl
          rw [List.length_take] at hL2
          rw [HPN.out] at hL
          have HTK := Lib.hid (pos_take c.ds j (by rw [HDN.out]; exact hlt))
          have HAT := Lib.hid (all_take c.ds deD (dvB c.ps.length) j (by rw [HDN.out]; exact hlt))
          have HNO := Lib.hid (all_take_no c.ds deD (dvB k) j (by rw [HDN.out]; exact hlt))
          have hwz : wr.heap.size < (wr.alloc (.cells #[.int .i64 (c.ds.getD j deD).pt, .slice A2 (c.ds.getD j deD).po.length c2] 42)).heap.size := by simp
          have hbA : Below wr.heap.size wr (wr.alloc (.cells #[.int .i64 (c.ds.getD j deD).pt, .slice A2 (c.ds.getD j deD).po.length c2] 42)) := (Below.refl _ _).alloc (Nat.le_refl _) _
          have HBE := Lib.hid (hbel.alloc hbel.size (.cells #[.int .i64 (c.ds.getD j deD).pt, .slice A2 (c.ds.getD j deD).po.length c2] 42)); have HALL := Lib.hid hall; have HOW := Lib.hid (own_below hown hbA); have HDL := Lib.hid hdl
          have hbd : Blk (wr.alloc (.cells #[.int .i64 (c.ds.getD j deD).pt, .slice A2 (c.ds.getD j deD).po.length c2] 42)) wr.heap.size 42 [.int .i64 (c.ds.getD j deD).pt, .slice A2 (c.ds.getD j deD).po.length c2] := Blk.new _ _ _
          have HSL := Lib.hid (hsl.below hbA)
          have HNIL : Hid (∀ q z, Value.slice A2 (c.ds.getD j deD).po.length c2 = .slice none q z → z = 0) := Lib.hid (by
            intro q z e; simp only [Value.slice.injEq] at e; rw [← e.2.2]; exact hnil e.1)
          have H64 : Hid (dvB k (c.ds.getD j deD) = (inP k (c.ds.getD j deD).pt && btw 2 5 ((c.ds.getD j deD).po.length : Int))) := Lib.hid rfl
          have hbs := hbel.size
          have u0 := hbd.cell 0
          have u1 := hbd.cell 1
          simp only [List.getElem?_cons_zero, List.getElem?_cons_succ] at u0 u1
          have v1 := (hbA.cell (p := ⟨w.heap.size, 1, none⟩) (show w.heap.size < wr.heap.size by omega)).trans p1
          clear hown hbel hall hdl gy hat hat2 hsl hnil H hbA hbd
          generalize c.ds.getD j deD = pk at *
          generalize hLk : (c.ps.flatMap (·.fr) ++ (c.ds.take j).flatMap (·.po)) = L at *
          have hLl : L.length ≤ k * 64 + j * 5 := by rw [← hLk, List.length_append]; omega
          have HLK := Lib.hid hLk
          obtain ⟨pt, po⟩ := pk
          simp only at *
          generalize hm : po.length = m at *
          have HMM := Lib.hid hm
          clear hm hLk hL hL2
          by_cases hin : 0 ≤ pt ∧ pt < (k : Int)
          · obtain ⟨in0, in1⟩ := hin
            have hinp : inP k pt = true := decide_eq_true ⟨in0, in1⟩
            by_cases hm1 : m < 2
            · have e : Q = false := by
                rw [← HQ.out, HNO.out (by rw [H64.out, hinp]; unfold btw; exact decide_eq_false (by omega))]; simp
              subst e
              go_wp2_with fail
              go_ret
              exact ⟨rfl, Below.down HB2.out HBE.out (by omega)⟩
            · by_cases hm2 : 5 < m
              · have e : Q = false := by
                  rw [← HQ.out, HNO.out (by rw [H64.out, hinp]; unfold btw; exact decide_eq_false (by omega))]; simp
                subst e
                go_wp2_with fail
                go_ret
                exact ⟨rfl, Below.down HB2.out HBE.out (by omega)⟩
              · have H1 := Lib.hid (ints_oneG po)
                have HIN := Lib.hid hinp
                have hd : decide (5 < m) = false := decide_eq_false hm2
                have hd1 : decide (m < 2) = false := decide_eq_false hm1
                clear hinp
                go_wp2_with (at_builtin; refine wpList_append_sl rfl _ _ 38 rfl w2.heap.size 3 i0 _ 1 8 Try.underlying38 HI.out HZ0.out HZ1.out HZ2.out rfl (by decide) _ L.length (ints L) rfl HOW.out _ m (ints po) rfl HSL.out HNIL.out H1.out (by unfold maxLen; omega) (by omega) (by omega) ?_)
                intro v' w3 ho3 hg3
                have HN : Hid (GaB c w2 (j + 1) v' w3) := Lib.hid ⟨by rw [HTK.out, ← List.append_assoc, HLK.out, List.length_append, ints_append, HMM.out]; exact ho3, HBE.out.grown hg3 (by omega) (fun x hx => (HOW.out.lt x hx).1), HALL.out, by rw [HAT.out, HDL.out, HPN.out, H64.out, HIN.out]; unfold btw; exact decide_eq_true (by omega)⟩
                clear ho3 hg3
                go_wp2_with fail
                go_roundw
                case rel => exact ⟨j + 1, _, by omega, rfl, by go_num, HN⟩
                case measure => simp [intOf]; omega
          · have e : Q = false := by
              rw [← HQ.out, HNO.out (by rw [H64.out, show inP k pt = false from decide_eq_false hin]; rfl)]; simp
            subst e
            by_cases hp0 : pt < 0
            · clear hin
              go_wp2_with fail
              go_ret
              exact ⟨rfl, Below.down HB2.out HBE.out (by omega)⟩
            · have hp1 : (k : Int) ≤ pt := by omega
              have hp2 : 0 ≤ pt := by omega
              clear hin hp0
              go_wp2_with fail
              go_ret
              exact ⟨rfl, Below.down HB2.out HBE.out (by omega)⟩
        · obtain rfl : j = n' := by omega
          have et : c.ds.take j = c.ds := by rw [← HDN.out, List.take_length]
          rw [et] at hown hdl
          have hL := frs_len hall
          have hL2 := pos_len hdl
          rw [HPN.out] at hL
          rw [HDN.out] at hL2
          have hdk : c.ds.all (dvB k) = true := by rw [← HPN.out]; exact hdl
          have HQ2 : Hid (Q = unlB F noB (allF c)) := Lib.hid (by rw [← HQ.out, hall, hdk, HFe.out]; rfl)
          clear hdk
          change wr.ownsRow w2.heap.size 3 1 v (allF c).length (ints (allF c)) at hown
          have hLl : (allF c).length ≤ 276 := by unfold allF; rw [List.length_append]; omega
          have p0 := (gy 0).trans (HCB.out.cell 0)
          have e0 : (cfc c (.slice A k cap) (.slice A' j cap') vw vg)[0]? = some (.int .i64 (F : Int)) := by rw [← HFe.out]; rfl
          rw [e0] at p0
          have hub : Blk wr (w.heap.size + 1) 66 (bitc noB 64) := HUB.out.below hbel hlt2
          have HBE := Lib.hid hbel
          generalize allF c = L at *
          have HLT := Lib.hid (fun x hx => (hown.lt x hx).1)
          obtain ⟨Ar, capr, rfl, hcr, hxl, hAr⟩ := Sl.own hown
          have HAR := Lib.hid hAr
          have hbs := hbel.size
          obtain ⟨N, hN⟩ : ∃ N, L.length = N := ⟨_, rfl⟩
          have HN := Lib.hid hN
          rw [hN] at hLl HAR
          have hF64 := hF2
          rw [HFe.out] at hF64
          have HU0 : Hid (unlB F noB L = unlB F noB (L.drop 0) ∧ Blk wr (w.heap.size + 1) 66 (bitc noB 64) ∧ Fo (· = w.heap.size + 1) wr wr) := Lib.hid ⟨by rw [List.drop_zero], hub, Fo.refl _ _⟩
          clear hown hbel hall hdl gy H et hL hL2 hub hAr hxl e0 e1 e2
          rw [hN]
          clear hN
          generalize wr = wz at *
          go_wp2_with fail
          clear p1 p2
          go_loopw [8] (fun i wr => ∃ (q : Nat), q ≤ N ∧ i = .int .i64 q ∧ Hid (∃ U, unlB F noB L = unlB F U (L.drop q) ∧ Blk wr (w.heap.size + 1) 66 (bitc U 64) ∧ Fo (· = w.heap.size + 1) wz wr)) (fun i _ => N - (intOf i).toNat)
          case atStart => exact ⟨0, by omega, rfl, Lib.hid ⟨noB, HU0.out⟩⟩
          case round =>
            obtain ⟨q, hq, rfl, H⟩ := hrel
            obtain ⟨U, hun, hub, hfo⟩ := H.out
            by_cases hlt : q < N
            · obtain ⟨b, o, rfl, hbw, hcell⟩ := HAR.out (by omega)
              have hbge : w2.heap.size ≤ b := HLT.out b rfl
              have c0 := hcell q _ (ints_get L q (by rw [HN.out]; exact hlt))
              have hbk := hfo.block b hbw (by omega)
              have hck : ∀ x, wr.cell? ⟨b, x, none⟩ = wz.cell? ⟨b, x, none⟩ := fun x => by
                simp only [World.cell?, hbk]
              rw [← hck] at c0
              have hyk : wr.cell? ⟨w.heap.size, 0, none⟩ = wz.cell? ⟨w.heap.size, 0, none⟩ := by
                simp only [World.cell?, hfo.block w.heap.size (by omega) (by omega)]
              have d0 := hyk.trans p0
              have hst := unlB_at F U L q (by rw [HN.out]; exact hlt)
              rw [← hun, ← HQ2.out] at hst
              have HST := Lib.hid hst; have HUB := Lib.hid hub; have HFO := Lib.hid hfo; have HUN := Lib.hid hun
              have hws := hfo.size
              clear hcell hbk hck hyk hst hub hfo hun H
              generalize L.getD q 0 = x at *
              by_cases hx0 : 0 ≤ x
              · by_cases hx1 : x < (F : Int)
                · obtain ⟨x, rfl⟩ := Int.eq_ofNat_of_zero_le hx0
                  have hx64 : x < 64 := by omega
                  have hxi : (x : Int) < 64 := by omega
                  have hxn : x < F := by omega
                  have hxd : decide (F ≤ x) = false := decide_eq_false (by omega)
                  have u0 := HUB.out.cell x
                  rw [bitc_get _ _ _ hx64] at u0
                  have ufz := HUB.out.frozen x
                  have hst2 := HST.out
                  rw [Int.toNat_natCast, decide_eq_true ⟨hx0, hx1⟩, Bool.true_and] at hst2
                  have HST2 := Lib.hid hst2
                  clear hst2 HST
                  cases hU : U x with
                  | true =>
                    have e : Q = false := by rw [HST2.out, hU]; rfl
                    rw [hU] at u0
                    subst e
                    clear hU
                    go_wp2_with fail
                    go_quiet (fail)
                    go_wp2_with fail
                    go_ret
                    exact ⟨rfl, bdrewN (HFO.out.below (Below.down HB2.out HBE.out (by omega)) (by omega) (fun i e => by omega)) _⟩
                  | false =>
                    have HS3 : Hid (Q = unlB F (bitF U x true) (L.drop (q + 1))) := Lib.hid (by rw [HST2.out, hU]; rfl)
                    rw [hU] at u0
                    clear hU
                    have hbs := HUB.out.set x (.bool true)
                    rw [bitc_set] at hbs
                    have HBS := Lib.hid (fun (W : World) (hW : Blk W (w.heap.size + 1) 66 (bitc U 64)) => (show Blk (W.setCell ⟨w.heap.size + 1, x, none⟩ (.bool true)) (w.heap.size + 1) 66 (bitc (bitF U x true) 64) from by have := hW.set x (.bool true); rw [bitc_set] at this; exact this))
                    clear hbs
                    go_wp2_with fail
                    go_quiet (fail)
                    go_wp2_with fail
                    go_roundw
                    case rel => exact ⟨q + 1, by omega, by go_num, Lib.hid ⟨_, by rw [← HQ2.out]; exact HS3.out, HBS.out _ (HUB.out.drewN _), (HFO.out.drewN _).set (.inl rfl) _⟩⟩
                    case measure => simp [intOf]; omega
                · have e : Q = false := by rw [HST.out, decide_eq_false (fun h => hx1 h.2)]; rfl
                  subst e
                  have hx2 : (F : Int) ≤ x := by omega
                  clear hx1
                  go_wp2_with fail
                  go_quiet (fail)
                  go_wp2_with fail
                  go_ret
                  exact ⟨rfl, bdrewN (HFO.out.below (Below.down HB2.out HBE.out (by omega)) (by omega) (fun i e => by omega)) _⟩
              · have e : Q = false := by rw [HST.out, decide_eq_false (fun h => hx0 h.1)]; rfl
                subst e
                have hx2 : x < 0 := by omega
                clear hx0
                go_wp2_with fail
                go_quiet (fail)
                go_wp2_with fail
                go_ret
                exact ⟨rfl, bdrewN (HFO.out.below (Below.down HB2.out HBE.out (by omega)) (by omega) (fun i e => by omega)) _⟩
            · obtain rfl : q = N := by omega
              have e : Q = true := by rw [HQ2.out, hun, List.drop_eq_nil_of_le (by rw [HN.out]; exact Nat.le_refl _)]; rfl
              subst e
              have HFO := Lib.hid hfo
              clear hun hub hfo H
              go_wp2_with fail
              go_ret
              exact ⟨rfl, HFO.out.below (Below.down HB2.out HBE.out (by omega)) (by omega) (fun i e => by omega)⟩
end
end Go.Proofs.Ytamhnnkmjhapmaa

namespace Go.Proofs.Ytamhnnkmjhapmaa
open Go.RowKit
set_option linter.unusedVariables false
set_option linter.unusedSimpArgs false
set_option maxRecDepth 100000

theorem ownP_at (l : List Pa) (k : Nat) (hk : k < l.length) (i f : Int) : ownP i (l.drop k) f = if f ∈ (l.getD k paD).fr then i else ownP (i + 1) (l.drop (k + 1)) f := by
  rw [List.drop_eq_getElem_cons hk]
  simp only [ownP, List.getD, List.getElem?_eq_getElem hk, Option.getD_some]
theorem in_row {l : List Int} {x : Int} {j : Nat} (hj : j < l.length) (h : l.getD j 0 = x) : x ∈ l := by
  rw [← h]
  simp only [List.getD, List.getElem?_eq_getElem hj, Option.getD_some]
  exact List.getElem_mem hj
theorem in_row_no {l : List Int} {x : Int} (h : ∀ j, j < l.length → l.getD j 0 ≠ x) : ¬ x ∈ l := by
  intro hm
  obtain ⟨j, hj, e⟩ := List.getElem_of_mem hm
  exact h j hj (by simp [List.getD, List.getElem?_eq_getElem hj, e])

section
variable {w : World} {c : Cf} {vp vd vw vg : Value}
set_option maxHeartbeats 2000000 in
theorem rowner_any (h : CfAt w vp vd vw vg c) (f : Int) : Calls Try.prog 46 #[.agg #[.int .i64 c.fr, vp, vd, .int .i64 c.mj, vw, vg, .int .i64 c.se, .int .i64 c.qu, .int .i64 c.qt], .int .i64 f] w fun e w' => e = .returned (.int .i64 (ownF c f)) ∧ Below w.heap.size w w' := by
  obtain ⟨hb, hB⟩ := cf_box w c vp vd vw vg
  have h1 := (h.below hB).ps
  have hz := h.pz
  obtain ⟨A, cap, rfl, hA⟩ := h1
  have hz1 := hz.1
  obtain ⟨-, k1, -⟩ := cf_at hb
  have HB := Lib.hid hB; have HA := Lib.hid hA; have HZ := Lib.hid hz.2
  obtain ⟨Q, hQ⟩ : ∃ Q, ownF c f = Q := ⟨_, rfl⟩
  rw [hQ]
  have HQ : Hid (Q = ownP (0 : Nat) (c.ps.drop 0) f) := Lib.hid (by rw [← hQ, List.drop_zero]; rfl)
  clear h hb hB hA hz hQ
  generalize hpn : c.ps.length = n at *
  have HPN := Lib.hid hpn
  clear hpn
  go_enter Try.func46, Try.ntmps46
  go_wp2_with fail
  generalize w.alloc (.cells #[.int .i64 c.fr, .slice A n cap, vd, .int .i64 c.mj, vw, vg, .int .i64 c.se, .int .i64 c.qu, .int .i64 c.qt] 27) = w1 at *
  go_loopw [5] (fun i wr => ∃ k : Nat, k ≤ n ∧ i = .int .i64 k ∧ wr = w1 ∧ Hid (Q = ownP k (c.ps.drop k) f)) (fun i _ => n - (intOf i).toNat)
  case atStart => exact ⟨0, by omega, rfl, rfl, HQ⟩
  case round =>
    obtain ⟨k, hk, rfl, rfl, H⟩ := hrel
    by_cases hlt : k < n
    · obtain ⟨b, o, rfl, hbw, hat⟩ := HA.out (by omega)
      obtain ⟨A2, c2, -, -, r2, -, -, hsl, -⟩ := hat k hlt
      have hzf := HZ.out k
      have hst := ownP_at c.ps k (by rw [HPN.out]; exact hlt) k f
      rw [← H.out] at hst
      have HST := Lib.hid hst
      obtain ⟨A3, c3, e3, -, -, hS⟩ := hsl
      simp only [Value.slice.injEq] at e3
      obtain ⟨rfl, -, rfl⟩ := e3
      have HS := Lib.hid hS
      clear hat hst hS
      generalize (c.ps.getD k paD).fr = fr at *
      generalize hm : fr.length = m at *
      have HM := Lib.hid hm
      clear hm
      go_wp2_with fail
      go_loop [6] (fun i => ∃ j : Nat, j ≤ m ∧ i = .int .i64 j ∧ Hid (∀ q, q < j → fr.getD q 0 ≠ f)) (fun i => m - (intOf i).toNat)
      case atStart => exact ⟨0, by omega, rfl, Lib.hid fun j hj => by omega⟩
      case round =>
        obtain ⟨j, hj, rfl, HJ⟩ := hrel
        by_cases hjm : j < m
        · obtain ⟨b', o', rfl, hb', hcell⟩ := HS.out (by omega)
          have c0 := hcell j _ (ints_get fr j (by rw [HM.out]; exact hjm))
          clear hcell
          by_cases he : fr.getD j 0 = f
          · have HE : Hid (Q = (k : Int)) := Lib.hid (by rw [HST.out, if_pos (in_row (by rw [HM.out]; exact hjm) he)])
            rw [he] at c0
            clear he
            go_wp2
            go_ret
            exact ⟨by rw [HE.out]; rfl, HB.out⟩
          · have HE := Lib.hid he
            have he2 : (fr.getD j 0 == f) = false := by simpa using he
            generalize fr.getD j 0 = y at c0 he2
            clear he
            go_wp2
            go_round
            case rel => exact ⟨j + 1, by omega, by go_num, Lib.hid fun q hq => by
              by_cases e : q = j
              · rw [e]; exact HE.out
              · exact HJ.out q (by omega)⟩
            case measure => simp [intOf]; omega
        · obtain rfl : j = m := by omega
          have HE : Hid (Q = ownP ((k + 1 : Nat) : Int) (c.ps.drop (k + 1)) f) := Lib.hid (by rw [HST.out, if_neg (in_row_no (fun q hq => HJ.out q (by rw [← HM.out]; exact hq)))]; rfl)
          go_wp2
          go_roundw
          case rel => exact ⟨k + 1, by omega, by go_num, by first | rfl | trivial, HE⟩
          case measure => simp [intOf]; omega
    · obtain rfl : k = n := by omega
      have HE : Hid (Q = -1) := Lib.hid (by rw [H.out, List.drop_eq_nil_of_le (by rw [HPN.out]; exact Nat.le_refl _)]; rfl)
      go_wp2
      go_ret
      exact ⟨by rw [HE.out]; rfl, HB.out⟩

theorem grB_at0 (c : Cf) (k : Nat) (l : List Gr) (hk : k < l.length) : grB c (l.take k) (l.drop k) = ((okG c (l.getD k grD) && !(l.take k).any (sgB (l.getD k grD))) && grB c (l.take (k + 1)) (l.drop (k + 1))) := by
  rw [List.drop_eq_getElem_cons hk, List.take_add_one, List.getElem?_eq_getElem hk]
  simp only [grB, List.getD, List.getElem?_eq_getElem hk, Option.getD_some, Option.toList_some]
theorem any_take_yes {l : List Gr} {x : Gr} {k j : Nat} (hj : j < k) (hk : k ≤ l.length) (h : sgB x (l.getD j grD) = true) : (l.take k).any (sgB x) = true := by
  refine List.any_eq_true.2 ⟨l.getD j grD, ?_, h⟩
  have hl : j < l.length := by omega
  simp only [List.getD, List.getElem?_eq_getElem hl, Option.getD_some]
  rw [List.mem_take_iff_getElem]
  exact ⟨j, by omega, rfl⟩
theorem any_take_no {l : List Gr} {x : Gr} {k : Nat} (hk : k ≤ l.length) (h : ∀ j, j < k → sgB x (l.getD j grD) = false) : (l.take k).any (sgB x) = false := by
  refine List.any_eq_false.2 (fun y hy => ?_)
  rw [List.mem_take_iff_getElem] at hy
  obtain ⟨j, hj, rfl⟩ := hy
  have := h j (by omega)
  simp only [List.getD, List.getElem?_eq_getElem (show j < l.length by omega), Option.getD_some] at this
  rw [this]; simp

set_option maxHeartbeats 4000000 in
theorem rgrants_any (h : CfAt w vp vd vw vg c) : Calls Try.prog 24 #[.agg #[.int .i64 c.fr, vp, vd, .int .i64 c.mj, vw, vg, .int .i64 c.se, .int .i64 c.qu, .int .i64 c.qt]] w fun e w' => e = .returned (.bool (gsB c)) ∧ Below w.heap.size w w' := by
  obtain ⟨hb, hB⟩ := cf_box w c vp vd vw vg
  have h1 := h.below hB
  obtain ⟨A, cap, rfl, -⟩ := h.ps
  have hz := h.gz
  have hpz := h.pz.1
  have hgs := h1.gs
  obtain ⟨A', cap', rfl⟩ : ∃ A' cap', vg = .slice A' c.gs.length cap' := by obtain ⟨A', c', e, _⟩ := hgs; exact ⟨A', c', e⟩
  have HB := Lib.hid hB; have HCB := Lib.hid hb; have HGS := Lib.hid hgs; have H1 := Lib.hid h1
  obtain ⟨Q, hQ⟩ : ∃ Q, gsB c = Q := ⟨_, rfl⟩
  rw [hQ]
  have HQ : Hid (Q = grB c (c.gs.take 0) (c.gs.drop 0)) := Lib.hid (by rw [List.take_zero, List.drop_zero, ← hQ]; rfl)
  have hlt1 : w.heap.size < (w.alloc (.cells #[.int .i64 c.fr, .slice A c.ps.length cap, vd, .int .i64 c.mj, vw, .slice A' c.gs.length cap', .int .i64 c.se, .int .i64 c.qu, .int .i64 c.qt] 27)).heap.size := by simp
  clear h h1 hb hB hgs hQ
  generalize hpn : c.ps.length = n at *
  generalize hgn : c.gs.length = m at *
  have HPN := Lib.hid hpn; have HGN := Lib.hid hgn
  clear hpn hgn
  go_enter Try.func24, Try.ntmps24
  go_wp2_with fail
  generalize w.alloc (.cells #[.int .i64 c.fr, .slice A n cap, vd, .int .i64 c.mj, vw, .slice A' m cap', .int .i64 c.se, .int .i64 c.qu, .int .i64 c.qt] 27) = w1 at *
  go_loopw [3] (fun i wr => ∃ k : Nat, k ≤ m ∧ i = .int .i64 k ∧ Hid (Q = grB c (c.gs.take k) (c.gs.drop k) ∧ Below w1.heap.size w1 wr)) (fun i _ => m - (intOf i).toNat)
  case atStart => exact ⟨0, by omega, rfl, Lib.hid ⟨HQ.out, Below.refl _ _⟩⟩
  case round =>
    obtain ⟨k, hk, rfl, H⟩ := hrel
    obtain ⟨hst, hbel⟩ := H.out
    obtain ⟨f0, f1, f2, f3, f4, f5, f6, f7, f8⟩ := cf_at (HCB.out.below hbel hlt1)
    by_cases hlt : k < m
    · have hws := hbel.size
      obtain ⟨b, o, rfl, hb1, q0, q1, q2⟩ := grs_at (HGS.out.below hbel) HGN.out k hlt
      rw [grB_at0 c k c.gs (by rw [HGN.out]; exact hlt)] at hst
      have HANY := Lib.hid (fun x (h : ∀ j, j < k → sgB x (c.gs.getD j grD) = false) => any_take_no (l := c.gs) (x := x) (by rw [HGN.out]; exact hk) h)
      have HANZ := Lib.hid (fun x j (hj : j < k) (h : sgB x (c.gs.getD j grD) = true) => any_take_yes (l := c.gs) (x := x) hj (by rw [HGN.out]; exact hk) h)
      obtain ⟨xf, xt, xw, hx⟩ : ∃ xf xt xw, c.gs.getD k grD = ⟨xf, xt, xw⟩ := ⟨_, _, _, rfl⟩
      rw [hx] at hst q0 q1 q2
      simp only at q0 q1 q2
      have hz2 : wr.heap.size < (wr.alloc (.cells #[.int .i64 xf, .int .i64 xt, .bool xw] 44)).heap.size := by simp
      have hbl4 : Below w1.heap.size w1 (wr.alloc (.cells #[.int .i64 xf, .int .i64 xt, .bool xw] 44)) := hbel.alloc hws _
      have hgb : Blk (wr.alloc (.cells #[.int .i64 xf, .int .i64 xt, .bool xw] 44)) wr.heap.size 44 [.int .i64 xf, .int .i64 xt, .bool xw] := Blk.new _ _ _
      have HOF := Lib.hid (rowner_any (H1.out.below hbl4) xf)
      have HCB4 := Lib.hid (HCB.out.below hbl4 hlt1)
      obtain ⟨f0, f1, f2, f3, f4, f5, f6, f7, f8⟩ := cf_at HCB4.out
      have c0 := hgb.cell 0
      simp only [List.getElem?_cons_zero] at c0
      have HST := Lib.hid hst; have HBL := Lib.hid hbl4; have HGB := Lib.hid hgb
      clear hst hbel hx hbl4 hgb H
      go_wp2_with fail
      generalize wr.alloc (.cells #[.int .i64 xf, .int .i64 xt, .bool xw] 44) = w4 at *
      generalize hzz : wr.heap.size = z at *
      clear hzz
      refine HOF.out.mono ?_
      rintro e w5 ⟨rfl, b5⟩
      have HB5 := Lib.hid (Below.down HBL.out b5 HBL.out.size)
      have HG5 := Lib.hid (HGB.out.below b5 hz2)
      have HC5 := Lib.hid (HCB4.out.below b5 HCB4.out.lt)
      have g0 := HG5.out.cell 0
      have g1 := HG5.out.cell 1
      simp only [List.getElem?_cons_zero, List.getElem?_cons_succ] at g0 g1
      have j1 := (cf_at HC5.out).2.1
      have h5z : z < w5.heap.size := by have := b5.size; omega
      have HOK : Hid (okG c ⟨xf, xt, xw⟩ = (decide (0 ≤ ownF c xf) && (inP n xt && decide (xt ≠ ownF c xf)))) := Lib.hid (by rw [← HPN.out]; rfl)
      obtain ⟨N, hN⟩ : ∃ N, ownF c xf = N := ⟨_, rfl⟩
      rw [hN] at HOK
      clear f0 f1 f2 f3 f4 f5 f6 f7 f8 q0 q1 q2 c0 b5
      rw [hN]
      clear hN
      by_cases hn0 : 0 ≤ N
      · by_cases ht0 : 0 ≤ xt
        · by_cases ht1 : xt < (n : Int)
          · obtain ⟨t, rfl⟩ := Int.eq_ofNat_of_zero_le ht0
            have htn : t < n := by omega
            have htd : decide (n ≤ t) = false := decide_eq_false (by omega)
            by_cases hto : (t : Int) = N
            · have e : Q = false := by rw [HST.out, HOK.out, decide_eq_false (show ¬ (t : Int) ≠ N from fun h => h hto)]; simp
              subst e
              have hte : ((t : Int) == N) = true := by rw [hto]; simp
              clear hto
              go_wp2_with fail
              go_ret
              exact ⟨rfl, Below.down HB.out HB5.out HB.out.size⟩
            · have hte : ((t : Int) == N) = false := by simpa using hto
              have HOKT : Hid (okG c ⟨xf, t, xw⟩ = true) := Lib.hid (by rw [HOK.out, decide_eq_true hn0, inP_at htn, decide_eq_true hto]; rfl)
              have HST2 : Hid (Q = (!(c.gs.take k).any (sgB ⟨xf, t, xw⟩) && grB c (c.gs.take (k + 1)) (c.gs.drop (k + 1)))) := Lib.hid (by rw [HST.out, HOKT.out, Bool.true_and])
              have HS5 := Lib.hid (HGS.out.below HB5.out)
              clear hto HST HOK
              go_wp2_with fail
              clear g0 g1 j1
              go_loopw [6] (fun i wr => ∃ j : Nat, j ≤ k ∧ i = .int .i64 j ∧ Hid ((∀ q, q < j → sgB ⟨xf, t, xw⟩ (c.gs.getD q grD) = false) ∧ Below w5.heap.size w5 wr)) (fun i _ => k - (intOf i).toNat)
              case atStart => exact ⟨0, by omega, rfl, Lib.hid ⟨fun j hj => by omega, Below.refl _ _⟩⟩
              case round =>
                obtain ⟨j, hj, rfl, HJ⟩ := hrel
                obtain ⟨hja, hjb⟩ := HJ.out
                have j5 := (cf_at (HC5.out.below hjb HC5.out.lt)).2.2.2.2.2.1
                have hg6 := HG5.out.below hjb h5z
                have g0 := hg6.cell 0
                have g1 := hg6.cell 1
                simp only [List.getElem?_cons_zero, List.getElem?_cons_succ] at g0 g1
                by_cases hjk : j < k
                · obtain ⟨b', o', e', -, r0, r1, -⟩ := grs_at (HS5.out.below hjb) HGN.out j (by omega)
                  simp only [Option.some.injEq, Addr.mk.injEq, and_true] at e'
                  obtain ⟨rfl, rfl⟩ := e'
                  have hjm : (j : Int) < m := by omega
                  have hjm2 : j < m := by omega
                  obtain ⟨yf, yt, yw, hy⟩ : ∃ yf yt yw, c.gs.getD j grD = ⟨yf, yt, yw⟩ := ⟨_, _, _, rfl⟩
                  rw [hy] at r0 r1
                  simp only at r0 r1
                  have HY := Lib.hid hy
                  have HJB := Lib.hid hjb; have HJA := Lib.hid hja
                  clear hy hjb hja hg6 HJ
                  by_cases hef : yf = xf
                  · by_cases het : yt = t
                    · have e : Q = false := by
                        rw [HST2.out, HANZ.out ⟨xf, t, xw⟩ j hjk (by rw [HY.out]; unfold sgB; exact decide_eq_true ⟨hef, het⟩)]; rfl
                      subst e
                      subst hef het
                      go_wp2_with fail
                      go_quiet (fail)
                      go_wp2_with fail
                      go_ret
                      exact ⟨rfl, bdrewN (Below.down (Below.down HB.out HB5.out HB.out.size) HJB.out (by have := HB.out.size; have := HB5.out.size; omega)) _⟩
                    · have he2 : (yt == (t : Int)) = false := by simpa using het
                      have HE : Hid (sgB ⟨xf, t, xw⟩ (c.gs.getD j grD) = false) := Lib.hid (by rw [HY.out]; unfold sgB; exact decide_eq_false (fun h => het h.2))
                      subst hef
                      clear het
                      go_wp2_with fail
                      go_quiet (fail)
                      go_wp2_with fail
                      go_roundw
                      case rel => exact ⟨j + 1, by omega, by go_num, Lib.hid ⟨fun q hq => by
                        by_cases e : q = j
                        · rw [e]; exact HE.out
                        · exact HJA.out q (by omega), bdrewN HJB.out _⟩⟩
                      case measure => simp [intOf]; omega
                  · have he2 : (yf == xf) = false := by simpa using hef
                    have HE : Hid (sgB ⟨xf, t, xw⟩ (c.gs.getD j grD) = false) := Lib.hid (by rw [HY.out]; unfold sgB; exact decide_eq_false (fun h => hef h.1))
                    clear hef
                    go_wp2_with fail
                    go_quiet (fail)
                    go_wp2_with fail
                    go_roundw
                    case rel => exact ⟨j + 1, by omega, by go_num, Lib.hid ⟨fun q hq => by
                      by_cases e : q = j
                      · rw [e]; exact HE.out
                      · exact HJA.out q (by omega), bdrewN HJB.out _⟩⟩
                    case measure => simp [intOf]; omega
                · obtain rfl : j = k := by omega
                  have HE : Hid (Q = grB c (c.gs.take (j + 1)) (c.gs.drop (j + 1))) := Lib.hid (by rw [HST2.out, HANY.out _ hja]; rfl)
                  have HJB := Lib.hid (Below.down HB5.out hjb HB5.out.size)
                  clear hjb hja hg6 HJ
                  go_wp2_with fail
                  go_roundw
                  case rel => exact ⟨j + 1, by omega, by go_num, Lib.hid ⟨HE.out, HJB.out⟩⟩
                  case measure => simp [intOf]; omega
          · have e : Q = false := by rw [HST.out, HOK.out, show inP n xt = false from decide_eq_false (fun h => ht1 h.2)]; simp
            subst e
            have ht2 : (n : Int) ≤ xt := by omega
            clear ht1
            go_wp2_with fail
            go_ret
            exact ⟨rfl, Below.down HB.out HB5.out HB.out.size⟩
        · have e : Q = false := by rw [HST.out, HOK.out, show inP n xt = false from decide_eq_false (fun h => ht0 h.1)]; simp
          subst e
          have ht2 : xt < 0 := by omega
          clear ht0
          go_wp2_with fail
          go_ret
          exact ⟨rfl, Below.down HB.out HB5.out HB.out.size⟩
      · have e : Q = false := by rw [HST.out, HOK.out, decide_eq_false hn0]; rfl
        subst e
        have hn2 : N < 0 := by omega
        clear hn0
        go_wp2_with fail
        go_ret
        exact ⟨rfl, Below.down HB.out HB5.out HB.out.size⟩
    · obtain rfl : k = m := by omega
      have e : Q = true := by rw [hst, List.drop_eq_nil_of_le (by rw [HGN.out]; exact Nat.le_refl _)]; rfl
      subst e
      have HBL := Lib.hid hbel
      clear hst hbel H
      go_wp2_with fail
      go_ret
      exact ⟨rfl, Below.down HB.out HBL.out HB.out.size⟩
end

end Go.Proofs.Ytamhnnkmjhapmaa

namespace Go.Proofs.Ytamhnnkmjhapmaa
open Go.RowKit
set_option linter.unusedVariables false
set_option linter.unusedSimpArgs false
set_option maxRecDepth 100000

theorem hasW_take (l : List Win) (k : Nat) (i : Int) (hk : k < l.length) : hasW (l.take (k + 1)) i = (hasW (l.take k) i || decide (l[k].p = i)) := by
  unfold hasW
  rw [List.take_add_one, List.getElem?_eq_getElem hk, List.any_append]
  simp

section
variable {w : World} {c : Cf} {vp vd vw vg : Value}
set_option maxHeartbeats 4000000 in
theorem rcmay_any (h : CfAt w vp vd vw vg c) : Calls Try.prog 10 #[.agg #[.int .i64 c.fr, vp, vd, .int .i64 c.mj, vw, vg, .int .i64 c.se, .int .i64 c.qu, .int .i64 c.qt]] w fun e w' => e = .returned (.bool (cfMay c)) ∧ Below w.heap.size w w' := by
  rw [← cf_ref c]
  obtain ⟨hb, hB⟩ := cf_box w c vp vd vw vg
  have h1 := h.below hB
  have hps := h1.ps; have hds := h1.ds; have hws := h1.ws
  have hz1 := h.pz.1; have hz2 := h.dz.1
  obtain ⟨A, cap, rfl, hA⟩ := hps
  obtain ⟨A', cap', rfl, -⟩ := hds
  obtain ⟨Aw, capw, rfl⟩ := hws.form
  have hlt1 : w.heap.size < (w.alloc (.cells #[.int .i64 c.fr, .slice A c.ps.length cap, .slice A' c.ds.length cap', .int .i64 c.mj, .slice Aw c.ws.length capw, vg, .int .i64 c.se, .int .i64 c.qu, .int .i64 c.qt] 27)).heap.size := by simp
  have HB := Lib.hid hB; have HCB := Lib.hid hb; have H1 := Lib.hid h1; have HA := Lib.hid hA
  have HWS := Lib.hid hws
  have hwl : c.ws.length ≤ 9223372036854775807 := by have := h.wz; omega
  have HFRM := Lib.hid (fun W hW (q1 : 1 ≤ c.fr ∧ c.fr ≤ 64) (q2 : c.ps.length ≤ 4) (q3 : c.ds.length ≤ 4) => rframes_any (w := W) (c := c) (vp := .slice A c.ps.length cap) (vd := .slice A' c.ds.length cap') (vw := .slice Aw c.ws.length capw) (vg := vg) hW q1 q2 q3)
  have HGR := Lib.hid (fun W hW => rgrants_any (w := W) (c := c) (vp := .slice A c.ps.length cap) (vd := .slice A' c.ds.length cap') (vw := .slice Aw c.ws.length capw) (vg := vg) hW)
  have HWM := Lib.hid (fun W (hW : CfAt W (.slice A c.ps.length cap) (.slice A' c.ds.length cap') (.slice Aw c.ws.length capw) vg c) => rwmay_any Aw c.ws.length capw c.ws c.mj c.ps.length W hW.ws.sl hW.ws.big rfl hW.ws.in64)
  have HEX := Lib.hid (fun W (hW : CfAt W (.slice A c.ps.length cap) (.slice A' c.ds.length cap') (.slice Aw c.ws.length capw) vg c) => rextmay_any _ _ c.se _ (hW.ps.pts hW.pz))
  obtain ⟨Q, hQ⟩ : ∃ Q, rcMay c = Q := ⟨_, rfl⟩
  rw [hQ]
  have HX : Hid (((((((((btw 1 64 c.fr && btw 1 4 c.ps.length) && btw 1 4 c.ds.length) && rfB c) && gsB c) && mayW c.ws c.mj c.ps.length) && extB (c.ps.map Pa.fc) c.se) && (List.range c.ps.length).all (rpB c)) && (btw 0 64 c.qu && btw 1 8 c.qt)) = Q) := Lib.hid hQ
  obtain ⟨f0, f1, f2, -⟩ := cf_at hb
  clear h h1 hb hB hws hA hQ
  generalize hM : mayW c.ws c.mj c.ps.length = RWM at *
  generalize hE : extB (c.ps.map Pa.fc) c.se = RE at *
  generalize hFF : rfB c = RF at *
  generalize hGG : gsB c = RG at *
  clear hM hE hFF hGG
  generalize hpn : c.ps.length = n at *
  generalize hdn : c.ds.length = n' at *
  generalize hwn : c.ws.length = m at *
  have HPN := Lib.hid hpn; have HWN := Lib.hid hwn
  clear hpn hdn hwn
  have way : c.fr < 1 ∨ 1 ≤ c.fr ∧ 64 < c.fr ∨ 1 ≤ c.fr ∧ c.fr ≤ 64 ∧ n < 1 ∨ 1 ≤ c.fr ∧ c.fr ≤ 64 ∧ 1 ≤ n ∧ 4 < n ∨ 1 ≤ c.fr ∧ c.fr ≤ 64 ∧ 1 ≤ n ∧ n ≤ 4 ∧ n' < 1 ∨ 1 ≤ c.fr ∧ c.fr ≤ 64 ∧ 1 ≤ n ∧ n ≤ 4 ∧ 1 ≤ n' ∧ 4 < n' ∨ 1 ≤ c.fr ∧ c.fr ≤ 64 ∧ 1 ≤ n ∧ n ≤ 4 ∧ 1 ≤ n' ∧ n' ≤ 4 := by omega
  rcases way with a1 | ⟨a1, a2⟩ | ⟨a1, a2, a3⟩ | ⟨a1, a2, a3, a4⟩ | ⟨a1, a2, a3, a4, a5⟩ | ⟨a1, a2, a3, a4, a5, a6⟩ | ⟨a1, a2, a3, a4, a5, a6⟩
  · have e : Q = false := by rw [← HX.out, show btw 1 64 c.fr = false from decide_eq_false (by omega)]; simp
    subst e
    go_enter Try.func10, Try.ntmps10
    go_wp2_with fail
    go_ret
    exact ⟨rfl, HB.out⟩
  · have e : Q = false := by rw [← HX.out, show btw 1 64 c.fr = false from decide_eq_false (by omega)]; simp
    subst e
    go_enter Try.func10, Try.ntmps10
    go_wp2_with fail
    go_ret
    exact ⟨rfl, HB.out⟩
  · have e : Q = false := by rw [← HX.out, show btw 1 4 (n : Int) = false from decide_eq_false (by omega)]; simp
    subst e
    go_enter Try.func10, Try.ntmps10
    go_wp2_with fail
    go_ret
    exact ⟨rfl, HB.out⟩
  · have e : Q = false := by rw [← HX.out, show btw 1 4 (n : Int) = false from decide_eq_false (by omega)]; simp
    have d1 : decide (n < 1) = false := decide_eq_false (by omega)
    subst e
    go_enter Try.func10, Try.ntmps10
    go_wp2_with fail
    go_ret
    exact ⟨rfl, HB.out⟩
  · have e : Q = false := by rw [← HX.out, show btw 1 4 (n' : Int) = false from decide_eq_false (by omega)]; simp
    have d1 : decide (n < 1) = false := decide_eq_false (by omega)
    have d2 : decide (4 < n) = false := decide_eq_false (by omega)
    subst e
    go_enter Try.func10, Try.ntmps10
    go_wp2_with fail
    go_ret
    exact ⟨rfl, HB.out⟩
  · have e : Q = false := by rw [← HX.out, show btw 1 4 (n' : Int) = false from decide_eq_false (by omega)]; simp
    have d1 : decide (n < 1) = false := decide_eq_false (by omega)
    have d2 : decide (4 < n) = false := decide_eq_false (by omega)
    have d3 : decide (n' < 1) = false := decide_eq_false (by omega)
    subst e
    go_enter Try.func10, Try.ntmps10
    go_wp2_with fail
    go_ret
    exact ⟨rfl, HB.out⟩
  · have HX2 : Hid (((((((RF && RG) && RWM) && RE) && (List.range n).all (rpB c)) && (btw 0 64 c.qu && btw 1 8 c.qt)) = Q)) := Lib.hid (by
      rw [← HX.out, show btw 1 64 c.fr = true from decide_eq_true ⟨a1, a2⟩, show btw 1 4 (n : Int) = true from decide_eq_true (by omega), show btw 1 4 (n' : Int) = true from decide_eq_true (by omega)]; rfl)
    have d1 : decide (n < 1) = false := decide_eq_false (by omega)
    have d2 : decide (4 < n) = false := decide_eq_false (by omega)
    have d3 : decide (n' < 1) = false := decide_eq_false (by omega)
    have d4 : decide (4 < n') = false := decide_eq_false (by omega)
    obtain ⟨f0, f1, f2, f3, f4, f5, f6, f7, f8⟩ := cf_at HCB.out
    have HC1 := Lib.hid (HFRM.out _ H1.out ⟨a1, a2⟩ a4 a6)
    clear HX HFRM
    go_enter Try.func10, Try.ntmps10
    go_wp2_with fail
    generalize w.alloc (.cells #[.int .i64 c.fr, .slice A n cap, .slice A' n' cap', .int .i64 c.mj, .slice Aw m capw, vg, .int .i64 c.se, .int .i64 c.qu, .int .i64 c.qt] 27) = w1 at *
    refine HC1.out.mono ?_
    rintro e w2 ⟨rfl, b2⟩
    have H2 := Lib.hid (H1.out.below b2)
    have HB2 := Lib.hid (Below.down HB.out b2 HB.out.size)
    have HS2 := Lib.hid b2
    obtain ⟨f0, f1, f2, f3, f4, f5, f6, f7, f8⟩ := cf_at (HCB.out.below b2 hlt1)
    clear b2 HC1
    cases RF with
    | false =>
      have e : Q = false := by rw [← HX2.out]; simp
      subst e
      go_wp2_with fail
      go_ret
      exact ⟨rfl, HB2.out⟩
    | true =>
      have HX3 : Hid ((((((RG && RWM) && RE) && (List.range n).all (rpB c)) && (btw 0 64 c.qu && btw 1 8 c.qt)) = Q)) := Lib.hid (by rw [← HX2.out, Bool.true_and])
      clear HX2
      go_wp2_with fail
      refine (HGR.out _ H2.out).mono ?_
      rintro e w3 ⟨rfl, b3⟩
      have H3 := Lib.hid (H2.out.below b3)
      have HB3 := Lib.hid (Below.down HB2.out b3 HB2.out.size)
      have HS3 := Lib.hid (Below.down HS2.out b3 HS2.out.size)
      obtain ⟨f0, f1, f2, f3, f4, f5, f6, f7, f8⟩ := cf_at (HCB.out.below HS3.out hlt1)
      clear b3
      cases RG with
      | false =>
        have e : Q = false := by rw [← HX3.out]; simp
        subst e
        go_wp2_with fail
        go_ret
        exact ⟨rfl, HB3.out⟩
      | true =>
        have HX4 : Hid (((((RWM && RE) && (List.range n).all (rpB c)) && (btw 0 64 c.qu && btw 1 8 c.qt)) = Q)) := Lib.hid (by rw [← HX3.out, Bool.true_and])
        clear HX3
        go_wp2_with fail
        refine (HWM.out _ H3.out).mono ?_
        rintro e w4 ⟨rfl, b4⟩
        have H4 := Lib.hid (H3.out.below b4)
        have HB4 := Lib.hid (Below.down HB3.out b4 HB3.out.size)
        have HS4 := Lib.hid (Below.down HS3.out b4 HS3.out.size)
        obtain ⟨f0, f1, f2, f3, f4, f5, f6, f7, f8⟩ := cf_at (HCB.out.below HS4.out hlt1)
        clear b4
        cases RWM with
        | false =>
          have e : Q = false := by rw [← HX4.out]; simp
          subst e
          go_wp2_with fail
          go_ret
          exact ⟨rfl, HB4.out⟩
        | true =>
          have HX5 : Hid ((((RE && (List.range n).all (rpB c)) && (btw 0 64 c.qu && btw 1 8 c.qt)) = Q)) := Lib.hid (by rw [← HX4.out, Bool.true_and])
          clear HX4
          go_wp2_with fail
          refine (HEX.out _ H4.out).mono ?_
          rintro e w5 ⟨rfl, b5⟩
          have HS5 := Lib.hid (Below.down HS4.out b5 HS4.out.size)
          obtain ⟨f0, f1, f2, f3, f4, f5, f6, f7, f8⟩ := cf_at (HCB.out.below HS5.out hlt1)
          clear b5
          cases RE with
          | false =>
            have e : Q = false := by rw [← HX5.out]; simp
            subst e
            go_wp2_with fail
            go_ret
            exact ⟨rfl, Below.down HB.out HS5.out HB.out.size⟩
          | true =>
            have HX6 : Hid ((((List.range n).all (rpB c)) && (btw 0 64 c.qu && btw 1 8 c.qt)) = Q) := Lib.hid (by rw [← HX5.out, Bool.true_and])
            clear HX5 HGR HWM HEX
            go_wp2_with fail
            clear f0 f1 f2 f3 f4 f5 f6 f7 f8
            go_loopw [4] (fun i wr => ∃ k : Nat, k ≤ n ∧ i = .int .i64 k ∧ Hid ((∀ j, j < k → rpB c j = true) ∧ Below w1.heap.size w1 wr)) (fun i _ => n - (intOf i).toNat)
            case atStart => exact ⟨0, by omega, rfl, Lib.hid ⟨fun j hj => by omega, HS5.out⟩⟩
            case round =>
              obtain ⟨k, hk, rfl, H⟩ := hrel
              obtain ⟨hall, hbel⟩ := H.out
              obtain ⟨f0, f1, f2, f3, f4, f5, f6, f7, f8⟩ := cf_at (HCB.out.below hbel hlt1)
              have HALL := Lib.hid hall; have HBL := Lib.hid hbel
              clear hall hbel H
              by_cases hlt : k < n
              · obtain ⟨b, o, rfl, hbw, hat⟩ := HA.out (by omega)
                obtain ⟨A2, c2, r0, r1, -⟩ := hat k hlt
                have g := fun x => HBL.out.cell (p := ⟨b, x, none⟩) hbw
                rw [← g] at r0 r1
                have HRP : Hid (rpB c k = (hasW c.ws k && lB (c.ps.getD k paD).lv (c.ps.getD k paD).ct)) := Lib.hid rfl
                clear hat g
                generalize c.ps.getD k paD = pk at *
                obtain ⟨lv, ct, pfr, pfi, pco⟩ := pk
                simp only at *
                go_wp2_with fail
                go_loop [5, 6] (fun v i => ∃ (j : Nat) (R : Bool), j ≤ m ∧ v = .bool R ∧ i = .int .i64 j ∧ Hid (hasW (c.ws.take j) k = R)) (fun _ i => m - (intOf i).toNat)
                case atStart => exact ⟨0, false, by omega, rfl, rfl, Lib.hid (by rw [List.take_zero]; rfl)⟩
                case round =>
                  obtain ⟨j, R, hj, rfl, rfl, HJ⟩ := hrel
                  by_cases hjm : j < m
                  · have hjl : j < c.ws.length := by rw [HWN.out]; exact hjm
                    obtain ⟨b', o', rfl, -, s0, -⟩ := wd_at (HWS.out.sl.below HBL.out) HWN.out j hjl
                    have HTK := Lib.hid (hasW_take c.ws j k hjl)
                    generalize c.ws[j] = x at *
                    obtain ⟨xp, xs, xl, xd⟩ := x
                    simp only at *
                    cases R with
                    | true =>
                      go_wp2
                      go_round
                      case rel => exact ⟨j + 1, true, by omega, rfl, by go_num, Lib.hid (by rw [HTK.out, HJ.out]; rfl)⟩
                      case measure => simp [intOf]; omega
                    | false =>
                      by_cases he : xp = (k : Int)
                      · have HE : Hid (hasW (c.ws.take (j + 1)) k = true) := Lib.hid (by rw [HTK.out, decide_eq_true he]; simp)
                        subst he
                        go_wp2
                        go_round
                        case rel => exact ⟨j + 1, true, by omega, rfl, by go_num, HE⟩
                        case measure => simp [intOf]; omega
                      · have HE : Hid (hasW (c.ws.take (j + 1)) k = false) := Lib.hid (by rw [HTK.out, HJ.out, decide_eq_false he]; rfl)
                        have he2 : (xp == (k : Int)) = false := by simpa using he
                        clear he
                        go_wp2
                        go_round
                        case rel => exact ⟨j + 1, false, by omega, rfl, by go_num, HE⟩
                        case measure => simp [intOf]; omega
                  · obtain rfl : j = m := by omega
                    have HR : Hid (hasW c.ws k = R) := Lib.hid (by rw [← HJ.out, ← HWN.out, List.take_length])
                    cases R with
                    | false =>
                      have e : Q = false := by
                        rw [← HX6.out, show (List.range n).all (rpB c) = false from List.all_eq_false.2 ⟨k, List.mem_range.2 hlt, by rw [HRP.out, HR.out]; simp⟩]; rfl
                      subst e
                      go_wp2_with fail
                      go_ret
                      exact ⟨rfl, Below.down HB.out HBL.out HB.out.size⟩
                    | true =>
                      cases hl : lB lv ct with
                      | false =>
                        have e : Q = false := by
                          rw [← HX6.out, show (List.range n).all (rpB c) = false from List.all_eq_false.2 ⟨k, List.mem_range.2 hlt, by rw [HRP.out, hl]; simp⟩]; rfl
                        have HL := Lib.hid hl
                        subst e
                        clear hl
                        go_wp2_with fail
                        refine (rlmay_is lv ct false _ HL.out).mono ?_
                        rintro e w6 ⟨rfl, b6⟩
                        go_wp2_with fail
                        go_ret
                        exact ⟨rfl, Below.down (Below.down HB.out HBL.out HB.out.size) b6 (by have := HB.out.size; have := HBL.out.size; omega)⟩
                      | true =>
                        have HL := Lib.hid hl
                        clear hl
                        go_wp2_with fail
                        refine (rlmay_is lv ct true _ HL.out).mono ?_
                        rintro e w6 ⟨rfl, b6⟩
                        have HB6 := Lib.hid (Below.down HBL.out b6 HBL.out.size)
                        clear b6
                        go_wp2_with fail
                        go_roundw
                        case rel => exact ⟨k + 1, by omega, by go_num, Lib.hid ⟨fun q hq => by
                          by_cases e : q = k
                          · rw [e, HRP.out, HR.out, HL.out]; rfl
                          · exact HALL.out q (by omega), HB6.out⟩⟩
                        case measure => simp [intOf]; omega
              · obtain rfl : k = n := by omega
                have HX7 : Hid ((btw 0 64 c.qu && btw 1 8 c.qt) = Q) := Lib.hid (by rw [← HX6.out, range_all_iff.2 HALL.out, Bool.true_and])
                by_cases u0 : 0 ≤ c.qu
                · by_cases u1 : c.qu ≤ 64
                  · have u2 : btw 0 64 c.qu = true := decide_eq_true ⟨u0, u1⟩
                    by_cases v0 : 1 ≤ c.qt
                    · by_cases v1 : c.qt ≤ 8
                      · have e : Q = true := by rw [← HX7.out, u2, show btw 1 8 c.qt = true from decide_eq_true ⟨v0, v1⟩]; rfl
                        have dd : decide (c.qt ≤ 8) = true := decide_eq_true v1
                        subst e
                        clear v1 u2
                        go_wp2_with fail
                        go_ret
                        exact ⟨rfl, Below.down HB.out HBL.out HB.out.size⟩
                      · have e : Q = false := by rw [← HX7.out, show btw 1 8 c.qt = false from decide_eq_false (by omega)]; simp
                        have dd : decide (c.qt ≤ 8) = false := decide_eq_false v1
                        subst e
                        clear v1 u2
                        go_wp2_with fail
                        go_ret
                        exact ⟨rfl, Below.down HB.out HBL.out HB.out.size⟩
                    · have e : Q = false := by rw [← HX7.out, show btw 1 8 c.qt = false from decide_eq_false (by omega)]; simp
                      have dd : c.qt < 1 := by omega
                      subst e
                      clear v0 u2
                      go_wp2_with fail
                      go_ret
                      exact ⟨rfl, Below.down HB.out HBL.out HB.out.size⟩
                  · have e : Q = false := by rw [← HX7.out, show btw 0 64 c.qu = false from decide_eq_false (by omega)]; rfl
                    have dd : 64 < c.qu := by omega
                    subst e
                    clear u1
                    go_wp2_with fail
                    go_ret
                    exact ⟨rfl, Below.down HB.out HBL.out HB.out.size⟩
                · have e : Q = false := by rw [← HX7.out, show btw 0 64 c.qu = false from decide_eq_false (by omega)]; rfl
                  have dd : c.qu < 0 := by omega
                  subst e
                  clear u0
                  go_wp2_with fail
                  go_ret
                  exact ⟨rfl, Below.down HB.out HBL.out HB.out.size⟩
end

end Go.Proofs.Ytamhnnkmjhapmaa

namespace Go.Proofs.Ytamhnnkmjhapmaa
open Go.RowKit
set_option linter.unusedVariables false
set_option linter.unusedSimpArgs false
set_option maxRecDepth 100000

/-- Which grants count. -/
def cgR (f p : Int) (wr : Bool) (g : Gr) : Bool := decide (g.f = f ∧ g.t = p) && (g.wr || !wr)

section
variable {w : World} {c : Cf} {vp vd vw vg : Value}
set_option maxHeartbeats 2000000 in
theorem rreach_any (h : CfAt w vp vd vw vg c) (p f : Int) (wr0 : Bool) : Calls Try.prog 56 #[.agg #[.int .i64 c.fr, vp, vd, .int .i64 c.mj, vw, vg, .int .i64 c.se, .int .i64 c.qu, .int .i64 c.qt], .int .i64 p, .int .i64 f, .bool wr0] w fun e w' => e = .returned (.bool (rcB c p f wr0)) ∧ Below w.heap.size w w' := by
  obtain ⟨hb, hB⟩ := cf_box w c vp vd vw vg
  have h1 := h.below hB
  have hz := h.gz
  have hgs := h1.gs
  obtain ⟨A', cap', rfl⟩ : ∃ A' cap', vg = .slice A' c.gs.length cap' := by obtain ⟨A', c', e, _⟩ := hgs; exact ⟨A', c', e⟩
  have hlt1 : w.heap.size < (w.alloc (.cells #[.int .i64 c.fr, vp, vd, .int .i64 c.mj, vw, .slice A' c.gs.length cap', .int .i64 c.se, .int .i64 c.qu, .int .i64 c.qt] 27)).heap.size := by simp
  have HB := Lib.hid hB; have HCB := Lib.hid hb; have HGS := Lib.hid hgs
  have HO := Lib.hid (rowner_any h1 f)
  obtain ⟨Q, hQ⟩ : ∃ Q, rcB c p f wr0 = Q := ⟨_, rfl⟩
  rw [hQ]
  have HX : Hid ((decide (ownF c f = p) || c.gs.any (cgR f p wr0)) = Q) := Lib.hid hQ
  obtain ⟨f0, f1, f2, f3, f4, f5, f6, f7, f8⟩ := cf_at hb
  clear h h1 hb hB hgs hQ
  generalize ownF c f = N at *
  generalize hgn : c.gs.length = m at *
  have HGN := Lib.hid hgn
  clear hgn
  have hm63 : m ≤ 9223372036854775807 := by omega
  by_cases hN : N = p
  · have e : Q = true := by rw [← HX.out, decide_eq_true hN]; rfl
    subst e hN
    go_enter Try.func56, Try.ntmps56
    go_wp2_with fail
    refine HO.out.mono ?_
    rintro e w2 ⟨rfl, b2⟩
    go_wp2_with fail
    go_ret
    exact ⟨rfl, Below.down HB.out b2 HB.out.size⟩
  · have HX2 : Hid (c.gs.any (cgR f p wr0) = Q) := Lib.hid (by rw [← HX.out, decide_eq_false hN]; rfl)
    have hN2 : (N == p) = false := by simpa using hN
    clear hN HX
    go_enter Try.func56, Try.ntmps56
    go_wp2_with fail
    generalize w.alloc (.cells #[.int .i64 c.fr, vp, vd, .int .i64 c.mj, vw, .slice A' m cap', .int .i64 c.se, .int .i64 c.qu, .int .i64 c.qt] 27) = w1 at *
    refine HO.out.mono ?_
    rintro e w2 ⟨rfl, b2⟩
    have f5 := (cf_at (HCB.out.below b2 hlt1)).2.2.2.2.2.1
    have HS2 := Lib.hid (HGS.out.below b2)
    have HB2 := Lib.hid (Below.down HB.out b2 HB.out.size)
    clear b2
    go_wp2_with fail
    go_loop [9] (fun i => ∃ k : Nat, k ≤ m ∧ i = .int .i64 k ∧ Hid (∀ j, j < k → cgR f p wr0 (c.gs.getD j grD) = false)) (fun i => m - (intOf i).toNat)
    case atStart => exact ⟨0, by omega, rfl, Lib.hid fun j hj => by omega⟩
    case round =>
      obtain ⟨k, hk, rfl, H⟩ := hrel
      by_cases hlt : k < m
      · obtain ⟨b, o, rfl, hb1, q0, q1, q2⟩ := grs_at HS2.out HGN.out k hlt
        have HY : Hid (cgR f p wr0 (c.gs.getD k grD) = true → Q = true) := Lib.hid (fun hy => by
          rw [← HX2.out]
          refine List.any_eq_true.2 ⟨c.gs.getD k grD, ?_, hy⟩
          have hl : k < c.gs.length := by rw [HGN.out]; exact hlt
          simp only [List.getD, List.getElem?_eq_getElem hl, Option.getD_some]
          exact List.getElem_mem hl)
        obtain ⟨xf, xt, xw, hx⟩ : ∃ xf xt xw, c.gs.getD k grD = ⟨xf, xt, xw⟩ := ⟨_, _, _, rfl⟩
        rw [hx] at q0 q1 q2 HY
        have HXX := Lib.hid hx
        simp only at q0 q1 q2
        clear hx
        have step : ∀ R : Bool, cgR f p wr0 ⟨xf, xt, xw⟩ = R → R = false → ∀ j, j < k + 1 → cgR f p wr0 (c.gs.getD j grD) = false := fun R h1 h2 j hj => by
          by_cases e : j = k
          · rw [e, HXX.out, h1, h2]
          · exact H.out j (by omega)
        have HST := Lib.hid step
        clear step
        by_cases e1 : xf = f
        · by_cases e2 : xt = p
          · have HC : Hid (cgR f p wr0 ⟨xf, xt, xw⟩ = (xw || !wr0)) := Lib.hid (by unfold cgR; rw [decide_eq_true ⟨e1, e2⟩, Bool.true_and])
            subst e1 e2
            cases xw with
            | true =>
              have e : Q = true := HY.out (by rw [HC.out]; rfl)
              subst e
              go_wp2
              go_ret
              exact ⟨rfl, HB2.out⟩
            | false =>
              cases wr0 with
              | false =>
                have e : Q = true := HY.out (by rw [HC.out]; rfl)
                subst e
                go_wp2
                go_ret
                exact ⟨rfl, HB2.out⟩
              | true =>
                go_wp2
                go_round
                case rel => exact ⟨k + 1, by omega, by go_num, Lib.hid (HST.out _ HC.out rfl)⟩
                case measure => simp [intOf]; omega
          · have HC : Hid (cgR f p wr0 ⟨xf, xt, xw⟩ = false) := Lib.hid (by unfold cgR; rw [decide_eq_false (fun h => e2 h.2)]; rfl)
            have e3 : (xt == p) = false := by simpa using e2
            subst e1
            clear e2
            go_wp2
            go_round
            case rel => exact ⟨k + 1, by omega, by go_num, Lib.hid (HST.out _ HC.out rfl)⟩
            case measure => simp [intOf]; omega
        · have HC : Hid (cgR f p wr0 ⟨xf, xt, xw⟩ = false) := Lib.hid (by unfold cgR; rw [decide_eq_false (fun h => e1 h.1)]; rfl)
          have e3 : (xf == f) = false := by simpa using e1
          clear e1
          go_wp2
          go_round
          case rel => exact ⟨k + 1, by omega, by go_num, Lib.hid (HST.out _ HC.out rfl)⟩
          case measure => simp [intOf]; omega
      · obtain rfl : k = m := by omega
        have e : Q = false := by
          rw [← HX2.out, ← any_range c.gs grD (cgR f p wr0)]
          exact range_any_no (fun j hj => H.out j (by rw [← HGN.out]; exact hj))
        subst e
        go_wp2
        go_ret
        exact ⟨rfl, HB2.out⟩

set_option maxHeartbeats 2000000 in
theorem rallowed_any (h : CfAt w vp vd vw vg c) (part at_ n : Int) (wr0 : Bool) : Calls Try.prog 30 #[.agg #[.int .i64 c.fr, vp, vd, .int .i64 c.mj, vw, vg, .int .i64 c.se, .int .i64 c.qu, .int .i64 c.qt], .int .i64 part, .int .i64 at_, .int .i64 n, .bool wr0] w fun e w' => e = .returned (.bool (alB c part at_ n wr0)) ∧ Below w.heap.size w w' := by
  obtain ⟨hb, hB⟩ := cf_box w c vp vd vw vg
  have h1 := h.below hB
  have hz := h.pz.1
  obtain ⟨A, cap, rfl, -⟩ := h.ps
  have hlt1 : w.heap.size < (w.alloc (.cells #[.int .i64 c.fr, .slice A c.ps.length cap, vd, .int .i64 c.mj, vw, vg, .int .i64 c.se, .int .i64 c.qu, .int .i64 c.qt] 27)).heap.size := by simp
  have HB := Lib.hid hB; have HCB := Lib.hid hb; have H1 := Lib.hid h1
  have HM := Lib.hid (rcmay_any h1)
  obtain ⟨Q, hQ⟩ : ∃ Q, alB c part at_ n wr0 = Q := ⟨_, rfl⟩
  rw [hQ]
  have HX : Hid ((cfMay c && (inP c.ps.length part && (fitB at_ n (c.fr * 64) && (spl at_.toNat n.toNat).all (fun x => rcB c part x.1 wr0)))) = Q) := Lib.hid hQ
  obtain ⟨f0, f1, f2, f3, f4, f5, f6, f7, f8⟩ := cf_at hb
  clear h h1 hb hB hQ
  cases hm : cfMay c with
  | false =>
    have e : Q = false := by rw [← HX.out, hm]; rfl
    subst e
    rw [hm] at HM
    clear hm
    go_enter Try.func30, Try.ntmps30
    go_wp2_with fail
    refine HM.out.mono ?_
    rintro e w2 ⟨rfl, b2⟩
    go_wp2_with fail
    go_ret
    exact ⟨rfl, Below.down HB.out b2 HB.out.size⟩
  | true =>
    have hF : 1 ≤ c.fr ∧ c.fr ≤ 64 := by
      unfold cfMay at hm
      rw [Bool.and_eq_true] at hm
      exact btw_iff0.1 hm.1
    rw [hm] at HM
    have HX2 : Hid ((inP c.ps.length part && (fitB at_ n (c.fr * 64) && (spl at_.toNat n.toNat).all (fun x => rcB c part x.1 wr0))) = Q) := Lib.hid (by rw [← HX.out, hm]; rfl)
    obtain ⟨F1, F2⟩ := hF
    clear hm HX
    by_cases p0 : 0 ≤ part
    · by_cases p1 : part < (c.ps.length : Int)
      · obtain ⟨p, rfl⟩ := Int.eq_ofNat_of_zero_le p0
        have hpn : p < c.ps.length := by omega
        have HX3 : Hid ((fitB at_ n (c.fr * 64) && (spl at_.toNat n.toNat).all (fun x => rcB c p x.1 wr0)) = Q) := Lib.hid (by rw [← HX2.out, inP_at hpn, Bool.true_and])
        have hd : decide (c.ps.length ≤ p) = false := decide_eq_false (by omega)
        have HMY := Lib.hid (fun (W : World) => rmay_any at_ n (c.fr * 64) W (by omega))
        have hmul : IntKind.i64.wrap (c.fr * 64) = c.fr * 64 := by rw [IntKind.wrap_i64]; omega
        clear HX2
        go_enter Try.func30, Try.ntmps30
        go_wp2_with fail
        generalize w.alloc (.cells #[.int .i64 c.fr, .slice A c.ps.length cap, vd, .int .i64 c.mj, vw, vg, .int .i64 c.se, .int .i64 c.qu, .int .i64 c.qt] 27) = w1 at *
        refine HM.out.mono ?_
        rintro e w2 ⟨rfl, b2⟩
        obtain ⟨f0, f1, f2, f3, f4, f5, f6, f7, f8⟩ := cf_at (HCB.out.below b2 hlt1)
        have HB2 := Lib.hid (Below.down HB.out b2 HB.out.size)
        have HS2 := Lib.hid b2
        have H2 := Lib.hid (H1.out.below b2)
        clear b2 HM
        go_wp2_with fail
        refine (HMY.out _).mono ?_
        rintro e w3 ⟨rfl, rfl⟩
        cases hf : fitB at_ n (c.fr * 64) with
        | false =>
          have e : Q = false := by rw [← HX3.out, hf]; rfl
          subst e
          clear hf
          go_wp2_with fail
          go_ret
          exact ⟨rfl, HB2.out⟩
        | true =>
          have hf2 := of_decide_eq_true hf
          obtain ⟨r0, r1, r2, r3⟩ := hf2
          obtain ⟨a, rfl⟩ := Int.eq_ofNat_of_zero_le r0
          obtain ⟨m, rfl⟩ := Int.eq_ofNat_of_zero_le r1
          have HX4 : Hid ((spl a m).all (fun x => rcB c p x.1 wr0) = Q) := Lib.hid (by rw [← HX3.out, hf, Bool.true_and, Int.toNat_natCast, Int.toNat_natCast])
          have HSP := Lib.hid (fun (W : World) => rsplit_yes (a : Int) (m : Int) W (by omega) (by omega) (by omega))
          clear hf HX3 HMY
          go_wp2_with fail
          refine (HSP.out _).mono ?_
          rintro e w4 ⟨v, rfl, ho, b4⟩
          simp only [Int.toNat_natCast] at ho
          have HS4 := Lib.hid (Below.down HS2.out b4 HS2.out.size)
          have HB4 := Lib.hid (Below.down HB2.out b4 HB2.out.size)
          have H4 := Lib.hid (H2.out.below b4)
          have HC4 := Lib.hid ((HCB.out.below HS4.out hlt1))
          have hll := spl_len m a
          obtain ⟨A3, cap3, rfl, hcap, hxl, hA3⟩ := Sl.own ho
          have HA3 := Lib.hid hA3
          obtain ⟨L, hL⟩ : ∃ L, (spl a m).length = L := ⟨_, rfl⟩
          rw [hL] at HA3 hll
          have HLL := Lib.hid hL
          clear ho b4 hxl hA3 hcap
          rw [hL]
          clear hL
          have h64 := HB4.out.size
          go_wp2_with fail
          clear f0 f1 f2 f3 f4 f5 f6 f7 f8
          go_loopw [13] (fun i wr => ∃ k : Nat, k ≤ L ∧ i = .int .i64 k ∧ Hid ((∀ j, j < k → rcB c p ((spl a m).getD j (0, 0, 0)).1 wr0 = true) ∧ Below w4.heap.size w4 wr)) (fun i _ => L - (intOf i).toNat)
          case atStart => exact ⟨0, by omega, rfl, Lib.hid ⟨fun j hj => by omega, Below.refl _ _⟩⟩
          case round =>
            obtain ⟨k, hk, rfl, H⟩ := hrel
            obtain ⟨hall, hbel⟩ := H.out
            by_cases hlt : k < L
            · obtain ⟨b, o, rfl, hb, hcell⟩ := HA3.out (by omega)
              have hkl : k < (spl a m).length := by rw [HLL.out]; exact hlt
              have c0 := (hbel.cell (p := ⟨b, o + k * 3, none⟩) hb).trans (hcell _ _ (flat_get (spl a m) k hkl).1)
              have hgd : (spl a m).getD k (0, 0, 0) = (spl a m)[k] := by simp [List.getD, List.getElem?_eq_getElem hkl]
              rw [← hgd] at c0
              have HALL := Lib.hid hall; have HBL := Lib.hid hbel
              have HQN : Hid (rcB c p ((spl a m).getD k (0, 0, 0)).1 wr0 = false → Q = false) := Lib.hid (fun hn => by
                rw [← HX4.out]
                refine List.all_eq_false.2 ⟨(spl a m)[k], List.getElem_mem hkl, ?_⟩
                rw [← hgd, hn]; simp)
              have HC5 := Lib.hid (HC4.out.below hbel HC4.out.lt)
              obtain ⟨f0, f1, f2, f3, f4, f5, f6, f7, f8⟩ := cf_at HC5.out
              have HRC := Lib.hid (fun (W : World) (hW : Below wr.heap.size wr W) => rreach_any ((H4.out.below hbel).below hW) p ((((spl a m).getD k (0, 0, 0)).1 : Nat) : Int) wr0)
              generalize hxe : ((spl a m).getD k (0, 0, 0)).1 = x at *
              have HXE := Lib.hid hxe
              clear hxe
              clear hcell hgd hall hbel H hkl
              obtain ⟨R, hR⟩ : ∃ R, rcB c p x wr0 = R := ⟨_, rfl⟩
              rw [hR] at HQN HRC
              have HR := Lib.hid hR
              clear hR
              go_wp2_with fail
              go_still_tail 8, (by kernel_rfl)
              change wpList _ _ _ _ _ wr.drew
              go_wp2_with fail
              refine (HRC.out wr.drew (bdrewN (Below.refl _ _) 1)).mono ?_
              rintro e w5 ⟨rfl, b5⟩
              have HB5 := Lib.hid (Below.down (bdrewN HBL.out 1) b5 HBL.out.size)
              clear b5
              cases R with
              | false =>
                have e : Q = false := HQN.out rfl
                subst e
                go_wp2_with fail
                go_ret
                exact ⟨rfl, Below.down HB4.out HB5.out HB4.out.size⟩
              | true =>
                go_wp2_with fail
                go_roundw
                case rel => exact ⟨k + 1, by omega, by go_num, Lib.hid ⟨fun j hj => by
                  by_cases e : j = k
                  · rw [e, HXE.out]; exact HR.out
                  · exact HALL.out j (by omega), HB5.out⟩⟩
                case measure => simp [intOf]; omega
            · obtain rfl : k = L := by omega
              have e : Q = true := by
                rw [← HX4.out, ← all_range (spl a m) (0, 0, 0) (fun x => rcB c p x.1 wr0), HLL.out]
                exact range_all_iff.2 hall
              subst e
              have HBL := Lib.hid hbel
              clear hall hbel H
              go_wp2_with fail
              go_ret
              exact ⟨rfl, Below.down HB4.out HBL.out HB4.out.size⟩
      · have e : Q = false := by rw [← HX2.out, show inP c.ps.length part = false from decide_eq_false (fun h => p1 h.2)]; rfl
        subst e
        have p2 : (c.ps.length : Int) ≤ part := by omega
        clear p1
        go_enter Try.func30, Try.ntmps30
        go_wp2_with fail
        generalize w.alloc (.cells #[.int .i64 c.fr, .slice A c.ps.length cap, vd, .int .i64 c.mj, vw, vg, .int .i64 c.se, .int .i64 c.qu, .int .i64 c.qt] 27) = w1 at *
        refine HM.out.mono ?_
        rintro e w2 ⟨rfl, b2⟩
        have f1 := (cf_at (HCB.out.below b2 hlt1)).2.1
        have HB2 := Lib.hid (Below.down HB.out b2 HB.out.size)
        clear b2
        go_wp2_with fail
        go_ret
        exact ⟨rfl, HB2.out⟩
    · have e : Q = false := by rw [← HX2.out, show inP c.ps.length part = false from decide_eq_false (fun h => p0 h.1)]; rfl
      subst e
      have p2 : part < 0 := by omega
      clear p0
      go_enter Try.func30, Try.ntmps30
      go_wp2_with fail
      refine HM.out.mono ?_
      rintro e w2 ⟨rfl, b2⟩
      go_wp2_with fail
      go_ret
      exact ⟨rfl, Below.down HB.out b2 HB.out.size⟩

theorem rreads_any (h : CfAt w vp vd vw vg c) (part at_ n : Int) : Calls Try.prog 12 #[.agg #[.int .i64 c.fr, vp, vd, .int .i64 c.mj, vw, vg, .int .i64 c.se, .int .i64 c.qu, .int .i64 c.qt], .int .i64 part, .int .i64 at_, .int .i64 n] w fun e w' => e = .returned (.bool (alB c part at_ n false)) ∧ Below w.heap.size w w' := by
  obtain ⟨hb, hB⟩ := cf_box w c vp vd vw vg
  have HC := Lib.hid (rallowed_any (h.below hB) part at_ n false)
  obtain ⟨k0, k1, k2, k3, k4, k5, k6, k7, k8⟩ := cf_at hb
  have HB := Lib.hid hB
  clear hb hB h
  go_enter Try.func12, Try.ntmps12
  go_wp2_with fail
  refine HC.out.mono ?_
  rintro e w1 ⟨rfl, b1⟩
  go_wp2_with fail
  go_ret
  exact ⟨rfl, Below.down HB.out b1 HB.out.size⟩
theorem rwrites_any (h : CfAt w vp vd vw vg c) (part at_ n : Int) : Calls Try.prog 14 #[.agg #[.int .i64 c.fr, vp, vd, .int .i64 c.mj, vw, vg, .int .i64 c.se, .int .i64 c.qu, .int .i64 c.qt], .int .i64 part, .int .i64 at_, .int .i64 n] w fun e w' => e = .returned (.bool (alB c part at_ n true)) ∧ Below w.heap.size w w' := by
  obtain ⟨hb, hB⟩ := cf_box w c vp vd vw vg
  have HC := Lib.hid (rallowed_any (h.below hB) part at_ n true)
  obtain ⟨k0, k1, k2, k3, k4, k5, k6, k7, k8⟩ := cf_at hb
  have HB := Lib.hid hB
  clear hb hB h
  go_enter Try.func14, Try.ntmps14
  go_wp2_with fail
  refine HC.out.mono ?_
  rintro e w1 ⟨rfl, b1⟩
  go_wp2_with fail
  go_ret
  exact ⟨rfl, Below.down HB.out b1 HB.out.size⟩
end

end Go.Proofs.Ytamhnnkmjhapmaa
