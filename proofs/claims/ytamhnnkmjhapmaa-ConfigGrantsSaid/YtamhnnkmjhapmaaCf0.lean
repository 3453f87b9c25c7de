/-
  Plain words of layer 21: a config; whose each frame is; may a config be; which bytes a partition may read or write. No Go function here.
-/
import Derived.Test.YtamhnnkmjhapmaaEx3
import Derived.Test.YtamhnnkmjhapmaaSchAwake
import Derived.Test.YtamhnnkmjhapmaaLat0
import Derived.Test.YtamhnnkmjhapmaaInp
import Derived.Test.YtamhnnkmjhapmaaIt0
import Derived.Test.YtamhnnkmjhapmaaAddr
namespace Go.Proofs.Ytamhnnkmjhapmaa
open Go.RowKit
set_option linter.unusedVariables false
set_option linter.unusedSimpArgs false
set_option maxRecDepth 100000

/-- A grant. -/
structure Gr where
  f : Int
  t : Int
  wr : Bool
/-- A device. -/
structure De where
  pt : Int
  po : List Int
/-- A config. -/
structure Cf where
  fr : Int
  ps : List Pa
  ds : List De
  mj : Int
  ws : List Win
  gs : List Gr
  se : Int
  qu : Int
  qt : Int

/-! ### frames given one after another -/
/-- A table with one frame given. -/
def updT (T : Nat → Int) (k : Nat) (o : Int) : Nat → Int := fun i => if i = k then o else T i
/-- Is a frame there, and free? -/
def fgB (F : Int) (T : Nat → Int) (x : Int) : Bool := decide (0 ≤ x ∧ x < F) && decide (T x.toNat = -1)
/-- May a row of them be given? .. What is so then. -/
def giB (F o : Int) : (Nat → Int) → List Int → Bool
  | _, [] => true
  | T, x :: l => fgB F T x && giB F o (updT T x.toNat o) l
def giT (o : Int) : (Nat → Int) → List Int → (Nat → Int)
  | T, [] => T
  | T, x :: l => giT o (updT T x.toNat o) l
def gpB (F : Int) : Int → (Nat → Int) → List Pa → Bool
  | _, _, [] => true
  | i, T, p :: l => giB F i T p.fr && gpB F (i + 1) (giT i T p.fr) l
def gpT : Int → (Nat → Int) → List Pa → (Nat → Int)
  | _, T, [] => T
  | i, T, p :: l => gpT (i + 1) (giT i T p.fr) l
def gdB (F : Int) : (Nat → Int) → List De → Bool
  | _, [] => true
  | T, d :: l => giB F (-2) T d.po && gdB F (giT (-2) T d.po) l
def gdT : (Nat → Int) → List De → (Nat → Int)
  | T, [] => T
  | T, d :: l => gdT (giT (-2) T d.po) l
def freeT : Nat → Int := fun _ => -1
/-- Are all frames there, and unlike? .. Whose they are. -/
def unB (c : Cf) : Bool := gpB c.fr 0 freeT c.ps && gdB c.fr (gpT 0 freeT c.ps) c.ds
def ownM (c : Cf) : Nat → Int := gdT (gpT 0 freeT c.ps) c.ds
/-- Whose a frame is; -1: no partition's. -/
def ownP : Int → List Pa → Int → Int
  | _, [], _ => -1
  | i, p :: l, f => if f ∈ p.fr then i else ownP (i + 1) l f
def ownF (c : Cf) (f : Int) : Int := ownP 0 c.ps f

/-! ### the questions -/
/-- Is a number within bounds? -/
def btw (lo hi n : Int) : Bool := decide (lo ≤ n ∧ n ≤ hi)
def paB (p : Pa) : Bool := lB p.lv p.ct && decide (0 < p.fr.length)
def dvB (n : Nat) (d : De) : Bool := inP n d.pt && btw 2 5 d.po.length
def hasW (ws : List Win) (i : Int) : Bool := ws.any fun x => decide (x.p = i)
def okG (c : Cf) (g : Gr) : Bool := decide (0 ≤ ownF c g.f) && (inP c.ps.length g.t && decide (g.t ≠ ownF c g.f))
def sgB (g h : Gr) : Bool := decide (h.f = g.f ∧ h.t = g.t)
def grB (c : Cf) : List Gr → List Gr → Bool
  | _, [] => true
  | s, g :: l => (okG c g && !s.any (sgB g)) && grB c (s ++ [g]) l
def frB (c : Cf) : Bool := btw 1 64 c.fr
def psB (c : Cf) : Bool := btw 1 4 c.ps.length && c.ps.all paB
def dsB (c : Cf) : Bool := btw 1 4 c.ds.length && c.ds.all (dvB c.ps.length)
def wsB (c : Cf) : Bool := mayW c.ws c.mj c.ps.length && (List.range c.ps.length).all (fun i => hasW c.ws i)
def gsB (c : Cf) : Bool := grB c [] c.gs
def shB (c : Cf) : Bool := extB (c.ps.map Pa.fc) c.se
def quB (c : Cf) : Bool := btw 0 64 c.qu
def qtB (c : Cf) : Bool := btw 1 8 c.qt
/-- May a config be? -/
def cfMay (c : Cf) : Bool := frB c && (psB c && (dsB c && (unB c && (wsB c && (gsB c && (shB c && (quB c && qtB c)))))))
/-- Is a frame a partition's, or granted to it? (wr: to be written) -/
def rcB (c : Cf) (p f : Int) (wr : Bool) : Bool := decide (ownF c f = p) || c.gs.any (fun g => decide (g.f = f ∧ g.t = p) && (g.wr || !wr))
/-- May a partition read n bytes from a on, or write them? -/
def alB (c : Cf) (p a n : Int) (wr : Bool) : Bool := cfMay c && (inP c.ps.length p && (fitB a n (c.fr * 64) && (spl a.toNat n.toNat).all (fun x => rcB c p x.1 wr)))

/-! ### rows by places -/
theorem giB_go (F o : Int) : ∀ (l : List Int) (T : Nat → Int), (List.range l.length).all (fun i => fgB F (giT o T (l.take i)) (l.getD i 0)) = giB F o T l := by
  intro l
  induction l with
  | nil => intro T; rfl
  | cons x l ih =>
    intro T
    rw [List.length_cons, List.range_succ_eq_map, List.all_cons, List.all_map]
    have h0 : fgB F (giT o T ((x :: l).take 0)) ((x :: l).getD 0 0) = fgB F T x := by simp [giT]
    rw [h0]
    simp only [giB]
    congr 1
    rw [← ih (updT T x.toNat o)]
    rfl
theorem giT_take (o : Int) : ∀ (l : List Int) (T : Nat → Int) (k : Nat), k < l.length → giT o T (l.take (k + 1)) = updT (giT o T (l.take k)) (l.getD k 0).toNat o := by
  intro l
  induction l with
  | nil => intro T k h; simp at h
  | cons x l ih =>
    intro T k h
    match k with
    | 0 => simp [giT]
    | k + 1 =>
      rw [List.take_succ_cons, List.take_succ_cons]
      simp only [giT]
      rw [ih _ k (by simpa using h)]
      rfl
theorem gpT_take : ∀ (l : List Pa) (i : Int) (T : Nat → Int) (k : Nat), k < l.length → gpT i T (l.take (k + 1)) = giT (i + k) (gpT i T (l.take k)) (l.getD k paD).fr := by
  intro l
  induction l with
  | nil => intro i T k h; simp at h
  | cons x l ih =>
    intro i T k h
    match k with
    | 0 => simp [gpT]
    | k + 1 =>
      rw [List.take_succ_cons, List.take_succ_cons]
      simp only [gpT]
      rw [ih _ _ k (by simpa using h)]
      rw [show i + 1 + (k : Int) = i + ((k + 1 : Nat) : Int) by omega]
      rfl
theorem gpB_at (F : Int) : ∀ (l : List Pa) (i : Int) (T : Nat → Int) (k : Nat), k < l.length → gpB F (i + k) (gpT i T (l.take k)) (l.drop k) = (giB F (i + k) (gpT i T (l.take k)) (l.getD k paD).fr && gpB F (i + (k + 1 : Nat)) (gpT i T (l.take (k + 1))) (l.drop (k + 1))) := by
  intro l i T k h
  rw [gpT_take l i T k h, List.drop_eq_getElem_cons h]
  simp only [gpB, List.getD, List.getElem?_eq_getElem h, Option.getD_some]
  rw [show i + (k : Int) + 1 = i + ((k + 1 : Nat) : Int) by omega]
/-- A device. -/
def deD : De := ⟨0, []⟩
theorem gdT_take : ∀ (l : List De) (T : Nat → Int) (k : Nat), k < l.length → gdT T (l.take (k + 1)) = giT (-2) (gdT T (l.take k)) (l.getD k deD).po := by
  intro l
  induction l with
  | nil => intro T k h; simp at h
  | cons x l ih =>
    intro T k h
    match k with
    | 0 => simp [gdT]
    | k + 1 =>
      rw [List.take_succ_cons, List.take_succ_cons]
      simp only [gdT]
      rw [ih _ k (by simpa using h)]
      rfl
theorem gdB_at (F : Int) : ∀ (l : List De) (T : Nat → Int) (k : Nat), k < l.length → gdB F (gdT T (l.take k)) (l.drop k) = (giB F (-2) (gdT T (l.take k)) (l.getD k deD).po && gdB F (gdT T (l.take (k + 1))) (l.drop (k + 1))) := by
  intro l T k h
  rw [gdT_take l T k h, List.drop_eq_getElem_cons h]
  simp only [gdB, List.getD, List.getElem?_eq_getElem h, Option.getD_some]

/-! ### whose they are -/
theorem fgB_of {F : Int} {T : Nat → Int} {x : Int} (h : fgB F T x = true) : 0 ≤ x ∧ x < F ∧ T x.toNat = -1 := by
  unfold fgB at h
  simp only [Bool.and_eq_true, decide_eq_true_eq] at h
  exact ⟨h.1.1, h.1.2, h.2⟩
theorem giB_mem {F o : Int} (ho : o ≠ -1) : ∀ (l : List Int) (T : Nat → Int), giB F o T l = true → ∀ x ∈ l, 0 ≤ x ∧ x < F ∧ T x.toNat = -1 := by
  intro l
  induction l with
  | nil => intro T _ x hx; cases hx
  | cons y l ih =>
    intro T h x hx
    simp only [giB, Bool.and_eq_true] at h
    have h0 := fgB_of h.1
    rcases List.mem_cons.1 hx with rfl | hx
    · exact h0
    · obtain ⟨h1, h2, h3⟩ := ih _ h.2 x hx
      refine ⟨h1, h2, ?_⟩
      unfold updT at h3
      split at h3
      · exact absurd h3 ho
      · exact h3
theorem giT_at {F o : Int} (ho : o ≠ -1) : ∀ (l : List Int) (T : Nat → Int), giB F o T l = true → ∀ k : Nat, giT o T l k = if (k : Int) ∈ l then o else T k := by
  intro l
  induction l with
  | nil => intro T _ k; simp [giT]
  | cons y l ih =>
    intro T h k
    simp only [giB, Bool.and_eq_true] at h
    obtain ⟨h1, h2, h3⟩ := fgB_of h.1
    simp only [giT]
    rw [ih _ h.2 k]
    by_cases hk : (k : Int) ∈ l
    · rw [if_pos hk, if_pos (List.mem_cons_of_mem _ hk)]
    · rw [if_neg hk]
      unfold updT
      by_cases e : k = y.toNat
      · rw [if_pos e, if_pos (by rw [e, Int.toNat_of_nonneg h1]; exact List.mem_cons_self ..)]
      · rw [if_neg e, if_neg (by
          intro hm
          rcases List.mem_cons.1 hm with hm | hm
          · exact e (by omega)
          · exact hk hm)]
theorem ownP_lo : ∀ (l : List Pa) (i f : Int), ownP i l f = -1 ∨ i ≤ ownP i l f ∧ ownP i l f < i + l.length := by
  intro l
  induction l with
  | nil => intro i f; exact .inl rfl
  | cons p l ih =>
    intro i f
    simp only [ownP, List.length_cons]
    split
    · right; omega
    · rcases ih (i + 1) f with h | h
      · exact .inl h
      · right; omega
theorem gpB_taken {F : Int} : ∀ (l : List Pa) (i : Int) (T : Nat → Int), 0 ≤ i → gpB F i T l = true → ∀ k : Nat, T k ≠ -1 → ownP i l k = -1 ∧ gpT i T l k = T k := by
  intro l
  induction l with
  | nil => intro i T _ _ k _; exact ⟨rfl, rfl⟩
  | cons p l ih =>
    intro i T hi h k hk
    simp only [gpB, Bool.and_eq_true] at h
    have hn : ¬ (k : Int) ∈ p.fr := by
      intro hm
      have := (giB_mem (by omega) _ _ h.1 _ hm).2.2
      simp only [Int.toNat_natCast] at this
      exact hk this
    have h1 := giT_at (by omega) _ _ h.1 k
    rw [if_neg hn] at h1
    obtain ⟨h2, h3⟩ := ih (i + 1) _ (by omega) h.2 k (by rw [h1]; exact hk)
    simp only [ownP, gpT]
    rw [if_neg hn]
    exact ⟨h2, by rw [h3, h1]⟩
theorem gpT_at {F : Int} : ∀ (l : List Pa) (i : Int) (T : Nat → Int), 0 ≤ i → gpB F i T l = true → ∀ k : Nat, gpT i T l k = if ownP i l k = -1 then T k else ownP i l k := by
  intro l
  induction l with
  | nil => intro i T _ _ k; simp [gpT, ownP]
  | cons p l ih =>
    intro i T hi h k
    simp only [gpB, Bool.and_eq_true] at h
    have h1 := giT_at (show i ≠ -1 by omega) _ _ h.1 k
    have e0 : ownP i (p :: l) k = if (k : Int) ∈ p.fr then i else ownP (i + 1) l k := rfl
    simp only [gpT]
    by_cases hm : (k : Int) ∈ p.fr
    · rw [if_pos hm] at h1 e0
      rw [e0, (gpB_taken l (i + 1) _ (by omega) h.2 k (by rw [h1]; omega)).2, h1, if_neg (show ¬ i = -1 by omega)]
    · rw [if_neg hm] at h1 e0
      rw [e0, ih (i + 1) _ (by omega) h.2 k, h1]
theorem gdT_at {F : Int} : ∀ (l : List De) (T : Nat → Int), gdB F T l = true → ∀ k : Nat, (T k ≠ -1 → gdT T l k = T k) ∧ (T k = -1 → gdT T l k < 0) := by
  intro l
  induction l with
  | nil => intro T _ k; exact ⟨fun _ => rfl, fun h => by simp only [gdT]; omega⟩
  | cons d l ih =>
    intro T h k
    simp only [gdB, Bool.and_eq_true] at h
    have h1 := giT_at (show (-2 : Int) ≠ -1 by omega) _ _ h.1 k
    obtain ⟨h2, h3⟩ := ih _ h.2 k
    simp only [gdT]
    constructor
    · intro hk
      have hn : ¬ (k : Int) ∈ d.po := by
        intro hm
        have := (giB_mem (by omega) _ _ h.1 _ hm).2.2
        simp only [Int.toNat_natCast] at this
        exact hk this
      rw [if_neg hn] at h1
      rw [h2 (by rw [h1]; exact hk), h1]
    · intro hk
      by_cases hm : (k : Int) ∈ d.po
      · rw [if_pos hm] at h1
        rw [h2 (by rw [h1]; omega), h1]; omega
      · rw [if_neg hm] at h1
        exact h3 (by rw [h1]; exact hk)
theorem ownP_range {F : Int} : ∀ (l : List Pa) (i : Int) (T : Nat → Int), 0 ≤ i → gpB F i T l = true → ∀ f : Int, ownP i l f ≠ -1 → 0 ≤ f ∧ f < F := by
  intro l
  induction l with
  | nil => intro i T _ _ f h; exact absurd rfl h
  | cons p l ih =>
    intro i T hi h f hf
    simp only [gpB, Bool.and_eq_true] at h
    simp only [ownP] at hf
    by_cases hm : f ∈ p.fr
    · have := giB_mem (show i ≠ -1 by omega) _ _ h.1 _ hm
      exact ⟨this.1, this.2.1⟩
    · rw [if_neg hm] at hf
      exact ih (i + 1) _ (by omega) h.2 f hf
theorem ownP_part {F : Int} : ∀ (l : List Pa) (i : Int) (T : Nat → Int), 0 ≤ i → gpB F i T l = true → ∀ (j : Nat) (f : Int), j < l.length → (f ∈ (l.getD j paD).fr ↔ ownP i l f = i + j) := by
  intro l
  induction l with
  | nil => intro i T _ _ j f h; simp at h
  | cons p l ih =>
    intro i T hi h j f hj
    simp only [gpB, Bool.and_eq_true] at h
    simp only [ownP]
    match j with
    | 0 =>
      have e0 : ((p :: l).getD 0 paD) = p := rfl
      rw [e0]
      constructor
      · intro hm; rw [if_pos hm]; omega
      · intro he
        by_cases hm : f ∈ p.fr
        · exact hm
        · rw [if_neg hm] at he
          have := ownP_lo l (i + 1) f
          omega
    | j + 1 =>
      have e0 : ((p :: l).getD (j + 1) paD) = l.getD j paD := rfl
      have hj' : j < l.length := by simpa using hj
      rw [e0, ih (i + 1) _ (by omega) h.2 j f hj']
      by_cases hm : f ∈ p.fr
      · rw [if_pos hm]
        have hr := giB_mem (show i ≠ -1 by omega) _ _ h.1 _ hm
        have h1 := giT_at (show i ≠ -1 by omega) _ _ h.1 f.toNat
        rw [Int.toNat_of_nonneg hr.1, if_pos hm] at h1
        have h2 := (gpB_taken l (i + 1) _ (by omega) h.2 f.toNat (by rw [h1]; omega)).1
        rw [Int.toNat_of_nonneg hr.1] at h2
        rw [h2]
        omega
      · rw [if_neg hm]; omega
/-- All that the program asks of its table. -/
theorem own_table {c : Cf} (h : unB c = true) (f : Int) : ownF c f = -1 ∨ (0 ≤ ownF c f ∧ ownF c f < c.ps.length ∧ 0 ≤ f ∧ f < c.fr ∧ ownM c f.toNat = ownF c f) := by
  unfold unB at h
  rw [Bool.and_eq_true] at h
  by_cases hf : ownF c f = -1
  · exact .inl hf
  · right
    have hr := ownP_range _ _ _ (by omega) h.1 f hf
    have hl := ownP_lo c.ps 0 f
    have h1 := gpT_at _ _ _ (by omega) h.1 f.toNat
    have hn : ownP 0 c.ps f ≠ -1 := hf
    rw [Int.toNat_of_nonneg hr.1, if_neg hn] at h1
    have h2 := (gdT_at _ _ h.2 f.toNat).1 (by rw [h1]; exact hn)
    refine ⟨by unfold ownF; omega, by unfold ownF; omega, hr.1, hr.2, ?_⟩
    show gdT _ _ _ = _
    rw [h2, h1]; rfl
theorem own_table_no {c : Cf} (h : unB c = true) (f : Int) (hf : ownF c f = -1) (h0 : 0 ≤ f) : ownM c f.toNat < 0 := by
  unfold unB at h
  rw [Bool.and_eq_true] at h
  have h1 := gpT_at _ _ _ (by omega) h.1 f.toNat
  rw [Int.toNat_of_nonneg h0] at h1
  have hf' : ownP 0 c.ps f = -1 := hf
  rw [if_pos hf'] at h1
  exact (gdT_at _ _ h.2 f.toNat).2 (by rw [h1]; rfl)
theorem own_part {c : Cf} (h : unB c = true) (j : Nat) (f : Int) (hj : j < c.ps.length) : decide (f ∈ (c.ps.getD j paD).fr) = decide (ownF c f = (j : Int)) := by
  unfold unB at h
  rw [Bool.and_eq_true] at h
  have := ownP_part _ _ _ (by omega) h.1 j f hj
  rw [Int.zero_add] at this
  exact decide_eq_decide.2 this

end Go.Proofs.Ytamhnnkmjhapmaa
