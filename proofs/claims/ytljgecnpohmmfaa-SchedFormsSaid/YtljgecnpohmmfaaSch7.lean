/-
  Plain facts on windows that may be: each delivers and opens at an offset of its own; who is next; a round of offsets; one partition's own windows. No Go function here.
-/
import Derived.Test.YtljgecnpohmmfaaSch0
namespace Go.Proofs.Ytljgecnpohmmfaa
open Go.RowKit
set_option linter.unusedVariables false
set_option maxRecDepth 100000

/-- Windows may be: told of each and of each two. -/
theorem mayW_iff (l : List Win) (m p : Int) : mayW l m p = true ↔ (1 ≤ m ∧ m ≤ 64 ∧ 1 ≤ p ∧ p ≤ 4 ∧ 1 ≤ l.length ∧ l.length ≤ 8) ∧ (∀ x ∈ l, fitW x m p = true) ∧ l.Pairwise (fun x y => metB y x = false) := by
  constructor
  · intro h
    obtain ⟨h1, h2⟩ := mayW_all h
    refine ⟨h1, fun x hx => ?_, ?_⟩
    · obtain ⟨j, hj, rfl⟩ := List.getElem_of_mem hx
      exact (h2 j hj).1
    · rw [List.pairwise_iff_getElem]
      intro i j hi hj hij
      have := (h2 j hj).2
      rw [List.any_eq_false] at this
      have := this l[i] (List.mem_iff_getElem.2 ⟨i, by rw [List.length_take]; omega, by rw [List.getElem_take]⟩)
      simpa using this
  · rintro ⟨h1, h2, h3⟩
    refine mayW_yes (decide_eq_true h1) (fun k hk => ok_yes hk (h2 _ (List.getElem_mem hk)) ?_)
    rw [List.any_eq_false]
    intro x hx
    obtain ⟨i, hi, rfl⟩ := List.getElem_of_mem hx
    rw [List.length_take] at hi
    rw [List.getElem_take]
    have := (List.pairwise_iff_getElem.1 h3) i k (by omega) hk (by omega)
    simp [this]

/-- Whose mark is so. -/
def atF (f : Win → Int) (l : List Win) (o : Int) : Int := match l.find? (fun x => decide (f x = o)) with
  | some x => x.p
  | none => -1
theorem dlv_at (l : List Win) (o : Int) : dlv l o = atF Win.d l o := rfl
theorem opn_at (l : List Win) (o : Int) : opn l o = atF Win.s l o := rfl

theorem at_cons (f : Win → Int) (x : Win) (l : List Win) (o : Int) : atF f (x :: l) o = if f x = o then x.p else atF f l o := by
  unfold atF
  by_cases h : f x = o
  · rw [List.find?_cons_of_pos (by simp [h]), if_pos h]
  · rw [List.find?_cons_of_neg (by simp [h]), if_neg h]
/-- Each by its own mark. -/
theorem at_mem {f : Win → Int} {l : List Win} (hp : l.Pairwise (fun x y => f x ≠ f y)) {x : Win} (hx : x ∈ l) : atF f l (f x) = x.p := by
  induction l with
  | nil => cases hx
  | cons y l ih =>
    rw [at_cons]
    rw [List.pairwise_cons] at hp
    rcases List.mem_cons.1 hx with rfl | hx
    · rw [if_pos rfl]
    · rw [if_neg (hp.1 x hx)]; exact ih hp.2 hx
theorem at_of {f : Win → Int} {l : List Win} {o p : Int} (h : atF f l o = p) (hp : 0 ≤ p) : ∃ x ∈ l, f x = o ∧ x.p = p := by
  induction l with
  | nil => unfold atF at h; simp at h; omega
  | cons y l ih =>
    rw [at_cons] at h
    split at h
    · exact ⟨y, by simp, by assumption, h⟩
    · obtain ⟨x, hx, h1, h2⟩ := ih h
      exact ⟨x, List.mem_cons_of_mem _ hx, h1, h2⟩
theorem at_ge {f : Win → Int} {l : List Win} (hl : ∀ x ∈ l, 0 ≤ x.p) (o : Int) : -1 ≤ atF f l o ∧ (0 ≤ atF f l o ↔ l.any (fun x => decide (f x = o)) = true) := by
  induction l with
  | nil => unfold atF; simp
  | cons y l ih =>
    rw [at_cons]
    have hy := hl y (by simp)
    have := ih (fun x hx => hl x (List.mem_cons_of_mem _ hx))
    by_cases h : f y = o
    · rw [if_pos h]; simp [h]; omega
    · rw [if_neg h]; simp [h]; simpa using this

section
variable {l : List Win} {m p : Int}
theorem may_d (h : mayW l m p = true) : l.Pairwise (fun x y => x.d ≠ y.d) := by
  obtain ⟨_, h2, h3⟩ := (mayW_iff l m p).1 h
  refine List.Pairwise.imp_of_mem ?_ h3
  intro x y hx hy hm e
  have a := fit_of (h2 x hx)
  have b := fit_of (h2 y hy)
  have := of_decide_eq_false hm
  omega
theorem may_s (h : mayW l m p = true) : l.Pairwise (fun x y => x.s ≠ y.s) := by
  obtain ⟨_, h2, h3⟩ := (mayW_iff l m p).1 h
  refine List.Pairwise.imp_of_mem ?_ h3
  intro x y hx hy hm e
  have a := fit_of (h2 x hx)
  have b := fit_of (h2 y hy)
  have := of_decide_eq_false hm
  omega
theorem may_in (h : mayW l m p = true) {x : Win} (hx : x ∈ l) : 0 ≤ x.p ∧ x.p < p ∧ 0 ≤ x.s ∧ x.s < m ∧ 0 ≤ x.d ∧ x.d < m := by
  obtain ⟨_, h2, _⟩ := (mayW_iff l m p).1 h
  have := fit_of (h2 x hx)
  omega
theorem may_m (h : mayW l m p = true) : 1 ≤ m ∧ m ≤ 64 ∧ l.length ≤ 8 := by
  have := ((mayW_iff l m p).1 h).1
  omega
end

/-! ### who is next -/
theorem wt_mem (l : List Win) (p m o a : Int) : wtW l p m o a = a ∨ ∃ x ∈ l, x.p = p ∧ (x.d - o + m) % m = wtW l p m o a := by
  induction l generalizing a with
  | nil => exact .inl rfl
  | cons y l ih =>
    simp only [wtW]
    rcases ih (if y.p = p then (if (y.d - o + m) % m < a then (y.d - o + m) % m else a) else a) with h | ⟨x, hx, h1, h2⟩
    · rw [h]
      by_cases hp : y.p = p
      · rw [if_pos hp]
        split
        · exact .inr ⟨y, by simp, hp, rfl⟩
        · exact .inl rfl
      · rw [if_neg hp]; exact .inl rfl
    · exact .inr ⟨x, List.mem_cons_of_mem _ hx, h1, h2⟩
theorem wt_min (l : List Win) (p m o a : Int) {x : Win} (hx : x ∈ l) (hp : x.p = p) : wtW l p m o a ≤ (x.d - o + m) % m := by
  induction l generalizing a with
  | nil => cases hx
  | cons y l ih =>
    simp only [wtW]
    rcases List.mem_cons.1 hx with rfl | hx
    · refine Int.le_trans (wt_le _ _ _ _ _) ?_
      rw [if_pos hp]
      split <;> omega
    · exact ih _ hx
theorem wt_lt {l : List Win} {p m o : Int} (hm : 0 < m) {x : Win} (hx : x ∈ l) (hp : x.p = p) : wtW l p m o m ≠ m := by
  have a := wt_min l p m o m hx hp
  have b := Int.emod_lt_of_pos (x.d - o + m) hm
  omega
theorem wt_filter (l : List Win) (p m o a : Int) : wtW (l.filter (fun x => decide (x.p = p))) p m o a = wtW l p m o a := by
  induction l generalizing a with
  | nil => rfl
  | cons y l ih =>
    by_cases hp : y.p = p
    · rw [List.filter_cons_of_pos (by simp [hp])]
      simp only [wtW]
      exact ih _
    · rw [List.filter_cons_of_neg (by simp [hp])]
      simp only [wtW, if_neg hp]
      exact ih _

/-- Offsets: how far it is from a tick's to a window's. -/
theorem off_to {t d m : Int} (hm : 0 < m) (h0 : 0 ≤ d) (h1 : d < m) : (t + (d - t % m + m) % m) % m = d := by
  rw [Int.add_emod_right]
  have : (t + (d - t % m) % m) % m = (t % m + (d - t % m)) % m := by
    rw [Int.add_emod, Int.emod_emod_of_dvd _ (Int.dvd_refl m), ← Int.add_emod, Int.emod_add_emod]
  rw [this, show t % m + (d - t % m) = d by omega]
  exact Int.emod_eq_of_lt h0 h1
theorem off_from {t i m : Int} (hm : 0 < m) (h0 : t ≤ i) (h1 : i < t + m) : (i % m - t % m + m) % m = i - t := by
  rw [Int.add_emod_right, ← Int.sub_emod]
  exact Int.emod_eq_of_lt (by omega) (by omega)

theorem ask_may {l : List Win} {m t : Int} (h : mayW l m 4 = true) (h0 : 0 ≤ t) (h1 : t ≤ 1048575) : askW l m t = true := by
  unfold askW; rw [h, decide_eq_true ⟨h0, h1⟩]; rfl
theorem ask_no {l : List Win} {m t : Int} (h : mayW l m 4 = false) : askW l m t = false := by unfold askW; rw [h]; simp
theorem ask_off {l : List Win} {m t : Int} (h : t < 0 ∨ 1048575 < t) : askW l m t = false := by
  unfold askW; rw [decide_eq_false (by omega)]; rfl
theorem dlvN_no {l : List Win} {m t : Int} (h : askW l m t = false) : dlvN l m t = -1 := by unfold dlvN; rw [h]; rfl
theorem opnN_no {l : List Win} {m t : Int} (h : askW l m t = false) : opnN l m t = -1 := by unfold opnN; rw [h]; rfl
theorem dlvN_at {l : List Win} {m t : Int} (h : mayW l m 4 = true) (h0 : 0 ≤ t) (h1 : t ≤ 1048575) : dlvN l m t = atF Win.d l (t % m) := by unfold dlvN; rw [ask_may h h0 h1]; rfl
theorem opnN_at {l : List Win} {m t : Int} (h : mayW l m 4 = true) (h0 : 0 ≤ t) (h1 : t ≤ 1048575) : opnN l m t = atF Win.s l (t % m) := by unfold opnN; rw [ask_may h h0 h1]; rfl

/-- What Next answers: nothing, or the wait of a window of p. -/
theorem nxt_parts (l : List Win) (m p t : Int) : (nxtN l m p t = 0 ∧ nxtC l m p t = 1000 ∧ (askW l m t = false ∨ askW l m t = true ∧ ∀ x ∈ l, x.p ≠ p)) ∨
    (nxtN l m p t = t + wtW l p m (t % m) m ∧ nxtC l m p t = 0 ∧ askW l m t = true ∧ wtW l p m (t % m) m ≠ m) := by
  unfold nxtN nxtC
  cases hA : askW l m t with
  | false => exact .inl ⟨rfl, rfl, .inl rfl⟩
  | true =>
    by_cases hw : wtW l p m (t % m) m = m
    · refine .inl ⟨by simp [hw], by simp [hw], .inr ⟨rfl, fun x hx hp => ?_⟩⟩
      have hM : mayW l m 4 = true := by unfold askW at hA; rw [Bool.and_eq_true] at hA; exact hA.2
      exact wt_lt (by have := may_m hM; omega) hx hp hw
    · exact .inr ⟨by simp [hw], by simp [hw], rfl, hw⟩

/-- All that SchedNext asks of an answer. -/
theorem next_facts {l : List Win} {m p t : Int} (ht0 : 0 ≤ t) (ht1 : t ≤ 1023) (hA : askW l m t = true) (hw : wtW l p m (t % m) m ≠ m) :
    ∃ W : Int, wtW l p m (t % m) m = W ∧ 0 ≤ W ∧ W < m ∧ m ≤ 64 ∧ 0 ≤ p ∧ dlvN l m (t + W) = p ∧ dlvN l m (t + W + m) = p ∧ ∀ i, t ≤ i → i < t + W → dlvN l m i ≠ p := by
  have hM : mayW l m 4 = true := by unfold askW at hA; rw [Bool.and_eq_true] at hA; exact hA.2
  obtain ⟨m1, m2, _⟩ := may_m hM
  rcases wt_mem l p m (t % m) m with h | ⟨x, hx, hp, hxw⟩
  · exact absurd h hw
  have hmin := fun (y : Win) hy hp => wt_min l p m (t % m) m (x := y) hy hp
  generalize wtW l p m (t % m) m = W at *
  have b0 := Int.emod_nonneg (x.d - t % m + m) (show m ≠ 0 by omega)
  have b1 := Int.emod_lt_of_pos (x.d - t % m + m) (show 0 < m by omega)
  have hin := may_in hM hx
  have ho : (t + W) % m = x.d := by rw [← hxw]; exact off_to (by omega) hin.2.2.2.2.1 hin.2.2.2.2.2
  have hd := at_mem (may_d hM) hx
  refine ⟨W, rfl, by omega, by omega, m2, by omega, ?_, ?_, fun i h1 h2 he => ?_⟩
  · rw [dlvN_at hM (by omega) (by omega), ho, hd, hp]
  · rw [dlvN_at hM (by omega) (by omega), Int.add_emod_right, ho, hd, hp]
  · rw [dlvN_at hM (by omega) (by omega)] at he
    obtain ⟨y, hy, hyd, hyp⟩ := at_of he (by omega)
    have := hmin y hy hyp
    rw [hyd, off_from (by omega) h1 (by omega)] at this
    omega

/-! ### a round of offsets -/
/-- How many of c ticks from t on are so. -/
def hits (f : Int → Bool) (t : Int) : Nat → Nat
  | 0 => 0
  | c + 1 => hits f t c + (if f (t + (c : Int)) then 1 else 0)
theorem hits_le (f : Int → Bool) (t : Int) (c : Nat) : hits f t c ≤ c := by
  induction c with
  | zero => exact Nat.le_refl _
  | succ c ih => simp only [hits]; split <;> omega
theorem hits_or (f g : Int → Bool) (t : Int) (hfg : ∀ i, f i = true → g i = false) (c : Nat) : hits (fun i => f i || g i) t c = hits f t c + hits g t c := by
  induction c with
  | zero => rfl
  | succ c ih =>
    simp only [hits, ih]
    have hg := hfg (t + (c : Int))
    by_cases h : f (t + (c : Int)) = true
    · simp [h, hg h]; omega
    · by_cases h' : g (t + (c : Int)) = true
      · simp [h, h']; omega
      · simp [h, h']
theorem hits_one {m d t : Int} (hm : 0 < m) (h0 : 0 ≤ d) (h1 : d < m) (c : Nat) (hc : (c : Int) ≤ m) : hits (fun i => decide (d = i % m)) t c = if (d - t % m + m) % m < (c : Int) then 1 else 0 := by
  have b0 := Int.emod_nonneg (d - t % m + m) (show m ≠ 0 by omega)
  induction c with
  | zero => simp only [hits]; rw [if_neg (by omega)]
  | succ c ih =>
    simp only [hits]
    rw [ih (by omega)]
    have key : d = (t + (c : Int)) % m ↔ (d - t % m + m) % m = (c : Int) := by
      constructor
      · intro h
        rw [h, off_from hm (by omega) (by omega)]
        omega
      · intro h
        rw [← h, off_to hm h0 h1]
    by_cases h : d = (t + (c : Int)) % m
    · have := key.1 h
      rw [if_neg (by omega), if_pos (show decide (d = (t + (c : Int)) % m) = true from decide_eq_true h), if_pos (by omega)]
    · have := mt key.2 h
      rw [if_neg (show ¬ (decide (d = (t + (c : Int)) % m) = true) by rw [decide_eq_true_eq]; exact h)]
      by_cases h2 : (d - t % m + m) % m < (c : Int)
      · rw [if_pos h2, if_pos (by omega)]
      · rw [if_neg h2, if_neg (by omega)]
theorem hits_all {f : Win → Int} {l : List Win} {m : Int} (hm : 0 < m) (hp : l.Pairwise (fun x y => f x ≠ f y)) (hin : ∀ x ∈ l, 0 ≤ f x ∧ f x < m) (t : Int) (c : Nat) (hc : (c : Int) = m) : hits (fun i => l.any (fun x => decide (f x = i % m))) t c = l.length := by
  induction l with
  | nil =>
    have : ∀ c, hits (fun i => ([] : List Win).any (fun x => decide (f x = i % m))) t c = 0 := by
      intro c; induction c with
      | zero => rfl
      | succ c ih => simp only [hits, ih]; simp
    exact this c
  | cons y l ih =>
    rw [List.pairwise_cons] at hp
    have hy := hin y (by simp)
    have e : (fun i => (y :: l).any (fun x => decide (f x = i % m))) = fun i => decide (f y = i % m) || l.any (fun x => decide (f x = i % m)) := by funext i; rw [List.any_cons]
    rw [e, hits_or _ _ _ (fun i hi => by
      rw [List.any_eq_false]
      intro x hx
      have h1 := hp.1 x hx
      have h2 := of_decide_eq_true hi
      simp only [decide_eq_true_eq]
      omega), hits_one hm hy.1 hy.2 c (by omega), ih hp.2 (fun x hx => hin x (List.mem_cons_of_mem _ hx))]
    have b1 := Int.emod_lt_of_pos (f y - t % m + m) hm
    rw [if_pos (by omega), List.length_cons]
    omega

/-! ### one partition's own -/
theorem may_own {l : List Win} {m p : Int} (h : mayW l m 4 = true) (hx : ∃ x ∈ l, x.p = p) : mayW (l.filter (fun x => decide (x.p = p))) m 4 = true := by
  obtain ⟨h1, h2, h3⟩ := (mayW_iff l m 4).1 h
  refine (mayW_iff _ m 4).2 ⟨?_, fun x hx => h2 x ((List.mem_filter.1 hx).1), h3.filter _⟩
  have hl := List.length_filter_le (fun x : Win => decide (x.p = p)) l
  obtain ⟨x, hx, hp⟩ := hx
  have : 0 < (l.filter (fun x => decide (x.p = p))).length := List.length_pos_of_mem (List.mem_filter.2 ⟨hx, by simp [hp]⟩)
  omega
/-- Whether a tick delivers to p is told of its own windows alone. -/
theorem dlv_own {l : List Win} {m p t : Int} (h : mayW l m 4 = true) (hx : ∃ x ∈ l, x.p = p) (hp : 0 ≤ p) (h0 : 0 ≤ t) (h1 : t ≤ 1048575) : dlvN (l.filter (fun x => decide (x.p = p))) m t = p ↔ dlvN l m t = p := by
  have ho := may_own h hx
  rw [dlvN_at h h0 h1, dlvN_at ho h0 h1]
  constructor
  · intro he
    obtain ⟨x, hx, hd, hxp⟩ := at_of he hp
    rw [← hd, at_mem (may_d h) ((List.mem_filter.1 hx).1), hxp]
  · intro he
    obtain ⟨x, hx, hd, hxp⟩ := at_of he hp
    rw [← hd, at_mem (may_d ho) (List.mem_filter.2 ⟨hx, by simp [hxp]⟩), hxp]

end Go.Proofs.Ytljgecnpohmmfaa
