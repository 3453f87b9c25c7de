/-
  Layer 15, the program: New; Tick of one of several.
-/
import Derived.Test.YtgamfejgpdampaaAs3
import Derived.Test.YtgamfejgpdampaaSli
namespace Go.Proofs.Ytgamfejgpdampaa
open Go.RowKit Go.ChangeMaps
set_option linter.unusedVariables false
set_option maxRecDepth 100000

section
variable {S : Nat → Prop} {W0 : World} {os os' : List Ob} {i g q P D : Nat} {O : Nat → Int} {L : Nat → Nat}
theorem tk_atick (w : World) (h : Tk S W0 os w) (hi : os[i]? = some (obPA g q P D O L)) :
    Calls Try.prog 13 #[.pointer (some ⟨g, 0, none⟩)] w fun e w' => ∃ v, e = .returned v ∧ Tk S W0 (obJ v (atE L D) :: os.set i (obPA g q P D O (atL L D))) w' := by
  obtain ⟨S1, q, _, k⟩ := h.call hi
  exact (atick_any w q).mono fun e w' ⟨v, he, t⟩ => ⟨v, he, k w' _ [_] (t.perm (.swap _ _ _))⟩
theorem tk_atick_is {l : List Int} (w : World) (h : Tk S W0 os w) (hi : os[i]? = some (obPA g q P D O L)) (hl : atE L D = l) (ho : os.set i (obPA g q P D O (atL L D)) = os') :
    Calls Try.prog 13 #[.pointer (some ⟨g, 0, none⟩)] w fun e w' => ∃ v, e = .returned v ∧ Tk S W0 (obJ v l :: os') w' := by
  have := tk_atick w h hi
  rwa [hl, ho] at this
end

/-- The first k owners. -/
def zO (zs : List Int) (k : Nat) : Nat → Int := fun i => if i < k then zs.getD i 0 else 0
theorem zO_zero (zs : List Int) : zO zs 0 = noI := by funext i; simp [zO, noI]
theorem zO_step (zs : List Int) (k : Nat) : iF (zO zs k) k (zs.getD k 0) = zO zs (k + 1) := by
  funext i
  unfold iF zO
  by_cases h : i = k
  · subst h; rw [if_pos rfl, if_pos (by omega)]
  · rw [if_neg h]
    by_cases h2 : i < k
    · rw [if_pos h2, if_pos (by omega)]
    · rw [if_neg h2, if_neg (by omega)]
theorem noN_put (k : Nat) : uN noN k 0 = noN := by funext i; unfold uN noN; split <;> rfl

/-- The cells of a new table: kept closed to the walk. -/
def zTab : Array Value := (itc noI 15).toArray
theorem zTab_ne : ¬ (zTab = #[]) := by simp [zTab, itc]
theorem zTab_run (w : World) : Sem.run Try.prog (zeroValue 54) w = .ok (.agg zTab) w := by
  have hi : (Try.prog.info? 54).map (fun i => i.zero) = some (some (.agg zTab)) := by kernel_rfl
  cases h : Try.prog.info? 54 with
  | none => rw [h] at hi; cases hi
  | some i =>
    rw [h] at hi
    simp only [Option.map_some, Option.some.injEq] at hi
    simp [zeroValue, typeInfo, h, hi]
theorem zTab_size : zTab.size = 15 := rfl
theorem zTab_set (q P n : Nat) : ((zTab.setIfInBounds 0 (.int .i64 q)).setIfInBounds 1 (.int .i64 P)).setIfInBounds 2 (.int .i64 n) = (itc (acF q P n noI noN) 15).toArray := by
  unfold zTab
  rw [List.setIfInBounds_toArray, List.setIfInBounds_toArray, List.setIfInBounds_toArray, itc_set, itc_set, itc_set]
  congr 1

theorem anew_form (q P : Int) (v : Value) (n : Nat) (zs : List Int) (w : World) (hv : Sl w v n 1 (ints zs)) (h : ¬ ((1 ≤ q ∧ q ≤ 8) ∧ (1 ≤ P ∧ P ≤ 4) ∧ 1 ≤ n ∧ n ≤ 4)) :
    Calls Try.prog 7 #[.int .i64 q, .int .i64 P, v] w fun e w' => e = .returned (.tuple #[.pointer none, .int .i64 1500]) ∧ w = w' := by
  obtain ⟨A, cap, rfl⟩ : ∃ A cap, v = .slice A n cap := by obtain ⟨A, c, e, _⟩ := hv; exact ⟨A, c, e⟩
  clear hv
  have hw : q < 1 ∨ (1 ≤ q ∧ 8 < q) ∨ (1 ≤ q ∧ q ≤ 8 ∧ P < 1) ∨ (1 ≤ q ∧ q ≤ 8 ∧ 1 ≤ P ∧ 4 < P) ∨ (1 ≤ q ∧ q ≤ 8 ∧ 1 ≤ P ∧ P ≤ 4 ∧ (n : Int) < 1) ∨ (1 ≤ q ∧ q ≤ 8 ∧ 1 ≤ P ∧ P ≤ 4 ∧ 1 ≤ (n : Int) ∧ decide ((4 : Int) < n) = true) := by
    simp only [decide_eq_true_eq]
    omega
  clear h
  rcases hw with h1 | ⟨h1, h2⟩ | ⟨h1, h2, h3⟩ | ⟨h1, h2, h3, h4⟩ | ⟨h1, h2, h3, h4, h5⟩ | ⟨h1, h2, h3, h4, h5, h6⟩
  all_goals
    go_enter Try.func7, Try.ntmps7
    go_wp2
    go_ret2
    exact ⟨rfl, rfl⟩

set_option maxHeartbeats 4000000 in
theorem anew_any (q P : Nat) (v : Value) (n : Nat) (zs : List Int) (w : World) (hv : Sl w v n 1 (ints zs)) (q1 : 1 ≤ q) (q8 : q ≤ 8) (p1 : 1 ≤ P) (p4 : P ≤ 4) (n1 : 1 ≤ n) (n4 : n ≤ 4) :
    Calls Try.prog 7 #[.int .i64 q, .int .i64 P, v] w fun e w' => (∃ g, e = .returned (.tuple #[.pointer (some ⟨g, 0, none⟩), .int .i64 0]) ∧ Tk nos w [obPA g q P n (zO zs n) noN] w' ∧ ∀ j, j < n → adB P (zs.getD j 0) = true) ∨ (e = .returned (.tuple #[.pointer none, .int .i64 1500]) ∧ Below w.heap.size w w' ∧ ∃ j, j < n ∧ adB P (zs.getD j 0) = false) := by
  obtain ⟨A, cap, rfl⟩ : ∃ A cap, v = .slice A n cap := by obtain ⟨A, c, e, _⟩ := hv; exact ⟨A, c, e⟩
  have HV := Lib.hid hv; clear hv
  have hz := zTab_run
  have hne := zTab_ne
  have hsz := zTab_size
  have hzs := zTab_set q P n
  have d1 : decide ((q : Int) < 1) = false := by simp; omega
  have d2 : decide ((8 : Int) < q) = false := by simp; omega
  have d3 : decide ((P : Int) < 1) = false := by simp; omega
  have d4 : decide ((4 : Int) < P) = false := by simp; omega
  have d5 : decide ((n : Int) < 1) = false := by simp; omega
  have d6 : decide ((4 : Int) < n) = false := by simp; omega
  have T0 : Hid (Tk nos w [obPA w.heap.size q P n (zO zs 0) noN] (w.alloc (.cells (itc (acF q P n noI noN) 15).toArray 54))) := Lib.hid (by
    rw [zO_zero]
    exact ((Tk.empty w).alloc 54 (itc (acF q P n noI noN) 15)).wrap1 (fun hq => by
      have hq := obs_one.1 hq
      exact ⟨PA.new q1 q8 p4 n4 hq.1 (fun i => by unfold noN; omega), hq.2⟩))
  go_enter Try.func7, Try.ntmps7
  go_wp2_with fail
  change Code.wp _ _ _ _ (w.alloc (.cells (itc (acF q P n noI noN) 15).toArray 54))
  generalize w.alloc (.cells (itc (acF q P n noI noN) 15).toArray 54) = w1 at *
  generalize w.heap.size = g at *
  clear hz hne hsz hzs d1 d2 d3 d4 d5 d6
  go_loopw [43] (fun i wr => ∃ (k : Nat), k ≤ n ∧ i = .int .i64 k ∧ Hid (Tk nos w [obPA g q P n (zO zs k) noN] wr) ∧ ∀ j, j < k → adB P (zs.getD j 0) = true) (fun i _ => 4 - (intOf i).toNat)
  case atStart => exact ⟨0, by omega, rfl, T0, fun j hj => absurd hj (by omega)⟩
  case round =>
    clear T0
    obtain ⟨k, hkn, rfl, HT, hgood⟩ := hrel
    by_cases hlt : k < n
    · have hltI : (k : Int) < n := by omega
      have hk4 : (k : Int) < 4 := by omega
      have hsl := HV.out.below HT.out.below
      obtain ⟨b, o, cap', e, hbw, hcell⟩ := sli_at hsl k hlt
      simp only [Value.slice.injEq] at e
      obtain ⟨rfl, -, -⟩ := e
      have hp := HT.out.pa (i := 0) rfl
      obtain ⟨_, cP, _⟩ := hp.heads
      have HZ := Lib.hid (zO_step zs k)
      obtain ⟨z, hzz⟩ : ∃ z, zs.getD k 0 = z := ⟨_, rfl⟩
      rw [hzz] at hcell HZ
      clear hsl
      cases hgz : adB P z with
      | false =>
        have HG := Lib.hid hgz
        have HX : Hid (∃ j, j < n ∧ adB P (zs.getD j 0) = false) := Lib.hid ⟨k, hlt, by rw [hzz]; exact hgz⟩
        have BX := Lib.hid HT.out.below
        clear hgz hzz hgood hp
        go_wp2_with fail
        refine (ahasP_at _ _ cP).mono ?_
        rintro e w' ⟨rfl, rfl⟩
        rw [HG.out]
        go_wp2_with fail
        go_ret2
        exact .inr ⟨rfl, BX.out, HX.out⟩
      | true =>
        have HG := Lib.hid hgz
        have HX : Hid (∀ j, j < k + 1 → adB P (zs.getD j 0) = true) := Lib.hid (fun j hj => by
          by_cases e : j = k
          · subst e; rw [hzz]; exact hgz
          · exact hgood j (by omega))
        clear hgz hzz hgood
        go_wp2_with fail
        refine (ahasP_at _ _ cP).mono ?_
        rintro e w' ⟨rfl, rfl⟩
        rw [HG.out]
        have HP := Lib.hid hp
        clear hp cP hbw hcell
        go_upto_region 9 with fail
        go_region_with (go_at_call 22; refine (asgd_any _ _).mono ?_; rintro e w3 ⟨rfl, b3⟩; have t3 := (HT.out.drewN 1).next b3; have p3 : PA w3 g q P n (zO zs k) noN := t3.pa (i := 0) rfl; obtain ⟨c0, c1, c2⟩ := p3.at_ k hlt; have f0 := p3.frozen (3 + k * 3); have f1 := p3.frozen (3 + k * 3 + 1); have f2 := p3.frozen (3 + k * 3 + 2))
        all_goals
          have p4 := p3.put k z 0 (by omega)
          rw [noN_put, HZ.out] at p4
          have t4 := t3.setPA (i := 0) rfl p4 (set3A w3 g (3 + k * 3) (3 + k * 3 + 1) (3 + k * 3 + 2) _ _ _)
          have T4 := Lib.hid (show Tk nos w [obPA g q P n (zO zs (k + 1)) noN] _ from t4)
          clear p3 p4 t3 t4 b3
          go_wp2_with fail
          go_roundw
          case rel => exact ⟨k + 1, by omega, by go_num, T4, HX.out⟩
          case measure => simp [intOf]; omega
    · have e : k = n := by omega
      subst e
      have HG := Lib.hid hgood
      clear hgood hlt
      go_wp2_with fail
      go_ret2
      exact .inl ⟨g, rfl, HT.out, HG.out⟩
theorem anew_yes (q P : Nat) (v : Value) (n : Nat) (zs : List Int) (w : World) (hv : Sl w v n 1 (ints zs)) (q1 : 1 ≤ q) (q8 : q ≤ 8) (p1 : 1 ≤ P) (p4 : P ≤ 4) (n1 : 1 ≤ n) (n4 : n ≤ 4) (hz : ∀ j, j < n → adB P (zs.getD j 0) = true) :
    Calls Try.prog 7 #[.int .i64 q, .int .i64 P, v] w fun e w' => ∃ g, e = .returned (.tuple #[.pointer (some ⟨g, 0, none⟩), .int .i64 0]) ∧ Tk nos w [obPA g q P n (zO zs n) noN] w' :=
  (anew_any q P v n zs w hv q1 q8 p1 p4 n1 n4).mono fun e w' h => by
    rcases h with ⟨g, he, t, _⟩ | ⟨_, _, j, hj, hb⟩
    · exact ⟨g, he, t⟩
    · rw [hz j hj] at hb; cases hb
theorem anew_bad (q P : Nat) (v : Value) (n : Nat) (zs : List Int) (w : World) (hv : Sl w v n 1 (ints zs)) (q1 : 1 ≤ q) (q8 : q ≤ 8) (p1 : 1 ≤ P) (p4 : P ≤ 4) (n1 : 1 ≤ n) (n4 : n ≤ 4) (hz : ∃ j, j < n ∧ adB P (zs.getD j 0) = false) :
    Calls Try.prog 7 #[.int .i64 q, .int .i64 P, v] w fun e w' => e = .returned (.tuple #[.pointer none, .int .i64 1500]) ∧ Below w.heap.size w w' :=
  (anew_any q P v n zs w hv q1 q8 p1 p4 n1 n4).mono fun e w' h => by
    rcases h with ⟨g, he, t, hg⟩ | ⟨he, hb, _⟩
    · obtain ⟨j, hj, hb⟩ := hz
      rw [hg j hj] at hb; cases hb
    · exact ⟨he, hb⟩
end Go.Proofs.Ytgamfejgpdampaa
