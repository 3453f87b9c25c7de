/-
  Contracts of the document's Unit: NewUnit, as, Route, Unroute, Mask, Raise, masked, Deliver, Clear.
-/
import Derived.Test.YtjmdgjpepogogaaIr0
import Derived.Test.YtjmdgjpepogogaaPr2
import Derived.Test.YtjmdgjpepogogaaPr3
import Derived.Test.YtjmdgjpepogogaaPr4
import Derived.Test.YtjmdgjpepogogaaRm4
import Derived.Deep.RegionHeld3
namespace Go.Proofs.Ytjmdgjpepogogaa
open Go.RowKit Go.ChangeMaps
set_option linter.unusedVariables false
set_option maxRecDepth 100000

/-- What is masked is there. -/
def okT (T : List Ro) : Prop := ∀ k, (T.getD k ro0).m = true → (T.getD k ro0).is = true
theorem okT.set {T : List Ro} (h : okT T) (i : Nat) (x : Ro) (hx : x.m = true → x.is = true) : okT (T.set i x) := by
  intro k
  simp only [List.getD_eq_getElem?_getD, List.getElem?_set]
  by_cases e : i = k
  · subst e
    rw [if_pos rfl]
    split
    · exact hx
    · exact fun h => by cases h
  · rw [if_neg e]
    have := h k
    rwa [List.getD_eq_getElem?_getD] at this
theorem okT.rs {T : List Ro} (h : okT T) (D : Nat) (d v p : Int) : okT (rsT D T d v p) := by
  unfold rsT; split
  · exact h.set _ _ (fun h => by cases h)
  · exact h
theorem okT.ur {T : List Ro} (h : okT T) (D n : Nat) (d v p : Int) : okT (urT D n T d v p) := by
  unfold urT; split
  · exact h.rs _ _ _ _
  · exact h
theorem okT.ru {T : List Ro} (h : okT T) (D : Nat) (d v : Int) : okT (ruT D T d v) := by
  unfold ruT; split
  · exact h.set _ _ (fun h => by cases h)
  · exact h
theorem okT.rm {T : List Ro} (h : okT T) (D : Nat) (d v : Int) (m : Bool) : okT (rmT D T d v m) := by
  unfold rmT
  by_cases hc : reC D T d v = 0
  · rw [if_pos hc]
    refine h.set _ _ (fun _ => ?_)
    rcases reC_cases D T d v with ⟨_, h2⟩ | ⟨_, _, h2⟩ | ⟨_, h1, _⟩
    · omega
    · omega
    · exact h1
  · rw [if_neg hc]; exact h
theorem okT.rc {T : List Ro} (h : okT T) (hl : T.length = 32) (D : Nat) (hD : D ≤ 4) (d : Int) : okT (rcT D T d) := by
  unfold rcT
  split
  · rename_i hb
    intro k
    simp only [rcB, decide_eq_true_eq] at hb
    rw [clrT_get T d.toNat k (by omega)]
    split
    · exact fun h => by cases h
    · exact h k
  · exact h
theorem okT.new : okT newT := by
  intro k
  unfold newT
  simp only [List.getD_eq_getElem?_getD, List.getElem?_replicate]
  split <;> exact fun h => by cases h
/-- Where what is masked is there, the entry's own mark tells it. -/
theorem mB_in {D : Nat} {T : List Ro} (h : okT T) {d v : Nat} (hd : d < D) (hv : v < 8) : mB D T (d * 8 + v) = (T.getD (d * 8 + v) ro0).m := by
  unfold mB
  rw [show (d * 8 + v) / 8 = d by omega, show (d * 8 + v) % 8 = v by omega]
  have hi : inR D d v = true := by unfold inR; simp; omega
  have ha : atR T d v = T.getD (d * 8 + v) ro0 := by unfold atR ixR; simp
  unfold rlM reC
  rw [hi, ha]
  have hk := h (d * 8 + v)
  cases his : (T.getD (d * 8 + v) ro0).is with
  | true => simp
  | false =>
    cases hm : (T.getD (d * 8 + v) ro0).m with
    | true => have := hk hm; rw [his] at this; cases this
    | false => simp
theorem mB_out {D : Nat} {T : List Ro} {k : Nat} (hk : D * 8 ≤ k) : mB D T k = false := by
  unfold mB rlM
  have hi : inR D ((k / 8 : Nat) : Int) ((k % 8 : Nat) : Int) = false := by unfold inR; simp; omega
  unfold reC
  rw [hi]; rfl
theorem irN_more {P : Nat → Bool} {a : Nat} : ∀ b, (∀ k, a ≤ k → P k = false) → irN P (a + b) = irN P a
  | 0, _ => rfl
  | b + 1, h => by rw [show a + (b + 1) = a + b + 1 by omega, irN_no (h _ (by omega)), irN_more b h]
theorem irN_mB {D : Nat} (T : List Ro) (hD : D ≤ 4) : irN (mB D T) (D * 8) = irN (mB D T) 32 := by
  have := irN_more (P := mB D T) (a := D * 8) (32 - D * 8) (fun k hk => mB_out hk)
  rw [show D * 8 + (32 - D * 8) = 32 by omega] at this
  exact this.symm
theorem tF_all (F : Nat → Bool) (p : Nat) (M : List Iq) : tF F p M 32 = takF F p M := by
  funext i
  unfold tF takF
  by_cases e : i / 32 = p
  · rw [if_pos ⟨e, by omega⟩, if_pos e]
  · rw [if_neg (fun h => e h.1), if_neg e]

/-- The document's table, its Pending, its Unit, each as a thing. -/
def obRR (r b D : Nat) (T : List Ro) : Ob :=
  ⟨fun S w => RR w r b D T ∧ ∀ k, S k ↔ (k = r ∨ k = b), fun ⟨h, e⟩ hk hs => ⟨⟨h.le, h.len, (hk r h.blk.lt ((e r).2 (.inl rfl))).trans h.blk, (hk b h.row.lt ((e b).2 (.inr rfl))).trans h.row⟩, e⟩, fun ⟨h, e⟩ hb => ((e _).1 hb).elim (fun e => e ▸ h.blk.lt) (fun e => e ▸ h.row.lt)⟩
def obRP (r n b : Nat) (F : Nat → Bool) : Ob :=
  ⟨fun S w => RP w r n b F ∧ ∀ k, S k ↔ (k = r ∨ k = b), fun ⟨h, e⟩ hk hs => ⟨h.stay (hk r h.blk.lt ((e r).2 (.inl rfl))) (hk b h.row.lt ((e b).2 (.inr rfl))), e⟩, fun ⟨h, e⟩ hb => ((e _).1 hb).elim (fun e => e ▸ h.blk.lt) (fun e => e ▸ h.row.lt)⟩
/-- The cells of the document's Unit; its three things. -/
def dC (n r s : Nat) : List Value := [.pointer (some ⟨r, 0, none⟩), .pointer (some ⟨s, 0, none⟩), .int .i64 n]
theorem dC_at {w : World} {y n r s : Nat} (h : Blk w y 68 (dC n r s)) : w.cell? ⟨y, 0, none⟩ = some (.pointer (some ⟨r, 0, none⟩)) ∧ w.cell? ⟨y, 1, none⟩ = some (.pointer (some ⟨s, 0, none⟩)) ∧ w.cell? ⟨y, 2, none⟩ = some (.int .i64 n) := by
  refine ⟨?_, ?_, ?_⟩ <;> (rw [h.cell]; rfl)
def dO (y n r b s c D : Nat) (T : List Ro) (F : Nat → Bool) : List Ob := [obB y 68 (dC n r s), obRR r b D T, obRP s n c F]
def obD (y D n : Nat) (T : List Ro) (F : Nat → Bool) : Ob :=
  obX fun x : (Nat × Nat) × (Nat × Nat) => obP (okT T) (obs (dO y n x.1.1 x.1.2 x.2.1 x.2.2 D T F))

section
variable {S : Nat → Prop} {W0 w w' : World} {os : List Ob} {i y n r b s c D : Nat} {T T' : List Ro} {F G : Nat → Bool}
theorem Tk.unD (q : (obD y D n T F).Q S w) : ∃ r b s c, okT T ∧ Tk S w (dO y n r b s c D T F) w := by
  obtain ⟨⟨⟨r, b⟩, s, c⟩, ok, q⟩ := q
  exact ⟨r, b, s, c, ok, Tk.start q⟩
theorem Tk.mkD (h : Tk S W0 (dO y n r b s c D T F) w) (ok : okT T) : Tk S W0 [obD y D n T F] w := h.wrap1 (fun q => ⟨((r, b), (s, c)), ok, q⟩)
theorem Tk.blkD (h : Tk S W0 (dO y n r b s c D T F) w) : Blk w y 68 (dC n r s) := h.blk (i := 0) rfl
theorem Tk.rrD (h : Tk S W0 (dO y n r b s c D T F) w) : RR w r b D T := by obtain ⟨_, q, _⟩ := h.get (i := 1) rfl; exact q.1
theorem Tk.rpD (h : Tk S W0 (dO y n r b s c D T F) w) : RP w s n c F := by obtain ⟨_, q, _⟩ := h.get (i := 2) rfl; exact q.1
theorem Tk.setD (h : Tk S W0 (dO y n r b s c D T F) w) (hp : RR w' r b D T') (hg : w.grownBy w' (some b)) : Tk S W0 (dO y n r b s c D T' F) w' := by
  obtain ⟨S1, q, _, k⟩ := h.call (i := 1) rfl
  exact k w' _ [] ⟨S1, obs_one.2 ⟨hp, q.2⟩, fun _ _ h => h, (Fo.refl _ _).grown hg (fun x hx => .inl ((q.2 x).2 (.inr (by injection hx with hx; exact hx.symm))))⟩
theorem Tk.setDF (h : Tk S W0 (dO y n r b s c D T F) w) (hp : RP w' s n c G) (hg : w.grownBy w' (some c)) : Tk S W0 (dO y n r b s c D T G) w' := by
  obtain ⟨S1, q, _, k⟩ := h.call (i := 2) rfl
  exact k w' _ [] ⟨S1, obs_one.2 ⟨hp, q.2⟩, fun _ _ h => h, (Fo.refl _ _).grown hg (fun x hx => .inl ((q.2 x).2 (.inr (by injection hx with hx; exact hx.symm))))⟩
end

/-- as, of what layer 11 answers. -/
theorem das_any (e0 : Int) (w : World) (h : e0 = 0 ∨ e0 = 1100 ∨ e0 = 1101) :
    Calls Try.prog 45 #[.int .i64 e0] w fun e w' => e = .returned (.int .i64 (toC e0)) ∧ w = w' := by
  rcases h with rfl | rfl | rfl
  all_goals
    go_enter Try.func45, Try.ntmps45
    go_wp2_with fail
    go_ret
    exact ⟨rfl, rfl⟩
theorem rsC_or (D : Nat) (d v p : Int) : rsC D d v p = 0 ∨ rsC D d v p = 1100 ∨ rsC D d v p = 1101 := by unfold rsC; split <;> simp
theorem reC_or (D : Nat) (T : List Ro) (d v : Int) : reC D T d v = 0 ∨ reC D T d v = 1100 ∨ reC D T d v = 1101 := by
  rcases reC_cases D T d v with ⟨_, h⟩ | ⟨_, _, h⟩ | ⟨_, _, h⟩ <;> simp [h]

theorem dnew_no (d p : Int) (w : World) (h : ¬ ((1 ≤ d ∧ d ≤ 4) ∧ 1 ≤ p ∧ p ≤ 4)) :
    Calls Try.prog 9 #[.int .i64 d, .int .i64 p] w fun e w' => e = .returned (.tuple #[.pointer none, .int .i64 1300]) ∧ Below w.heap.size w w' := by
  by_cases h1 : 1 ≤ d ∧ d ≤ 4
  · have h2 : ¬ (1 ≤ p ∧ p ≤ 4) := fun e => h ⟨h1, e⟩
    obtain ⟨D, rfl⟩ : ∃ D : Nat, d = (D : Int) := ⟨d.toNat, by omega⟩
    have hD1 : 1 ≤ D := by omega
    have hD4 : D ≤ 4 := by omega
    have HH := Lib.hid h2
    clear h h1 h2
    go_enter Try.func9, Try.ntmps9
    go_wp2_with fail
    refine (dmnew_yes D w hD1 hD4).mono ?_
    rintro e w1 ⟨rfl, -, b1⟩
    have B1 := Lib.hid b1
    clear b1
    go_wp2_with fail
    refine (rpnew_no p w1 HH.out).mono ?_
    rintro e w' ⟨rfl, rfl⟩
    go_wp2_with fail
    go_ret2
    exact ⟨rfl, B1.out⟩
  · clear h
    have HH := Lib.hid h1
    clear h1
    by_cases h2 : 1 ≤ p ∧ p ≤ 4
    · obtain ⟨n, rfl⟩ : ∃ n : Nat, p = (n : Int) := ⟨p.toNat, by omega⟩
      have hn1 : 1 ≤ n := by omega
      have hn4 : n ≤ 4 := by omega
      clear h2
      go_enter Try.func9, Try.ntmps9
      go_wp2_with fail
      refine (dmnew_no d w HH.out).mono ?_
      rintro e w' ⟨rfl, rfl⟩
      go_wp2_with fail
      refine (rpnew_yes n w hn1 hn4).mono ?_
      rintro e w1 ⟨rfl, -, b1⟩
      have B1 := Lib.hid b1
      clear b1
      go_wp2_with fail
      go_ret2
      exact ⟨rfl, B1.out⟩
    · have H2 := Lib.hid h2
      clear h2
      go_enter Try.func9, Try.ntmps9
      go_wp2_with fail
      refine (dmnew_no d w HH.out).mono ?_
      rintro e w' ⟨rfl, rfl⟩
      go_wp2_with fail
      refine (rpnew_no p w H2.out).mono ?_
      rintro e w' ⟨rfl, rfl⟩
      go_wp2_with fail
      go_ret2
      exact ⟨rfl, Below.refl _ _⟩

theorem dnew_yes (D n : Nat) (w : World) (hD1 : 1 ≤ D) (hD4 : D ≤ 4) (hn1 : 1 ≤ n) (hn4 : n ≤ 4) :
    Calls Try.prog 9 #[.int .i64 D, .int .i64 n] w fun e w' => ∃ y, e = .returned (.tuple #[.pointer (some ⟨y, 0, none⟩), .int .i64 0]) ∧ Tk nos w [obD y D n newT (fun _ => false)] w' := by
  go_enter Try.func9, Try.ntmps9
  go_wp2_with fail
  refine (dmnew_yes D w hD1 hD4).mono ?_
  rintro e w1 ⟨rfl, p1, b1⟩
  have t1 : Tk nos w [obRR (w.heap.size + 1) w.heap.size D newT] w1 := (Tk.empty w).add (ps := [obRR (w.heap.size + 1) w.heap.size D newT]) ⟨fun k => k = w.heap.size + 1 ∨ k = w.heap.size, obs_one.2 ⟨p1, fun _ => Iff.rfl⟩, fun k hk e => by omega, Fo.of b1 _⟩
  have T1 := Lib.hid t1
  clear t1 p1 b1
  go_wp2_with fail
  generalize w.heap.size + 1 = r at *
  generalize w.heap.size = b at *
  refine (rpnew_yes n w1 hn1 hn4).mono ?_
  rintro e w2 ⟨rfl, p2, b2⟩
  have t2 : Tk nos w [obRP (w1.heap.size + 1) n w1.heap.size (fun _ => false), obRR r b D newT] w2 := T1.out.add (ps := [obRP (w1.heap.size + 1) n w1.heap.size (fun _ => false)]) ⟨fun k => k = w1.heap.size + 1 ∨ k = w1.heap.size, obs_one.2 ⟨p2, fun _ => Iff.rfl⟩, fun k hk e => by omega, Fo.of b2 _⟩
  have T2 := Lib.hid t2
  clear t2 p2 b2 T1
  go_wp2_with fail
  generalize w1.heap.size + 1 = s at *
  generalize w1.heap.size = c at *
  go_ret2
  refine ⟨w2.heap.size, rfl, ?_⟩
  have t3 := T2.out.alloc 68 (dC n r s)
  exact (show Tk nos w (dO w2.heap.size n r b s c D newT (fun _ => false)) _ from t3.perm ((List.Perm.swap _ _ _).cons _)).mkD okT.new

theorem droute_at (S : Nat → Prop) (y D n : Nat) (T : List Ro) (F : Nat → Bool) (d v p : Int) (w : World) (q : (obD y D n T F).Q S w) :
    Calls Try.prog 25 #[.pointer (some ⟨y, 0, none⟩), .int .i64 d, .int .i64 v, .int .i64 p] w fun e w' => e = .returned (.int .i64 (urC D n d v p)) ∧ Tk S w [obD y D n (urT D n T d v p) F] w' := by
  obtain ⟨r, b, s, c, ok, tk⟩ := Tk.unD q
  obtain ⟨c0, c1, c2⟩ := dC_at tk.blkD
  have hyl := tk.blkD.lt
  have hD4 := tk.rrD.le
  have TK := Lib.hid tk
  have OK := Lib.hid ok
  have hlen := tk.rrD.len
  have cS := dmset_any r b D T d v p w tk.rrD
  clear q tk ok
  cases hp : hP n p with
  | false =>
    rw [show urC D n d v p = 1300 by simp [urC, hp], show urT D n T d v p = T by simp [urT, hp]]
    have hcase : p < 0 ∨ (0 ≤ p ∧ (n : Int) ≤ p) := by unfold hP at hp; simp at hp; omega
    clear hp cS
    rcases hcase with h1 | ⟨h1, h2⟩
    all_goals
      go_enter Try.func25, Try.ntmps25
      go_wp2_with fail
      go_ret
      exact ⟨rfl, TK.out.mkD OK.out⟩
  | true =>
    rw [show urC D n d v p = toC (rsC D d v p) by simp [urC, hp], show urT D n T d v p = rsT D T d v p by simp [urT, hp]]
    have h1 : decide (p < 0) = false := by unfold hP at hp; simp at hp; simp; omega
    have h2 : decide ((n : Int) ≤ p) = false := by unfold hP at hp; simp at hp; simp; omega
    clear hp
    go_enter Try.func25, Try.ntmps25
    go_wp2_with fail
    refine cS.mono ?_
    rintro e w1 ⟨rfl, p1, g1⟩
    have T1 := Lib.hid (TK.out.setD p1 g1)
    clear cS p1 g1 c0 c1 c2
    go_wp2_with fail
    refine (das_any _ w1 (rsC_or D d v p)).mono ?_
    rintro e w' ⟨rfl, rfl⟩
    go_wp2_with fail
    go_ret
    exact ⟨rfl, T1.out.mkD (OK.out.rs _ _ _ _)⟩

theorem dunroute_at (S : Nat → Prop) (y D n : Nat) (T : List Ro) (F : Nat → Bool) (d v : Int) (w : World) (q : (obD y D n T F).Q S w) :
    Calls Try.prog 26 #[.pointer (some ⟨y, 0, none⟩), .int .i64 d, .int .i64 v] w fun e w' => e = .returned (.int .i64 (uuC D T d v)) ∧ Tk S w [obD y D n (ruT D T d v) (uuF D n T F d v)] w' := by
  obtain ⟨r, b, s, c, ok, tk⟩ := Tk.unD q
  obtain ⟨c0, c1, c2⟩ := dC_at tk.blkD
  have hyl := tk.blkD.lt
  have hD4 := tk.rrD.le
  have TK := Lib.hid tk
  have OK := Lib.hid ok
  have hlen := tk.rrD.len
  have cS := dmunset_any r b D T d v w tk.rrD
  clear q tk ok
  by_cases hr : reC D T d v = 0
  · have HC := Lib.hid (show toC (reC D T d v) = 0 by rw [hr]; rfl)
    rw [hr] at cS
    rw [show uuC D T d v = 0 by simp [uuC, hr, toC], show uuF D n T F d v = gvF F (ixR d v) n by simp [uuF, hr]]
    have hin : inR D d v = true := by rcases reC_cases D T d v with ⟨_, h2⟩ | ⟨_, _, h2⟩ | ⟨h1, _, _⟩ <;> first | exact h1 | omega
    obtain ⟨dd, vv, rfl, rfl, hdd, hvv⟩ := (inR_iff D d v).1 hin
    rw [show ixR (dd : Int) (vv : Int) = dd * 8 + vv by unfold ixR; simp only [Int.toNat_natCast]]
    clear hr hin
    go_enter Try.func26, Try.ntmps26
    go_wp2_with fail
    refine cS.mono ?_
    rintro e w1 ⟨rfl, p1, g1⟩
    have t1 := TK.out.setD p1 g1
    obtain ⟨c0, c1, c2⟩ := dC_at t1.blkD
    have hyl1 := t1.blkD.lt
    have T1 := Lib.hid t1
    clear cS p1 g1 t1
    go_wp2_with fail
    clear c0 c1 c2
    refine (rdrop_any s n c F dd vv w1 T1.out.rpD (by omega) hvv).mono ?_
    rintro e w2 ⟨rfl, p2, g2⟩
    have T2 : Hid (Tk S w (dO y n r b s c D (ruT D T dd vv) (gvF F (dd * 8 + vv) n)) w2) := Lib.hid (T1.out.setDF p2 g2)
    clear p2 g2
    go_wp2_with fail
    refine (das_any 0 w2 (.inl rfl)).mono ?_
    rintro e w' ⟨rfl, rfl⟩
    go_wp2_with fail
    go_ret
    exact ⟨rfl, T2.out.mkD (OK.out.ru _ _ _)⟩
  · rw [show uuC D T d v = toC (reC D T d v) from rfl, show uuF D n T F d v = F by simp [uuF, hr]]
    have hne : (reC D T d v == 0) = false := by simpa using hr
    have HO := Lib.hid (reC_or D T d v)
    have HT := Lib.hid (OK.out.ru D d v)
    generalize reC D T d v = x at *
    clear hr
    go_enter Try.func26, Try.ntmps26
    go_wp2_with fail
    refine cS.mono ?_
    rintro e w1 ⟨rfl, p1, g1⟩
    have T1 := Lib.hid (TK.out.setD p1 g1)
    clear cS p1 g1 c0 c1 c2
    go_wp2_with fail
    refine (das_any x w1 HO.out).mono ?_
    rintro e w' ⟨rfl, rfl⟩
    go_wp2_with fail
    go_ret
    exact ⟨rfl, T1.out.mkD HT.out⟩

theorem dmask_at (S : Nat → Prop) (y D n : Nat) (T : List Ro) (F : Nat → Bool) (d v : Int) (m : Bool) (w : World) (q : (obD y D n T F).Q S w) :
    Calls Try.prog 27 #[.pointer (some ⟨y, 0, none⟩), .int .i64 d, .int .i64 v, .bool m] w fun e w' => e = .returned (.int .i64 (uuC D T d v)) ∧ Tk S w [obD y D n (rmT D T d v m) F] w' := by
  obtain ⟨r, b, s, c, ok, tk⟩ := Tk.unD q
  obtain ⟨c0, c1, c2⟩ := dC_at tk.blkD
  have hyl := tk.blkD.lt
  have hD4 := tk.rrD.le
  have TK := Lib.hid tk
  have OK := Lib.hid ok
  have hlen := tk.rrD.len
  have cS := dmmask_any r b D T d v m w tk.rrD
  unfold uuC
  clear q tk ok
  go_enter Try.func27, Try.ntmps27
  go_wp2_with fail
  refine cS.mono ?_
  rintro e w1 ⟨rfl, p1, g1⟩
  have T1 := Lib.hid (TK.out.setD p1 g1)
  clear cS p1 g1 c0 c1 c2
  go_wp2_with fail
  refine (das_any _ w1 (reC_or D T d v)).mono ?_
  rintro e w' ⟨rfl, rfl⟩
  go_wp2_with fail
  go_ret
  exact ⟨rfl, T1.out.mkD (OK.out.rm _ _ _ _)⟩

theorem dclear_at (S : Nat → Prop) (y D n : Nat) (T : List Ro) (F : Nat → Bool) (d : Int) (w : World) (q : (obD y D n T F).Q S w) :
    Calls Try.prog 30 #[.pointer (some ⟨y, 0, none⟩), .int .i64 d] w fun e w' => e = .returned (.int .i64 (ucC D d)) ∧ Tk S w [obD y D n (rcT D T d) (ucF D n F d)] w' := by
  obtain ⟨r, b, s, c, ok, tk⟩ := Tk.unD q
  obtain ⟨c0, c1, c2⟩ := dC_at tk.blkD
  have hyl := tk.blkD.lt
  have hD4 := tk.rrD.le
  have TK := Lib.hid tk
  have OK := Lib.hid ok
  have hlen := tk.rrD.len
  have cS := dmclear_any r b D T d w tk.rrD
  have HT := Lib.hid (ok.rc hlen D hD4 d)
  clear q tk ok
  cases hb : rcB D d with
  | false =>
    rw [show rcC D d = 1100 by simp [rcC, hb]] at cS
    rw [show ucC D d = 1300 by simp [ucC, rcC, hb, toC], show ucF D n F d = F by simp [ucF, hb]]
    clear hb
    go_enter Try.func30, Try.ntmps30
    go_wp2_with fail
    refine cS.mono ?_
    rintro e w1 ⟨rfl, p1, g1⟩
    have T1 := Lib.hid (TK.out.setD p1 g1)
    clear cS p1 g1 c0 c1 c2
    go_wp2_with fail
    go_ret
    exact ⟨rfl, T1.out.mkD HT.out⟩
  | true =>
    rw [show rcC D d = 0 by simp [rcC, hb]] at cS
    rw [show ucC D d = 0 by simp [ucC, rcC, hb, toC], show ucF D n F d = clF F d n by simp [ucF, hb]]
    clear hb
    go_enter Try.func30, Try.ntmps30
    go_wp2_with fail
    refine cS.mono ?_
    rintro e w1 ⟨rfl, p1, g1⟩
    have t1 := TK.out.setD p1 g1
    obtain ⟨c0, c1, c2⟩ := dC_at t1.blkD
    have hyl1 := t1.blkD.lt
    have T1 := Lib.hid t1
    clear cS p1 g1 t1
    go_wp2_with fail
    clear c0 c1 c2
    refine (rclear_any s n c F d w1 T1.out.rpD).mono ?_
    rintro e w2 ⟨rfl, p2, g2⟩
    have T2 := Lib.hid (T1.out.setDF p2 g2)
    clear p2 g2
    go_wp2_with fail
    go_ret
    exact ⟨rfl, T2.out.mkD HT.out⟩

theorem draise_at (S : Nat → Prop) (y D n : Nat) (T : List Ro) (F : Nat → Bool) (d v p : Int) (w : World) (q : (obD y D n T F).Q S w) :
    Calls Try.prog 28 #[.pointer (some ⟨y, 0, none⟩), .int .i64 d, .int .i64 v, .int .i64 p] w fun e w' => e = .returned (.int .i64 (uaC D n T d v p)) ∧ Tk S w [obD y D n T (uaF D n T F d v p)] w' := by
  obtain ⟨r, b, s, c, ok, tk⟩ := Tk.unD q
  obtain ⟨c0, c1, c2⟩ := dC_at tk.blkD
  have hyl := tk.blkD.lt
  have hD4 := tk.rrD.le
  have TK := Lib.hid tk
  have OK := Lib.hid ok
  have hlen := tk.rrD.len
  have cL := dmlook_any r b D T d v w tk.rrD
  clear q tk ok
  have hcase : (reC D T d v = 1100) ∨ (reC D T d v ≠ 1100 ∧ p < 0) ∨ (reC D T d v ≠ 1100 ∧ 0 ≤ p ∧ (n : Int) ≤ p) ∨ (reC D T d v = 1101 ∧ hP n p = true) ∨ (reC D T d v = 0 ∧ hP n p = true ∧ rlP D T d v ≠ p) ∨ (reC D T d v = 0 ∧ hP n p = true ∧ rlP D T d v = p) := by
    have h0 := reC_or D T d v
    unfold hP
    simp only [decide_eq_true_eq]
    omega
  rcases hcase with hr | ⟨hr, h1⟩ | ⟨hr, h1, h2⟩ | ⟨hr, hp⟩ | ⟨hr, hp, he⟩ | ⟨hr, hp, he⟩
  · have hc : uaC D n T d v p = 1300 := by unfold uaC; rw [hr]; cases hP n p <;> simp [toC]
    rw [show uaF D n T F d v p = F by simp [uaF, hc], hc]
    rw [hr] at cL
    generalize rlP D T d v = a at *
    generalize rlM D T d v = m at *
    clear hr hc
    go_enter Try.func28, Try.ntmps28
    go_wp2_with fail
    refine cL.mono ?_
    rintro e w1 ⟨rfl, b1⟩
    have t1 := TK.out.next b1
    obtain ⟨c0, c1, c2⟩ := dC_at t1.blkD
    have hyl1 := t1.blkD.lt
    have T1 := Lib.hid t1
    clear cL b1 t1
    go_wp2_with fail
    go_ret
    exact ⟨rfl, T1.out.mkD OK.out⟩
  · have hc : uaC D n T d v p = 1300 := by have hp : hP n p = false := (by unfold hP; simp; omega); unfold uaC; rw [hp]; rfl
    rw [show uaF D n T F d v p = F by simp [uaF, hc], hc]
    have hne : (reC D T d v == 1100) = false := by simpa using hr
    generalize rlP D T d v = a at *
    generalize rlM D T d v = m at *
    generalize reC D T d v = x at *
    clear hr hc
    go_enter Try.func28, Try.ntmps28
    go_wp2_with fail
    refine cL.mono ?_
    rintro e w1 ⟨rfl, b1⟩
    have t1 := TK.out.next b1
    obtain ⟨c0, c1, c2⟩ := dC_at t1.blkD
    have hyl1 := t1.blkD.lt
    have T1 := Lib.hid t1
    clear cL b1 t1
    go_wp2_with fail
    go_ret
    exact ⟨rfl, T1.out.mkD OK.out⟩
  · have hc : uaC D n T d v p = 1300 := by have hp : hP n p = false := (by unfold hP; simp; omega); unfold uaC; rw [hp]; rfl
    rw [show uaF D n T F d v p = F by simp [uaF, hc], hc]
    have hne : (reC D T d v == 1100) = false := by simpa using hr
    generalize rlP D T d v = a at *
    generalize rlM D T d v = m at *
    generalize reC D T d v = x at *
    clear hr hc
    go_enter Try.func28, Try.ntmps28
    go_wp2_with fail
    refine cL.mono ?_
    rintro e w1 ⟨rfl, b1⟩
    have t1 := TK.out.next b1
    obtain ⟨c0, c1, c2⟩ := dC_at t1.blkD
    have hyl1 := t1.blkD.lt
    have T1 := Lib.hid t1
    clear cL b1 t1
    go_wp2_with fail
    go_ret
    exact ⟨rfl, T1.out.mkD OK.out⟩
  · have hc : uaC D n T d v p = 1301 := by unfold uaC; rw [hp, hr]; simp [toC]
    rw [show uaF D n T F d v p = F by simp [uaF, hc], hc]
    rw [hr] at cL
    have k1 : decide (p < 0) = false := by unfold hP at hp; simp at hp; simp; omega
    have k2 : decide ((n : Int) ≤ p) = false := by unfold hP at hp; simp at hp; simp; omega
    generalize rlP D T d v = a at *
    generalize rlM D T d v = m at *
    clear hr hc hp
    go_enter Try.func28, Try.ntmps28
    go_wp2_with fail
    refine cL.mono ?_
    rintro e w1 ⟨rfl, b1⟩
    have t1 := TK.out.next b1
    obtain ⟨c0, c1, c2⟩ := dC_at t1.blkD
    have hyl1 := t1.blkD.lt
    have T1 := Lib.hid t1
    clear cL b1 t1
    go_wp2_with fail
    go_ret
    exact ⟨rfl, T1.out.mkD OK.out⟩
  · have hc : uaC D n T d v p = 1301 := by unfold uaC; rw [hp, hr]; simp [he]
    rw [show uaF D n T F d v p = F by simp [uaF, hc], hc]
    rw [hr] at cL
    have k1 : decide (p < 0) = false := by unfold hP at hp; simp at hp; simp; omega
    have k2 : decide ((n : Int) ≤ p) = false := by unfold hP at hp; simp at hp; simp; omega
    have k3 : (rlP D T d v != p) = true := by simpa using he
    generalize rlP D T d v = a at *
    generalize rlM D T d v = m at *
    clear hr hc hp he
    go_enter Try.func28, Try.ntmps28
    go_wp2_with fail
    refine cL.mono ?_
    rintro e w1 ⟨rfl, b1⟩
    have t1 := TK.out.next b1
    obtain ⟨c0, c1, c2⟩ := dC_at t1.blkD
    have hyl1 := t1.blkD.lt
    have T1 := Lib.hid t1
    clear cL b1 t1
    go_wp2_with fail
    go_ret
    exact ⟨rfl, T1.out.mkD OK.out⟩
  · have hc : uaC D n T d v p = 0 := by unfold uaC; rw [hp, hr]; simp [he]
    rw [show uaF D n T F d v p = putF F (p.toNat * 32 + ixR d v) by simp [uaF, hc], hc]
    rw [hr, he] at cL
    obtain ⟨pp, rfl, hpn⟩ := hP_nat hp
    have hin : inR D d v = true := by rcases reC_cases D T d v with ⟨_, h2⟩ | ⟨_, _, h2⟩ | ⟨h1, _, _⟩ <;> first | exact h1 | omega
    obtain ⟨dd, vv, rfl, rfl, hdd, hvv⟩ := (inR_iff D d v).1 hin
    rw [show ((pp : Int).toNat * 32 + ixR (dd : Int) (vv : Int)) = pp * 32 + (dd * 8 + vv) by unfold ixR; simp only [Int.toNat_natCast]]
    have k1 : decide ((pp : Int) < 0) = false := by simp
    have k2 : decide ((n : Int) ≤ (pp : Int)) = false := by simp; omega
    have k2' : decide (n ≤ pp) = false := by simp; omega
    have k3 : ((pp : Int) != (pp : Int)) = false := by simp
    generalize rlM D T (dd : Int) (vv : Int) = m at *
    clear hr hc hp he hin
    go_enter Try.func28, Try.ntmps28
    go_wp2_with fail
    refine cL.mono ?_
    rintro e w1 ⟨rfl, b1⟩
    have t1 := TK.out.next b1
    obtain ⟨c0, c1, c2⟩ := dC_at t1.blkD
    have hyl1 := t1.blkD.lt
    have T1 := Lib.hid t1
    clear cL b1 t1
    go_wp2_with fail
    clear c0 c1 c2
    refine (rraise_yes s n c F pp dd vv w1 T1.out.rpD hpn (by omega) hvv).mono ?_
    rintro e w2 ⟨rfl, p2, g2⟩
    have T2 := Lib.hid (T1.out.setDF p2 g2)
    clear p2 g2
    go_wp2_with fail
    go_ret
    exact ⟨rfl, T2.out.mkD OK.out⟩

/-- masked, on its way: the first k places told. -/
structure Dl (w : World) (P : Nat → Bool) (k : Nat) (u : Value) (wr : World) : Prop where
  row : wr.ownsRow w.heap.size 46 3 u (irN P k).length (iqs (irN P k))
  below : Below w.heap.size w wr
theorem Dl.skip {w wr : World} {P : Nat → Bool} {k : Nat} {u : Value} (h : Dl w P k u wr) (hk : P k = false) : Dl w P (k + 1) u wr := ⟨by rw [irN_no hk]; exact h.row, h.below⟩

set_option maxHeartbeats 2000000 in
theorem dmasked_any (y D n r b s c : Nat) (T : List Ro) (w : World) (ok : okT T) (hy : Blk w y 68 (dC n r s)) (hr : RR w r b D T) :
    Calls Try.prog 35 #[.pointer (some ⟨y, 0, none⟩)] w fun e w' => ∃ u, e = .returned u ∧ w'.ownsRow w.heap.size 46 3 u (irN (mB D T) 32).length (iqs (irN (mB D T) 32)) ∧ Below w.heap.size w w' := by
  have hD4 := hr.le
  rw [← irN_mB T hD4]
  have HY := Lib.hid hy
  have HR_ := Lib.hid hr
  have HMB := Lib.hid (fun (d v : Nat) (hd : d < D) (hv : v < 8) => mB_in (D := D) ok hd hv)
  clear ok hy hr
  obtain ⟨P, hP⟩ : ∃ P, mB D T = P := ⟨_, rfl⟩
  rw [hP]
  have HP_ := Lib.hid hP
  clear hP
  obtain ⟨i0, hi, hz0, hz1, hz2⟩ := info_parts infoIq
  have HI := Lib.hid hi; have HZ0 := Lib.hid hz0; have HZ1 := Lib.hid hz1; have HZ2 := Lib.hid hz2; clear hi hz0 hz1 hz2
  have V0 : Hid (Dl w P 0 (.slice none 0 0) w) := Lib.hid ⟨⟨rfl, .inl ⟨rfl, rfl⟩⟩, Below.refl _ _⟩
  go_enter Try.func35, Try.ntmps35
  go_wp2_with fail
  go_loopw [3, 4] (fun u i wr => ∃ (x : Nat), x ≤ D ∧ i = .int .i64 x ∧ Hid (Dl w P (x * 8) u wr)) (fun _ i _ => D - (intOf i).toNat)
  case atStart => exact ⟨0, by omega, rfl, V0⟩
  case round =>
    clear V0
    obtain ⟨x, hx, rfl, HT⟩ := hrel
    obtain ⟨c0, -, -⟩ := dC_at (HY.out.below HT.out.below HY.out.lt)
    have hyl := HY.out.lt
    have hrr := HR_.out.below HT.out.below HR_.out.blk.lt HR_.out.row.lt
    have e0 := hrr.cell0
    have hrl := HR_.out.blk.lt
    clear hrr
    by_cases hlt : x < D
    · have hxI : (x : Int) < D := by omega
      go_wp2_with fail
      clear c0 e0
      go_loopw [3, 5] (fun u i wr => ∃ (v : Nat), v ≤ 8 ∧ i = .int .i64 v ∧ Hid (Dl w P (x * 8 + v) u wr)) (fun _ i _ => 8 - (intOf i).toNat)
      case atStart => exact ⟨0, by omega, rfl, HT⟩
      case round =>
        clear HT
        obtain ⟨v, hv, rfl, HT⟩ := hrel
        by_cases hlty : v < 8
        · have hyI : (v : Int) < 8 := by omega
          obtain ⟨c0, -, -⟩ := dC_at (HY.out.below HT.out.below HY.out.lt)
          have hrr := HR_.out.below HT.out.below HR_.out.blk.lt HR_.out.row.lt
          have e0 := hrr.cell0
          have c2 := (hrr.at_ (x * 8 + v) (by omega)).2.2
          rw [← HMB.out x v hlt hlty, HP_.out, show (x * 8 + v) * 3 = x * 24 + v * 3 by omega] at c2
          clear hrr
          cases hf : P (x * 8 + v) with
          | false =>
            rw [hf] at c2
            have T1 : Hid (Dl w P (x * 8 + (v + 1)) u3 wr) := Lib.hid (HT.out.skip hf)
            clear hf
            go_wp2_with fail
            go_roundw
            case rel => exact ⟨v + 1, by omega, by go_num, T1⟩
            case measure => simp [intOf]; omega
          | true =>
            rw [hf] at c2
            have hl := plN_len P (x * 8 + v)
            rw [← irN_len] at hl
            have HL := Lib.hid (irN_yes (d := x) (v := v) (by omega) hf)
            obtain ⟨z, hz⟩ : ∃ z, (irN P (x * 8 + v)).length = z := ⟨_, rfl⟩
            have HZ := Lib.hid hz
            rw [hz] at hl
            clear hf hz
            have hbl : Below wr.heap.size wr (wr.alloc (.cells #[.int .i64 0, .int .i64 (x : Int), .int .i64 (v : Int)] 46)) := (Below.refl _ _).alloc (Nat.le_refl _) _
            have BL := Lib.hid hbl
            have hsz := HT.out.below.size
            clear hbl
            go_wp2_with (at_builtin; refine wpList_append_lies _ rfl _ _ 36 rfl w.heap.size 46 i0 _ 3 24 Try.underlying36 HI.out HZ0.out HZ1.out HZ2.out rfl (by decide) u3 (irN P (x * 8 + v)).length (iqs (irN P (x * 8 + v))) rfl (own_below HT.out.row BL.out) ⟨wr.heap.size, 0, none⟩ 1 1 [.int .i64 0, .int .i64 (x : Int), .int .i64 (v : Int)] rfl rfl (row_new wr [.int .i64 0, .int .i64 (x : Int), .int .i64 (v : Int)] 46) (iq_one _ _ _) (by omega) (by unfold maxLen; have := HZ.out; omega) (by have := HZ.out; omega) (by simp; omega) _ rfl ?_)
            intro gg cap6 w6 own6 gr6 hat6 hlt6
            have T1 : Hid (Dl w P (x * 8 + (v + 1)) (.slice (some ⟨gg, 0, none⟩) ((irN P (x * 8 + v)).length + 1) cap6) w6) := Lib.hid (by
              rw [show x * 8 + (v + 1) = x * 8 + v + 1 by omega]
              refine ⟨?_, below_one _ HT.out.row hsz HT.out.below gr6⟩
              rw [HL.out, iqs_append, List.length_append]
              exact own6)
            clear own6 gr6 hat6 hlt6 c0 e0 c2
            go_wp2_with fail
            go_roundw
            case rel => exact ⟨v + 1, by omega, by go_num, T1⟩
            case measure => simp [intOf]; omega
        · have e : v = 8 := by omega
          subst e
          go_wp2_with fail
          go_roundw
          case rel => exact ⟨x + 1, by omega, by go_num, by rw [show (x + 1) * 8 = x * 8 + 8 by omega]; exact HT⟩
          case measure => simp [intOf]; omega
    · have e : x = D := by omega
      subst e
      go_wp2_with fail
      go_ret
      exact ⟨_, rfl, HT.out.row, HT.out.below⟩

theorem dC_keep {w : World} {y n r s : Nat} (h : Blk w y 68 (dC n r s)) : w.cell? ⟨y, 1, none⟩ = some (.pointer (some ⟨s, 0, none⟩)) ∧ Blk w y 68 (dC n r s) := ⟨(dC_at h).2.1, h⟩
theorem ddeliver_at (S : Nat → Prop) (y D n : Nat) (T : List Ro) (F : Nat → Bool) (p tt : Int) (w : World) (q : (obD y D n T F).Q S w) :
    Calls Try.prog 15 #[.pointer (some ⟨y, 0, none⟩), .int .i64 p, .int .i64 tt] w fun e w' => ∃ x, e = .returned x ∧ Tk S w [obI x (udL D n T F p tt), obD y D n T (udF D n T F p)] w' := by
  obtain ⟨r, b, s, c, ok, tk⟩ := Tk.unD q
  have hlen := plN_len (mB D T) 32
  rw [← irN_len] at hlen
  have hyl := tk.blkD.lt
  have tkd := tk.drewN 1
  change Tk _ _ _ w.drew at tkd
  have hb := tkd.blkD
  obtain ⟨-, c1, -⟩ := dC_at hb
  clear q tk
  have cT : ∀ w1 : World, Below w.drew.heap.size w.drew w1 → ∀ z, w1.ownsRow w.drew.heap.size 46 3 z (irN (mB D T) 32).length (iqs (irN (mB D T) 32)) → Calls Try.prog 34 #[.pointer (some ⟨s, 0, none⟩), .int .i64 p, .int .i64 tt, z] w1 fun e w' => ∃ x, e = .returned x ∧ Tk S w [obI x (udL D n T F p tt), obD y D n T (udF D n T F p)] w' ∧ Blk w' y 68 (dC n r s) := by
    intro w1 b1 z r1
    have t0 := tkd.next b1
    have t1 : Tk S w (obI z (irN (mB D T) 32) :: dO y n r b s c D T F) w1 := tkd.addR b1 r1
    cases hp : hP n p with
    | false =>
      rw [show udL D n T F p tt = [] by simp [udL, hp], show udF D n T F p = F by simp [udF, hp]]
      refine (rtake_no s n c F p tt z w1 t0.rpD hp).mono ?_
      rintro e w' ⟨rfl, rfl⟩
      exact ⟨_, rfl, (t0.mkD ok).addR (Below.refl _ _) ⟨rfl, .inl ⟨rfl, rfl⟩⟩, t0.blkD⟩
    | true =>
      obtain ⟨pp, rfl, hpn⟩ := hP_nat hp
      rw [show udL D n T F (pp : Int) tt = tks tt (dlN D T F pp) by simp [udL, hp], show udF D n T F (pp : Int) = dlF D T F pp by simp [udF, hp]]
      have hzc : ∀ g, z.ownBlock = some g → g ≠ c := fun g hg e => by
        have h1 := (r1.lt g hg).1
        have h2 := tkd.rpD.row.lt
        have h3 : w.drew.heap.size ≤ g := h1
        omega
      refine (rtake_yes s n c F pp tt z (irN (mB D T) 32) (irN (mB D T) 32).length w1 t0.rpD hpn (fun w' fo => Sl.own (own_stay r1 (fun g hg => fo.block g (r1.lt g hg).2 (hzc g hg)))) rfl (by omega)).mono ?_
      rintro e w2 ⟨x, rfl, td⟩
      have e1 : tkN (fun j => F (pp * 32 + j)) (irN (mB D T) 32) 32 = dlN D T F pp := tkL_irN (fun j => F (pp * 32 + j)) (mB D T)
      have e2 : tF F pp (irN (mB D T) 32) 32 = dlF D T F pp := by rw [tF_all, takF_irN]; rfl
      have hrow := td.row
      rw [e1, ← tks_len tt] at hrow
      have hrp := td.rp
      rw [e2] at hrp
      have t2 : Tk S w (dO y n r b s c D T (dlF D T F pp)) w2 := by
        obtain ⟨S1, qq, _, k⟩ := t0.call (i := 2) rfl
        exact k w2 _ [] ⟨S1, obs_one.2 ⟨hrp, qq.2⟩, fun _ _ h => h, td.fo.mono (fun g _ hg => (qq.2 g).2 (.inr hg))⟩
      obtain ⟨S2, q2, l2, f2⟩ := t0
      obtain ⟨S1, qq, l1, k⟩ := (show Tk S w (dO y n r b s c D T F) w1 from ⟨S2, q2, l2, f2⟩).call (i := 2) rfl
      have t3 : Tk S w (obI x (tks tt (dlN D T F pp)) :: dO y n r b s c D T (dlF D T F pp)) w2 := by
        refine k w2 (obRP s n c (dlF D T F pp)) [obI x (tks tt (dlN D T F pp))] ⟨fun g => S1 g ∨ x.ownBlock = some g, ⟨S1, fun g => x.ownBlock = some g, ⟨hrp, qq.2⟩, obs_one.2 ⟨own_floor hrow (fun _ _ => Nat.zero_le _), fun _ => Iff.rfl⟩, fun g h1 h2 => ?_, fun _ => Iff.rfl⟩, fun g hg h => ?_, td.fo.mono (fun g _ hg => (qq.2 g).2 (.inr hg))⟩
        · have h3 := (hrow.lt g h2).1
          have h4 := (obRP s n c F).lt qq h1
          omega
        · rcases h with h | h
          · exact h
          · have := (hrow.lt g h).1; omega
      refine ⟨x, rfl, ?_, t2.blkD⟩
      refine t3.wrap (fun q => ?_)
      obtain ⟨Sa, Sb, h1, h2, d1, e1⟩ := q
      exact ⟨Sa, Sb, h1, obs_one.2 ⟨((r, b), (s, c)), ok, h2⟩, d1, e1⟩
  have CT := Lib.hid cT
  have cM := dmasked_any y D n r b s c T w.drew ok hb tkd.rrD
  have TD := Lib.hid tkd
  clear cT tkd ok
  go_enter Try.func15, Try.ntmps15
  go_wp2_with fail
  go_region_held3 (fun w' => w'.cell? ⟨y, 1, none⟩ = some (.pointer (some ⟨s, 0, none⟩)) ∧ Blk w' y 68 (dC n r s))
    ((go_split_ands; have hq := (by assumption : Blk _ y 68 (dC n r s)); first | exact dC_keep hq | exact dC_keep (hq.drewN 1) | exact dC_keep (hq.below b1 hyl) | exact dC_keep k2))
    (first
      | (go_at_call 35; (with_reducible refine cM.mono ?_); rintro e w1 ⟨z, rfl, r1, b1⟩)
      | (go_at_call 34; (with_reducible refine (CT.out w1 b1 z r1).mono ?_); rintro e w2 ⟨x, rfl, t2, k2⟩))
  clear c1
  go_wp2_with fail
  go_ret
  exact ⟨x, rfl, t2⟩

/-! Each call, on a Unit that is one of several things. -/
theorem tk_droute {S : Nat → Prop} {W0 : World} {os : List Ob} {i y D n : Nat} {T : List Ro} {F : Nat → Bool} (d v p : Int) (w : World) (h : Tk S W0 os w) (hi : os[i]? = some (obD y D n T F)) :
    Calls Try.prog 25 #[.pointer (some ⟨y, 0, none⟩), .int .i64 d, .int .i64 v, .int .i64 p] w fun e w' => e = .returned (.int .i64 (urC D n d v p)) ∧ Tk S W0 (os.set i (obD y D n (urT D n T d v p) F)) w' := by
  obtain ⟨S1, q, _, k⟩ := h.call hi
  exact (droute_at S1 y D n T F d v p w q).mono (fun e w' ⟨h1, h2⟩ => ⟨h1, k w' _ [] h2⟩)
theorem tk_dunroute {S : Nat → Prop} {W0 : World} {os : List Ob} {i y D n : Nat} {T : List Ro} {F : Nat → Bool} (d v : Int) (w : World) (h : Tk S W0 os w) (hi : os[i]? = some (obD y D n T F)) :
    Calls Try.prog 26 #[.pointer (some ⟨y, 0, none⟩), .int .i64 d, .int .i64 v] w fun e w' => e = .returned (.int .i64 (uuC D T d v)) ∧ Tk S W0 (os.set i (obD y D n (ruT D T d v) (uuF D n T F d v))) w' := by
  obtain ⟨S1, q, _, k⟩ := h.call hi
  exact (dunroute_at S1 y D n T F d v w q).mono (fun e w' ⟨h1, h2⟩ => ⟨h1, k w' _ [] h2⟩)
theorem tk_dmask {S : Nat → Prop} {W0 : World} {os : List Ob} {i y D n : Nat} {T : List Ro} {F : Nat → Bool} (d v : Int) (m : Bool) (w : World) (h : Tk S W0 os w) (hi : os[i]? = some (obD y D n T F)) :
    Calls Try.prog 27 #[.pointer (some ⟨y, 0, none⟩), .int .i64 d, .int .i64 v, .bool m] w fun e w' => e = .returned (.int .i64 (uuC D T d v)) ∧ Tk S W0 (os.set i (obD y D n (rmT D T d v m) F)) w' := by
  obtain ⟨S1, q, _, k⟩ := h.call hi
  exact (dmask_at S1 y D n T F d v m w q).mono (fun e w' ⟨h1, h2⟩ => ⟨h1, k w' _ [] h2⟩)
theorem tk_draise {S : Nat → Prop} {W0 : World} {os : List Ob} {i y D n : Nat} {T : List Ro} {F : Nat → Bool} (d v p : Int) (w : World) (h : Tk S W0 os w) (hi : os[i]? = some (obD y D n T F)) :
    Calls Try.prog 28 #[.pointer (some ⟨y, 0, none⟩), .int .i64 d, .int .i64 v, .int .i64 p] w fun e w' => e = .returned (.int .i64 (uaC D n T d v p)) ∧ Tk S W0 (os.set i (obD y D n T (uaF D n T F d v p))) w' := by
  obtain ⟨S1, q, _, k⟩ := h.call hi
  exact (draise_at S1 y D n T F d v p w q).mono (fun e w' ⟨h1, h2⟩ => ⟨h1, k w' _ [] h2⟩)
theorem tk_dclear {S : Nat → Prop} {W0 : World} {os : List Ob} {i y D n : Nat} {T : List Ro} {F : Nat → Bool} (d : Int) (w : World) (h : Tk S W0 os w) (hi : os[i]? = some (obD y D n T F)) :
    Calls Try.prog 30 #[.pointer (some ⟨y, 0, none⟩), .int .i64 d] w fun e w' => e = .returned (.int .i64 (ucC D d)) ∧ Tk S W0 (os.set i (obD y D n (rcT D T d) (ucF D n F d))) w' := by
  obtain ⟨S1, q, _, k⟩ := h.call hi
  exact (dclear_at S1 y D n T F d w q).mono (fun e w' ⟨h1, h2⟩ => ⟨h1, k w' _ [] h2⟩)
theorem tk_ddeliver {S : Nat → Prop} {W0 : World} {os : List Ob} {i y D n : Nat} {T : List Ro} {F : Nat → Bool} (p tt : Int) (w : World) (h : Tk S W0 os w) (hi : os[i]? = some (obD y D n T F)) :
    Calls Try.prog 15 #[.pointer (some ⟨y, 0, none⟩), .int .i64 p, .int .i64 tt] w fun e w' => ∃ x, e = .returned x ∧ Tk S W0 (obI x (udL D n T F p tt) :: os.set i (obD y D n T (udF D n T F p))) w' := by
  obtain ⟨S1, q, _, k⟩ := h.call hi
  exact (ddeliver_at S1 y D n T F p tt w q).mono (fun e w' ⟨x, h1, h2⟩ => ⟨x, h1, k w' _ [_] (h2.perm (.swap _ _ _))⟩)
end Go.Proofs.Ytjmdgjpepogogaa
