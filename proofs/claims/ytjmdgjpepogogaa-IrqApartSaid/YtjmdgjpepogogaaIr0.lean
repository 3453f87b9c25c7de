/-
  Plain words for layer 13: what the calls of a Unit answer and leave, by its entries (T) and by what waits (F).
-/
import Derived.Test.YtjmdgjpepogogaaPnd
import Derived.Test.YtjmdgjpepogogaaRm2
import Derived.Test.YtjmdgjpepogogaaOb
namespace Go.Proofs.Ytjmdgjpepogogaa
open Go.RowKit Go.ChangeMaps
set_option linter.unusedVariables false
set_option maxRecDepth 100000

/-- The first k places of which P holds. -/
def plN (P : Nat → Bool) (k : Nat) : List Nat := (List.range k).filter P
theorem plN_step (P : Nat → Bool) (k : Nat) : plN P (k + 1) = plN P k ++ (if P k then [k] else []) := by
  unfold plN
  rw [List.range_succ, List.filter_append]
  cases h : P k <;> simp [h]
theorem plN_len (P : Nat → Bool) (k : Nat) : (plN P k).length ≤ k := by
  unfold plN; have := List.length_filter_le P (List.range k); simpa using this
/-- They as Irqs without a tick; is a place among them? -/
def irN (P : Nat → Bool) (k : Nat) : List Iq := tks 0 (plN P k)
theorem irN_len (P : Nat → Bool) (k : Nat) : (irN P k).length = (plN P k).length := tks_len _ _
theorem irN_yes {P : Nat → Bool} {d v : Nat} (hv : v < 8) (h : P (d * 8 + v) = true) : irN P (d * 8 + v + 1) = irN P (d * 8 + v) ++ [⟨0, (d : Int), (v : Int)⟩] := by
  unfold irN
  rw [plN_step, h]
  simp only [if_true, tks, List.map_append, List.map_cons, List.map_nil]
  rw [show (d * 8 + v) / 8 = d by omega, show (d * 8 + v) % 8 = v by omega]
theorem irN_no {P : Nat → Bool} {k : Nat} (h : P k = false) : irN P (k + 1) = irN P k := by
  unfold irN; rw [plN_step, h]; simp
theorem mkB_irN (P : Nat → Bool) (N k : Nat) (hk : k < N) : mkB (irN P N) k = P k := by
  unfold mkB
  cases h : P k with
  | true =>
    rw [decide_eq_true_eq]
    exact ⟨⟨0, ((k / 8 : Nat) : Int), ((k % 8 : Nat) : Int)⟩, List.mem_map.2 ⟨k, List.mem_filter.2 ⟨List.mem_range.2 hk, h⟩, rfl⟩, rfl⟩
  | false =>
    rw [decide_eq_false_iff_not]
    rintro ⟨q, hq, e⟩
    obtain ⟨j, hj, rfl⟩ := List.mem_map.1 hq
    have := pz_inj (a := j) (b := k) e
    subst this
    have := (List.mem_filter.1 hj).2
    rw [h] at this; cases this
theorem tkL_irN (F P : Nat → Bool) : tkL F (irN P 32) = plN (fun k => F k && !P k) 32 := by
  unfold tkL plN
  exact List.filter_congr (fun k hk => by rw [mkB_irN P 32 k (List.mem_range.1 hk)])
theorem takF_irN (F P : Nat → Bool) (p : Nat) : takF F p (irN P 32) = fun i => if i / 32 = p then F i && P (i % 32) else F i := by
  funext i
  unfold takF
  rw [mkB_irN P 32 (i % 32) (by omega)]

/-- One place of the first q parts given up. -/
def gvF (F : Nat → Bool) (c q : Nat) : Nat → Bool := fun i => if i / 32 < q ∧ i % 32 = c then false else F i

/-- This layer's error for one of layers 11 and 12. -/
def toC (e : Int) : Int := if e = 0 then 0 else if e = 1101 then 1301 else 1300
def urC (D n : Nat) (d v p : Int) : Int := if hP n p then toC (rsC D d v p) else 1300
def urT (D n : Nat) (T : List Ro) (d v p : Int) : List Ro := if hP n p then rsT D T d v p else T
def uuC (D : Nat) (T : List Ro) (d v : Int) : Int := toC (reC D T d v)
def uuF (D n : Nat) (T : List Ro) (F : Nat → Bool) (d v : Int) : Nat → Bool := if reC D T d v = 0 then gvF F (ixR d v) n else F
def uaC (D n : Nat) (T : List Ro) (d v p : Int) : Int := if hP n p then (if reC D T d v = 0 then (if rlP D T d v = p then 0 else 1301) else toC (reC D T d v)) else 1300
def uaF (D n : Nat) (T : List Ro) (F : Nat → Bool) (d v p : Int) : Nat → Bool := if uaC D n T d v p = 0 then putF F (p.toNat * 32 + ixR d v) else F
/-- Is place k masked? -/
def mB (D : Nat) (T : List Ro) (k : Nat) : Bool := rlM D T ((k / 8 : Nat) : Int) ((k % 8 : Nat) : Int)
/-- What is handed over of part p; what waits then. -/
def dlN (D : Nat) (T : List Ro) (F : Nat → Bool) (p : Nat) : List Nat := plN (fun k => F (p * 32 + k) && !mB D T k) 32
def dlF (D : Nat) (T : List Ro) (F : Nat → Bool) (p : Nat) : Nat → Bool := fun i => if i / 32 = p then F i && mB D T (i % 32) else F i
def udL (D n : Nat) (T : List Ro) (F : Nat → Bool) (p t : Int) : List Iq := if hP n p then tks t (dlN D T F p.toNat) else []
def udF (D n : Nat) (T : List Ro) (F : Nat → Bool) (p : Int) : Nat → Bool := if hP n p then dlF D T F p.toNat else F
def ucC (D : Nat) (d : Int) : Int := toC (rcC D d)
def ucF (D n : Nat) (F : Nat → Bool) (d : Int) : Nat → Bool := if rcB D d then clF F d n else F

theorem udL_len (D n : Nat) (T : List Ro) (F : Nat → Bool) (p t : Int) : (udL D n T F p t).length ≤ 32 := by
  unfold udL
  split
  · rw [tks_len]; exact plN_len _ _
  · exact Nat.zero_le _
theorem hP_nat {n : Nat} {p : Int} (h : hP n p = true) : ∃ q : Nat, p = (q : Int) ∧ q < n := by
  unfold hP at h
  simp only [decide_eq_true_eq] at h
  exact ⟨p.toNat, by omega, by omega⟩
theorem gvF_step (F : Nat → Bool) (c q : Nat) (hc : c < 32) : gvF F c (q + 1) = takF (gvF F c q) q (irN (fun k => decide (k ≠ c)) 32) := by
  rw [takF_irN]
  funext i
  unfold gvF
  by_cases h1 : i / 32 = q
  · rw [if_pos h1]
    by_cases h2 : i % 32 = c
    · rw [if_pos (by omega)]; simp [h2]
    · rw [if_neg (by omega), if_neg (by omega)]; simp [h2]
  · rw [if_neg h1]
    by_cases h2 : i / 32 < q ∧ i % 32 = c
    · rw [if_pos h2, if_pos (by omega)]
    · rw [if_neg h2, if_neg (by omega)]
theorem gvF_zero (F : Nat → Bool) (c : Nat) : gvF F c 0 = F := by funext i; unfold gvF; rw [if_neg (by omega)]

/-- The program's table, its Sets, its Unit, each as a thing. -/
def obPR (g D : Nat) (T : List Ro) : Ob :=
  ⟨fun S w => PR w g D T ∧ ∀ b, S b ↔ b = g, fun ⟨h, e⟩ hk hs => ⟨⟨h.1, h.2.1, (hk g h.lt ((e g).2 rfl)).trans h.2.2⟩, e⟩, fun ⟨h, e⟩ hb => ((e _).1 hb) ▸ h.lt⟩
def obPS (s n : Nat) (F : Nat → Bool) : Ob :=
  ⟨fun S w => ∃ v xs O, PS w s n v xs O F ∧ ∀ b, S b ↔ O b ≠ 0, fun ⟨v, xs, O, h, e⟩ hk hs => ⟨v, xs, O, h.stay (fun b hb hO => hk b hb ((e b).2 hO)) hs, e⟩, fun ⟨v, xs, O, h, e⟩ hb => h.lt _ ((e _).1 hb)⟩
def obU (u D n : Nat) (T : List Ro) (F : Nat → Bool) : Ob :=
  obX fun x : Nat × Nat => obs [obB u 60 [.int .i64 n, .pointer (some ⟨x.1, 0, none⟩), .pointer (some ⟨x.2, 0, none⟩)], obPR x.1 D T, obPS x.2 n F]
/-- Irqs that were handed over. -/
def obI (v : Value) (L : List Iq) : Ob := obR 46 3 v L.length (iqs L)

section
variable {S : Nat → Prop} {W0 w w' : World} {os ps : List Ob} {i g D s n : Nat} {T T' : List Ro} {F G : Nat → Bool}
/-- What a call on a table leaves. -/
theorem Tk.ofPR (h : (obPR g D T).Q S w) (hp : PR w' g D T') (hg : w.grownBy w' (some g)) : Tk S w [obPR g D T'] w' :=
  ⟨S, obs_one.2 ⟨hp, h.2⟩, fun _ _ h => h, (Fo.refl _ _).grown hg (fun x hx => .inl ((h.2 x).2 (by injection hx with hx; exact hx.symm)))⟩
/-- What a call on Sets leaves. -/
theorem Tk.ofPN {v : Value} {xs : List Nat} {O : Nat → Nat} (he : ∀ b, S b ↔ O b ≠ 0) (hp : PN w s n v xs O G w') : Tk S w [obPS s n G] w' := by
  obtain ⟨O', hps, hO, fo⟩ := hp
  exact ⟨fun b => O' b ≠ 0, obs_one.2 ⟨v, xs, O', hps, fun _ => Iff.rfl⟩, fun k hk h => (he k).2 (by rw [← hO k hk]; exact h), fo.mono (fun b _ h => (he b).2 h)⟩
theorem Tk.nPS (h : Tk S W0 os w) (hi : os[i]? = some (obPS s n F)) : n ≤ 4 := by obtain ⟨_, ⟨_, _, _, q, _⟩, _⟩ := h.get hi; exact q.n4
end

/-- Raise, on Sets that are one of several things. -/
theorem tk_praise {S : Nat → Prop} {W0 : World} {os : List Ob} {i s n : Nat} {F : Nat → Bool} (p d k : Nat) (w : World) (h : Tk S W0 os w) (hi : os[i]? = some (obPS s n F)) (hp : p < n) (hd : d < 4) (hk : k < 8) :
    Calls Try.prog 42 #[.pointer (some ⟨s, 0, none⟩), .int .i64 p, .int .i64 d, .int .i64 k] w fun e w' => e = .returned (.tuple #[.bool (!F (p * 32 + (d * 8 + k))), .int .i64 0]) ∧ Tk S W0 (os.set i (obPS s n (putF F (p * 32 + (d * 8 + k))))) w' := by
  obtain ⟨S1, ⟨v, xs, O, q, he⟩, _, k1⟩ := h.call hi
  refine (praise_yes s n v xs O F p d k w q hp hd hk).mono ?_
  rintro e w' ⟨rfl, hn⟩
  exact ⟨rfl, k1 w' _ [] (Tk.ofPN he hn)⟩
theorem tk_pclear {S : Nat → Prop} {W0 : World} {os : List Ob} {i s n : Nat} {F : Nat → Bool} (d : Int) (w : World) (h : Tk S W0 os w) (hi : os[i]? = some (obPS s n F)) :
    Calls Try.prog 44 #[.pointer (some ⟨s, 0, none⟩), .int .i64 d] w fun e w' => e = .returned (.int .i64 (cntA F d n : Nat)) ∧ Tk S W0 (os.set i (obPS s n (clF F d n))) w' := by
  obtain ⟨S1, ⟨v, xs, O, q, he⟩, _, k1⟩ := h.call hi
  refine (pclear_any s n v xs O F d w q).mono ?_
  rintro e w' ⟨rfl, hn⟩
  exact ⟨rfl, k1 w' _ [] (Tk.ofPN he hn)⟩
/-- Take: the slice that is handed out is a thing more. -/
theorem tk_ptake {S : Nat → Prop} {W0 : World} {os : List Ob} {i s n : Nat} {F : Nat → Bool} (p : Nat) (t : Int) (mv : Value) (M : List Iq) (nM : Nat) (w : World) (h : Tk S W0 os w) (hi : os[i]? = some (obPS s n F)) (hp : p < n) (hM : Sl w mv nM 3 (iqs M)) (hl : M.length = nM) (hn : nM ≤ 140737488355328) :
    Calls Try.prog 31 #[.pointer (some ⟨s, 0, none⟩), .int .i64 p, .int .i64 t, mv] w fun e w' => ∃ u, e = .returned u ∧ Tk S W0 (obI u (tks t (tkL (fun k => F (p * 32 + k)) M)) :: os.set i (obPS s n (takF F p M))) w' := by
  obtain ⟨S1, ⟨v, xs, O, q, he⟩, _, k1⟩ := h.call hi
  refine (ptake_yes s n v mv xs O F p t M nM w q hp hM hl hn).mono ?_
  rintro e w' ⟨u, rfl, hu, O', hps, hO, fo, hub⟩
  refine ⟨u, rfl, k1 w' _ [obI u (tks t (tkL (fun k => F (p * 32 + k)) M))] ⟨fun b => O' b ≠ 0 ∨ u.ownBlock = some b, ⟨fun b => O' b ≠ 0, fun b => u.ownBlock = some b, ⟨v, xs, O', hps, fun _ => Iff.rfl⟩, obs_one.2 ⟨own_floor (by rw [tks_len]; exact hu) (fun _ _ => Nat.zero_le _), fun _ => Iff.rfl⟩, fun b h1 h2 => h1 (hub b h2), fun _ => Iff.rfl⟩, fun b hb h => ?_, fo.mono (fun b _ h => (he b).2 h)⟩⟩
  rcases h with h | h
  · exact (he b).2 (by rw [← hO b hb]; exact h)
  · have := (hu.lt b h).1; omega
theorem tk_ptake_no {S : Nat → Prop} {W0 : World} {os : List Ob} {i s n : Nat} {F : Nat → Bool} (p t : Int) (mv : Value) (w : World) (h : Tk S W0 os w) (hi : os[i]? = some (obPS s n F)) (hb : hP n p = false) :
    Calls Try.prog 31 #[.pointer (some ⟨s, 0, none⟩), .int .i64 p, .int .i64 t, mv] w fun e w' => e = .returned (.slice none 0 0) ∧ w = w' := by
  obtain ⟨S1, ⟨v, xs, O, q, he⟩, _, k1⟩ := h.call hi
  exact ptake_no s n v mv xs O F p t w q hb
end Go.Proofs.Ytjmdgjpepogogaa
