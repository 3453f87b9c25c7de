/-
  Layer 11's law RemapLast: it answers true for every input.
-/
import Derived.Test.YtmdohdibpifckaaRemaps
import Derived.Test.YtmdohdibpifckaaRmClears
import Derived.Deep.CutBlock
import Derived.Deep.DeepCutAuto
namespace Go.Proofs.Ytmdohdibpifckaa
open Go.RowKit Go.Deep
set_option linter.unusedVariables false
set_option maxRecDepth 100000

/-- The law's number of an entry. -/
def pOf (x : Ro) : Int := if x.is then x.p else -1
theorem pOf_yes {x : Ro} (h : x.is = true) : pOf x = x.p := by unfold pOf; rw [h, if_pos rfl]
theorem pOf_no {x : Ro} (h : x.is = false) : pOf x = -1 := by unfold pOf; rw [h]; rfl
def partC (T : List Ro) : List Int := (List.range 16).map fun j => pOf (T.getD j ro0)
def maskC (T : List Ro) : List Bool := (List.range 16).map fun j => (T.getD j ro0).m
theorem partC_len (T : List Ro) : (partC T).length = 16 := by simp [partC]
theorem maskC_len (T : List Ro) : (maskC T).length = 16 := by simp [maskC]
theorem partC_get (T : List Ro) (k : Nat) (hk : k < 16) : (partC T).getD k 0 = pOf (T.getD k ro0) := by
  simp [partC, List.getD_eq_getElem?_getD, hk]
theorem maskC_get (T : List Ro) (k : Nat) (hk : k < 16) : (maskC T).getD k false = (T.getD k ro0).m := by
  simp [maskC, List.getD_eq_getElem?_getD, hk]
theorem range_map_set {α : Type} (f f' : Nat → α) (k : Nat) (x : α) (n : Nat) (hk : f' k = x) (ho : ∀ j, j ≠ k → f' j = f j) : ((List.range n).map f).set k x = (List.range n).map f' := by
  apply List.ext_getElem
  · simp
  · intro j h1 h2
    rw [List.getElem_set]
    split
    · subst_vars; simp
    · simp only [List.getElem_map, List.getElem_range]
      exact (ho j (by omega)).symm
theorem partC_set (T : List Ro) (k : Nat) (x : Ro) (hk : k < T.length) : (partC T).set k (pOf x) = partC (T.set k x) :=
  range_map_set _ _ k _ 16 (by rw [getD_setR _ _ _ _ hk, if_pos rfl]) (fun j hj => by rw [getD_setR _ _ _ _ hk, if_neg hj])
theorem maskC_set (T : List Ro) (k : Nat) (x : Ro) (hk : k < T.length) : (maskC T).set k x.m = maskC (T.set k x) :=
  range_map_set _ _ k _ 16 (by rw [getD_setR _ _ _ _ hk, if_pos rfl]) (fun j hj => by rw [getD_setR _ _ _ _ hk, if_neg hj])
theorem getR_self (T : List Ro) (k : Nat) : T.set k (T.getD k ro0) = T := by
  by_cases h : k < T.length
  · simp only [List.getD_eq_getElem?_getD, List.getElem?_eq_getElem h, Option.getD_some]
    exact List.set_getElem_self h
  · exact List.set_eq_of_length_le (by omega)

/-- All entries are as Set, Mask and Unset leave them. -/
def OkR (T : List Ro) : Prop := ∀ k, ((T.getD k ro0).is = false → T.getD k ro0 = ro0) ∧ ((T.getD k ro0).is = true → 0 ≤ (T.getD k ro0).p)
theorem OkR.start : OkR newT := by
  intro k
  have : newT.getD k ro0 = ro0 := by
    unfold newT
    simp only [List.getD_eq_getElem?_getD, List.getElem?_replicate]
    split <;> rfl
  rw [this]; exact ⟨fun _ => rfl, fun h => by cases h⟩
theorem OkR.set {T : List Ro} (h : OkR T) (k : Nat) (x : Ro) (hk : k < T.length) (h1 : x.is = false → x = ro0) (h2 : x.is = true → 0 ≤ x.p) : OkR (T.set k x) := by
  intro j
  rw [getD_setR _ _ _ _ hk]
  split
  · exact ⟨h1, h2⟩
  · exact h j

/-- The cells of bools. -/
def bools (l : List Bool) : List Value := l.map Value.bool
theorem bools_get (l : List Bool) (k : Nat) (h : k < l.length) : (bools l)[k]? = some (.bool (l.getD k false)) := by
  simp [bools, List.getD, List.getElem?_eq_getElem h]
theorem bools_set (l : List Bool) (k : Nat) (x : Bool) : (bools l).set k (.bool x) = bools (l.set k x) := by simp [bools, List.map_set]

/-- The program's table, the law's own two. -/
structure Rl (W : World) (g p m : Nat) (T : List Ro) (P : List Int) (M : List Bool) (w : World) : Prop where
  t : PR w g 2 T
  pb : Blk w p 47 (ints P)
  mb : Blk w m 48 (bools M)
  bel : Below W.heap.size W w
  hg : W.heap.size ≤ g
  hp : W.heap.size ≤ p
  hm : W.heap.size ≤ m
section
variable {W w w' : World} {g p m : Nat} {T T' : List Ro} {P : List Int} {M : List Bool}
theorem Rl.gp (s : Rl W g p m T P M w) : g ≠ p := s.t.apart s.pb (by decide)
theorem Rl.gm (s : Rl W g p m T P M w) : g ≠ m := s.t.apart s.mb (by decide)
theorem Rl.pm (s : Rl W g p m T P M w) : p ≠ m := s.pb.apart s.mb (by decide)
theorem Rl.drewN (s : Rl W g p m T P M w) (n : Nat) : Rl W g p m T P M (w.drewN n) := ⟨s.t.drewN n, s.pb.drewN n, s.mb.drewN n, bdrewN s.bel n, s.hg, s.hp, s.hm⟩
theorem Rl.call (s : Rl W g p m T P M w) (t : PR w' g 2 T') (gr : w.grownBy w' (some g)) : Rl W g p m T' P M w' :=
  ⟨t, s.pb.grown gr (by intro e; injection e with e; exact s.gp e.symm), s.mb.grown gr (by intro e; injection e with e; exact s.gm e.symm), bone s.bel gr s.bel.size s.hg, s.hg, s.hp, s.hm⟩
theorem Rl.setP (s : Rl W g p m T P M w) (k : Nat) (x : Int) : Rl W g p m T (P.set k x) M (w.setCell ⟨p, k, none⟩ (.int .i64 x)) :=
  ⟨s.t.far (p := ⟨p, k, none⟩) s.gp _, s.pb.setInt k x, s.mb.far (p := ⟨p, k, none⟩) (fun e => s.pm e.symm) _, s.bel.setCell (p := ⟨p, k, none⟩) s.hp _, s.hg, s.hp, s.hm⟩
theorem Rl.setM (s : Rl W g p m T P M w) (k : Nat) (x : Bool) : Rl W g p m T P (M.set k x) (w.setCell ⟨m, k, none⟩ (.bool x)) :=
  ⟨s.t.far (p := ⟨m, k, none⟩) s.gm _, s.pb.far (p := ⟨m, k, none⟩) s.pm _, by rw [← bools_set]; exact s.mb.set k _, s.bel.setCell (p := ⟨m, k, none⟩) s.hm _, s.hg, s.hp, s.hm⟩
theorem Rl.atP (s : Rl W g p m T (partC T') M w) (k : Nat) (hk : k < 16) : w.cell? ⟨p, k, none⟩ = some (.int .i64 (pOf (T'.getD k ro0))) := by
  rw [s.pb.int (by rw [partC_len]; exact hk), partC_get T' k hk]
theorem Rl.atM (s : Rl W g p m T P (maskC T') w) (k : Nat) (hk : k < 16) : w.cell? ⟨m, k, none⟩ = some (.bool (T'.getD k ro0).m) := by
  rw [s.mb.cell, bools_get _ k (by rw [maskC_len]; exact hk), maskC_get T' k hk]
end

/-- The law's numbers on their way to -1. -/
def fillR (k : Nat) : List Int := List.replicate k (-1) ++ List.replicate (16 - k) 0
theorem fillR_set (k : Nat) (h : k < 16) : (fillR k).set k (-1) = fillR (k + 1) := by
  unfold fillR
  rw [List.set_append_right _ _ (by simp), List.length_replicate, Nat.sub_self, show 16 - k = (16 - (k + 1)) + 1 by omega, List.replicate_succ, List.set_cons_zero, List.replicate_succ', List.append_assoc]
  rfl
theorem fillR_len (k : Nat) (h : k ≤ 16) : (fillR k).length = 16 := by simp [fillR]; omega

/-- What a look finds. -/
theorem look_atR (T : List Ro) (a b j : Nat) (ha : a < 2) (hb : b < 8) (hj : j = a * 8 + b) :
    ((T.getD j ro0).is = true → reC 2 T a b = 0 ∧ rlP 2 T a b = (T.getD j ro0).p ∧ rlM 2 T a b = (T.getD j ro0).m) ∧ ((T.getD j ro0).is = false → reC 2 T a b = 1101 ∧ rlP 2 T a b = 0 ∧ rlM 2 T a b = false) := by
  have hin : inR 2 a b = true := (inR_iff 2 a b).2 ⟨a, b, rfl, rfl, ha, hb⟩
  have hat : atR T a b = T.getD j ro0 := by unfold atR; rw [show ixR a b = j by simp [ixR]; omega]
  constructor
  · intro h
    have hc : reC 2 T a b = 0 := by unfold reC; rw [hin, if_pos rfl, hat, h]; rfl
    exact ⟨hc, by simp [rlP, hc, hat], by simp [rlM, hc, hat]⟩
  · intro h
    have hc : reC 2 T a b = 1101 := by unfold reC; rw [hin, if_pos rfl, hat, h]; rfl
    exact ⟨hc, by simp [rlP, hc], by simp [rlM, hc]⟩
/-- What Unset and Mask leave. -/
theorem put_atR (T : List Ro) (a b j : Nat) (M : Bool) (ha : a < 2) (hb : b < 8) (hj : j = a * 8 + b) :
    ((T.getD j ro0).is = true → ruT 2 T a b = T.set j ro0 ∧ rmT 2 T a b M = T.set j { T.getD j ro0 with m := M }) ∧ ((T.getD j ro0).is = false → ruT 2 T a b = T ∧ rmT 2 T a b M = T) := by
  have hix : ixR a b = j := by simp [ixR]; omega
  have hat : atR T a b = T.getD j ro0 := by unfold atR; rw [hix]
  obtain ⟨l1, l2⟩ := look_atR T a b j ha hb hj
  constructor
  · intro h
    have hc := (l1 h).1
    exact ⟨by simp [ruT, hc, hix], by simp [rmT, hc, hix, hat]⟩
  · intro h
    have hc := (l2 h).1
    exact ⟨by simp [ruT, hc], by simp [rmT, hc]⟩
theorem partC_mask (T : List Ro) (k : Nat) (M : Bool) (hk : k < T.length) : partC (T.set k { T.getD k ro0 with m := M }) = partC T := by
  rw [← partC_set T k _ hk, show pOf { T.getD k ro0 with m := M } = pOf (T.getD k ro0) from rfl, partC_set T k _ hk, getR_self]
theorem Rl.hasP {W w : World} {g p m : Nat} {T T' : List Ro} {M : List Bool} (s : Rl W g p m T (partC T') M w) (k : Nat) (hk : k < 16) : ∃ u, w.cell? ⟨p, k, none⟩ = some u := ⟨_, s.atP k hk⟩
theorem Rl.hasM {W w : World} {g p m : Nat} {T T' : List Ro} {P : List Int} (s : Rl W g p m T P (maskC T') w) (k : Nat) (hk : k < 16) : ∃ u, w.cell? ⟨m, k, none⟩ = some u := ⟨_, s.atM k hk⟩

set_option maxHeartbeats 16000000 in
theorem law_RemapLast (v : Value) (n : Nat) (xs : List Value) (w : World) (hv : Sl w v n 5 xs) (ha : ∀ i, i < n → ActR xs i) (hn : n ≤ maxLen) :
    Calls Try.prog 4 #[v] w fun e w' => e = .returned (.bool true) ∧ Below w.heap.size w w' := by
  obtain ⟨A, cap, rfl⟩ : ∃ A cap, v = .slice A n cap := by obtain ⟨A, c, e, _⟩ := hv; exact ⟨A, c, e⟩
  unfold maxLen at hn
  have HV := Lib.hid hv; have HA := Lib.hid ha; clear hv ha
  go_enter Try.func4, Try.ntmps4
  go_wp2_with fail
  refine (rmawake_any _).mono ?_
  rintro e wa ⟨rfl, ba⟩
  have hsa := ba.size
  go_wp2_with fail
  refine (pmnew 2 _ (by omega) (by omega)).mono ?_
  rintro e wb ⟨rfl, t1, b1⟩
  have bb := Below.down ba b1 hsa
  have hsb := bb.size
  have hgl := t1.lt
  rw [show (2 : Int).toNat = 2 from rfl] at t1
  generalize wa.heap.size = g at *
  clear ba b1
  go_wp2_with fail
  refine (num_any _ _).mono ?_
  rintro e w' ⟨rfl, rfl⟩
  go_wp2_with fail
  change Code.wp _ _ _ _ ((wb.alloc (.cells (ints (fillR 0)).toArray 47)).alloc (.cells (bools (List.replicate 16 false)).toArray 48))
  have s0 : Rl w g wb.heap.size (wb.heap.size + 1) newT (fillR 0) (List.replicate 16 false) ((wb.alloc (.cells (ints (fillR 0)).toArray 47)).alloc (.cells (bools (List.replicate 16 false)).toArray 48)) := by
    have hb1 := Blk.new wb 47 (ints (fillR 0))
    have ht1 := t1.alloc (.cells (ints (fillR 0)).toArray 47)
    have hB1 := bb.alloc hsb (.cells (ints (fillR 0)).toArray 47)
    have e : (wb.alloc (.cells (ints (fillR 0)).toArray 47)).heap.size = wb.heap.size + 1 := by simp
    have hb2 := Blk.new (wb.alloc (.cells (ints (fillR 0)).toArray 47)) 48 (bools (List.replicate 16 false))
    rw [e] at hb2
    exact ⟨ht1.alloc _, hb1.alloc _, hb2, hB1.alloc hB1.size _, by omega, by omega, by omega⟩
  generalize (wb.alloc (.cells (ints (fillR 0)).toArray 47)).alloc (.cells (bools (List.replicate 16 false)).toArray 48) = wc at *
  generalize hp1 : wb.heap.size + 1 = m at *
  generalize wb.heap.size = p at *
  clear t1 bb hsb hgl hsa hp1
  go_loopw [7] (fun i wq => ∃ (j : Nat), j ≤ 16 ∧ i = .int .i64 j ∧ Rl w g p m newT (fillR j) (List.replicate 16 false) wq) (fun i _ => 16 - (intOf i).toNat)
  case atStart => exact ⟨0, by omega, rfl, s0⟩
  case round =>
    clear s0
    obtain ⟨j, hj, rfl, s⟩ := hrel
    by_cases hj16 : j < 16
    · have hj16' : (j : Int) < 16 := by omega
      have s' := s.setP j (-1)
      rw [fillR_set j hj16] at s'
      have c0 := s.pb.int (k := j) (by rw [fillR_len j (by omega)]; exact hj16)
      have f0 := s.pb.frozen j
      clear s
      go_wp2_with fail
      go_roundw
      case rel => exact ⟨j + 1, by omega, by go_num, s'⟩
      case measure => simp [intOf]; omega
    · obtain rfl : j = 16 := by omega
      have s1 : Rl w g p m newT (partC newT) (maskC newT) wr := s
      rw [show ((16 : Nat) : Int) = 16 from rfl]
      clear s hj16 hj
      go_wp2_with fail
      go_loopw [8] (fun i wq => ∃ (k : Nat) (T : List Ro), k ≤ n ∧ i = .int .i64 k ∧ Rl w g p m T (partC T) (maskC T) wq ∧ OkR T) (fun i _ => n - (intOf i).toNat)
      case atStart => exact ⟨0, _, by omega, rfl, s1, OkR.start⟩
      case round =>
        clear s1
        obtain ⟨k, T, hk, rfl, s, hO⟩ := hrel
        have HO := Lib.hid hO; clear hO
        by_cases hgo : k < n ∧ k < 60
        · obtain ⟨hkn, hk60⟩ := hgo
          have hd : decide ((k : Int) < 60) = true := by simp; omega
          obtain ⟨ab, ao, rfl, hblt, K, X, V, P, M, c0, c1, c2, c3, c4⟩ := rec5r HV.out HA.out k hkn
          have C0 := Lib.hid c0; have C3 := Lib.hid c3; have C4 := Lib.hid c4
          replace c0 := (s.bel.cell (p := ⟨ab, ao + k * 5, none⟩) hblt).trans c0
          replace c1 := (s.bel.cell (p := ⟨ab, ao + k * 5 + 1, none⟩) hblt).trans c1
          replace c2 := (s.bel.cell (p := ⟨ab, ao + k * 5 + 2, none⟩) hblt).trans c2
          replace c3 := (s.bel.cell (p := ⟨ab, ao + k * 5 + 3, none⟩) hblt).trans c3
          replace c4 := (s.bel.cell (p := ⟨ab, ao + k * 5 + 4, none⟩) hblt).trans c4
          have hX := band X 1 (by omega) (by omega)
          have hV := band V 7 (by omega) (by omega)
          have hK := band K 3 (by omega) (by omega)
          have hP := band P 3 (by omega) (by omega)
          generalize hX' : bits BinOp.and IntKind.i64 X 1 = D at hX
          generalize hV' : bits BinOp.and IntKind.i64 V 7 = U at hV
          generalize hK' : bits BinOp.and IntKind.i64 K 3 = S at hK
          generalize hP' : bits BinOp.and IntKind.i64 P 3 = R at hP
          obtain ⟨hD0, hD1⟩ := hX
          obtain ⟨hU0, hU1⟩ := hV
          obtain ⟨hS0, hS1⟩ := hK
          obtain ⟨hR0, hR1⟩ := hP
          obtain ⟨D, rfl⟩ := Int.eq_ofNat_of_zero_le hD0
          obtain ⟨U, rfl⟩ := Int.eq_ofNat_of_zero_le hU0
          obtain ⟨q, hq⟩ : ∃ q : Nat, q = D * 8 + U := ⟨_, rfl⟩
          have hq16 : q < 16 := by omega
          have hq16' : (q : Int) < 16 := by omega
          have hqi : 8 * (D : Int) + (U : Int) = (q : Int) := by omega
          have HQ := Lib.hid hq; clear hq
          have HR := Lib.hid (And.intro hR0 hR1)
          go_wp2_with fail
          go_quiet (fail)
          replace s := s.drewN nq
          clear c0 c1 c2 c3 c4
          generalize wr.drewN nq = wd at *
          have c0 := (s.bel.cell (p := ⟨ab, ao + k * 5, none⟩) hblt).trans C0.out
          have c3 := (s.bel.cell (p := ⟨ab, ao + k * 5 + 3, none⟩) hblt).trans C3.out
          have c4 := (s.bel.cell (p := ⟨ab, ao + k * 5 + 4, none⟩) hblt).trans C4.out
          have hl := s.t.len
          go_upto_block 4 with fail
          go_cut [] (fun wx => ∃ T' : List Ro, Rl w g p m T' (partC T') (maskC T') wx ∧ Hid (OkR T'))
          case first =>
            rcases (show S = 0 ∨ S = 1 ∨ S = 2 ∨ S = 3 by omega) with rfl | rfl | rfl | rfl
            · obtain ⟨e1, e2, _, _⟩ := set_mask 2 T D U R false (by omega) (by omega) (by omega) HR.out.1 (by have := HR.out.2; omega) hl
              rw [← HQ.out] at e2
              have E0 := Lib.hid (show rsC 2 D U R = 0 by simp [rsC, e1])
              have E1 := Lib.hid e2
              have hpc' : (partC T).set q R = partC (T.set q ⟨true, R, false⟩) := partC_set T q ⟨true, R, false⟩ (by omega)
              have hmc' : (maskC T).set q false = maskC (T.set q ⟨true, R, false⟩) := maskC_set T q ⟨true, R, false⟩ (by omega)
              have HO' := Lib.hid (HO.out.set q ⟨true, R, false⟩ (by omega) (fun h => by cases h) (fun _ => HR.out.1))
              clear e1 e2 hl
              go_wp2_with fail
              refine (pmset_is g 2 T (T.set q ⟨true, R, false⟩) D U R 0 _ s.t E1.out E0.out).mono ?_
              rintro e w3 ⟨rfl, t3, g3⟩
              replace s := s.call t3 g3
              clear t3 g3 c0 c3 c4
              have c3 := (s.bel.cell (p := ⟨ab, ao + k * 5 + 3, none⟩) hblt).trans C3.out
              obtain ⟨u1, p1⟩ := s.hasP q hq16
              obtain ⟨u2, m1⟩ := s.hasM q hq16
              have p2 := s.pb.frozen q
              have m2 := s.mb.frozen q
              have hpm := s.pm
              have s4 := (s.setP q R).setM q false
              rw [hpc', hmc'] at s4
              have S4 := Lib.hid s4
              clear s s4 hpc' hmc'
              go_wp2_with fail
              refine (num_any _ _).mono ?_
              rintro e w' ⟨rfl, rfl⟩
              have s := S4.out
              clear S4 c3 p1 p2 m1 m2 hpm E0 E1
              generalize World.setCell _ _ _ = wy at s ⊢
              generalize T.set q ⟨true, R, false⟩ = T' at *
              go_wp2_with fail
              go_meet
              exact ⟨_, s, HO'⟩
            · obtain ⟨e1, e2, _, _⟩ := set_mask 2 T D U R false (by omega) (by omega) (by omega) HR.out.1 (by have := HR.out.2; omega) hl
              rw [← HQ.out] at e2
              have E0 := Lib.hid (show rsC 2 D U R = 0 by simp [rsC, e1])
              have E1 := Lib.hid e2
              have hpc' : (partC T).set q R = partC (T.set q ⟨true, R, false⟩) := partC_set T q ⟨true, R, false⟩ (by omega)
              have hmc' : (maskC T).set q false = maskC (T.set q ⟨true, R, false⟩) := maskC_set T q ⟨true, R, false⟩ (by omega)
              have HO' := Lib.hid (HO.out.set q ⟨true, R, false⟩ (by omega) (fun h => by cases h) (fun _ => HR.out.1))
              clear e1 e2 hl
              go_wp2_with fail
              refine (pmset_is g 2 T (T.set q ⟨true, R, false⟩) D U R 0 _ s.t E1.out E0.out).mono ?_
              rintro e w3 ⟨rfl, t3, g3⟩
              replace s := s.call t3 g3
              clear t3 g3 c0 c3 c4
              have c3 := (s.bel.cell (p := ⟨ab, ao + k * 5 + 3, none⟩) hblt).trans C3.out
              obtain ⟨u1, p1⟩ := s.hasP q hq16
              obtain ⟨u2, m1⟩ := s.hasM q hq16
              have p2 := s.pb.frozen q
              have m2 := s.mb.frozen q
              have hpm := s.pm
              have s4 := (s.setP q R).setM q false
              rw [hpc', hmc'] at s4
              have S4 := Lib.hid s4
              clear s s4 hpc' hmc'
              go_wp2_with fail
              refine (num_any _ _).mono ?_
              rintro e w' ⟨rfl, rfl⟩
              have s := S4.out
              clear S4 c3 p1 p2 m1 m2 hpm E0 E1
              generalize World.setCell _ _ _ = wy at s ⊢
              generalize T.set q ⟨true, R, false⟩ = T' at *
              go_wp2_with fail
              go_meet
              exact ⟨_, s, HO'⟩
            · cases hx : (T.getD q ro0).is with
              | true =>
                obtain ⟨l1, l2⟩ := look_atR T D U q (by omega) (by omega) HQ.out
                obtain ⟨r1, r2⟩ := put_atR T D U q false (by omega) (by omega) HQ.out
                have E0 := Lib.hid (l1 hx).1
                have E1 := Lib.hid (r1 hx).1
                have pv : 0 ≤ pOf (T.getD q ro0) := by rw [pOf_yes hx]; exact (HO.out q).2 hx
                have hpc' : (partC T).set q (-1) = partC (T.set q ro0) := partC_set T q ro0 (by omega)
                have hmc' : (maskC T).set q false = maskC (T.set q ro0) := maskC_set T q ro0 (by omega)
                have HO' := Lib.hid (HO.out.set q ro0 (by omega) (fun _ => rfl) (fun h => by cases h))
                clear l1 l2 r1 r2 hl hx
                go_wp2_with fail
                refine (pmunset_is g 2 T (T.set q ro0) D U 0 _ s.t E1.out E0.out).mono ?_
                rintro e w3 ⟨rfl, t3, g3⟩
                replace s := s.call t3 g3
                have p1 := s.atP q hq16
                generalize pOf (T.getD q ro0) = pq at *
                clear t3 g3 c0 c3 c4 
                go_wp2_with fail
                go_quiet (first | (go_at_call 9; first | exact quiet_ (fun W => num_any _ W) | exact quiet_a (fun W => num_any _ W)))
                replace s := s.drewN nq
                clear p1
                generalize w3.drewN nq = wx at *
                have p1 := s.pb.int (k := q) (by rw [partC_len]; exact hq16)
                obtain ⟨u2, m1⟩ := s.hasM q hq16
                have p2 := s.pb.frozen q
                have m2 := s.mb.frozen q
                have hpm := s.pm
                have s4 := (s.setP q (-1)).setM q false
                rw [hpc', hmc'] at s4
                have S4 := Lib.hid s4
                clear s s4 hpc' hmc'
                go_wp2_with fail
                have s := S4.out
                clear S4 p1 p2 m1 m2 hpm E0 E1
                go_meet
                exact ⟨_, s, HO'⟩
              | false =>
                obtain ⟨l1, l2⟩ := look_atR T D U q (by omega) (by omega) HQ.out
                obtain ⟨r1, r2⟩ := put_atR T D U q false (by omega) (by omega) HQ.out
                have E0 := Lib.hid (l2 hx).1
                have E1 := Lib.hid (r2 hx).1
                have pv : pOf (T.getD q ro0) = -1 := by exact pOf_no hx
                have HT := Lib.hid (show T = T.set q ro0 by rw [← (HO.out q).1 hx, getR_self])
                have hpc' : (partC T).set q (-1) = partC (T.set q ro0) := partC_set T q ro0 (by omega)
                have hmc' : (maskC T).set q false = maskC (T.set q ro0) := maskC_set T q ro0 (by omega)
                have HO' := Lib.hid (HO.out.set q ro0 (by omega) (fun _ => rfl) (fun h => by cases h))
                clear l1 l2 r1 r2 hl hx
                go_wp2_with fail
                refine (pmunset_is g 2 T (T) D U 1101 _ s.t E1.out E0.out).mono ?_
                rintro e w3 ⟨rfl, t3, g3⟩
                replace s := s.call (show PR w3 g 2 (T.set q ro0) by rw [← HT.out]; exact t3) g3
                have p1 := s.atP q hq16
                rw [pv] at p1
                clear t3 g3 c0 c3 c4 pv
                go_wp2_with fail
                go_quiet (first | (go_at_call 9; first | exact quiet_ (fun W => num_any _ W) | exact quiet_a (fun W => num_any _ W)))
                replace s := s.drewN nq
                clear p1
                generalize w3.drewN nq = wx at *
                have p1 := s.pb.int (k := q) (by rw [partC_len]; exact hq16)
                obtain ⟨u2, m1⟩ := s.hasM q hq16
                have p2 := s.pb.frozen q
                have m2 := s.mb.frozen q
                have hpm := s.pm
                have s4 := (s.setP q (-1)).setM q false
                rw [hpc', hmc'] at s4
                have S4 := Lib.hid s4
                clear s s4 hpc' hmc'
                go_wp2_with fail
                have s := S4.out
                clear S4 p1 p2 m1 m2 hpm E0 E1
                go_meet
                exact ⟨_, s, HO'⟩
            · cases M with
              | true =>
                cases hx : (T.getD q ro0).is with
                | true =>
                  obtain ⟨l1, l2⟩ := look_atR T D U q (by omega) (by omega) HQ.out
                  obtain ⟨r1, r2⟩ := put_atR T D U q true (by omega) (by omega) HQ.out
                  have E0 := Lib.hid (l1 hx).1
                  have E1 := Lib.hid (r1 hx).2
                  have pv : 0 ≤ pOf (T.getD q ro0) := by rw [pOf_yes hx]; exact (HO.out q).2 hx
                  have HPC := Lib.hid (show partC T = partC (T.set q { T.getD q ro0 with m := true }) from (partC_mask T q true (by omega)).symm)
                  have hmc' : (maskC T).set q true = maskC (T.set q { T.getD q ro0 with m := true }) := maskC_set T q { T.getD q ro0 with m := true } (by omega)
                  have HO' : Hid (OkR (T.set q { T.getD q ro0 with m := true })) := Lib.hid (HO.out.set q { T.getD q ro0 with m := true } (by omega) (fun h => by rw [show ({ T.getD q ro0 with m := true } : Ro).is = (T.getD q ro0).is from rfl, hx] at h; cases h) (fun _ => (HO.out q).2 hx))
                  have HMC := Lib.hid hmc'
                  clear l1 l2 r1 r2 hl hx hmc'
                  go_wp2_with fail
                  refine (pmmask_is g 2 T (T.set q { T.getD q ro0 with m := true }) D U 0 true _ s.t E1.out E0.out).mono ?_
                  rintro e w3 ⟨rfl, t3, g3⟩
                  replace s := s.call t3 g3
                  have p1 := s.atP q hq16
                  generalize pOf (T.getD q ro0) = pq at *
                  have P1 := Lib.hid p1
                  clear t3 g3 c0 c3 c4 
                  go_wp2_with fail
                  go_quiet (first | (go_at_call 9; first | exact quiet_ (fun W => num_any _ W) | exact quiet_a (fun W => num_any _ W)))
                  replace s := s.drewN nq
                  have p1' : (w3.drewN nq).cell? ⟨p, q, none⟩ = w3.cell? ⟨p, q, none⟩ := rfl
                  rw [P1.out] at p1'
                  clear p1 P1
                  generalize w3.drewN nq = wx at *
                  obtain ⟨u2, m1⟩ := s.hasM q hq16
                  have m2 := s.mb.frozen q
                  have c4 := (s.bel.cell (p := ⟨ab, ao + k * 5 + 4, none⟩) hblt).trans C4.out
                  have s4 := s.setM q true
                  rw [HMC.out, HPC.out] at s4
                  have S4 := Lib.hid s4
                  clear s s4
                  go_wp2_with fail
                  have s := S4.out
                  clear S4 p1' m1 m2 E0 E1 c4
                  go_meet
                  exact ⟨_, s, HO'⟩
                | false =>
                  obtain ⟨l1, l2⟩ := look_atR T D U q (by omega) (by omega) HQ.out
                  obtain ⟨r1, r2⟩ := put_atR T D U q true (by omega) (by omega) HQ.out
                  have E0 := Lib.hid (l2 hx).1
                  have E1 := Lib.hid (r2 hx).2
                  have pv : pOf (T.getD q ro0) = -1 := by exact pOf_no hx
                  have hmc' : (maskC T).set q false = maskC (T) := by have h9 := maskC_set T q (T.getD q ro0) (by omega); rw [getR_self, (HO.out q).1 hx] at h9; exact h9
                  have HO' : Hid (OkR (T)) := Lib.hid (HO.out)
                  have HMC := Lib.hid hmc'
                  clear l1 l2 r1 r2 hl hx hmc'
                  go_wp2_with fail
                  refine (pmmask_is g 2 T (T) D U 1101 true _ s.t E1.out E0.out).mono ?_
                  rintro e w3 ⟨rfl, t3, g3⟩
                  replace s := s.call t3 g3
                  have p1 := s.atP q hq16
                  rw [pv] at p1
                  have P1 := Lib.hid p1
                  clear t3 g3 c0 c3 c4 pv
                  go_wp2_with fail
                  go_quiet (first | (go_at_call 9; first | exact quiet_ (fun W => num_any _ W) | exact quiet_a (fun W => num_any _ W)))
                  replace s := s.drewN nq
                  have p1' : (w3.drewN nq).cell? ⟨p, q, none⟩ = w3.cell? ⟨p, q, none⟩ := rfl
                  rw [P1.out] at p1'
                  clear p1 P1
                  generalize w3.drewN nq = wx at *
                  obtain ⟨u2, m1⟩ := s.hasM q hq16
                  have m2 := s.mb.frozen q
                  have c4 := (s.bel.cell (p := ⟨ab, ao + k * 5 + 4, none⟩) hblt).trans C4.out
                  have s4 := s.setM q false
                  rw [HMC.out] at s4
                  have S4 := Lib.hid s4
                  clear s s4
                  go_wp2_with fail
                  have s := S4.out
                  clear S4 p1' m1 m2 E0 E1 c4
                  go_meet
                  exact ⟨_, s, HO'⟩
              | false =>
                cases hx : (T.getD q ro0).is with
                | true =>
                  obtain ⟨l1, l2⟩ := look_atR T D U q (by omega) (by omega) HQ.out
                  obtain ⟨r1, r2⟩ := put_atR T D U q false (by omega) (by omega) HQ.out
                  have E0 := Lib.hid (l1 hx).1
                  have E1 := Lib.hid (r1 hx).2
                  have pv : 0 ≤ pOf (T.getD q ro0) := by rw [pOf_yes hx]; exact (HO.out q).2 hx
                  have HPC := Lib.hid (show partC T = partC (T.set q { T.getD q ro0 with m := false }) from (partC_mask T q false (by omega)).symm)
                  have hmc' : (maskC T).set q false = maskC (T.set q { T.getD q ro0 with m := false }) := maskC_set T q { T.getD q ro0 with m := false } (by omega)
                  have HO' : Hid (OkR (T.set q { T.getD q ro0 with m := false })) := Lib.hid (HO.out.set q { T.getD q ro0 with m := false } (by omega) (fun h => by rw [show ({ T.getD q ro0 with m := false } : Ro).is = (T.getD q ro0).is from rfl, hx] at h; cases h) (fun _ => (HO.out q).2 hx))
                  have HMC := Lib.hid hmc'
                  clear l1 l2 r1 r2 hl hx hmc'
                  go_wp2_with fail
                  refine (pmmask_is g 2 T (T.set q { T.getD q ro0 with m := false }) D U 0 false _ s.t E1.out E0.out).mono ?_
                  rintro e w3 ⟨rfl, t3, g3⟩
                  replace s := s.call t3 g3
                  have p1 := s.atP q hq16
                  generalize pOf (T.getD q ro0) = pq at *
                  have P1 := Lib.hid p1
                  clear t3 g3 c0 c3 c4 
                  go_wp2_with fail
                  go_quiet (first | (go_at_call 9; first | exact quiet_ (fun W => num_any _ W) | exact quiet_a (fun W => num_any _ W)))
                  replace s := s.drewN nq
                  have p1' : (w3.drewN nq).cell? ⟨p, q, none⟩ = w3.cell? ⟨p, q, none⟩ := rfl
                  rw [P1.out] at p1'
                  clear p1 P1
                  generalize w3.drewN nq = wx at *
                  obtain ⟨u2, m1⟩ := s.hasM q hq16
                  have m2 := s.mb.frozen q
                  have c4 := (s.bel.cell (p := ⟨ab, ao + k * 5 + 4, none⟩) hblt).trans C4.out
                  have s4 := s.setM q false
                  rw [HMC.out, HPC.out] at s4
                  have S4 := Lib.hid s4
                  clear s s4
                  go_wp2_with fail
                  have s := S4.out
                  clear S4 p1' m1 m2 E0 E1 c4
                  go_meet
                  exact ⟨_, s, HO'⟩
                | false =>
                  obtain ⟨l1, l2⟩ := look_atR T D U q (by omega) (by omega) HQ.out
                  obtain ⟨r1, r2⟩ := put_atR T D U q false (by omega) (by omega) HQ.out
                  have E0 := Lib.hid (l2 hx).1
                  have E1 := Lib.hid (r2 hx).2
                  have pv : pOf (T.getD q ro0) = -1 := by exact pOf_no hx
                  have hmc' : (maskC T).set q false = maskC (T) := by have h9 := maskC_set T q (T.getD q ro0) (by omega); rw [getR_self, (HO.out q).1 hx] at h9; exact h9
                  have HO' : Hid (OkR (T)) := Lib.hid (HO.out)
                  have HMC := Lib.hid hmc'
                  clear l1 l2 r1 r2 hl hx hmc'
                  go_wp2_with fail
                  refine (pmmask_is g 2 T (T) D U 1101 false _ s.t E1.out E0.out).mono ?_
                  rintro e w3 ⟨rfl, t3, g3⟩
                  replace s := s.call t3 g3
                  have p1 := s.atP q hq16
                  rw [pv] at p1
                  have P1 := Lib.hid p1
                  clear t3 g3 c0 c3 c4 pv
                  go_wp2_with fail
                  go_quiet (first | (go_at_call 9; first | exact quiet_ (fun W => num_any _ W) | exact quiet_a (fun W => num_any _ W)))
                  replace s := s.drewN nq
                  have p1' : (w3.drewN nq).cell? ⟨p, q, none⟩ = w3.cell? ⟨p, q, none⟩ := rfl
                  rw [P1.out] at p1'
                  clear p1 P1
                  generalize w3.drewN nq = wx at *
                  obtain ⟨u2, m1⟩ := s.hasM q hq16
                  have m2 := s.mb.frozen q
                  have c4 := (s.bel.cell (p := ⟨ab, ao + k * 5 + 4, none⟩) hblt).trans C4.out
                  have s4 := s.setM q false
                  rw [HMC.out] at s4
                  have S4 := Lib.hid s4
                  clear s s4
                  go_wp2_with fail
                  have s := S4.out
                  clear S4 p1' m1 m2 E0 E1 c4
                  go_meet
                  exact ⟨_, s, HO'⟩
          case rest =>
            clear s
            obtain ⟨T', s, HO'⟩ := hcut
            clear c0 c3 c4
            go_wp2_with fail
            go_loopw [15] (fun i wq => ∃ (j : Nat), j ≤ 16 ∧ i = .int .i64 j ∧ Rl w g p m T' (partC T') (maskC T') wq) (fun i _ => 16 - (intOf i).toNat)
            case atStart => exact ⟨0, by omega, rfl, s⟩
            case round =>
              clear s
              obtain ⟨j, hj, rfl, s⟩ := hrel
              by_cases hj16 : j < 16
              · have hj16' : (j : Int) < 16 := by omega
                obtain ⟨a, ha⟩ : ∃ a : Nat, a = j / 8 := ⟨_, rfl⟩
                obtain ⟨b, hb⟩ : ∃ b : Nat, b = j % 8 := ⟨_, rfl⟩
                have hja : j = a * 8 + b := by omega
                have haI : (j : Int) / 8 = (a : Int) := by omega
                have hbI : (j : Int) % 8 = (b : Int) := by omega
                obtain ⟨l1, l2⟩ := look_atR T' a b j (by omega) (by omega) hja
                have hok := HO'.out j
                have HJ := Lib.hid hj16
                cases hx : (T'.getD j ro0).is with
                | true =>
                  obtain ⟨q1, q2, q3⟩ := l1 hx
                  have hp0 := hok.2 hx
                  have pv : pOf (T'.getD j ro0) = (T'.getD j ro0).p := pOf_yes hx
                  have HP := Lib.hid (fun (w' : World) (s' : Rl w g p m T' (partC T') (maskC T') w') => And.intro (s'.atP j HJ.out) (s'.atM j HJ.out))
                  rw [pv] at HP
                  generalize (T'.getD j ro0).p = lp at *
                  generalize (T'.getD j ro0).m = lm at *
                  have Q1 := Lib.hid q1; have Q2 := Lib.hid q2; have Q3 := Lib.hid q3
                  clear q1 q2 q3 l1 l2 hok hx pv ha hb hja
                  go_wp2_with fail
                  refine (pmlook_is g 2 T' a b lp 0 lm _ s.t Q2.out Q3.out Q1.out).mono ?_
                  rintro e w' ⟨rfl, qq, rfl⟩
                  replace s := s.drewN qq
                  generalize World.drewN _ qq = wz at *
                  obtain ⟨pc, mc⟩ := HP.out _ s
                  go_wp2_with (go_at_call 9; refine (num_any _ _).mono ?_; rintro e w' ⟨rfl, rfl⟩)
                  go_roundw
                  case rel => exact ⟨j + 1, by omega, by go_num, s⟩
                  case measure => simp [intOf]; omega
                | false =>
                  obtain ⟨q1, q2, q3⟩ := l2 hx
                  have pv : pOf (T'.getD j ro0) = -1 := pOf_no hx
                  have HP := Lib.hid (fun (w' : World) (s' : Rl w g p m T' (partC T') (maskC T') w') => s'.atP j HJ.out)
                  rw [pv] at HP
                  have Q1 := Lib.hid q1; have Q2 := Lib.hid q2; have Q3 := Lib.hid q3
                  clear q1 q2 q3 l1 l2 hok hx pv ha hb hja
                  go_wp2_with fail
                  refine (pmlook_is g 2 T' a b 0 1101 false _ s.t Q2.out Q3.out Q1.out).mono ?_
                  rintro e w' ⟨rfl, qq, rfl⟩
                  replace s := s.drewN qq
                  generalize World.drewN _ qq = wz at *
                  have pc := HP.out _ s
                  go_wp2_with (go_at_call 9; refine (num_any _ _).mono ?_; rintro e w' ⟨rfl, rfl⟩)
                  go_roundw
                  case rel => exact ⟨j + 1, by omega, by go_num, s⟩
                  case measure => simp [intOf]; omega
              · go_wp2_with fail
                go_roundw
                case rel => exact ⟨k + 1, _, by omega, by go_num, s, HO'.out⟩
                case measure => simp [intOf]; omega
        · have hend : (k : Int) < n → decide ((k : Int) < 60) = false := by intro h; simp; omega
          by_cases hkn : (k : Int) < n
          all_goals
            try have hend' := hend hkn
            have hbz := s.bel
            clear hend hgo s
            go_wp2_with fail
            go_ret
            exact ⟨rfl, hbz⟩

end Go.Proofs.Ytmdohdibpifckaa
