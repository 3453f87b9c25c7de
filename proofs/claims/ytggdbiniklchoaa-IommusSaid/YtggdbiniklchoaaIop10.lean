/-
  Contracts of package iommu: Translate.
-/
import Derived.Test.YtggdbiniklchoaaIopC
import Derived.Test.YtggdbiniklchoaaAddrAll
import Derived.Test.YtggdbiniklchoaaPlain2
namespace Go.Proofs.Ytggdbiniklchoaa
open Go.RowKit
set_option linter.unusedVariables false
set_option maxRecDepth 100000

/-! ### the pieces of a run that begins in its first page -/
theorem spl_shift (q n : Nat) : ∀ r, spl (q * 64 + r) n = (spl r n).map (fun x => (x.1 + q, x.2.1, x.2.2)) := by
  induction n using Nat.strongRecOn with
  | ind n ih =>
    intro r
    rcases Nat.eq_zero_or_pos n with h | h
    · subst h; rfl
    · rw [spl_step _ _ h, spl_step r _ h]
      have e1 : (q * 64 + r) / 64 = r / 64 + q := by omega
      have e2 : (q * 64 + r) % 64 = r % 64 := by omega
      rw [e1, e2, List.map_cons, Nat.add_assoc (q * 64), ih _ (by omega)]
theorem spl_idx (n : Nat) : ∀ a i (h : i < (spl a n).length), (spl a n)[i].1 = a / 64 + i := by
  induction n using Nat.strongRecOn with
  | ind n ih =>
    intro a i h
    rcases Nat.eq_zero_or_pos n with h0 | h0
    · subst h0; simp [spl_zero] at h
    · simp only [spl_step a n h0] at h ⊢
      match i with
      | 0 => simp
      | i + 1 =>
        simp only [List.length_cons] at h
        simp only [List.getElem_cons_succ]
        by_cases hlast : n ≤ 64 - a % 64
        · have : n - min n (64 - a % 64) = 0 := by omega
          rw [this, spl_zero] at h
          simp at h
        · rw [ih _ (by omega)]
          omega

/-- The first i pieces bear their frames. -/
def upd7 (l : List UInt8) (R : Int) (q : Nat) (x : Nat × Nat × Nat) : Nat × Nat × Nat := ((wF l R ((x.1 + q : Nat) : Int)).toNat, x.2.1, x.2.2)
def dn7 (l : List UInt8) (R : Int) (q : Nat) (P : List (Nat × Nat × Nat)) (i : Nat) : List (Nat × Nat × Nat) := (P.take i).map (upd7 l R q) ++ P.drop i
theorem dn7_len (l : List UInt8) (R : Int) (q : Nat) (P : List (Nat × Nat × Nat)) (i : Nat) (h : i ≤ P.length) : (dn7 l R q P i).length = P.length := by
  unfold dn7; rw [List.length_append, List.length_map, List.length_take, List.length_drop]; omega
theorem flat_set1 (L : List (Nat × Nat × Nat)) : ∀ i (h : i < L.length) (f : Nat), (flat L).set (i * 3) (.int .i64 f) = flat (L.set i (f, L[i].2.1, L[i].2.2)) := by
  induction L with
  | nil => intro i h; simp at h
  | cons p L ih =>
    intro i h f
    match i with
    | 0 => rfl
    | i + 1 =>
      have e : (i + 1) * 3 = i * 3 + 1 + 1 + 1 := by omega
      have := ih i (by simpa using h) f
      simp only [flat, List.flatMap_cons, List.set_cons_succ, List.getElem_cons_succ] at this ⊢
      rw [← this, e]
      rfl
theorem dn7_set (l : List UInt8) (R : Int) (q : Nat) (P : List (Nat × Nat × Nat)) (i : Nat) (h : i < P.length) (hp : P[i].1 = i) : (flat (dn7 l R q P i)).set (i * 3) (.int .i64 (wF l R ((i + q : Nat) : Int)).toNat) = flat (dn7 l R q P (i + 1)) := by
  have hl := dn7_len l R q P i (by omega)
  rw [flat_set1 _ i (by omega)]
  congr 1
  have hg : (dn7 l R q P i)[i]'(by omega) = P[i] := by
    unfold dn7
    rw [List.getElem_append_right (by simp; omega)]
    simp
    congr 1
    omega
  rw [hg]
  unfold dn7
  have hm : ((P.take i).map (upd7 l R q)).length = i := by simp; omega
  rw [List.set_append_right _ _ (by omega), hm, Nat.sub_self, List.drop_eq_getElem_cons h, List.set_cons_zero, List.take_add_one, List.getElem?_eq_getElem h, List.map_append]
  simp [upd7, hp]
theorem dn7_all (l : List UInt8) (R : Int) (q r n : Nat) : dn7 l R q (spl r n) (spl r n).length = (spl (q * 64 + r) n).map (fun x => ((wF l R ((x.1 : Nat) : Int)).toNat, x.2.1, x.2.2)) := by
  unfold dn7
  rw [List.take_length, List.drop_length, List.append_nil, spl_shift, List.map_map]
  rfl

/-- What the rest of a run answers. -/
theorem runC_next (l : List UInt8) (R : Int) (write : Bool) (L : List (Nat × Nat × Nat)) (i : Nat) (h : i < L.length) (hr : runC l R write L = runC l R write (L.drop i)) :
    (pgC l R write ((L[i].1 : Nat) : Int) = 0 → runC l R write L = runC l R write (L.drop (i + 1))) ∧ (pgC l R write ((L[i].1 : Nat) : Int) ≠ 0 → runC l R write L = pgC l R write ((L[i].1 : Nat) : Int)) := by
  rw [List.drop_eq_getElem_cons h, show runC l R write (L[i] :: L.drop (i + 1)) = if pgC l R write ((L[i].1 : Nat) : Int) = 0 then runC l R write (L.drop (i + 1)) else pgC l R write ((L[i].1 : Nat) : Int) from rfl] at hr
  constructor
  · intro e; rw [if_pos e] at hr; exact hr
  · intro e; rw [if_neg e] at hr; exact hr

theorem walkF_nn (l : List UInt8) (R p : Int) : 0 ≤ wF l R p := by
  have hs : ∀ F k, 0 ≤ sF l F k := by
    intro F k; unfold sF sC
    by_cases hg : gB (sW l F k) = true ∧ gF (sW l F k) < ((l.length / 64 : Nat) : Int)
    · have := g_bounds _ hg.1
      split <;> omega
    · rw [if_neg hg]; simp
  unfold wF
  split
  · exact hs _ _
  · omega

/-- While the pieces get their frames. -/
structure Trn (B : Nat) (w0 : World) (x g t : Nat) (v : Value) (ps : List (List Int)) (l : List UInt8) (b cap N : Nat) (D : List (Nat × Nat × Nat)) (w : World) : Prop where
  ew : Ew B w0 x g t v ps l w
  own : w.ownsRow w0.heap.size 65 3 (.slice (some ⟨b, 0, none⟩) N cap) N (flat D)
  wb : w0.heap.size ≤ b
section
variable {B : Nat} {w0 w w' : World} {x g t : Nat} {v : Value} {ps : List (List Int)} {l : List UInt8} {b cap N : Nat} {D : List (Nat × Nat × Nat)}
theorem Trn.next (h : Trn B w0 x g t v ps l b cap N D w) (hi : Ix B w' x g t v ps l) (hc : Cw w' t) (gr : w.grownBy w' (some t)) : Trn B w0 x g t v ps l b cap N D w' := by
  refine ⟨h.ew.next hi hc gr, own_stay h.own (fun k cs hk => gr.block k hk.lt ?_), h.wb⟩
  obtain ⟨L, ⟨z, _, hb⟩, hL⟩ := h.ew.cw
  simpa using hk.apart hb (by decide)
theorem Trn.alloc (h : Trn B w0 x g t v ps l b cap N D w) (o : Obj) : Trn B w0 x g t v ps l b cap N D (w.alloc o) := ⟨h.ew.alloc o, own_stay h.own (fun k cs hk => Below.heap_alloc w o k hk.lt), h.wb⟩
theorem Trn.blk (h : Trn B w0 x g t v ps l b cap N D w) : ∃ cs, Blk w b 65 cs := by
  rcases h.own.2 with ⟨h', _⟩ | ⟨g', cap', cur, h', _, hg, _⟩
  · simp at h'
  · simp only [Value.slice.injEq, Option.some.injEq, Addr.mk.injEq, and_true, true_and] at h'
    obtain ⟨rfl, rfl⟩ := h'
    exact ⟨cur.toList, hg⟩
theorem Trn.set (h : Trn B w0 x g t v ps l b cap N D w) (i : Nat) (f : Int) (D' : List (Nat × Nat × Nat)) (hD : (flat D).set i (.int .i64 f) = flat D') : Trn B w0 x g t v ps l b cap N D' (w.setCell ⟨b, i, none⟩ (.int .i64 f)) := by
  obtain ⟨cs, hk⟩ := h.blk
  have e := h.ew
  have n1 : x ≠ b := e.ix.sx.apart hk (by decide)
  have n2 : g ≠ b := by obtain ⟨m, r, _, _, _, _, hg⟩ := e.ix.pm; exact hg.apart hk (by decide)
  obtain ⟨L, hp, hL⟩ := e.cw
  have n3 : t ≠ b := by obtain ⟨z, _, hb⟩ := hp; exact hb.apart hk (by decide)
  refine ⟨⟨⟨e.ix.sx.far n1 _, e.ix.pl.grown (gone _) hk (by decide), e.ix.pm.far n2 _, e.ix.n1, e.ix.n4, e.ix.lens, e.ix.inr⟩, ⟨L, hp.far n3 _, hL⟩, gset e.gr (.inr h.wb) _, e.tw⟩, ?_, h.wb⟩
  rw [← hD]
  exact (h.own.stored i _).1
end

/-- What Translate answers and leaves. -/
def TrP (B : Nat) (x g t : Nat) (v : Value) (ps : List (List Int)) (l : List UInt8) (w : World) (P : List (Nat × Nat × Nat)) (c : Int) (e : Ending) (w' : World) : Prop :=
  ∃ u, e = .returned (.tuple #[u, .int .i64 c]) ∧ w'.ownsRow w.heap.size 65 3 u P.length (flat P) ∧ Ix B w' x g t v ps l ∧ Cw w' t ∧ w.grownBy w' (some t)

section
variable {B : Nat} {x g t : Nat} {v : Value} {ps : List (List Int)} {l : List UInt8}
set_option maxHeartbeats 4000000 in
theorem translate_no (d a k : Int) (write : Bool) (w : World) (h : Ix B w x g t v ps l) (hc : Cw w t) (hB : ioTrB ps d a k = false) :
    Calls Try.prog 17 #[.pointer (some ⟨x, 0, none⟩), .int .i64 d, .int .i64 a, .int .i64 k, .bool write] w (TrP B x g t v ps l w (ioTrP ps l d a k write) (ioTrC ps l d a k write)) := by
  have hC : ioTrC ps l d a k write = 700 := by unfold ioTrC; rw [hB]; rfl
  have hP : ioTrP ps l d a k write = [] := by unfold ioTrP; rw [hC]; rfl
  have hth : thB ps.length d 0 = dvB ps.length d := by unfold thB dvB; congr 1; simp
  unfold ioTrB at hB
  rw [hth] at hB
  rw [hC, hP]
  have hend : TrP B x g t v ps l w [] 700 (.returned (.tuple #[.slice none 0 0, .int .i64 700])) w := ⟨_, rfl, World.ownsRow_nil _ _ _ _, h, hc, grefl _ _⟩
  have HD := Lib.hid (isdev_any d w h); have HM := Lib.hid (may_any a k 16384 w (by omega)); have HEND := Lib.hid hend
  clear hend hC hP hth h hc
  cases hd : dvB ps.length d with
  | false =>
    have HDB := Lib.hid hd
    clear hd hB
    go_enter Try.func17, Try.ntmps17
    go_wp2_with fail
    refine HD.out.mono ?_
    rintro e w1 ⟨rfl, rfl⟩
    rw [HDB.out]
    go_wp2_with fail
    go_ret2
    exact HEND.out
  | true =>
    have HDB := Lib.hid hd
    rw [hd, Bool.true_and] at hB
    clear hd
    by_cases h1 : k < 1
    · clear hB
      go_enter Try.func17, Try.ntmps17
      go_wp2_with fail
      refine HD.out.mono ?_
      rintro e w1 ⟨rfl, rfl⟩
      rw [HDB.out]
      go_wp2_with fail
      go_ret2
      exact HEND.out
    · by_cases h2 : 256 < k
      · clear hB
        go_enter Try.func17, Try.ntmps17
        go_wp2_with fail
        refine HD.out.mono ?_
        rintro e w1 ⟨rfl, rfl⟩
        rw [HDB.out]
        go_wp2_with fail
        go_ret2
        exact HEND.out
      · rw [show decide (1 ≤ k ∧ k ≤ 256) = true from decide_eq_true (by omega), Bool.true_and] at hB
        have HB := Lib.hid hB
        have d1 : decide (k < 1) = false := decide_eq_false h1
        have d2 : decide (256 < k) = false := decide_eq_false h2
        clear hB
        go_enter Try.func17, Try.ntmps17
        go_wp2_with fail
        refine HD.out.mono ?_
        rintro e w1 ⟨rfl, rfl⟩
        rw [HDB.out]
        go_wp2_with fail
        refine HM.out.mono ?_
        rintro e w1 ⟨rfl, rfl⟩
        rw [HB.out]
        go_wp2_with fail
        go_ret2
        exact HEND.out

set_option maxHeartbeats 4000000 in
theorem translate_yes (d : Int) (a k : Nat) (write : Bool) (w : World) (h : Ix B w x g t v ps l) (hc : Cw w t) (h0 : 0 ≤ d) (h1 : d < ps.length) (hk1 : 1 ≤ k) (hk2 : k ≤ 256) (hak : a + k ≤ 16384) :
    Calls Try.prog 17 #[.pointer (some ⟨x, 0, none⟩), .int .i64 d, .int .i64 a, .int .i64 k, .bool write] w (TrP B x g t v ps l w (if runC l (ioRoot ps d) write (spl a k) = 0 then (spl a k).map (fun x => ((wF l (ioRoot ps d) ((x.1 : Nat) : Int)).toNat, x.2.1, x.2.2)) else []) (runC l (ioRoot ps d) write (spl a k))) := by
  have HDV := Lib.hid (isdev_any d w h)
  have HDB := Lib.hid (dvB_yes h0 h1)
  have HMB : Hid (mayB (a : Int) (k : Int) 16384 = true) := Lib.hid (decide_eq_true (by omega))
  have HM := Lib.hid (may_any (a : Int) (k : Int) 16384 w (by omega))
  have ea : a / 64 * 64 + a % 64 = a := by omega
  have hcnt := spl_count k (a % 64) (by omega)
  have hcnt2 := spl_count k a (by omega)
  have hidx := spl_idx k (a % 64)
  have hidx2 := spl_idx k a
  have hall := dn7_all l (ioRoot ps d) (a / 64) (a % 64) k
  rw [ea] at hall
  rw [← hall]
  have hsp : ((a : Int) % 64).toNat = a % 64 := by omega
  have hspl := split_yes ((a : Int) % 64) (k : Int) w (by omega) (by omega) (by omega)
  rw [hsp, Int.toNat_natCast] at hspl
  have hNN : (spl a k).length = (spl (a % 64) k).length := by rw [hcnt, hcnt2]; omega
  have KA := Lib.hid (fun p W hW hcw => allowed_any (B := B) (x := x) (g := g) (t := t) (v := v) (ps := ps) (l := l) d p write W hW hcw h0 h1)
  have hrn := fun i => runC_next l (ioRoot ps d) write (spl a k) i
  have hset := dn7_set l (ioRoot ps d) (a / 64) (spl (a % 64) k)
  have hdl := dn7_len l (ioRoot ps d) (a / 64) (spl (a % 64) k)
  have hF := walkF_nn l (ioRoot ps d)
  have hq : a / 64 + (spl (a % 64) k).length ≤ 256 := by rw [hcnt]; omega
  have hN1 : 1 ≤ (spl (a % 64) k).length := by rw [hcnt]; omega
  generalize ioRoot ps d = R at *
  generalize hP : spl (a % 64) k = P at *
  generalize hS : spl a k = S at *
  obtain ⟨N, hN⟩ : ∃ N, P.length = N := ⟨_, rfl⟩
  rw [hN] at hcnt hq hN1 hNN hall ⊢
  have hi1 : ∀ i (hi : i < P.length), P[i].1 = i := by
    intro i hi
    have := hidx i hi
    omega
  have hset2 : ∀ i, i < N → (flat (dn7 l R (a / 64) P i)).set (i * 3) (.int .i64 (wF l R ((i + a / 64 : Nat) : Int)).toNat) = flat (dn7 l R (a / 64) P (i + 1)) := fun i hi => hset i (by omega) (hi1 i (by omega))
  have hrn2 : ∀ i, i < N → runC l R write S = runC l R write (S.drop i) → (pgC l R write (((i + a / 64 : Nat) : Nat) : Int) = 0 → runC l R write S = runC l R write (S.drop (i + 1))) ∧ (pgC l R write (((i + a / 64 : Nat) : Nat) : Int) ≠ 0 → runC l R write S = pgC l R write (((i + a / 64 : Nat) : Nat) : Int)) := by
    intro i hi hr
    have e := hidx2 i (by omega)
    have := hrn i (by omega) hr
    rw [e, Nat.add_comm (a / 64) i] at this
    exact this
  have hend : runC l R write (S.drop N) = 0 := by rw [List.drop_of_length_le (by omega)]; rfl
  have hd0 : dn7 l R (a / 64) P 0 = P := by unfold dn7; simp
  have hlenN : ∀ i, i ≤ N → (dn7 l R (a / 64) P i).length = N := fun i hi => by rw [hdl i (by omega), hN]
  have HSET := Lib.hid hset2; have HRN := Lib.hid hrn2; have HSPL := Lib.hid hspl; have HEND := Lib.hid hend; have HD0 := Lib.hid hd0; have HLN := Lib.hid hlenN; have HF := Lib.hid hF; have HN := Lib.hid hN
  have hew := Ew.start h hc
  generalize hRC : runC l R write S = RC at *
  have HRC := Lib.hid hRC
  generalize hPP : (if RC = 0 then dn7 l R (a / 64) P N else []) = PP
  have HPP := Lib.hid hPP
  clear hPP
  clear hset hset2 hrn hrn2 hspl hend hd0 hlenN hF hN hdl hi1 hidx hidx2 hcnt hcnt2 hsp hall hNN hP hS ea h hc hRC
  go_enter Try.func17, Try.ntmps17
  go_wp2_with fail
  refine HDV.out.mono ?_
  rintro e w1 ⟨rfl, rfl⟩
  rw [HDB.out]
  go_wp2_with fail
  refine HM.out.mono ?_
  rintro e w1 ⟨rfl, rfl⟩
  rw [HMB.out]
  go_wp2_with fail
  refine HSPL.out.mono ?_
  rintro e w1 ⟨u, rfl, hown, hbel⟩
  rw [HN.out] at hown
  obtain ⟨b, cap, rfl, hcap, hwb⟩ : ∃ b cap, u = .slice (some ⟨b, 0, none⟩) N cap ∧ N ≤ cap ∧ w.heap.size ≤ b := by
    rcases hown.2 with ⟨_, h'⟩ | ⟨b, cap, cur, h', hb, _, hnc, _⟩
    · omega
    · exact ⟨b, cap, h', hnc, hb⟩
  have hT : Trn B w x g t v ps l b cap N (dn7 l R (a / 64) P 0) w1 := ⟨hew.below hbel, by rw [HD0.out]; exact hown, hwb⟩
  clear hown hbel hew
  go_wp2_with fail
  go_loopw [48] (fun i wq => ∃ (j : Nat), j ≤ N ∧ i = .int .i64 j ∧ Trn B w x g t v ps l b cap N (dn7 l R (a / 64) P j) wq ∧ Hid (RC = runC l R write (S.drop j))) (fun i _ => N - (intOf i).toNat)
  case atStart => exact ⟨0, by omega, rfl, hT, Lib.hid HRC.out.symm⟩
  case round =>
    clear hT
    obtain ⟨j, hj, rfl, hT, HR⟩ := hrel
    by_cases hlt : j < N
    · go_wp2_with fail
      refine (KA.out _ _ hT.ew.ix hT.ew.cw (by omega) (by omega)).mono ?_
      rintro e w2 ⟨rfl, ix2, cw2, gr2⟩
      replace hT := hT.next ix2 cw2 gr2
      clear ix2 cw2 gr2
      have hpg : (a : Int) / 64 + (j : Int) = ((j + a / 64 : Nat) : Int) := by omega
      rw [hpg]
      have hr := HRN.out j hlt HR.out
      have hs := HSET.out j hlt
      have hfn := HF.out ((j + a / 64 : Nat) : Int)
      obtain ⟨A, hA⟩ := Int.eq_ofNat_of_zero_le hfn
      rw [hA, Int.toNat_natCast] at hs
      rw [hA]
      generalize wP l R ((j + a / 64 : Nat) : Int) = Q at *
      generalize pgC l R write ((j + a / 64 : Nat) : Int) = C at *
      by_cases hC : C = 0
      · subst hC
        have HR2 := Lib.hid (hr.1 rfl)
        have HS := Lib.hid hs
        rw [if_pos rfl, if_pos rfl]
        have hT2 := hT.alloc (.cells #[.int .i64 (A : Int), .int .i64 Q] 46)
        have hbk := Blk.new w2 46 [.int .i64 (A : Int), .int .i64 Q]
        obtain ⟨k0, k1, _, _⟩ := two_at hbk
        obtain ⟨cs, hbb⟩ := hT2.blk
        have hbl := hbb.lt
        have hfz := hbb.frozen (j * 3)
        have hcl := hT2.own.cellAt (j * 3) (by omega)
        rw [(flat_get (dn7 l R (a / 64) P j) j (by rw [HLN.out j (by omega)]; exact hlt)).1] at hcl
        clear hr hs hfn hA hbk hbb hpg HR hT
        go_wp2_with fail
        go_roundw
        case rel => exact ⟨j + 1, by omega, by go_num, hT2.set (j * 3) (A : Int) _ HS.out, HR2⟩
        case measure => simp [intOf]; omega
      · have HR2 := Lib.hid (hr.2 hC)
        rw [if_neg hC, if_neg hC]
        have hc1 : (C == 0) = false := by simpa using hC
        have hc2 : (C != 0) = true := by simpa using hC
        have HC := Lib.hid hC
        clear hr hs hfn hA hpg HR hC
        go_wp2_with fail
        go_ret2
        have e2 := hT.alloc (.cells #[.int .i64 0, .int .i64 0] 46)
        refine ⟨_, by rw [HR2.out]; rfl, ?_, e2.ew.ix, e2.ew.cw, e2.ew.gr⟩
        rw [← HPP.out, if_neg (by rw [HR2.out]; exact HC.out)]
        exact World.ownsRow_nil _ _ _ _
    · obtain rfl : j = N := by omega
      go_wp2_with fail
      go_ret2
      have e0 : RC = 0 := by rw [HR.out, HEND.out]
      subst e0
      refine ⟨_, rfl, ?_, hT.ew.ix, hT.ew.cw, hT.ew.gr⟩
      rw [← HPP.out, if_pos rfl, HLN.out j (Nat.le_refl _)]
      exact hT.own
end

end Go.Proofs.Ytggdbiniklchoaa
