/-
  Contracts of the program's set: clear.
-/
import Derived.Test.YtjmdgjpepogogaaPn8
namespace Go.Proofs.Ytjmdgjpepogogaa
open Go.RowKit Go.ChangeMaps
set_option linter.unusedVariables false
set_option maxRecDepth 100000

theorem flt_len (f : Nat → Bool) : ∀ l : List Nat, (l.filter f).length + (l.filter (fun k => !f k)).length = l.length
  | [] => rfl
  | a :: l => by
    have := flt_len f l
    by_cases h : f a = true
    · simp [h]; omega
    · simp [h]; omega

/-- The keys, but for the first q of device d. -/
def kq (ks : List (Int × Int)) (d : Int) (q : Nat) (k' : List (Int × Int)) : Prop := ∀ i, i ∈ k' ↔ i ∈ ks ∧ ¬ (i.1 = d ∧ 0 ≤ i.2 ∧ i.2 < (q : Int))
/-- What clear's loop has made. -/
structure Cl (S : Nat → Prop) (w : World) (x m c : Nat) (d : Int) (ks : List (Int × Int)) (l' : List Nat) (u : Value) (q : Nat) (wr : World) : Prop where
  hr : HR wr x (.map (some m)) u 0 l'
  mp : ∃ k', MapB wr m k' ∧ kq ks d q k'
  bc : Blk wr c 3 [.int .i64 d]
  fo : Fo S w wr
theorem Cl.del {S : Nat → Prop} {w wr w' : World} {x m c : Nat} {d : Int} {ks k' : List (Int × Int)} {l' : List Nat} {u : Value} {q : Nat} {es : Array MapEntry} {clock : Nat} (h : Cl S w x m c d ks l' u q wr) (hm : MapB wr m k') (hk : kq ks d q k') (sm : S m) (gr : wr.grownBy w' (some m)) (hb : w'.heap[m]? = some (.map es clock)) (ho : MapO es (k'.erase (d, (q : Int)))) : Cl S w x m c d ks l' u (q + 1) w' := by
  refine ⟨⟨h.hr.blk.grown gr (fun e => hm.ne h.hr.blk (by injection e with e; exact e.symm)), h.hr.row.kept gr (.inr (hm.ne_own h.hr.row))⟩, ⟨_, ⟨es, clock, hb, ho⟩, fun i => ?_⟩, h.bc.grown gr (fun e => hm.ne h.bc (by injection e with e; exact e.symm)), h.fo.grown gr (fun i hi => .inl (by injection hi with hi; exact hi ▸ sm))⟩
  rw [hm.nd.mem_erase_iff, hk i]
  obtain ⟨a, b⟩ := i
  simp only [ne_eq, Prod.mk.injEq]
  constructor
  · rintro ⟨h1, h2, h3⟩; exact ⟨h2, fun h4 => by have : ¬ (a = d ∧ b = (q : Int)) := h1; omega⟩
  · rintro ⟨h2, h3⟩; exact ⟨fun h4 => by omega, h2, fun h4 => by omega⟩

set_option maxHeartbeats 2000000 in
theorem sclear_any (S : Nat → Prop) (x m : Nat) (v : Value) (l : List Nat) (d : Int) (w : World) (h : St S w x m v l) :
    Calls Try.prog 65 #[.pointer (some ⟨x, 0, none⟩), .int .i64 d] w fun e w' => e = .returned (.int .i64 ((l.filter (dv d)).length : Nat)) ∧ ∃ u l', St (Nw S w) w' x m u l' ∧ l'.Perm (l.filter (fun k => !dv d k)) ∧ Fo S w w' := by
  have hxl := h.hr.blk.lt
  obtain ⟨A, cap, hv, hcap⟩ := form_of h.hr.row
  have hlen := h.len
  have c1 := h.hr.at1
  have H := Lib.hid h
  obtain ⟨n, hn⟩ : ∃ n, n = l.length := ⟨_, rfl⟩
  rw [← hn] at hv hcap hlen
  have HN := Lib.hid hn
  have hb1 : Below w.heap.size w (w.alloc (.cells [Value.int .i64 d].toArray 3)) := (Below.refl _ _).alloc (Nat.le_refl _) _
  have hcb : Blk (w.alloc (.cells [Value.int .i64 d].toArray 3)) w.heap.size 3 [.int .i64 d] := Blk.new _ _ _
  have B1 := Lib.hid hb1
  have CB := Lib.hid hcb
  clear h hn hb1 hcb
  subst hv
  go_enter Try.func65, Try.ntmps65
  go_wp2_with fail
  change Calls _ _ _ (w.alloc (.cells [Value.int .i64 d].toArray 3)) _
  generalize w.alloc (.cells [Value.int .i64 d].toArray 3) = w1 at *
  generalize hg : w.heap.size = g at *
  have HG := Lib.hid hg
  have cD := ddel_any 0 g d (.slice A n cap) l w1 (own_below H.out.hr.row (by rw [HG.out]; exact B1.out)) (by have := HN.out; omega) CB.out
  clear hg
  refine cD.mono ?_
  clear cD
  rintro e w2 ⟨u, rfl, ru, hu, g2⟩
  have gx : some x ≠ (Value.slice A n cap).ownBlock := H.out.hr.ne
  have b1 : Below w.heap.size w w1 := by rw [HG.out]; exact B1.out
  have hx2 : Blk w2 x 98 [.map (some m), .slice A n cap] := (H.out.hr.blk.below b1 H.out.hr.blk.lt).grown g2 gx
  have hs3 := HR.store hx2 ru
  have hgb : Blk w2 g 3 [.int .i64 d] := CB.out.grown g2 (fun e => own_apart_blk (own_below H.out.hr.row b1) CB.out (by decide) e.symm)
  have hgb3 : Blk (w2.setCell ⟨x, 1, none⟩ u) g 3 [.int .i64 d] := hgb.far (by show g ≠ x; omega) u
  have fo2 : Fo S w w2 := (Fo.of b1 S).grown g2 (fun i hi => .inl (H.out.row i hi))
  have fo3 := fo2.set (p := ⟨x, 1, none⟩) (.inl H.out.sx) u
  obtain ⟨ks, hm, hks⟩ := H.out.mp
  have mst : MapB (w2.setCell ⟨x, 1, none⟩ u) m ks := hm.stay (by
    rw [Below.heap_setCell w2 ⟨x, 1, none⟩ u m (hm.ne H.out.hr.blk), g2.block m (by have := hm.lt; have := b1.size; omega) (fun e => hm.ne_own H.out.hr.row e.symm)]
    exact b1.block m hm.lt)
  have hrow3 : ∀ i, u.ownBlock = some i → S i := fun i hi => H.out.row i (by rw [← hu]; exact hi)
  have c2 := hx2.cell 1
  have f2 := hx2.frozen 1
  simp only [List.getElem?_cons_zero, List.getElem?_cons_succ] at c2
  obtain ⟨Au, cu, hv, hcu⟩ := form_of ru
  obtain ⟨nf, hnf⟩ : ∃ nf, nf = (l.filter (fun k => !dv d k)).length := ⟨_, rfl⟩
  rw [← hnf] at hv hcu
  have HNF := Lib.hid hnf
  have hnf32 : nf ≤ 32 := by have := List.length_filter_le (fun k => !dv d k) l; have := HN.out; omega
  have hcnt : nf + (l.filter (dv d)).length = n := by
    have h1 := flt_len (dv d) l
    have h2 := HN.out
    omega
  have HCNT := Lib.hid hcnt
  have hc32 : (l.filter (dv d)).length ≤ 32 := by omega
  subst hv
  have H3 := Lib.hid hs3
  have GB3 := Lib.hid hgb3
  have FO3 := Lib.hid fo3
  have MST := Lib.hid mst
  have HKS := Lib.hid hks
  have ROW3 := Lib.hid hrow3
  clear hs3 hgb3 fo2 fo3 mst hks hrow3 hm hx2 hgb b1 g2 ru hu gx hnf hcnt c1
  have cI := hinit_any x (.map (some m)) _ _ nf _ H3.out HNF.out.symm (by omega)
  go_wp2_with fail
  clear c2 f2
  generalize w2.setCell ⟨x, 1, none⟩ (.slice Au nf cu) = w3 at *
  refine cI.mono ?_
  clear cI
  rintro e w4 ⟨rfl, l4, u4, hp4⟩
  have hlen4 : l4.length = nf := u4.same.1.trans HNF.out.symm
  have fo4 : Fo S w w4 := FO3.out.grown u4.grown (fun i hi => .inl (ROW3.out i hi))
  have k0 : Cl S w x m g d ks l4 (.slice Au nf cu) 0 w4 := by
    refine ⟨u4.hr, ⟨ks, MST.out.stay (u4.grown.block m MST.out.lt (fun e => MST.out.ne_own H3.out.row e.symm)), fun i => ⟨fun h => ⟨h, fun h2 => by omega⟩, fun h => h.1⟩⟩, GB3.out.grown u4.grown (fun e => own_apart_blk H3.out.row GB3.out (by decide) e.symm), fo4⟩
  have K0 := Lib.hid k0
  have U4 := Lib.hid u4
  have HP4 := Lib.hid hp4
  have HL4 := Lib.hid hlen4
  clear k0 u4 hp4 fo4 hlen4
  go_wp2_with fail
  go_loopw [26] (fun i wr => ∃ (q : Nat), q ≤ 8 ∧ i = .int .i64 q ∧ Hid (Cl S w x m g d ks l4 (.slice Au nf cu) q wr)) (fun i _ => 8 - (intOf i).toNat)
  case atStart => exact ⟨0, by omega, rfl, K0⟩
  case round =>
    clear K0
    obtain ⟨q, hq, rfl, HK⟩ := hrel
    by_cases hlt : q < 8
    · obtain ⟨k', hm, hk⟩ := HK.out.mp
      have x0 := HK.out.hr.at0
      have b0 := HK.out.bc.cell 0
      simp only [List.getElem?_cons_zero] at b0
      obtain ⟨es, clock, ho, hrun⟩ := hm.del (d, (q : Int))
      have r1 : ∀ ty, (Builtin.delete_ #[94, 111] ty #[.map (some m), .agg #[.int .i64 d, .int .i64 (q : Int)]]).run Try.prog wr = .ok (.tuple #[]) (setBlock wr m (.map es clock)) := fun ty => (hrun ty wr rfl).1
      have r2 : ∀ ty, (Builtin.delete_ #[94, 111] ty #[.map (some m), .agg #[.int .i64 d, .int .i64 (q : Int)]]).run Try.prog wr.drew = .ok (.tuple #[]) (setBlock wr.drew m (.map es clock)) := fun ty => (hrun ty wr.drew rfl).1
      have K1 := Lib.hid (Cl.del (wr := wr.drew) (q := q) ⟨HK.out.hr.drewN 1, ⟨k', hm, hk⟩, HK.out.bc.drewN 1, HK.out.fo.drewN 1⟩ hm hk H.out.sm (hrun 0 wr.drew rfl).2.1 (hrun 0 wr.drew rfl).2.2 ho)
      clear hrun ho hm hk
      go_wp2_with fail
      go_region
      all_goals
        clear r1 r2 x0 b0
        generalize setBlock wr.drew m (.map es clock) = w5 at *
        go_wp2_with fail
        go_roundw
        case rel => exact ⟨q + 1, by omega, by go_num, K1⟩
        case measure => simp [intOf]; omega
    · have e8 : q = 8 := by omega
      subst e8
      have c1 := HK.out.hr.at1
      obtain ⟨k', hm, hk⟩ := HK.out.mp
      have HM8 := Lib.hid hm
      have HK8 := Lib.hid hk
      have hn2 : ((n : Int) - (nf : Int)) = ((l.filter (dv d)).length : Nat) := by have := HCNT.out; omega
      have HN2 := Lib.hid hn2
      clear hm hk hlt hn2
      go_wp2_with fail
      go_ret
      refine ⟨by rw [← HN2.out]; rfl, _, l4, ⟨HK.out.hr, ⟨k', HM8.out, fun i => ?_⟩, fun i hi => .inl (ROW3.out i hi), .inl H.out.sx, .inl H.out.sm, by rw [HL4.out]; exact HP4.out, ?_, ?_⟩, U4.out.same.2.1, HK.out.fo⟩
      · rw [HK8.out i, HKS.out i, List.mem_map, List.mem_map]
        have hp := fun a => U4.out.same.2.1.mem_iff (a := a)
        constructor
        · rintro ⟨⟨a, ha, rfl⟩, h2⟩
          refine ⟨a, (hp a).2 (List.mem_filter.2 ⟨ha, ?_⟩), rfl⟩
          have h32 := H.out.rng a ha
          by_cases hd : dv d a = true
          · exfalso; apply h2; unfold dv at hd; unfold pz; simp at hd; simp only; omega
          · simpa using hd
        · rintro ⟨a, ha, rfl⟩
          obtain ⟨h3, h4⟩ := List.mem_filter.1 ((hp a).1 ha)
          refine ⟨⟨a, h3, rfl⟩, fun h5 => ?_⟩
          unfold dv at h4; unfold pz at h5
          simp at h4; simp only at h5; omega
      · intro a ha
        exact H.out.rng a (List.mem_filter.1 (U4.out.same.2.1.mem_iff.1 ha)).1
      · exact U4.out.same.2.1.nodup_iff.2 (H.out.nd.filter _)
end Go.Proofs.Ytjmdgjpepogogaa
