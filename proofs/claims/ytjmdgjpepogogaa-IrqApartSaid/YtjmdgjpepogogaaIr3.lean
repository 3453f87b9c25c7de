/-
  Contracts of package irq: Unroute (drop), Deliver; each call on a Unit that is one of several things.
-/
import Derived.Test.YtjmdgjpepogogaaIr2
import Derived.Deep.RegionHeld3
namespace Go.Proofs.Ytjmdgjpepogogaa
open Go.RowKit Go.ChangeMaps
set_option linter.unusedVariables false
set_option maxRecDepth 100000

/-- drop: one place is given up, in all parts. -/
theorem udrop_at (S : Nat → Prop) (W0 : World) (u D n t s d v : Nat) (T : List Ro) (F : Nat → Bool) (w : World) (tk : Tk S W0 (uO u n t s D T F) w) (hd : d < 4) (hv : v < 8) :
    Calls Try.prog 40 #[.pointer (some ⟨u, 0, none⟩), .int .i64 d, .int .i64 v] w fun e w' => e = .returned (.tuple #[]) ∧ Tk S W0 (uO u n t s D T (gvF F (d * 8 + v) n)) w' := by
  have ta := tk.alloc 3 [.int .i64 (d : Int)]
  have tb := ta.alloc 3 [.int .i64 (v : Int)]
  have hn4 := tk.nPS (i := 2) rfl
  have TB := Lib.hid tb
  clear tk ta tb
  go_enter Try.func40, Try.ntmps40
  go_wp2_with fail
  change Calls _ _ _ ((w.alloc (.cells [Value.int .i64 (d : Int)].toArray 3)).alloc (.cells [Value.int .i64 (v : Int)].toArray 3)) _
  have hgs : (w.alloc (.cells [Value.int .i64 (d : Int)].toArray 3)).heap.size = w.heap.size + 1 := by simp
  rw [hgs] at TB
  clear hgs
  generalize (w.alloc (.cells [Value.int .i64 (d : Int)].toArray 3)).alloc (.cells [Value.int .i64 (v : Int)].toArray 3) = w1 at *
  generalize w.heap.size + 1 = gb at *
  generalize w.heap.size = ga at *
  refine (vecD_any ga gb d v w1 (TB.out.blk (i := 1) rfl) (TB.out.blk (i := 0) rfl) hv).mono ?_
  rintro e w2 ⟨x, rfl, vl⟩
  have hlen := plN_len (othB d v) 32
  rw [← irN_len] at hlen
  have t2 : Tk S W0 (obI x (irN (othB d v) 32) :: uO u n t s D T (gvF F (d * 8 + v) 0)) w2 := by
    rw [gvF_zero]
    exact (TB.out.addR vl.below vl.row).sub (.cons_cons _ (.cons _ (.cons _ (.refl _))))
  have T2 := Lib.hid t2
  obtain ⟨c0, c1, c2⟩ := uC_at (t2.blk (i := 1) rfl)
  clear t2 vl TB
  go_wp2_with fail
  clear c0 c1 c2
  go_loopw [14] (fun i wr => ∃ (q : Nat), q ≤ n ∧ i = .int .i64 q ∧ Hid (Tk S W0 (obI x (irN (othB d v) 32) :: uO u n t s D T (gvF F (d * 8 + v) q)) wr)) (fun i _ => n - (intOf i).toNat)
  case atStart => exact ⟨0, by omega, rfl, T2⟩
  case round =>
    clear T2
    obtain ⟨q, hq, rfl, HT⟩ := hrel
    by_cases hlt : q < n
    · obtain ⟨c0, c1, c2⟩ := uC_at (HT.out.blk (i := 1) rfl)
      have hul := (HT.out.blk (i := 1) rfl).lt
      go_wp2_with fail
      clear c0 c1 c2
      refine (tk_ptake (i := 3) q 0 x (irN (othB d v) 32) (irN (othB d v) 32).length wr HT.out rfl hlt (HT.out.sl (i := 0) rfl) rfl (by omega)).mono ?_
      rintro e w3 ⟨y, rfl, t3⟩
      have e9 : takF (gvF F (d * 8 + v) q) q (irN (othB d v) 32) = gvF F (d * 8 + v) (q + 1) := (gvF_step F (d * 8 + v) q (by omega)).symm
      rw [e9] at t3
      have T3 : Hid (Tk S W0 (obI x (irN (othB d v) 32) :: uO u n t s D T (gvF F (d * 8 + v) (q + 1))) w3) := Lib.hid t3.tail
      clear t3 e9
      go_wp2_with fail
      go_roundw
      case rel => exact ⟨q + 1, by omega, by go_num, T3⟩
      case measure => simp [intOf]; omega
    · have e : q = n := by omega
      subst e
      go_wp2_with fail
      go_end0
      exact ⟨rfl, HT.out.tail⟩

theorem uunroute_at (S : Nat → Prop) (u D n : Nat) (T : List Ro) (F : Nat → Bool) (d v : Int) (w : World) (q : (obU u D n T F).Q S w) :
    Calls Try.prog 17 #[.pointer (some ⟨u, 0, none⟩), .int .i64 d, .int .i64 v] w fun e w' => e = .returned (.int .i64 (uuC D T d v)) ∧ Tk S w [obU u D n (ruT D T d v) (uuF D n T F d v)] w' := by
  obtain ⟨t, s, tk⟩ := Tk.unU q
  obtain ⟨c0, c1, c2⟩ := uC_at tk.blkU
  have hul := tk.blkU.lt
  have cS := pmunset_any t D T d v w tk.prU
  have hD4 := tk.prU.le
  have TK := Lib.hid tk
  clear q tk
  by_cases hr : reC D T d v = 0
  · rw [hr] at cS
    rw [show uuC D T d v = 0 by simp [uuC, hr, toC], show uuF D n T F d v = gvF F (ixR d v) n by simp [uuF, hr]]
    have hin : inR D d v = true := by rcases reC_cases D T d v with ⟨_, h2⟩ | ⟨_, _, h2⟩ | ⟨h1, _, _⟩ <;> first | exact h1 | omega
    obtain ⟨dd, vv, rfl, rfl, hdd, hvv⟩ := (inR_iff D d v).1 hin
    rw [show ixR (dd : Int) (vv : Int) = dd * 8 + vv by unfold ixR; simp only [Int.toNat_natCast]]
    clear hr hin
    go_enter Try.func17, Try.ntmps17
    go_wp2_with fail
    refine cS.mono ?_
    rintro e w1 ⟨rfl, p1, g1⟩
    have T1 := Lib.hid (TK.out.setU p1 g1)
    clear cS p1 g1 c0 c1 c2
    go_wp2_with fail
    refine (udrop_at S w u D n t s dd vv _ F w1 T1.out (by omega) hvv).mono ?_
    rintro e w2 ⟨rfl, t2⟩
    have T2 := Lib.hid t2
    clear t2
    go_wp2_with fail
    go_ret
    exact ⟨rfl, T2.out.mkU⟩
  · rw [show uuC D T d v = toC (reC D T d v) from rfl, show uuF D n T F d v = F by simp [uuF, hr]]
    have hne : (reC D T d v != 0) = true := by simpa using hr
    generalize reC D T d v = x at *
    clear hr
    go_enter Try.func17, Try.ntmps17
    go_wp2_with fail
    refine cS.mono ?_
    rintro e w1 ⟨rfl, p1, g1⟩
    have T1 := Lib.hid (TK.out.setU p1 g1)
    clear cS p1 g1 c0 c1 c2
    go_wp2_with fail
    refine (told_any x w1).mono ?_
    rintro e w' ⟨rfl, rfl⟩
    go_wp2_with fail
    go_ret
    exact ⟨rfl, T1.out.mkU⟩

theorem uC_keep {w : World} {u n t s : Nat} (h : Blk w u 60 (uC n t s)) : w.cell? ⟨u, 1, none⟩ = some (.pointer (some ⟨t, 0, none⟩)) ∧ w.cell? ⟨u, 2, none⟩ = some (.pointer (some ⟨s, 0, none⟩)) ∧ Blk w u 60 (uC n t s) := ⟨(uC_at h).2.1, (uC_at h).2.2, h⟩

/-- Deliver. -/
theorem udeliver_at (S : Nat → Prop) (u D n : Nat) (T : List Ro) (F : Nat → Bool) (p tt : Int) (w : World) (q : (obU u D n T F).Q S w) :
    Calls Try.prog 14 #[.pointer (some ⟨u, 0, none⟩), .int .i64 p, .int .i64 tt] w fun e w' => ∃ x, e = .returned x ∧ Tk S w [obI x (udL D n T F p tt), obU u D n T (udF D n T F p)] w' := by
  obtain ⟨t, s, tk⟩ := Tk.unU q
  have hlen := plN_len (mB D T) 32
  rw [← irN_len] at hlen
  have hul := tk.blkU.lt
  have tkd := tk.drewN 1
  change Tk _ _ _ w.drew at tkd
  have hb := tkd.blkU
  obtain ⟨-, c1, c2⟩ := uC_at hb
  clear q tk
  have cT : ∀ w1 : World, Below w.drew.heap.size w.drew w1 → ∀ y, w1.ownsRow w.drew.heap.size 46 3 y (irN (mB D T) 32).length (iqs (irN (mB D T) 32)) → Calls Try.prog 31 #[.pointer (some ⟨s, 0, none⟩), .int .i64 p, .int .i64 tt, y] w1 fun e w' => ∃ x, e = .returned x ∧ Tk S w [obI x (udL D n T F p tt), obU u D n T (udF D n T F p)] w' ∧ Blk w' u 60 (uC n t s) := by
    intro w1 b1 y r1
    have t1 : Tk S w (obI y (irN (mB D T) 32) :: uO u n t s D T F) w1 := tkd.addR b1 r1
    cases hp : hP n p with
    | false =>
      rw [show udL D n T F p tt = [] by simp [udL, hp], show udF D n T F p = F by simp [udF, hp]]
      refine (tk_ptake_no (i := 3) p tt y w1 t1 rfl hp).mono ?_
      rintro e w' ⟨rfl, rfl⟩
      exact ⟨_, rfl, t1.tail.mkU.addR (Below.refl _ _) ⟨rfl, .inl ⟨rfl, rfl⟩⟩, t1.tail.blkU⟩
    | true =>
      obtain ⟨pp, rfl, hpn⟩ := hP_nat hp
      rw [show udL D n T F (pp : Int) tt = tks tt (dlN D T F pp) by simp [udL, hp], show udF D n T F (pp : Int) = dlF D T F pp by simp [udF, hp]]
      refine (tk_ptake (i := 3) pp tt y (irN (mB D T) 32) (irN (mB D T) 32).length w1 t1 rfl hpn (t1.sl (i := 0) rfl) rfl (by omega)).mono ?_
      rintro e w2 ⟨x, rfl, t2⟩
      rw [tkL_irN, takF_irN] at t2
      refine ⟨x, rfl, ?_, t2.blk (i := 2) rfl⟩
      have t3 : Tk S w (obI x (tks tt (dlN D T F pp)) :: uO u n t s D T (dlF D T F pp)) w2 := t2.sub (.cons_cons _ (.cons _ (.refl _)))
      refine t3.wrap (fun q => ?_)
      obtain ⟨S1, S2, h1, h2, d1, e1⟩ := q
      exact ⟨S1, S2, h1, obs_one.2 ⟨(t, s), h2⟩, d1, e1⟩
  have CT := Lib.hid cT
  have cM := masked_any t D T w.drew tkd.prU
  have TD := Lib.hid tkd
  clear cT tkd
  go_enter Try.func14, Try.ntmps14
  go_wp2_with fail
  go_region_held3 (fun w' => w'.cell? ⟨u, 1, none⟩ = some (.pointer (some ⟨t, 0, none⟩)) ∧ w'.cell? ⟨u, 2, none⟩ = some (.pointer (some ⟨s, 0, none⟩)) ∧ Blk w' u 60 (uC n t s))
    ((go_split_ands; have hq := (by assumption : Blk _ u 60 (uC n t s)); first | exact uC_keep hq | exact uC_keep (hq.drewN 1) | exact uC_keep (hq.below b1 hul) | exact uC_keep k2))
    (first
      | (go_at_call 32; (with_reducible refine cM.mono ?_); rintro e w1 ⟨y, rfl, r1, b1⟩)
      | (go_at_call 31; (with_reducible refine (CT.out w1 b1 y r1).mono ?_); rintro e w2 ⟨x, rfl, t2, k2⟩))
  clear c1 c2
  go_wp2_with fail
  go_ret
  exact ⟨x, rfl, t2⟩
/-! Each call, on a Unit that is one of several things. -/
theorem tk_uroute {S : Nat → Prop} {W0 : World} {os : List Ob} {i u D n : Nat} {T : List Ro} {F : Nat → Bool} (d v p : Int) (w : World) (h : Tk S W0 os w) (hi : os[i]? = some (obU u D n T F)) :
    Calls Try.prog 16 #[.pointer (some ⟨u, 0, none⟩), .int .i64 d, .int .i64 v, .int .i64 p] w fun e w' => e = .returned (.int .i64 (urC D n d v p)) ∧ Tk S W0 (os.set i (obU u D n (urT D n T d v p) F)) w' := by
  obtain ⟨S1, q, _, k⟩ := h.call hi
  exact (uroute_at S1 u D n T F d v p w q).mono (fun e w' ⟨h1, h2⟩ => ⟨h1, k w' _ [] h2⟩)
theorem tk_uroute_is {S : Nat → Prop} {W0 : World} {os os' : List Ob} {i u D n : Nat} {T : List Ro} {F : Nat → Bool} (d v p : Int) (c : Int) (w : World) (h : Tk S W0 os w) (hi : os[i]? = some (obU u D n T F)) (hc : urC D n d v p = c) (ho : os.set i (obU u D n (urT D n T d v p) F) = os') :
    Calls Try.prog 16 #[.pointer (some ⟨u, 0, none⟩), .int .i64 d, .int .i64 v, .int .i64 p] w fun e w' => e = .returned (.int .i64 c) ∧ Tk S W0 os' w' := by
  subst hc ho; exact tk_uroute d v p w h hi
theorem tk_uunroute {S : Nat → Prop} {W0 : World} {os : List Ob} {i u D n : Nat} {T : List Ro} {F : Nat → Bool} (d v : Int) (w : World) (h : Tk S W0 os w) (hi : os[i]? = some (obU u D n T F)) :
    Calls Try.prog 17 #[.pointer (some ⟨u, 0, none⟩), .int .i64 d, .int .i64 v] w fun e w' => e = .returned (.int .i64 (uuC D T d v)) ∧ Tk S W0 (os.set i (obU u D n (ruT D T d v) (uuF D n T F d v))) w' := by
  obtain ⟨S1, q, _, k⟩ := h.call hi
  exact (uunroute_at S1 u D n T F d v w q).mono (fun e w' ⟨h1, h2⟩ => ⟨h1, k w' _ [] h2⟩)
theorem tk_uunroute_is {S : Nat → Prop} {W0 : World} {os os' : List Ob} {i u D n : Nat} {T : List Ro} {F : Nat → Bool} (d v : Int) (c : Int) (w : World) (h : Tk S W0 os w) (hi : os[i]? = some (obU u D n T F)) (hc : uuC D T d v = c) (ho : os.set i (obU u D n (ruT D T d v) (uuF D n T F d v)) = os') :
    Calls Try.prog 17 #[.pointer (some ⟨u, 0, none⟩), .int .i64 d, .int .i64 v] w fun e w' => e = .returned (.int .i64 c) ∧ Tk S W0 os' w' := by
  subst hc ho; exact tk_uunroute d v w h hi
theorem tk_umask {S : Nat → Prop} {W0 : World} {os : List Ob} {i u D n : Nat} {T : List Ro} {F : Nat → Bool} (d v : Int) (m : Bool) (w : World) (h : Tk S W0 os w) (hi : os[i]? = some (obU u D n T F)) :
    Calls Try.prog 18 #[.pointer (some ⟨u, 0, none⟩), .int .i64 d, .int .i64 v, .bool m] w fun e w' => e = .returned (.int .i64 (uuC D T d v)) ∧ Tk S W0 (os.set i (obU u D n (rmT D T d v m) F)) w' := by
  obtain ⟨S1, q, _, k⟩ := h.call hi
  exact (umask_at S1 u D n T F d v m w q).mono (fun e w' ⟨h1, h2⟩ => ⟨h1, k w' _ [] h2⟩)
theorem tk_umask_is {S : Nat → Prop} {W0 : World} {os os' : List Ob} {i u D n : Nat} {T : List Ro} {F : Nat → Bool} (d v : Int) (m : Bool) (c : Int) (w : World) (h : Tk S W0 os w) (hi : os[i]? = some (obU u D n T F)) (hc : uuC D T d v = c) (ho : os.set i (obU u D n (rmT D T d v m) F) = os') :
    Calls Try.prog 18 #[.pointer (some ⟨u, 0, none⟩), .int .i64 d, .int .i64 v, .bool m] w fun e w' => e = .returned (.int .i64 c) ∧ Tk S W0 os' w' := by
  subst hc ho; exact tk_umask d v m w h hi
theorem tk_uraise {S : Nat → Prop} {W0 : World} {os : List Ob} {i u D n : Nat} {T : List Ro} {F : Nat → Bool} (d v p : Int) (w : World) (h : Tk S W0 os w) (hi : os[i]? = some (obU u D n T F)) :
    Calls Try.prog 19 #[.pointer (some ⟨u, 0, none⟩), .int .i64 d, .int .i64 v, .int .i64 p] w fun e w' => e = .returned (.int .i64 (uaC D n T d v p)) ∧ Tk S W0 (os.set i (obU u D n T (uaF D n T F d v p))) w' := by
  obtain ⟨S1, q, _, k⟩ := h.call hi
  exact (uraise_at S1 u D n T F d v p w q).mono (fun e w' ⟨h1, h2⟩ => ⟨h1, k w' _ [] h2⟩)
theorem tk_uraise_is {S : Nat → Prop} {W0 : World} {os os' : List Ob} {i u D n : Nat} {T : List Ro} {F : Nat → Bool} (d v p : Int) (c : Int) (w : World) (h : Tk S W0 os w) (hi : os[i]? = some (obU u D n T F)) (hc : uaC D n T d v p = c) (ho : os.set i (obU u D n T (uaF D n T F d v p)) = os') :
    Calls Try.prog 19 #[.pointer (some ⟨u, 0, none⟩), .int .i64 d, .int .i64 v, .int .i64 p] w fun e w' => e = .returned (.int .i64 c) ∧ Tk S W0 os' w' := by
  subst hc ho; exact tk_uraise d v p w h hi
theorem tk_uclear {S : Nat → Prop} {W0 : World} {os : List Ob} {i u D n : Nat} {T : List Ro} {F : Nat → Bool} (d : Int) (w : World) (h : Tk S W0 os w) (hi : os[i]? = some (obU u D n T F)) :
    Calls Try.prog 20 #[.pointer (some ⟨u, 0, none⟩), .int .i64 d] w fun e w' => e = .returned (.int .i64 (ucC D d)) ∧ Tk S W0 (os.set i (obU u D n (rcT D T d) (ucF D n F d))) w' := by
  obtain ⟨S1, q, _, k⟩ := h.call hi
  exact (uclear_at S1 u D n T F d w q).mono (fun e w' ⟨h1, h2⟩ => ⟨h1, k w' _ [] h2⟩)
theorem tk_uclear_is {S : Nat → Prop} {W0 : World} {os os' : List Ob} {i u D n : Nat} {T : List Ro} {F : Nat → Bool} (d : Int) (c : Int) (w : World) (h : Tk S W0 os w) (hi : os[i]? = some (obU u D n T F)) (hc : ucC D d = c) (ho : os.set i (obU u D n (rcT D T d) (ucF D n F d)) = os') :
    Calls Try.prog 20 #[.pointer (some ⟨u, 0, none⟩), .int .i64 d] w fun e w' => e = .returned (.int .i64 c) ∧ Tk S W0 os' w' := by
  subst hc ho; exact tk_uclear d w h hi
theorem tk_udeliver {S : Nat → Prop} {W0 : World} {os : List Ob} {i u D n : Nat} {T : List Ro} {F : Nat → Bool} (p tt : Int) (w : World) (h : Tk S W0 os w) (hi : os[i]? = some (obU u D n T F)) :
    Calls Try.prog 14 #[.pointer (some ⟨u, 0, none⟩), .int .i64 p, .int .i64 tt] w fun e w' => ∃ x, e = .returned x ∧ Tk S W0 (obI x (udL D n T F p tt) :: os.set i (obU u D n T (udF D n T F p))) w' := by
  obtain ⟨S1, q, _, k⟩ := h.call hi
  exact (udeliver_at S1 u D n T F p tt w q).mono (fun e w' ⟨x, h1, h2⟩ => ⟨x, h1, k w' _ [_] (h2.perm (.swap _ _ _))⟩)
theorem tk_udeliver_is {S : Nat → Prop} {W0 : World} {os os' : List Ob} {i u D n : Nat} {T : List Ro} {F : Nat → Bool} (p tt : Int) (L : List Iq) (w : World) (h : Tk S W0 os w) (hi : os[i]? = some (obU u D n T F)) (hL : udL D n T F p tt = L) (ho : os.set i (obU u D n T (udF D n T F p)) = os') :
    Calls Try.prog 14 #[.pointer (some ⟨u, 0, none⟩), .int .i64 p, .int .i64 tt] w fun e w' => ∃ x, e = .returned x ∧ Tk S W0 (obI x L :: os') w' := by
  subst hL ho; exact tk_udeliver p tt w h hi
end Go.Proofs.Ytjmdgjpepogogaa
