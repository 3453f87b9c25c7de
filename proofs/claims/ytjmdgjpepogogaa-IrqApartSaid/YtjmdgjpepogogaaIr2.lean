/-
  Contracts of package irq: Route, Unroute (drop), Mask, Raise, Deliver, Clear.
-/
import Derived.Test.YtjmdgjpepogogaaIr1
import Derived.Deep.RegionHeld3
namespace Go.Proofs.Ytjmdgjpepogogaa
open Go.RowKit Go.ChangeMaps
set_option linter.unusedVariables false
set_option maxRecDepth 100000

/-- The cells of a Unit. -/
def uC (n t s : Nat) : List Value := [.int .i64 n, .pointer (some ⟨t, 0, none⟩), .pointer (some ⟨s, 0, none⟩)]
theorem uC_at {w : World} {u n t s : Nat} (h : Blk w u 60 (uC n t s)) : w.cell? ⟨u, 0, none⟩ = some (.int .i64 n) ∧ w.cell? ⟨u, 1, none⟩ = some (.pointer (some ⟨t, 0, none⟩)) ∧ w.cell? ⟨u, 2, none⟩ = some (.pointer (some ⟨s, 0, none⟩)) := by
  refine ⟨?_, ?_, ?_⟩ <;> (rw [h.cell]; rfl)
/-- A Unit's three things. -/
def uO (u n t s D : Nat) (T : List Ro) (F : Nat → Bool) : List Ob := [obB u 60 (uC n t s), obPR t D T, obPS s n F]

section
variable {S : Nat → Prop} {W0 w w' : World} {os : List Ob} {i u n t s D : Nat} {T T' : List Ro} {F G : Nat → Bool}
theorem Tk.unU (q : (obU u D n T F).Q S w) : ∃ t s, Tk S w (uO u n t s D T F) w := by
  obtain ⟨⟨t, s⟩, q⟩ := q
  exact ⟨t, s, Tk.start q⟩
theorem Tk.mkU (h : Tk S W0 (uO u n t s D T F) w) : Tk S W0 [obU u D n T F] w := h.wrap1 (fun q => ⟨(t, s), q⟩)
theorem Tk.blkU (h : Tk S W0 (uO u n t s D T F) w) : Blk w u 60 (uC n t s) := h.blk (i := 0) rfl
theorem Tk.prU (h : Tk S W0 (uO u n t s D T F) w) : PR w t D T := by obtain ⟨_, q, _⟩ := h.get (i := 1) rfl; exact q.1
theorem Tk.setU (h : Tk S W0 (uO u n t s D T F) w) (hp : PR w' t D T') (hg : w.grownBy w' (some t)) : Tk S W0 (uO u n t s D T' F) w' := by
  obtain ⟨S1, q, _, k⟩ := h.call (i := 1) rfl
  exact k w' _ [] (Tk.ofPR q hp hg)
theorem Tk.setF (h : Tk S W0 (uO u n t s D T F) w) (e : F = G) : Tk S W0 (uO u n t s D T G) w := e ▸ h
end

theorem uroute_at (S : Nat → Prop) (u D n : Nat) (T : List Ro) (F : Nat → Bool) (d v p : Int) (w : World) (q : (obU u D n T F).Q S w) :
    Calls Try.prog 16 #[.pointer (some ⟨u, 0, none⟩), .int .i64 d, .int .i64 v, .int .i64 p] w fun e w' => e = .returned (.int .i64 (urC D n d v p)) ∧ Tk S w [obU u D n (urT D n T d v p) F] w' := by
  obtain ⟨t, s, tk⟩ := Tk.unU q
  have cH := uhas_any u n _ _ p w tk.blkU
  obtain ⟨c0, c1, c2⟩ := uC_at tk.blkU
  have hul := tk.blkU.lt
  have cS := pmset_any t D T d v p w tk.prU
  have TK := Lib.hid tk
  clear q tk
  cases hp : hP n p with
  | false =>
    rw [hp] at cH
    rw [show urC D n d v p = 1300 by simp [urC, hp], show urT D n T d v p = T by simp [urT, hp]]
    clear hp cS
    go_enter Try.func16, Try.ntmps16
    go_wp2_with fail
    refine cH.mono ?_
    rintro e w' ⟨rfl, rfl⟩
    clear cH
    go_wp2_with fail
    go_ret
    exact ⟨rfl, TK.out.mkU⟩
  | true =>
    rw [hp] at cH
    rw [show urC D n d v p = toC (rsC D d v p) by simp [urC, hp], show urT D n T d v p = rsT D T d v p by simp [urT, hp]]
    clear hp
    go_enter Try.func16, Try.ntmps16
    go_wp2_with fail
    refine cH.mono ?_
    rintro e w' ⟨rfl, rfl⟩
    clear cH
    go_wp2_with fail
    refine cS.mono ?_
    rintro e w1 ⟨rfl, p1, g1⟩
    have T1 := Lib.hid (TK.out.setU p1 g1)
    clear cS p1 g1 c0 c1 c2
    go_wp2_with fail
    refine (told_any _ w1).mono ?_
    rintro e w' ⟨rfl, rfl⟩
    go_wp2_with fail
    go_ret
    exact ⟨rfl, T1.out.mkU⟩

theorem umask_at (S : Nat → Prop) (u D n : Nat) (T : List Ro) (F : Nat → Bool) (d v : Int) (m : Bool) (w : World) (q : (obU u D n T F).Q S w) :
    Calls Try.prog 18 #[.pointer (some ⟨u, 0, none⟩), .int .i64 d, .int .i64 v, .bool m] w fun e w' => e = .returned (.int .i64 (uuC D T d v)) ∧ Tk S w [obU u D n (rmT D T d v m) F] w' := by
  obtain ⟨t, s, tk⟩ := Tk.unU q
  obtain ⟨c0, c1, c2⟩ := uC_at tk.blkU
  have hul := tk.blkU.lt
  have cS := pmmask_any t D T d v m w tk.prU
  have TK := Lib.hid tk
  unfold uuC
  clear q tk
  go_enter Try.func18, Try.ntmps18
  go_wp2_with fail
  refine cS.mono ?_
  rintro e w1 ⟨rfl, p1, g1⟩
  have T1 := Lib.hid (TK.out.setU p1 g1)
  clear cS p1 g1 c0 c1 c2
  go_wp2_with fail
  refine (told_any _ w1).mono ?_
  rintro e w' ⟨rfl, rfl⟩
  go_wp2_with fail
  go_ret
  exact ⟨rfl, T1.out.mkU⟩

theorem uclear_at (S : Nat → Prop) (u D n : Nat) (T : List Ro) (F : Nat → Bool) (d : Int) (w : World) (q : (obU u D n T F).Q S w) :
    Calls Try.prog 20 #[.pointer (some ⟨u, 0, none⟩), .int .i64 d] w fun e w' => e = .returned (.int .i64 (ucC D d)) ∧ Tk S w [obU u D n (rcT D T d) (ucF D n F d)] w' := by
  obtain ⟨t, s, tk⟩ := Tk.unU q
  obtain ⟨c0, c1, c2⟩ := uC_at tk.blkU
  have hul := tk.blkU.lt
  have cS := pmclear_any t D T d w tk.prU
  have TK := Lib.hid tk
  clear q tk
  cases hb : rcB D d with
  | false =>
    rw [show rcC D d = 1100 by simp [rcC, hb]] at cS
    rw [show ucC D d = 1300 by simp [ucC, rcC, hb, toC], show ucF D n F d = F by simp [ucF, hb]]
    clear hb
    go_enter Try.func20, Try.ntmps20
    go_wp2_with fail
    refine cS.mono ?_
    rintro e w1 ⟨rfl, p1, g1⟩
    have T1 := Lib.hid (TK.out.setU p1 g1)
    clear cS p1 g1 c0 c1 c2
    go_wp2_with fail
    refine (told_any _ w1).mono ?_
    rintro e w' ⟨rfl, rfl⟩
    go_wp2_with fail
    go_ret
    exact ⟨rfl, T1.out.mkU⟩
  | true =>
    rw [show rcC D d = 0 by simp [rcC, hb]] at cS
    rw [show ucC D d = 0 by simp [ucC, rcC, hb, toC], show ucF D n F d = clF F d n by simp [ucF, hb]]
    clear hb
    go_enter Try.func20, Try.ntmps20
    go_wp2_with fail
    refine cS.mono ?_
    rintro e w1 ⟨rfl, p1, g1⟩
    have t1 := TK.out.setU p1 g1
    obtain ⟨c0, c1, c2⟩ := uC_at t1.blkU
    have hul1 := t1.blkU.lt
    have T1 := Lib.hid t1
    clear cS p1 g1 t1
    go_wp2_with fail
    clear c0 c1 c2
    refine (tk_pclear (i := 2) d w1 T1.out rfl).mono ?_
    rintro e w2 ⟨rfl, t2⟩
    have T2 : Hid (Tk S w (uO u n t s D (rcT D T d) (clF F d n)) w2) := Lib.hid t2
    clear t2
    go_wp2_with fail
    go_ret
    exact ⟨rfl, T2.out.mkU⟩

theorem uraise_at (S : Nat → Prop) (u D n : Nat) (T : List Ro) (F : Nat → Bool) (d v p : Int) (w : World) (q : (obU u D n T F).Q S w) :
    Calls Try.prog 19 #[.pointer (some ⟨u, 0, none⟩), .int .i64 d, .int .i64 v, .int .i64 p] w fun e w' => e = .returned (.int .i64 (uaC D n T d v p)) ∧ Tk S w [obU u D n T (uaF D n T F d v p)] w' := by
  obtain ⟨t, s, tk⟩ := Tk.unU q
  have cH := uhas_any u n _ _ p w tk.blkU
  obtain ⟨c0, c1, c2⟩ := uC_at tk.blkU
  have hul := tk.blkU.lt
  have cL := pmlook_any t D T d v w tk.prU
  have hD4 := tk.prU.le
  have TK := Lib.hid tk
  clear q tk
  cases hp : hP n p with
  | false =>
    rw [hp] at cH
    have hc : uaC D n T d v p = 1300 := by simp [uaC, hp]
    rw [show uaF D n T F d v p = F by simp [uaF, hc], hc]
    clear hp cL hc
    go_enter Try.func19, Try.ntmps19
    go_wp2_with fail
    refine cH.mono ?_
    rintro e w' ⟨rfl, rfl⟩
    clear cH
    go_wp2_with fail
    go_ret
    exact ⟨rfl, TK.out.mkU⟩
  | true =>
    rw [hp] at cH
    by_cases hr : reC D T d v = 0
    · rw [hr] at cL
      by_cases he : rlP D T d v = p
      · have hc : uaC D n T d v p = 0 := by simp [uaC, hp, hr, he]
        rw [show uaF D n T F d v p = putF F (p.toNat * 32 + ixR d v) by simp [uaF, hc], hc]
        rw [he] at cL
        obtain ⟨pp, rfl, hpn⟩ := hP_nat hp
        have hin : inR D d v = true := by rcases reC_cases D T d v with ⟨_, h2⟩ | ⟨_, _, h2⟩ | ⟨h1, _, _⟩ <;> first | exact h1 | omega
        obtain ⟨dd, vv, rfl, rfl, hdd, hvv⟩ := (inR_iff D d v).1 hin
        rw [show ((pp : Int).toNat * 32 + ixR (dd : Int) (vv : Int)) = pp * 32 + (dd * 8 + vv) by unfold ixR; simp only [Int.toNat_natCast]]
        have hpp : ((pp : Int) != (pp : Int)) = false := by simp
        generalize rlM D T (dd : Int) (vv : Int) = m at *
        clear hp hr he hc hin
        go_enter Try.func19, Try.ntmps19
        go_wp2_with fail
        refine cH.mono ?_
        rintro e w' ⟨rfl, rfl⟩
        clear cH
        go_wp2_with fail
        refine cL.mono ?_
        rintro e w' ⟨rfl, j, rfl⟩
        have t1 := TK.out.drewN j
        clear cL c0 c1 c2 TK
        generalize w.drewN j = w1 at *
        obtain ⟨c0, c1, c2⟩ := uC_at t1.blkU
        have hul1 := t1.blkU.lt
        have T1 := Lib.hid t1
        clear t1
        go_wp2_with fail
        clear c0 c1 c2
        refine (tk_praise (i := 2) pp dd vv w1 T1.out rfl hpn (by omega) hvv).mono ?_
        rintro e w2 ⟨rfl, t2⟩
        have T2 : Hid (Tk S w (uO u n t s D T (putF F (pp * 32 + (dd * 8 + vv)))) w2) := Lib.hid t2
        clear t2
        go_wp2_with fail
        refine (told_any 0 w2).mono ?_
        rintro e w' ⟨rfl, rfl⟩
        go_wp2_with fail
        go_ret
        exact ⟨rfl, T2.out.mkU⟩
      · have hc : uaC D n T d v p = 1301 := by simp [uaC, hp, hr, he]
        rw [show uaF D n T F d v p = F by simp [uaF, hc], hc]
        have hne : (rlP D T d v != p) = true := by simpa using he
        generalize rlP D T d v = a at *
        generalize rlM D T d v = m at *
        clear hp hr he hc
        go_enter Try.func19, Try.ntmps19
        go_wp2_with fail
        refine cH.mono ?_
        rintro e w' ⟨rfl, rfl⟩
        clear cH
        go_wp2_with fail
        refine cL.mono ?_
        rintro e w' ⟨rfl, j, rfl⟩
        have T1 := Lib.hid (TK.out.drewN j)
        clear cL c0 c1 c2 TK
        generalize w.drewN j = w1 at *
        go_wp2_with fail
        go_ret
        exact ⟨rfl, T1.out.mkU⟩
    · have hc : uaC D n T d v p = toC (reC D T d v) := by simp [uaC, hp, hr]
      have hnz : toC (reC D T d v) ≠ 0 := by unfold toC; rw [if_neg hr]; split <;> decide
      rw [show uaF D n T F d v p = F by simp [uaF, hc, hnz], hc]
      have hne : (reC D T d v != 0) = true := by simpa using hr
      generalize rlP D T d v = a at *
      generalize rlM D T d v = m at *
      generalize reC D T d v = x at *
      clear hp hr hc hnz
      go_enter Try.func19, Try.ntmps19
      go_wp2_with fail
      refine cH.mono ?_
      rintro e w' ⟨rfl, rfl⟩
      clear cH
      go_wp2_with fail
      refine cL.mono ?_
      rintro e w' ⟨rfl, j, rfl⟩
      have T1 := Lib.hid (TK.out.drewN j)
      clear cL c0 c1 c2 TK
      generalize w.drewN j = w1 at *
      go_wp2_with fail
      refine (told_any x w1).mono ?_
      rintro e w' ⟨rfl, rfl⟩
      go_wp2_with fail
      go_ret
      exact ⟨rfl, T1.out.mkU⟩
end Go.Proofs.Ytjmdgjpepogogaa
