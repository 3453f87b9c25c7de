/-
  What the proofs lean on: contracts of the program's functions, plain facts.
-/
import Derived.Deep.RegionHeld3
import Derived.Test.YtkaalinoiilmoaaGreatViewsW1
import Derived.BigRegion
import Derived.Deep.DeepCutAuto
import Derived.Test.YtkaalinoiilmoaaGreatChecked
namespace Go.Proofs.YtkaalinoiilmoaaGreat
open Go.RowKit
set_option linter.unusedVariables false
set_option linter.unusedSimpArgs false
set_option maxRecDepth 100000
structure MayS (w : World) (g : Nat) (x : Win) (w' : World) : Prop where
  blk : Blk w' g 82 (wdv x)
  below : Below w.heap.size w w'
  size : w.heap.size ≤ w'.heap.size
theorem MayS.next {w w1 w2 : World} {g : Nat} {x : Win} (h : MayS w g x w1) (hb : Below w1.heap.size w1 w2) : MayS w g x w2 :=
  ⟨h.blk.below hb h.blk.lt, Below.down h.below hb h.size, Nat.le_trans h.size hb.size⟩
theorem MayS.drew {w w1 : World} {g : Nat} {x : Win} (h : MayS w g x w1) : MayS w g x w1.drew := ⟨h.blk.drewN 1, bdrewN h.below 1, h.size⟩
theorem MayS.all {w w' : World} {g : Nat} {x : Win} (h : MayS w g x w') : w'.cell? ⟨g, 0, none⟩ = some (.int .i64 x.p) ∧ w'.cell? ⟨g, 1, none⟩ = some (.int .i64 x.s) ∧ w'.cell? ⟨g, 2, none⟩ = some (.int .i64 x.l) ∧ w'.cell? ⟨g, 3, none⟩ = some (.int .i64 x.d) ∧ MayS w g x w' := by
  obtain ⟨a, b, c, d⟩ := four_at h.blk
  exact ⟨a, b, c, d, h⟩
theorem head_parts (n : Nat) (m p : Int) : headB n m p = true ∧ 1 ≤ m ∧ m ≤ 64 ∧ 1 ≤ p ∧ p ≤ 4 ∧ 1 ≤ (n : Int) ∧ (n : Int) ≤ 8 ∨
    headB n m p = false ∧ (m < 1 ∨ 1 ≤ m ∧ 64 < m ∨ 1 ≤ m ∧ m ≤ 64 ∧ p < 1 ∨ 1 ≤ m ∧ m ≤ 64 ∧ 1 ≤ p ∧ 4 < p ∨ 1 ≤ m ∧ m ≤ 64 ∧ 1 ≤ p ∧ p ≤ 4 ∧ (n : Int) < 1 ∨ 1 ≤ m ∧ m ≤ 64 ∧ 1 ≤ p ∧ p ≤ 4 ∧ 1 ≤ (n : Int) ∧ 8 < (n : Int)) := by
  by_cases h : 1 ≤ m ∧ m ≤ 64 ∧ 1 ≤ p ∧ p ≤ 4 ∧ 1 ≤ n ∧ n ≤ 8
  · exact .inl ⟨decide_eq_true h, by omega⟩
  · refine .inr ⟨decide_eq_false h, ?_⟩
    omega
theorem box_of {x : Win} {m p : Int} (h : fitW x m p = true) (hm : m ≤ 64) : 0 ≤ x.s ∧ x.s ≤ 64 ∧ 0 ≤ x.l ∧ x.l ≤ 64 := by
  have := fit_of h
  omega
set_option maxHeartbeats 4000000 in
theorem pmay_any (A : Option Addr) (n cap : Nat) (l : List Win) (m p : Int) (w : World) (hs : Sl w (.slice A n cap) n 4 (ints (wins l))) (hn : n ≤ maxLen) (hl : l.length = n) (hw : ∀ x ∈ l, W64 x) :
    Calls Tryz.prog 84 #[.slice A n cap, .int .i64 m, .int .i64 p] w fun e w' => e = .returned (.bool (mayW l m p)) ∧ Below w.heap.size w w' := by
  have hnc : n ≤ cap := by obtain ⟨_, _, e, hc, _⟩ := hs; simp only [Value.slice.injEq] at e; omega
  have HS := Lib.hid hs; have HL := Lib.hid hl; have HW := Lib.hid hw
  unfold maxLen at hn
  rcases head_parts n m p with ⟨hh, h0, h1, h2, h3, h4, h5⟩ | ⟨hh, hh2⟩
  · rw [← hl] at hh
    have HH := Lib.hid hh
    clear hs hl hw hh
    go_enter Tryz.func84, Tryz.ntmps84
    go_wp2_with fail
    go_loopw [35] (fun i wr => ∃ (k : Nat), k ≤ n ∧ i = .int .i64 k ∧ (∀ j, j < k → okB l m p j = true) ∧ Below w.heap.size w wr) (fun i _ => n - (intOf i).toNat)
    case atStart => exact ⟨0, by omega, rfl, fun j hj => by omega, Below.refl _ _⟩
    case round =>
      obtain ⟨k, hk, rfl, hall, hbel⟩ := hrel
      have hsz := hbel.size
      have HALL := Lib.hid hall; clear hall
      by_cases hlt : k < n
      · have hkl : k < l.length := by rw [HL.out]; exact hlt
        obtain ⟨b, o, rfl, hb, c0, c1, c2, c3⟩ := wd_at (HS.out.below hbel) HL.out k hkl
        have hwx := HW.out l[k] (List.getElem_mem hkl)
        have hno := Lib.hid (fun (h : fitW l[k] m p = false) => mayW_no hkl (ok_no_fit hkl h))
        have hmt := Lib.hid (fun (h : (l.take k).any (metB l[k]) = true) => mayW_no (m := m) (p := p) hkl (ok_meets hkl h))
        have hys := Lib.hid (fun (h : fitW l[k] m p = true) (h' : (l.take k).any (metB l[k]) = false) => ok_yes hkl h h')
        generalize l[k] = x at *
        have HFIT := Lib.hid (fun (w : World) => fits_any x m p hwx ⟨h0, h1⟩ w)
        have hpre := Lib.hid (Sl.pre HS.out HL.out hk)
        have htl : Hid ((l.take k).length = k) := Lib.hid (by rw [List.length_take]; omega)
        have hto : Hid (∀ o ∈ l.take k, 0 ≤ o.s ∧ o.s ≤ 64 ∧ 0 ≤ o.l ∧ o.l ≤ 64) := Lib.hid (by
          intro o ho
          obtain ⟨j, hj, rfl⟩ := List.getElem_of_mem ho
          have hjk : j < k := by rw [List.length_take] at hj; omega
          rw [List.getElem_take]
          exact box_of (ok_fit (by omega) (HALL.out j hjk)) h1)
        have hbx : Hid (fitW x m p = true → 0 ≤ x.s ∧ x.s ≤ 64 ∧ 0 ≤ x.l ∧ x.l ≤ 64) := Lib.hid (fun h => box_of h h1)
        clear hwx
        have hb1 : Blk (wr.alloc (.cells (wdv x).toArray 82)) wr.heap.size 82 (wdv x) := Blk.new _ _ _
        have hS1 : MayS w wr.heap.size x (wr.alloc (.cells (wdv x).toArray 82)) := ⟨hb1, hbel.alloc hsz _, Nat.le_trans hsz (by simp)⟩
        change MayS w wr.heap.size x (wr.alloc (.cells #[.int .i64 x.p, .int .i64 x.s, .int .i64 x.l, .int .i64 x.d] 82)) at hS1
        clear hb1
        go_wp2_with fail
        generalize wr.alloc (.cells #[.int .i64 x.p, .int .i64 x.s, .int .i64 x.l, .int .i64 x.d] 82) = w1 at *
        generalize wr.heap.size = g at *
        clear c0 c1 c2 c3 hbel hsz hb
        obtain ⟨d0, d1, d2, d3, hS1⟩ := hS1.all
        cases hf : fitW x m p with
        | false =>
          have HF := Lib.hid hf
          refine wp_region_held_drew (S := (fun w' => w'.cell? ⟨g, 0, none⟩ = some (.int .i64 x.p) ∧ w'.cell? ⟨g, 1, none⟩ = some (.int .i64 x.s) ∧ w'.cell? ⟨g, 2, none⟩ = some (.int .i64 x.l) ∧ w'.cell? ⟨g, 3, none⟩ = some (.int .i64 x.d) ∧ MayS w g x w')) (by kernel_rfl) ?_ (fun hHeld => ?_)
          · try dsimp only
            (go_split_ands; refine MayS.all ?_; (first | assumption | (exact MayS.drew (by assumption)) | (exact MayS.next (by assumption) (by assumption))))
          refine wpAnyH_take (i := 0) (v := ?v0zN) rfl (by kernel_rfl) (by kernel_rfl) (by kernel_rfl) (fun _ _ _ h => h) (Or.inl ⟨by rfl, ?hy0zN⟩) (by assumption) ?rest0zN
          case hy0zN => intro w hSw; (try dsimp only at hSw); first | (go_simp; done) | (go_simp; with_reducible rfl)
          try simp only [Act.put, List.getElem_toArray, List.getElem_cons_succ, List.getElem_cons_zero, List.setIfInBounds_toArray, List.set_cons_zero, List.set_cons_succ]
          refine wpAnyH_take (i := 1) (v := ?v1zN) rfl (by kernel_rfl) (by kernel_rfl) (by kernel_rfl) (fun _ _ _ h => h) (Or.inl ⟨by rfl, ?hy1zN⟩) (by assumption) ?rest1zN
          case hy1zN => intro w hSw; (try dsimp only at hSw); first | (go_simp; done) | (go_simp; with_reducible rfl)
          try simp only [Act.put, List.getElem_toArray, List.getElem_cons_succ, List.getElem_cons_zero, List.setIfInBounds_toArray, List.set_cons_zero, List.set_cons_succ]
          refine wpAnyH_take (i := 2) (v := ?v2zN) rfl (by kernel_rfl) (by kernel_rfl) (by kernel_rfl) (fun _ _ _ h => h) (Or.inl ⟨by rfl, ?hy2zN⟩) (by assumption) ?rest2zN
          case hy2zN => intro w hSw; (try dsimp only at hSw); first | (go_simp; done) | (go_simp; with_reducible rfl)
          try simp only [Act.put, List.getElem_toArray, List.getElem_cons_succ, List.getElem_cons_zero, List.setIfInBounds_toArray, List.set_cons_zero, List.set_cons_succ]
          refine wpAnyH_ready (rs := [3]) (by kernel_rfl) (by simp) ?_
          refine AllReadyH.cons rfl (fun K hK => ?_) AllReadyH.nil
          go_simp
          refine (HFIT.out _).mono ?_
          rintro e w' ⟨rfl, hb⟩
          rw [HF.out]
          go_wp2_with fail
          refine hK.out _ _ ?_ (fun hHeld2 => ?_)
          · try dsimp only
            (go_split_ands; refine MayS.all ?_; (first | assumption | (exact MayS.drew (by assumption)) | (exact MayS.next (by assumption) (by assumption))))
          clear hK K hHeld
          have hHeld := hHeld2; clear hHeld2
          try simp only [Act.put, List.getElem_toArray, List.getElem_cons_succ, List.getElem_cons_zero, List.setIfInBounds_toArray, List.set_cons_zero, List.set_cons_succ]
          refine wpAnyH_take (i := 4) (v := ?v4zN) rfl (by kernel_rfl) (by kernel_rfl) (by kernel_rfl) (fun _ _ _ h => h) (Or.inl ⟨by rfl, ?hy4zN⟩) (by assumption) ?rest4zN
          case hy4zN => intro w hSw; (try dsimp only at hSw); first | (go_simp; done) | (go_simp; with_reducible rfl)
          try simp only [Act.put, List.getElem_toArray, List.getElem_cons_succ, List.getElem_cons_zero, List.setIfInBounds_toArray, List.set_cons_zero, List.set_cons_succ]
          refine wpAnyH_take (i := 5) (v := ?v5zN) rfl (by kernel_rfl) (by kernel_rfl) (by kernel_rfl) (fun _ _ _ h => h) (Or.inl ⟨by rfl, ?hy5zN⟩) (by assumption) ?rest5zN
          case hy5zN => intro w hSw; (try dsimp only at hSw); first | (go_simp; done) | (go_simp; with_reducible rfl)
          try simp only [Act.put, List.getElem_toArray, List.getElem_cons_succ, List.getElem_cons_zero, List.setIfInBounds_toArray, List.set_cons_zero, List.set_cons_succ]
          refine wpAnyH_take (i := 6) (v := undef) rfl (by kernel_rfl) (by kernel_rfl) (by kernel_rfl) (fun _ _ _ h => h) (Or.inr ⟨by rfl, rfl⟩) (by assumption) ?rest6zN
          try simp only [Act.put, List.getElem_toArray, List.getElem_cons_succ, List.getElem_cons_zero, List.setIfInBounds_toArray, List.set_cons_zero, List.set_cons_succ]
          refine wpAnyH_take (i := 7) (v := undef) rfl (by kernel_rfl) (by kernel_rfl) (by kernel_rfl) (fun _ _ _ h => h) (Or.inr ⟨by rfl, rfl⟩) (by assumption) ?rest7zN
          try simp only [Act.put, List.getElem_toArray, List.getElem_cons_succ, List.getElem_cons_zero, List.setIfInBounds_toArray, List.set_cons_zero, List.set_cons_succ]
          refine wpAnyH_take (i := 8) (v := undef) rfl (by kernel_rfl) (by kernel_rfl) (by kernel_rfl) (fun _ _ _ h => h) (Or.inr ⟨by rfl, rfl⟩) (by assumption) ?rest8zN
          try simp only [Act.put, List.getElem_toArray, List.getElem_cons_succ, List.getElem_cons_zero, List.setIfInBounds_toArray, List.set_cons_zero, List.set_cons_succ]
          refine wpAnyH_take (i := 9) (v := undef) rfl (by kernel_rfl) (by kernel_rfl) (by kernel_rfl) (fun _ _ _ h => h) (Or.inr ⟨by rfl, rfl⟩) (by assumption) ?rest9zN
          try simp only [Act.put, List.getElem_toArray, List.getElem_cons_succ, List.getElem_cons_zero, List.setIfInBounds_toArray, List.set_cons_zero, List.set_cons_succ]
          refine wpAnyH_take (i := 10) (v := undef) rfl (by kernel_rfl) (by kernel_rfl) (by kernel_rfl) (fun _ _ _ h => h) (Or.inr ⟨by rfl, rfl⟩) (by assumption) ?rest10zN
          try simp only [Act.put, List.getElem_toArray, List.getElem_cons_succ, List.getElem_cons_zero, List.setIfInBounds_toArray, List.set_cons_zero, List.set_cons_succ]
          refine wpAnyH_take (i := 11) (v := ?v11zN) rfl (by kernel_rfl) (by kernel_rfl) (by kernel_rfl) (fun _ _ _ h => h) (Or.inl ⟨by rfl, ?hy11zN⟩) (by assumption) ?rest11zN
          case hy11zN => intro w hSw; (try dsimp only at hSw); first | (go_simp; done) | (go_simp; with_reducible rfl)
          try simp only [Act.put, List.getElem_toArray, List.getElem_cons_succ, List.getElem_cons_zero, List.setIfInBounds_toArray, List.set_cons_zero, List.set_cons_succ]
          refine wpAnyH_done (by kernel_rfl) ?_ _
          all_goals
            have hEnd : MayS w g x w' := by go_split_ands; assumption
            have hB := hEnd.below
            clear hEnd
            go_wp2_with fail
            go_ret
            exact ⟨by rw [hno.out HF.out]; rfl, hB⟩
        | true =>
          have HF := Lib.hid hf; clear hf
          have hk0 : (0 : Int) ≤ (k : Int) := by omega
          have hkc : (k : Int) ≤ (cap : Int) := by omega
          go_region_held3 (fun w' => w'.cell? ⟨g, 0, none⟩ = some (.int .i64 x.p) ∧ w'.cell? ⟨g, 1, none⟩ = some (.int .i64 x.s) ∧ w'.cell? ⟨g, 2, none⟩ = some (.int .i64 x.l) ∧ w'.cell? ⟨g, 3, none⟩ = some (.int .i64 x.d) ∧ MayS w g x w')
            ((go_split_ands; refine MayS.all ?_; (first | assumption | (exact MayS.drew (by assumption)) | (exact MayS.next (by assumption) (by assumption)))))
            (first
              | (go_at_call 100; (with_reducible refine (HFIT.out _).mono ?_); rintro e w2 ⟨rfl, hb2⟩; rw [HF.out]; have hS2 := hS1.drew.next hb2)
              | (go_at_call 101; (with_reducible refine (pmeets_any _ k _ (l.take k) x _ (hpre.out.below hS2.below) (by unfold maxLen; omega) htl.out (hbx.out HF.out) hto.out).mono ?_); rintro e w3 ⟨rfl, hb3⟩; have hS3 := hS2.next hb3))
          have hB := hS3.below
          clear hS1 hS2 hb2 hb3 d0 d1 d2 d3
          cases hm : (l.take k).any (metB x) with
          | true =>
            have HM := Lib.hid hm; clear hm
            go_wp2_with fail
            go_ret
            exact ⟨by rw [hmt.out HM.out]; rfl, hB⟩
          | false =>
            have HM := Lib.hid hm; clear hm
            go_wp2_with fail
            go_roundw
            case rel => exact ⟨k + 1, by omega, by go_num, fun j hj => by
              by_cases e : j = k
              · subst e; exact hys.out HF.out HM.out
              · exact HALL.out j (by omega), hB⟩
            case measure => simp [intOf]; omega
      · go_wp2_with fail
        go_ret
        exact ⟨by rw [mayW_yes HH.out (fun j hj => HALL.out j (by have := HL.out; omega))]; rfl, hbel⟩
  · have hM := mayW_head (l := l) (m := m) (p := p) (by rw [hl]; exact hh)
    rw [hM]
    clear hs hl hw hM hh
    rcases hh2 with h0 | ⟨h0, h1⟩ | ⟨h0, h1, h2⟩ | ⟨h0, h1, h2, h3⟩ | ⟨h0, h1, h2, h3, h4⟩ | ⟨h0, h1, h2, h3, h4, h5⟩
    all_goals
      go_enter Tryz.func84, Tryz.ntmps84
      go_wp2_with fail
      go_ret
      exact ⟨rfl, Below.refl _ _⟩
end Go.Proofs.YtkaalinoiilmoaaGreat
namespace Go.Proofs.YtkaalinoiilmoaaGreat
open Go.RowKit
set_option linter.unusedVariables false
set_option linter.unusedSimpArgs false
set_option maxRecDepth 100000
structure Ws (w : World) (v : Value) (n : Nat) (l : List Win) : Prop where
  sl : Sl w v n 4 (ints (wins l))
  len : l.length = n
  big : n ≤ maxLen
  in64 : ∀ x ∈ l, W64 x
theorem Ws.below {w w' : World} {v : Value} {n : Nat} {l : List Win} (h : Ws w v n l) (hb : Below w.heap.size w w') : Ws w' v n l := ⟨h.sl.below hb, h.len, h.big, h.in64⟩
theorem Ws.form {w : World} {v : Value} {n : Nat} {l : List Win} (h : Ws w v n l) : ∃ A cap, v = .slice A n cap := by obtain ⟨A, c, e, _⟩ := h.sl; exact ⟨A, c, e⟩
theorem Ws.drew {w : World} {v : Value} {n : Nat} {l : List Win} (h : Ws w v n l) : Ws w.drew v n l := ⟨h.sl.drewN 1, h.len, h.big, h.in64⟩
section
variable {v : Value} {n : Nat} {l : List Win} {w : World}
theorem may_ws (h : Ws w v n l) (m p : Int) (b : Bool) (hb : mayW l m p = b) :
    Calls Tryz.prog 84 #[v, .int .i64 m, .int .i64 p] w fun e w' => e = .returned (.bool b) ∧ Below w.heap.size w w' := by
  obtain ⟨A, c, rfl⟩ := h.form; subst hb; exact pmay_any A n c l m p w h.sl h.big h.len h.in64
end
end Go.Proofs.YtkaalinoiilmoaaGreat
namespace Go.Proofs.YtkaalinoiilmoaaGreat
open Go.RowKit
set_option linter.unusedVariables false
set_option maxRecDepth 100000
def lB (l c : Int) : Bool := decide (0 ≤ l ∧ l ≤ 3 ∧ 0 ≤ c ∧ c ≤ 15)
def hasB (c c' : Int) : Bool := decide (c.toNat ||| c'.toNat = c.toNat)
def lD (l c l' c' : Int) : Bool := lB l c && lB l' c' && decide (l' ≤ l) && hasB c c'
def orC (c c' : Int) : Int := ((c.toNat ||| c'.toNat : Nat) : Int)
theorem lB_of {l c : Int} (h : lB l c = true) : 0 ≤ l ∧ l ≤ 3 ∧ 0 ≤ c ∧ c ≤ 15 := of_decide_eq_true h
theorem bits9 : ∀ a b : Fin 16, (bits BinOp.andNot IntKind.i64 (b.val : Int) (a.val : Int) == 0) = decide (a.val ||| b.val = a.val) ∧ (bits BinOp.and IntKind.i64 (a.val : Int) (b.val : Int) == (b.val : Int)) = decide (a.val ||| b.val = a.val) ∧
    bits BinOp.or IntKind.i64 (a.val : Int) (b.val : Int) = ((a.val ||| b.val : Nat) : Int) ∧ a.val ||| b.val < 16 := by decide +kernel
theorem bits_has (c c' : Int) (h0 : 0 ≤ c) (h1 : c ≤ 15) (h2 : 0 ≤ c') (h3 : c' ≤ 15) : (bits BinOp.andNot IntKind.i64 c' c == 0) = hasB c c' ∧ (bits BinOp.and IntKind.i64 c c' == c') = hasB c c' ∧ bits BinOp.or IntKind.i64 c c' = orC c c' := by
  obtain ⟨c, rfl⟩ := Int.eq_ofNat_of_zero_le h0
  obtain ⟨c', rfl⟩ := Int.eq_ofNat_of_zero_le h2
  have := bits9 ⟨c, by omega⟩ ⟨c', by omega⟩
  exact ⟨this.1, this.2.1, this.2.2.1⟩
theorem lD_no (l c l' c' : Int) (h : lB l c = false ∨ lB l' c' = false) : lD l c l' c' = false := by
  unfold lD
  rcases h with h | h <;> rw [h] <;> simp
end Go.Proofs.YtkaalinoiilmoaaGreat
namespace Go.Proofs.YtkaalinoiilmoaaGreat
open Go.RowKit
set_option linter.unusedVariables false
set_option maxRecDepth 100000
def inP (P : Nat) (p : Int) : Bool := decide (0 ≤ p ∧ p < (P : Int))
theorem inP_iff (P : Nat) (p : Int) : inP P p = true ↔ ∃ k : Nat, p = k ∧ k < P := by
  unfold inP
  rw [decide_eq_true_eq]
  constructor
  · intro h; exact ⟨p.toNat, by omega, by omega⟩
  · rintro ⟨k, rfl, h⟩; omega
theorem inP_no {P : Nat} {p : Int} (h : inP P p = false) : p < 0 ∨ (0 ≤ p ∧ (P : Int) ≤ p) := by
  unfold inP at h
  rw [decide_eq_false_iff_not] at h
  omega
theorem inP_at {P k : Nat} (h : k < P) : inP P (k : Int) = true := (inP_iff _ _).2 ⟨k, rfl, h⟩
end Go.Proofs.YtkaalinoiilmoaaGreat
namespace Go.Proofs.YtkaalinoiilmoaaGreat
def Upto (n : Nat) (I : Nat → World → Prop) (w : World) (r : Bool) : Prop := ∃ k, k ≤ n ∧ I k w ∧ (r = true → k = n)
theorem range_any_yes {n k : Nat} {p : Nat → Bool} (hk : k < n) (h : p k = true) : (List.range n).any p = true := List.any_eq_true.2 ⟨k, List.mem_range.2 hk, h⟩
theorem range_any_no {n : Nat} {p : Nat → Bool} (h : ∀ j, j < n → p j = false) : (List.range n).any p = false := List.any_eq_false.2 (fun x hx => by simp [h x (List.mem_range.1 hx)])
theorem range_any_not (n : Nat) (q : Nat → Bool) : (List.range n).any (fun i => !q i) = !(List.range n).all q := by
  rw [List.all_eq_not_any_not, Bool.not_not]
theorem range_all_iff {n : Nat} {q : Nat → Bool} : (List.range n).all q = true ↔ ∀ j, j < n → q j = true := by
  rw [List.all_eq_true]
  exact ⟨fun h j hj => h j (List.mem_range.2 hj), fun h j hj => h j (List.mem_range.1 hj)⟩
theorem range_any_iff {n : Nat} {q : Nat → Bool} : (List.range n).any q = true ↔ ∃ j, j < n ∧ q j = true := by
  rw [List.any_eq_true]
  exact ⟨fun ⟨j, hj, h⟩ => ⟨j, List.mem_range.1 hj, h⟩, fun ⟨j, hj, h⟩ => ⟨j, List.mem_range.2 hj, h⟩⟩
theorem all_range {α : Type} (l : List α) (d : α) (f : α → Bool) : (List.range l.length).all (fun i => f (l.getD i d)) = l.all f := by
  rw [Bool.eq_iff_iff, range_all_iff, List.all_eq_true]
  constructor
  · intro h x hx
    obtain ⟨j, hj, rfl⟩ := List.getElem_of_mem hx
    have := h j hj
    simpa [List.getD, List.getElem?_eq_getElem hj] using this
  · intro h j hj
    simp only [List.getD, List.getElem?_eq_getElem hj, Option.getD_some]
    exact h _ (List.getElem_mem hj)
theorem any_range {α : Type} (l : List α) (d : α) (f : α → Bool) : (List.range l.length).any (fun i => f (l.getD i d)) = l.any f := by
  rw [Bool.eq_iff_iff, range_any_iff, List.any_eq_true]
  constructor
  · rintro ⟨j, hj, h⟩
    refine ⟨_, List.getElem_mem hj, ?_⟩
    simpa [List.getD, List.getElem?_eq_getElem hj] using h
  · rintro ⟨x, hx, h⟩
    obtain ⟨j, hj, rfl⟩ := List.getElem_of_mem hx
    exact ⟨j, hj, by simpa [List.getD, List.getElem?_eq_getElem hj] using h⟩
end Go.Proofs.YtkaalinoiilmoaaGreat
namespace Go.Proofs.YtkaalinoiilmoaaGreat
open Go.RowKit
set_option linter.unusedVariables false
set_option maxRecDepth 100000
theorem may_yes (a n s : Int) (w : World) (h0 : 0 ≤ a) (h1 : 0 ≤ n) (h2 : a ≤ s) (h3 : n ≤ s - a) (h4 : s ≤ 9223372036854775807) :
    Calls Tryz.prog 104 #[.int .i64 a, .int .i64 n, .int .i64 s] w fun e w' => e = .returned (.bool true) ∧ w = w' := by
  go_enter Tryz.func104, Tryz.ntmps104
  go_wp2
  go_ret
  exact ⟨rfl, rfl⟩
theorem may_no (a n s : Int) (w : World) (h : ¬ (0 ≤ a ∧ 0 ≤ n ∧ a ≤ s ∧ n ≤ s - a)) (h4 : s ≤ 9223372036854775807) :
    Calls Tryz.prog 104 #[.int .i64 a, .int .i64 n, .int .i64 s] w fun e w' => e = .returned (.bool false) ∧ w = w' := by
  by_cases ha : 0 ≤ a
  · by_cases hn : 0 ≤ n
    · by_cases hs : a ≤ s
      · have hd : decide (n ≤ s - a) = false := by simp; omega
        have hl : s - a < n := by omega
        clear h
        go_enter Tryz.func104, Tryz.ntmps104
        go_wp2
        go_ret
        exact ⟨rfl, rfl⟩
      · clear h
        go_enter Tryz.func104, Tryz.ntmps104
        go_wp2
        go_ret
        exact ⟨rfl, rfl⟩
    · clear h
      go_enter Tryz.func104, Tryz.ntmps104
      go_wp2
      go_ret
      exact ⟨rfl, rfl⟩
  · clear h
    go_enter Tryz.func104, Tryz.ntmps104
    go_wp2
    go_ret
    exact ⟨rfl, rfl⟩
theorem rmay_yes (a n s : Int) (w : World) (h0 : 0 ≤ a) (h1 : 0 ≤ n) (h2 : a ≤ s) (h3 : n ≤ s - a) (h4 : s ≤ 9223372036854775807) :
    Calls Tryz.prog 70 #[.int .i64 a, .int .i64 n, .int .i64 s] w fun e w' => e = .returned (.bool true) ∧ w = w' := by
  have hs : 0 ≤ s := by omega
  go_enter Tryz.func70, Tryz.ntmps70
  go_wp2
  go_ret
  exact ⟨rfl, rfl⟩
theorem rmay_no (a n s : Int) (w : World) (h : ¬ (0 ≤ a ∧ 0 ≤ n ∧ a ≤ s ∧ n ≤ s - a)) (h4 : s ≤ 9223372036854775807) :
    Calls Tryz.prog 70 #[.int .i64 a, .int .i64 n, .int .i64 s] w fun e w' => e = .returned (.bool false) ∧ w = w' := by
  by_cases ha : 0 ≤ a
  · by_cases hn : 0 ≤ n
    · by_cases hs : a ≤ s
      · have hd : decide (n ≤ s - a) = false := by simp; omega
        have hl : s - a < n := by omega
        have hs0 : 0 ≤ s := by omega
        clear h
        go_enter Tryz.func70, Tryz.ntmps70
        go_wp2
        go_ret
        exact ⟨rfl, rfl⟩
      · clear h
        by_cases hs0 : 0 ≤ s
        · go_enter Tryz.func70, Tryz.ntmps70
          go_wp2
          go_ret
          exact ⟨rfl, rfl⟩
        · go_enter Tryz.func70, Tryz.ntmps70
          go_wp2
          go_ret
          exact ⟨rfl, rfl⟩
    · clear h
      go_enter Tryz.func70, Tryz.ntmps70
      go_wp2
      go_ret
      exact ⟨rfl, rfl⟩
  · clear h
    go_enter Tryz.func70, Tryz.ntmps70
    go_wp2
    go_ret
    exact ⟨rfl, rfl⟩
end Go.Proofs.YtkaalinoiilmoaaGreat
namespace Go.Proofs.YtkaalinoiilmoaaGreat
open Go.RowKit
set_option linter.unusedVariables false
set_option linter.unusedSimpArgs false
set_option maxRecDepth 100000
structure Gr where
  f : Int
  t : Int
  wr : Bool
structure De where
  pt : Int
  po : List Int
structure Cf where
  fr : Int
  ps : List Pa
  ds : List De
  mj : Int
  ws : List Win
  gs : List Gr
  se : Int
  qu : Int
  qt : Int
def updT (T : Nat → Int) (k : Nat) (o : Int) : Nat → Int := fun i => if i = k then o else T i
def fgB (F : Int) (T : Nat → Int) (x : Int) : Bool := decide (0 ≤ x ∧ x < F) && decide (T x.toNat = -1)
def giB (F o : Int) : (Nat → Int) → List Int → Bool
  | _, [] => true
  | T, x :: l => fgB F T x && giB F o (updT T x.toNat o) l
def giT (o : Int) : (Nat → Int) → List Int → (Nat → Int)
  | T, [] => T
  | T, x :: l => giT o (updT T x.toNat o) l
def gpB (F : Int) : Int → (Nat → Int) → List Pa → Bool
  | _, _, [] => true
  | i, T, p :: l => giB F i T p.fr && gpB F (i + 1) (giT i T p.fr) l
def gpT : Int → (Nat → Int) → List Pa → (Nat → Int)
  | _, T, [] => T
  | i, T, p :: l => gpT (i + 1) (giT i T p.fr) l
def gdB (F : Int) : (Nat → Int) → List De → Bool
  | _, [] => true
  | T, d :: l => giB F (-2) T d.po && gdB F (giT (-2) T d.po) l
def gdT : (Nat → Int) → List De → (Nat → Int)
  | T, [] => T
  | T, d :: l => gdT (giT (-2) T d.po) l
def freeT : Nat → Int := fun _ => -1
def unB (c : Cf) : Bool := gpB c.fr 0 freeT c.ps && gdB c.fr (gpT 0 freeT c.ps) c.ds
def ownM (c : Cf) : Nat → Int := gdT (gpT 0 freeT c.ps) c.ds
def ownP : Int → List Pa → Int → Int
  | _, [], _ => -1
  | i, p :: l, f => if f ∈ p.fr then i else ownP (i + 1) l f
def ownF (c : Cf) (f : Int) : Int := ownP 0 c.ps f
def btw (lo hi n : Int) : Bool := decide (lo ≤ n ∧ n ≤ hi)
def paB (p : Pa) : Bool := lB p.lv p.ct && decide (0 < p.fr.length)
def dvB_Cf0 (n : Nat) (d : De) : Bool := inP n d.pt && btw 2 5 d.po.length
def hasW (ws : List Win) (i : Int) : Bool := ws.any fun x => decide (x.p = i)
def okG (c : Cf) (g : Gr) : Bool := decide (0 ≤ ownF c g.f) && (inP c.ps.length g.t && decide (g.t ≠ ownF c g.f))
def sgB (g h : Gr) : Bool := decide (h.f = g.f ∧ h.t = g.t)
def grB (c : Cf) : List Gr → List Gr → Bool
  | _, [] => true
  | s, g :: l => (okG c g && !s.any (sgB g)) && grB c (s ++ [g]) l
def frB_Cf0 (c : Cf) : Bool := btw 1 64 c.fr
def psB (c : Cf) : Bool := btw 1 4 c.ps.length && c.ps.all paB
def dsB (c : Cf) : Bool := btw 1 4 c.ds.length && c.ds.all (dvB_Cf0 c.ps.length)
def wsB (c : Cf) : Bool := mayW c.ws c.mj c.ps.length && (List.range c.ps.length).all (fun i => hasW c.ws i)
def gsB (c : Cf) : Bool := grB c [] c.gs
def shB (c : Cf) : Bool := extB (c.ps.map Pa.fc) c.se
def quB (c : Cf) : Bool := btw 0 64 c.qu
def qtB (c : Cf) : Bool := btw 1 8 c.qt
def cfMay (c : Cf) : Bool := frB_Cf0 c && (psB c && (dsB c && (unB c && (wsB c && (gsB c && (shB c && (quB c && qtB c)))))))
theorem giB_go (F o : Int) : ∀ (l : List Int) (T : Nat → Int), (List.range l.length).all (fun i => fgB F (giT o T (l.take i)) (l.getD i 0)) = giB F o T l := by
  intro l
  induction l with
  | nil => intro T; rfl
  | cons x l ih =>
    intro T
    rw [List.length_cons, List.range_succ_eq_map, List.all_cons, List.all_map]
    have h0 : fgB F (giT o T ((x :: l).take 0)) ((x :: l).getD 0 0) = fgB F T x := by simp [giT]
    rw [h0]
    simp only [giB]
    congr 1
    rw [← ih (updT T x.toNat o)]
    rfl
theorem giT_take (o : Int) : ∀ (l : List Int) (T : Nat → Int) (k : Nat), k < l.length → giT o T (l.take (k + 1)) = updT (giT o T (l.take k)) (l.getD k 0).toNat o := by
  intro l
  induction l with
  | nil => intro T k h; simp at h
  | cons x l ih =>
    intro T k h
    match k with
    | 0 => simp [giT]
    | k + 1 =>
      rw [List.take_succ_cons, List.take_succ_cons]
      simp only [giT]
      rw [ih _ k (by simpa using h)]
      rfl
theorem gpT_take : ∀ (l : List Pa) (i : Int) (T : Nat → Int) (k : Nat), k < l.length → gpT i T (l.take (k + 1)) = giT (i + k) (gpT i T (l.take k)) (l.getD k paD).fr := by
  intro l
  induction l with
  | nil => intro i T k h; simp at h
  | cons x l ih =>
    intro i T k h
    match k with
    | 0 => simp [gpT]
    | k + 1 =>
      rw [List.take_succ_cons, List.take_succ_cons]
      simp only [gpT]
      rw [ih _ _ k (by simpa using h)]
      rw [show i + 1 + (k : Int) = i + ((k + 1 : Nat) : Int) by omega]
      rfl
theorem gpB_at (F : Int) : ∀ (l : List Pa) (i : Int) (T : Nat → Int) (k : Nat), k < l.length → gpB F (i + k) (gpT i T (l.take k)) (l.drop k) = (giB F (i + k) (gpT i T (l.take k)) (l.getD k paD).fr && gpB F (i + (k + 1 : Nat)) (gpT i T (l.take (k + 1))) (l.drop (k + 1))) := by
  intro l i T k h
  rw [gpT_take l i T k h, List.drop_eq_getElem_cons h]
  simp only [gpB, List.getD, List.getElem?_eq_getElem h, Option.getD_some]
  rw [show i + (k : Int) + 1 = i + ((k + 1 : Nat) : Int) by omega]
def deD : De := ⟨0, []⟩
theorem gdT_take : ∀ (l : List De) (T : Nat → Int) (k : Nat), k < l.length → gdT T (l.take (k + 1)) = giT (-2) (gdT T (l.take k)) (l.getD k deD).po := by
  intro l
  induction l with
  | nil => intro T k h; simp at h
  | cons x l ih =>
    intro T k h
    match k with
    | 0 => simp [gdT]
    | k + 1 =>
      rw [List.take_succ_cons, List.take_succ_cons]
      simp only [gdT]
      rw [ih _ k (by simpa using h)]
      rfl
theorem gdB_at (F : Int) : ∀ (l : List De) (T : Nat → Int) (k : Nat), k < l.length → gdB F (gdT T (l.take k)) (l.drop k) = (giB F (-2) (gdT T (l.take k)) (l.getD k deD).po && gdB F (gdT T (l.take (k + 1))) (l.drop (k + 1))) := by
  intro l T k h
  rw [gdT_take l T k h, List.drop_eq_getElem_cons h]
  simp only [gdB, List.getD, List.getElem?_eq_getElem h, Option.getD_some]
theorem fgB_of {F : Int} {T : Nat → Int} {x : Int} (h : fgB F T x = true) : 0 ≤ x ∧ x < F ∧ T x.toNat = -1 := by
  unfold fgB at h
  simp only [Bool.and_eq_true, decide_eq_true_eq] at h
  exact ⟨h.1.1, h.1.2, h.2⟩
theorem giB_mem {F o : Int} (ho : o ≠ -1) : ∀ (l : List Int) (T : Nat → Int), giB F o T l = true → ∀ x ∈ l, 0 ≤ x ∧ x < F ∧ T x.toNat = -1 := by
  intro l
  induction l with
  | nil => intro T _ x hx; cases hx
  | cons y l ih =>
    intro T h x hx
    simp only [giB, Bool.and_eq_true] at h
    have h0 := fgB_of h.1
    rcases List.mem_cons.1 hx with rfl | hx
    · exact h0
    · obtain ⟨h1, h2, h3⟩ := ih _ h.2 x hx
      refine ⟨h1, h2, ?_⟩
      unfold updT at h3
      split at h3
      · exact absurd h3 ho
      · exact h3
theorem giT_at {F o : Int} (ho : o ≠ -1) : ∀ (l : List Int) (T : Nat → Int), giB F o T l = true → ∀ k : Nat, giT o T l k = if (k : Int) ∈ l then o else T k := by
  intro l
  induction l with
  | nil => intro T _ k; simp [giT]
  | cons y l ih =>
    intro T h k
    simp only [giB, Bool.and_eq_true] at h
    obtain ⟨h1, h2, h3⟩ := fgB_of h.1
    simp only [giT]
    rw [ih _ h.2 k]
    by_cases hk : (k : Int) ∈ l
    · rw [if_pos hk, if_pos (List.mem_cons_of_mem _ hk)]
    · rw [if_neg hk]
      unfold updT
      by_cases e : k = y.toNat
      · rw [if_pos e, if_pos (by rw [e, Int.toNat_of_nonneg h1]; exact List.mem_cons_self ..)]
      · rw [if_neg e, if_neg (by
          intro hm
          rcases List.mem_cons.1 hm with hm | hm
          · exact e (by omega)
          · exact hk hm)]
theorem ownP_lo : ∀ (l : List Pa) (i f : Int), ownP i l f = -1 ∨ i ≤ ownP i l f ∧ ownP i l f < i + l.length := by
  intro l
  induction l with
  | nil => intro i f; exact .inl rfl
  | cons p l ih =>
    intro i f
    simp only [ownP, List.length_cons]
    split
    · right; omega
    · rcases ih (i + 1) f with h | h
      · exact .inl h
      · right; omega
theorem gpB_taken {F : Int} : ∀ (l : List Pa) (i : Int) (T : Nat → Int), 0 ≤ i → gpB F i T l = true → ∀ k : Nat, T k ≠ -1 → ownP i l k = -1 ∧ gpT i T l k = T k := by
  intro l
  induction l with
  | nil => intro i T _ _ k _; exact ⟨rfl, rfl⟩
  | cons p l ih =>
    intro i T hi h k hk
    simp only [gpB, Bool.and_eq_true] at h
    have hn : ¬ (k : Int) ∈ p.fr := by
      intro hm
      have := (giB_mem (by omega) _ _ h.1 _ hm).2.2
      simp only [Int.toNat_natCast] at this
      exact hk this
    have h1 := giT_at (by omega) _ _ h.1 k
    rw [if_neg hn] at h1
    obtain ⟨h2, h3⟩ := ih (i + 1) _ (by omega) h.2 k (by rw [h1]; exact hk)
    simp only [ownP, gpT]
    rw [if_neg hn]
    exact ⟨h2, by rw [h3, h1]⟩
theorem gpT_at {F : Int} : ∀ (l : List Pa) (i : Int) (T : Nat → Int), 0 ≤ i → gpB F i T l = true → ∀ k : Nat, gpT i T l k = if ownP i l k = -1 then T k else ownP i l k := by
  intro l
  induction l with
  | nil => intro i T _ _ k; simp [gpT, ownP]
  | cons p l ih =>
    intro i T hi h k
    simp only [gpB, Bool.and_eq_true] at h
    have h1 := giT_at (show i ≠ -1 by omega) _ _ h.1 k
    have e0 : ownP i (p :: l) k = if (k : Int) ∈ p.fr then i else ownP (i + 1) l k := rfl
    simp only [gpT]
    by_cases hm : (k : Int) ∈ p.fr
    · rw [if_pos hm] at h1 e0
      rw [e0, (gpB_taken l (i + 1) _ (by omega) h.2 k (by rw [h1]; omega)).2, h1, if_neg (show ¬ i = -1 by omega)]
    · rw [if_neg hm] at h1 e0
      rw [e0, ih (i + 1) _ (by omega) h.2 k, h1]
theorem gdT_at {F : Int} : ∀ (l : List De) (T : Nat → Int), gdB F T l = true → ∀ k : Nat, (T k ≠ -1 → gdT T l k = T k) ∧ (T k = -1 → gdT T l k < 0) := by
  intro l
  induction l with
  | nil => intro T _ k; exact ⟨fun _ => rfl, fun h => by simp only [gdT]; omega⟩
  | cons d l ih =>
    intro T h k
    simp only [gdB, Bool.and_eq_true] at h
    have h1 := giT_at (show (-2 : Int) ≠ -1 by omega) _ _ h.1 k
    obtain ⟨h2, h3⟩ := ih _ h.2 k
    simp only [gdT]
    constructor
    · intro hk
      have hn : ¬ (k : Int) ∈ d.po := by
        intro hm
        have := (giB_mem (by omega) _ _ h.1 _ hm).2.2
        simp only [Int.toNat_natCast] at this
        exact hk this
      rw [if_neg hn] at h1
      rw [h2 (by rw [h1]; exact hk), h1]
    · intro hk
      by_cases hm : (k : Int) ∈ d.po
      · rw [if_pos hm] at h1
        rw [h2 (by rw [h1]; omega), h1]; omega
      · rw [if_neg hm] at h1
        exact h3 (by rw [h1]; exact hk)
theorem ownP_range {F : Int} : ∀ (l : List Pa) (i : Int) (T : Nat → Int), 0 ≤ i → gpB F i T l = true → ∀ f : Int, ownP i l f ≠ -1 → 0 ≤ f ∧ f < F := by
  intro l
  induction l with
  | nil => intro i T _ _ f h; exact absurd rfl h
  | cons p l ih =>
    intro i T hi h f hf
    simp only [gpB, Bool.and_eq_true] at h
    simp only [ownP] at hf
    by_cases hm : f ∈ p.fr
    · have := giB_mem (show i ≠ -1 by omega) _ _ h.1 _ hm
      exact ⟨this.1, this.2.1⟩
    · rw [if_neg hm] at hf
      exact ih (i + 1) _ (by omega) h.2 f hf
theorem ownP_part {F : Int} : ∀ (l : List Pa) (i : Int) (T : Nat → Int), 0 ≤ i → gpB F i T l = true → ∀ (j : Nat) (f : Int), j < l.length → (f ∈ (l.getD j paD).fr ↔ ownP i l f = i + j) := by
  intro l
  induction l with
  | nil => intro i T _ _ j f h; simp at h
  | cons p l ih =>
    intro i T hi h j f hj
    simp only [gpB, Bool.and_eq_true] at h
    simp only [ownP]
    match j with
    | 0 =>
      have e0 : ((p :: l).getD 0 paD) = p := rfl
      rw [e0]
      constructor
      · intro hm; rw [if_pos hm]; omega
      · intro he
        by_cases hm : f ∈ p.fr
        · exact hm
        · rw [if_neg hm] at he
          have := ownP_lo l (i + 1) f
          omega
    | j + 1 =>
      have e0 : ((p :: l).getD (j + 1) paD) = l.getD j paD := rfl
      have hj' : j < l.length := by simpa using hj
      rw [e0, ih (i + 1) _ (by omega) h.2 j f hj']
      by_cases hm : f ∈ p.fr
      · rw [if_pos hm]
        have hr := giB_mem (show i ≠ -1 by omega) _ _ h.1 _ hm
        have h1 := giT_at (show i ≠ -1 by omega) _ _ h.1 f.toNat
        rw [Int.toNat_of_nonneg hr.1, if_pos hm] at h1
        have h2 := (gpB_taken l (i + 1) _ (by omega) h.2 f.toNat (by rw [h1]; omega)).1
        rw [Int.toNat_of_nonneg hr.1] at h2
        rw [h2]
        omega
      · rw [if_neg hm]; omega
theorem own_table {c : Cf} (h : unB c = true) (f : Int) : ownF c f = -1 ∨ (0 ≤ ownF c f ∧ ownF c f < c.ps.length ∧ 0 ≤ f ∧ f < c.fr ∧ ownM c f.toNat = ownF c f) := by
  unfold unB at h
  rw [Bool.and_eq_true] at h
  by_cases hf : ownF c f = -1
  · exact .inl hf
  · right
    have hr := ownP_range _ _ _ (by omega) h.1 f hf
    have hl := ownP_lo c.ps 0 f
    have h1 := gpT_at _ _ _ (by omega) h.1 f.toNat
    have hn : ownP 0 c.ps f ≠ -1 := hf
    rw [Int.toNat_of_nonneg hr.1, if_neg hn] at h1
    have h2 := (gdT_at _ _ h.2 f.toNat).1 (by rw [h1]; exact hn)
    refine ⟨by unfold ownF; omega, by unfold ownF; omega, hr.1, hr.2, ?_⟩
    show gdT _ _ _ = _
    rw [h2, h1]; rfl
theorem own_table_no {c : Cf} (h : unB c = true) (f : Int) (hf : ownF c f = -1) (h0 : 0 ≤ f) : ownM c f.toNat < 0 := by
  unfold unB at h
  rw [Bool.and_eq_true] at h
  have h1 := gpT_at _ _ _ (by omega) h.1 f.toNat
  rw [Int.toNat_of_nonneg h0] at h1
  have hf' : ownP 0 c.ps f = -1 := hf
  rw [if_pos hf'] at h1
  exact (gdT_at _ _ h.2 f.toNat).2 (by rw [h1]; rfl)
theorem own_part {c : Cf} (h : unB c = true) (j : Nat) (f : Int) (hj : j < c.ps.length) : decide (f ∈ (c.ps.getD j paD).fr) = decide (ownF c f = (j : Int)) := by
  unfold unB at h
  rw [Bool.and_eq_true] at h
  have := ownP_part _ _ _ (by omega) h.1 j f hj
  rw [Int.zero_add] at this
  exact decide_eq_decide.2 this
end Go.Proofs.YtkaalinoiilmoaaGreat
namespace Go.Proofs.YtkaalinoiilmoaaGreat
open Go.RowKit
set_option linter.unusedVariables false
set_option linter.unusedSimpArgs false
set_option maxRecDepth 100000
set_option maxHeartbeats 1000000 in
theorem if_Part (A : Option Addr) (b o n cap : Nat) (a0 : Nat) (c0 c1 c2 c3 c4 : Nat → Value) (p : Nat → Bool) (S : Nat → Prop) (I : Nat → World → Prop) (w : World) (hn : n ≤ maxLen) (hA : 0 < n → A = some ⟨b, o, none⟩)
    (hr : ∀ i W, i < n → I i W → W.cell? ⟨b, o + i * 5, none⟩ = some (c0 i) ∧ W.cell? ⟨b, o + i * 5 + 1, none⟩ = some (c1 i) ∧ W.cell? ⟨b, o + i * 5 + 2, none⟩ = some (c2 i) ∧ W.cell? ⟨b, o + i * 5 + 3, none⟩ = some (c3 i) ∧ W.cell? ⟨b, o + i * 5 + 4, none⟩ = some (c4 i))
    (hG : ∀ i W, i < n → (∀ j, j < i → p j = false) → I i W → Calls Tryz.prog 95 #[(.agg #[c0 i, c1 i, c2 i, c3 i, c4 i]), .pointer (some ⟨a0, 0, none⟩)] W fun e w' => e = .returned (.bool (p i)) ∧ I (i + 1) w' ∧ Fo S W w') (h0 : I 0 w) :
    Calls Tryz.prog 108 #[.slice A n cap, .func (.func 95) #[] #[.pointer (some ⟨a0, 0, none⟩)]] w fun e w' => ∃ r : Int, e = .returned (.int .i64 r) ∧ decide (r ≥ 0) = (List.range n).any p ∧ (∃ k, k ≤ n ∧ I k w' ∧ (r < 0 → k = n)) ∧ Fo S w w' := by
  have HA := Lib.hid hA; have HR := Lib.hid hr; have HG := Lib.hid hG; have H0 := Lib.hid h0
  unfold maxLen at hn
  clear hA hr hG h0
  go_enter Tryz.func108, Tryz.ntmps108
  go_wp2_with fail
  go_loopw [8] (fun i wr => ∃ k : Nat, k ≤ n ∧ i = .int .i64 k ∧ Hid ((∀ j, j < k → p j = false) ∧ I k wr ∧ Fo S w wr)) (fun i _ => n - (intOf i).toNat)
  case atStart => exact ⟨0, by omega, rfl, Lib.hid ⟨fun j hj => by omega, H0.out, Fo.refl _ _⟩⟩
  case round =>
    obtain ⟨k, hk, rfl, HX⟩ := hrel
    by_cases hlt : k < n
    · obtain rfl := HA.out (by omega)
      obtain ⟨x0, x1, x2, x3, x4⟩ := HR.out k wr hlt HX.out.2.1
      have HC := Lib.hid (HG.out k wr hlt HX.out.1 HX.out.2.1)
      generalize c0 k = e0 at * ; generalize c1 k = e1 at * ; generalize c2 k = e2 at * ; generalize c3 k = e3 at * ; generalize c4 k = e4 at *
      go_wp2_with fail
      refine HC.out.mono ?_
      rintro e w1 ⟨rfl, hi, hf⟩
      have HI := Lib.hid hi
      have HF := Lib.hid (HX.out.2.2.trans hf)
      clear x0 x1 x2 x3 x4 hi hf
      cases hp : p k with
      | true =>
        have HP := Lib.hid hp
        clear hp
        go_wp2_with fail
        go_ret
        exact ⟨_, rfl, (by rw [range_any_yes hlt HP.out]; exact decide_eq_true (by omega)), ⟨k + 1, by omega, HI.out, fun h => by omega⟩, HF.out⟩
      | false =>
        have HP := Lib.hid hp
        clear hp
        go_wp2_with fail
        go_roundw
        case rel => exact ⟨k + 1, by omega, by go_num, Lib.hid ⟨fun j hj => by
          by_cases e : j = k
          · rw [e]; exact HP.out
          · exact HX.out.1 j (by omega), HI.out, HF.out⟩⟩
        case measure => simp [intOf]; omega
    · obtain rfl : k = n := by omega
      go_wp2_with fail
      go_ret
      exact ⟨_, rfl, (by rw [range_any_no HX.out.1]; rfl), ⟨k, by omega, HX.out.2.1, fun _ => rfl⟩, HX.out.2.2⟩
theorem cf_Part (A : Option Addr) (b o n cap : Nat) (a0 : Nat) (c0 c1 c2 c3 c4 : Nat → Value) (p : Nat → Bool) (S : Nat → Prop) (I : Nat → World → Prop) (w : World) (hn : n ≤ maxLen) (hA : 0 < n → A = some ⟨b, o, none⟩)
    (hr : ∀ i W, i < n → I i W → W.cell? ⟨b, o + i * 5, none⟩ = some (c0 i) ∧ W.cell? ⟨b, o + i * 5 + 1, none⟩ = some (c1 i) ∧ W.cell? ⟨b, o + i * 5 + 2, none⟩ = some (c2 i) ∧ W.cell? ⟨b, o + i * 5 + 3, none⟩ = some (c3 i) ∧ W.cell? ⟨b, o + i * 5 + 4, none⟩ = some (c4 i))
    (hG : ∀ i W, i < n → (∀ j, j < i → p j = false) → I i W → Calls Tryz.prog 95 #[(.agg #[c0 i, c1 i, c2 i, c3 i, c4 i]), .pointer (some ⟨a0, 0, none⟩)] W fun e w' => e = .returned (.bool (p i)) ∧ I (i + 1) w' ∧ Fo S W w') (h0 : I 0 w) :
    Calls Tryz.prog 94 #[.slice A n cap, .func (.func 95) #[] #[.pointer (some ⟨a0, 0, none⟩)]] w fun e w' => e = .returned (.bool ((List.range n).any p)) ∧ Upto n I w' (!(List.range n).any p) ∧ Fo S w w' := by
  have HC := Lib.hid (if_Part A b o n cap a0 c0 c1 c2 c3 c4 p S I w hn hA hr hG h0)
  clear hA hr hG h0
  generalize (List.range n).any p = R at *
  go_enter Tryz.func94, Tryz.ntmps94
  go_wp2_with fail
  refine HC.out.mono ?_
  rintro e w1 ⟨r, rfl, hr, hi, hf⟩
  have HI := Lib.hid hi; have HF := Lib.hid hf
  clear hi hf
  cases R
  all_goals
    go_wp2_with fail
    go_ret
  · refine ⟨rfl, ?_, HF.out⟩
    obtain ⟨k, hk, h1, h2⟩ := HI.out
    exact ⟨k, hk, h1, fun _ => h2 (by have := of_decide_eq_false hr; omega)⟩
  · refine ⟨rfl, ?_, HF.out⟩
    obtain ⟨k, hk, h1, h2⟩ := HI.out
    exact ⟨k, hk, h1, fun h => by cases h⟩
theorem e1_Part (g : Nat) (e0 e1 e2 e3 e4 : Value) (q : Bool) (Q : World → Prop) (S : Nat → Prop) (w : World) (hg : Blk w g 112 [.func (.func 78) #[] #[]])
    (hst : ∀ W W', Q W → Below W.heap.size W W' → Q W') (Q' : World → Prop) (hq : Q w)
    (hH : ∀ W, Q W → Calls Tryz.prog 78 #[.agg #[e0, e1, e2, e3, e4]] W fun e w' => e = .returned (.bool q) ∧ Q' w' ∧ Fo S W w') :
    Calls Tryz.prog 95 #[.agg #[e0, e1, e2, e3, e4], .pointer (some ⟨g, 0, none⟩)] w fun e w' => e = .returned (.bool (!q)) ∧ Q' w' ∧ Fo S w w' := by
  have hb0 : Below w.heap.size w (w.alloc (.cells #[e0, e1, e2, e3, e4] 70)) := (Below.refl _ _).alloc (Nat.le_refl _) _
  have hb1 : Blk (w.alloc (.cells #[e0, e1, e2, e3, e4] 70)) w.heap.size 70 [e0, e1, e2, e3, e4] := Blk.new _ _ _
  have hg1 := hg.alloc (.cells #[e0, e1, e2, e3, e4] 70)
  have cg := hg1.cell 0
  simp only [List.getElem?_cons_zero] at cg
  have k0 := hb1.cell 0
  have k1 := hb1.cell 1
  have k2 := hb1.cell 2
  have k3 := hb1.cell 3
  have k4 := hb1.cell 4
  simp only [List.getElem?_cons_zero, List.getElem?_cons_succ] at k0 k1 k2 k3 k4
  have HC := Lib.hid (hH _ (hst _ _ hq hb0)); have HB := Lib.hid hb0
  clear hb0 hb1 hg1 hg hH hst hq
  go_enter Tryz.func95, Tryz.ntmps95
  go_wp2_with fail
  refine HC.out.mono ?_
  rintro e w1 ⟨rfl, h1, h2⟩
  go_wp2_with fail
  go_ret
  exact ⟨rfl, h1, (Fo.of HB.out S).trans_new h2 (fun i hi => .inl hi)⟩
theorem each_Part (A : Option Addr) (b o n cap : Nat) (c0 c1 c2 c3 c4 : Nat → Value) (q : Nat → Bool) (S : Nat → Prop) (I : Nat → World → Prop) (w : World) (hn : n ≤ maxLen) (hA : 0 < n → A = some ⟨b, o, none⟩)
    (hS : ∀ k, S k → k < w.heap.size) (hst : ∀ i W W', I i W → Below W.heap.size W W' → I i W')
    (hr : ∀ i W, i < n → I i W → W.cell? ⟨b, o + i * 5, none⟩ = some (c0 i) ∧ W.cell? ⟨b, o + i * 5 + 1, none⟩ = some (c1 i) ∧ W.cell? ⟨b, o + i * 5 + 2, none⟩ = some (c2 i) ∧ W.cell? ⟨b, o + i * 5 + 3, none⟩ = some (c3 i) ∧ W.cell? ⟨b, o + i * 5 + 4, none⟩ = some (c4 i))
    (hH : ∀ i W, i < n → (∀ j, j < i → q j = true) → I i W → Calls Tryz.prog 78 #[(.agg #[c0 i, c1 i, c2 i, c3 i, c4 i])] W fun e w' => e = .returned (.bool (q i)) ∧ I (i + 1) w' ∧ Fo S W w') (h0 : I 0 w) :
    Calls Tryz.prog 77 #[.slice A n cap, .func (.func 78) #[] #[]] w fun e w' => e = .returned (.bool ((List.range n).all q)) ∧ Upto n I w' ((List.range n).all q) ∧ Fo S w w' := by
  have hb0 : Below w.heap.size w (w.alloc (.cells #[.func (.func 78) #[] #[]] 112)) := (Below.refl _ _).alloc (Nat.le_refl _) _
  have hb1 : Blk (w.alloc (.cells #[.func (.func 78) #[] #[]] 112)) w.heap.size 112 [.func (.func 78) #[] #[]] := Blk.new _ _ _
  have hC := cf_Part A b o n cap w.heap.size c0 c1 c2 c3 c4 (fun i => !q i) S (fun i W => I i W ∧ Blk W w.heap.size 112 [.func (.func 78) #[] #[]]) _ hn hA (fun i W hi h => hr i W hi h.1)
    (fun i W hi hj h => (e1_Part w.heap.size  _ _ _ _ _ (q i) (I i) S W h.2 (hst i) (fun w' => I (i + 1) w') h.1 (fun W' h' => hH i W' hi (fun j hj' => by have := hj j hj'; simpa using this) h')).mono (fun e w' ⟨he, h1, h2⟩ => ⟨he, ⟨h1, h2.blk h.2 (fun hs => by have := hS _ hs; omega)⟩, h2⟩)) ⟨hst 0 _ _ h0 hb0, hb1⟩
  have e1 : (List.range n).any (fun i => !q i) = !(List.range n).all q := range_any_not _ _
  rw [e1] at hC
  have HC := Lib.hid hC; have HB := Lib.hid hb0
  clear hC e1 hb0 hb1 hA hS hst hr hH h0
  generalize (List.range n).all q = R at *
  go_enter Tryz.func77, Tryz.ntmps77
  go_wp2_with fail
  refine HC.out.mono ?_
  rintro e w1 ⟨rfl, hk, hf⟩
  have HK := Lib.hid hk; have HF := Lib.hid hf
  clear hk hf
  cases R
  all_goals
    go_wp2_with fail
    go_ret
    refine ⟨rfl, ?_, (Fo.of HB.out S).trans_new HF.out (fun i hi => .inl hi)⟩
    obtain ⟨k, hk, h1, h2⟩ := HK.out
    exact ⟨k, hk, h1.1, fun h => h2 (by first | exact h | cases h | rfl)⟩
end Go.Proofs.YtkaalinoiilmoaaGreat
namespace Go.Proofs.YtkaalinoiilmoaaGreat
open Go.RowKit
set_option linter.unusedVariables false
set_option linter.unusedSimpArgs false
set_option maxRecDepth 100000
set_option maxHeartbeats 1000000 in
theorem if_Dev (A : Option Addr) (b o n cap : Nat) (a0 : Nat) (c0 c1 : Nat → Value) (p : Nat → Bool) (S : Nat → Prop) (I : Nat → World → Prop) (w : World) (hn : n ≤ maxLen) (hA : 0 < n → A = some ⟨b, o, none⟩)
    (hr : ∀ i W, i < n → I i W → W.cell? ⟨b, o + i * 2, none⟩ = some (c0 i) ∧ W.cell? ⟨b, o + i * 2 + 1, none⟩ = some (c1 i))
    (hG : ∀ i W, i < n → (∀ j, j < i → p j = false) → I i W → Calls Tryz.prog 97 #[(.agg #[c0 i, c1 i]), .pointer (some ⟨a0, 0, none⟩)] W fun e w' => e = .returned (.bool (p i)) ∧ I (i + 1) w' ∧ Fo S W w') (h0 : I 0 w) :
    Calls Tryz.prog 109 #[.slice A n cap, .func (.func 97) #[] #[.pointer (some ⟨a0, 0, none⟩)]] w fun e w' => ∃ r : Int, e = .returned (.int .i64 r) ∧ decide (r ≥ 0) = (List.range n).any p ∧ (∃ k, k ≤ n ∧ I k w' ∧ (r < 0 → k = n)) ∧ Fo S w w' := by
  have HA := Lib.hid hA; have HR := Lib.hid hr; have HG := Lib.hid hG; have H0 := Lib.hid h0
  unfold maxLen at hn
  clear hA hr hG h0
  go_enter Tryz.func109, Tryz.ntmps109
  go_wp2_with fail
  go_loopw [8] (fun i wr => ∃ k : Nat, k ≤ n ∧ i = .int .i64 k ∧ Hid ((∀ j, j < k → p j = false) ∧ I k wr ∧ Fo S w wr)) (fun i _ => n - (intOf i).toNat)
  case atStart => exact ⟨0, by omega, rfl, Lib.hid ⟨fun j hj => by omega, H0.out, Fo.refl _ _⟩⟩
  case round =>
    obtain ⟨k, hk, rfl, HX⟩ := hrel
    by_cases hlt : k < n
    · obtain rfl := HA.out (by omega)
      obtain ⟨x0, x1⟩ := HR.out k wr hlt HX.out.2.1
      have HC := Lib.hid (HG.out k wr hlt HX.out.1 HX.out.2.1)
      generalize c0 k = e0 at * ; generalize c1 k = e1 at *
      go_wp2_with fail
      refine HC.out.mono ?_
      rintro e w1 ⟨rfl, hi, hf⟩
      have HI := Lib.hid hi
      have HF := Lib.hid (HX.out.2.2.trans hf)
      clear x0 x1 hi hf
      cases hp : p k with
      | true =>
        have HP := Lib.hid hp
        clear hp
        go_wp2_with fail
        go_ret
        exact ⟨_, rfl, (by rw [range_any_yes hlt HP.out]; exact decide_eq_true (by omega)), ⟨k + 1, by omega, HI.out, fun h => by omega⟩, HF.out⟩
      | false =>
        have HP := Lib.hid hp
        clear hp
        go_wp2_with fail
        go_roundw
        case rel => exact ⟨k + 1, by omega, by go_num, Lib.hid ⟨fun j hj => by
          by_cases e : j = k
          · rw [e]; exact HP.out
          · exact HX.out.1 j (by omega), HI.out, HF.out⟩⟩
        case measure => simp [intOf]; omega
    · obtain rfl : k = n := by omega
      go_wp2_with fail
      go_ret
      exact ⟨_, rfl, (by rw [range_any_no HX.out.1]; rfl), ⟨k, by omega, HX.out.2.1, fun _ => rfl⟩, HX.out.2.2⟩
theorem cf_Dev (A : Option Addr) (b o n cap : Nat) (a0 : Nat) (c0 c1 : Nat → Value) (p : Nat → Bool) (S : Nat → Prop) (I : Nat → World → Prop) (w : World) (hn : n ≤ maxLen) (hA : 0 < n → A = some ⟨b, o, none⟩)
    (hr : ∀ i W, i < n → I i W → W.cell? ⟨b, o + i * 2, none⟩ = some (c0 i) ∧ W.cell? ⟨b, o + i * 2 + 1, none⟩ = some (c1 i))
    (hG : ∀ i W, i < n → (∀ j, j < i → p j = false) → I i W → Calls Tryz.prog 97 #[(.agg #[c0 i, c1 i]), .pointer (some ⟨a0, 0, none⟩)] W fun e w' => e = .returned (.bool (p i)) ∧ I (i + 1) w' ∧ Fo S W w') (h0 : I 0 w) :
    Calls Tryz.prog 96 #[.slice A n cap, .func (.func 97) #[] #[.pointer (some ⟨a0, 0, none⟩)]] w fun e w' => e = .returned (.bool ((List.range n).any p)) ∧ Upto n I w' (!(List.range n).any p) ∧ Fo S w w' := by
  have HC := Lib.hid (if_Dev A b o n cap a0 c0 c1 p S I w hn hA hr hG h0)
  clear hA hr hG h0
  generalize (List.range n).any p = R at *
  go_enter Tryz.func96, Tryz.ntmps96
  go_wp2_with fail
  refine HC.out.mono ?_
  rintro e w1 ⟨r, rfl, hr, hi, hf⟩
  have HI := Lib.hid hi; have HF := Lib.hid hf
  clear hi hf
  cases R
  all_goals
    go_wp2_with fail
    go_ret
  · refine ⟨rfl, ?_, HF.out⟩
    obtain ⟨k, hk, h1, h2⟩ := HI.out
    exact ⟨k, hk, h1, fun _ => h2 (by have := of_decide_eq_false hr; omega)⟩
  · refine ⟨rfl, ?_, HF.out⟩
    obtain ⟨k, hk, h1, h2⟩ := HI.out
    exact ⟨k, hk, h1, fun h => by cases h⟩
theorem e1_Dev (g : Nat) (y0 : Nat) (e0 e1 : Value) (q : Bool) (Q : World → Prop) (S : Nat → Prop) (w : World) (hg : Blk w g 114 [.func (.func 81) #[] #[.pointer (some ⟨y0, 0, none⟩)]])
    (hst : ∀ W W', Q W → Below W.heap.size W W' → Q W') (Q' : World → Prop) (hq : Q w)
    (hH : ∀ W, Q W → Calls Tryz.prog 81 #[.agg #[e0, e1], .pointer (some ⟨y0, 0, none⟩)] W fun e w' => e = .returned (.bool q) ∧ Q' w' ∧ Fo S W w') :
    Calls Tryz.prog 97 #[.agg #[e0, e1], .pointer (some ⟨g, 0, none⟩)] w fun e w' => e = .returned (.bool (!q)) ∧ Q' w' ∧ Fo S w w' := by
  have hb0 : Below w.heap.size w (w.alloc (.cells #[e0, e1] 46)) := (Below.refl _ _).alloc (Nat.le_refl _) _
  have hb1 : Blk (w.alloc (.cells #[e0, e1] 46)) w.heap.size 46 [e0, e1] := Blk.new _ _ _
  have hg1 := hg.alloc (.cells #[e0, e1] 46)
  have cg := hg1.cell 0
  simp only [List.getElem?_cons_zero] at cg
  have k0 := hb1.cell 0
  have k1 := hb1.cell 1
  simp only [List.getElem?_cons_zero, List.getElem?_cons_succ] at k0 k1
  have HC := Lib.hid (hH _ (hst _ _ hq hb0)); have HB := Lib.hid hb0
  clear hb0 hb1 hg1 hg hH hst hq
  go_enter Tryz.func97, Tryz.ntmps97
  go_wp2_with fail
  refine HC.out.mono ?_
  rintro e w1 ⟨rfl, h1, h2⟩
  go_wp2_with fail
  go_ret
  exact ⟨rfl, h1, (Fo.of HB.out S).trans_new h2 (fun i hi => .inl hi)⟩
theorem each_Dev (A : Option Addr) (b o n cap : Nat) (y0 : Nat) (c0 c1 : Nat → Value) (q : Nat → Bool) (S : Nat → Prop) (I : Nat → World → Prop) (w : World) (hn : n ≤ maxLen) (hA : 0 < n → A = some ⟨b, o, none⟩)
    (hS : ∀ k, S k → k < w.heap.size) (hst : ∀ i W W', I i W → Below W.heap.size W W' → I i W')
    (hr : ∀ i W, i < n → I i W → W.cell? ⟨b, o + i * 2, none⟩ = some (c0 i) ∧ W.cell? ⟨b, o + i * 2 + 1, none⟩ = some (c1 i))
    (hH : ∀ i W, i < n → (∀ j, j < i → q j = true) → I i W → Calls Tryz.prog 81 #[(.agg #[c0 i, c1 i]), .pointer (some ⟨y0, 0, none⟩)] W fun e w' => e = .returned (.bool (q i)) ∧ I (i + 1) w' ∧ Fo S W w') (h0 : I 0 w) :
    Calls Tryz.prog 80 #[.slice A n cap, .func (.func 81) #[] #[.pointer (some ⟨y0, 0, none⟩)]] w fun e w' => e = .returned (.bool ((List.range n).all q)) ∧ Upto n I w' ((List.range n).all q) ∧ Fo S w w' := by
  have hb0 : Below w.heap.size w (w.alloc (.cells #[.func (.func 81) #[] #[.pointer (some ⟨y0, 0, none⟩)]] 114)) := (Below.refl _ _).alloc (Nat.le_refl _) _
  have hb1 : Blk (w.alloc (.cells #[.func (.func 81) #[] #[.pointer (some ⟨y0, 0, none⟩)]] 114)) w.heap.size 114 [.func (.func 81) #[] #[.pointer (some ⟨y0, 0, none⟩)]] := Blk.new _ _ _
  have hC := cf_Dev A b o n cap w.heap.size c0 c1 (fun i => !q i) S (fun i W => I i W ∧ Blk W w.heap.size 114 [.func (.func 81) #[] #[.pointer (some ⟨y0, 0, none⟩)]]) _ hn hA (fun i W hi h => hr i W hi h.1)
    (fun i W hi hj h => (e1_Dev w.heap.size y0 _ _ (q i) (I i) S W h.2 (hst i) (fun w' => I (i + 1) w') h.1 (fun W' h' => hH i W' hi (fun j hj' => by have := hj j hj'; simpa using this) h')).mono (fun e w' ⟨he, h1, h2⟩ => ⟨he, ⟨h1, h2.blk h.2 (fun hs => by have := hS _ hs; omega)⟩, h2⟩)) ⟨hst 0 _ _ h0 hb0, hb1⟩
  have e1 : (List.range n).any (fun i => !q i) = !(List.range n).all q := range_any_not _ _
  rw [e1] at hC
  have HC := Lib.hid hC; have HB := Lib.hid hb0
  clear hC e1 hb0 hb1 hA hS hst hr hH h0
  generalize (List.range n).all q = R at *
  go_enter Tryz.func80, Tryz.ntmps80
  go_wp2_with fail
  refine HC.out.mono ?_
  rintro e w1 ⟨rfl, hk, hf⟩
  have HK := Lib.hid hk; have HF := Lib.hid hf
  clear hk hf
  cases R
  all_goals
    go_wp2_with fail
    go_ret
    refine ⟨rfl, ?_, (Fo.of HB.out S).trans_new HF.out (fun i hi => .inl hi)⟩
    obtain ⟨k, hk, h1, h2⟩ := HK.out
    exact ⟨k, hk, h1.1, fun h => h2 (by first | exact h | cases h | rfl)⟩
end Go.Proofs.YtkaalinoiilmoaaGreat
namespace Go.Proofs.YtkaalinoiilmoaaGreat
open Go.RowKit
set_option linter.unusedVariables false
set_option linter.unusedSimpArgs false
set_option maxRecDepth 100000
def zSs : Array Value := (bitc noB 64).toArray
theorem zSs_ne : ¬ (zSs = #[]) := by simp [zSs, bitc]
theorem zSs_run (w : World) : Sem.run Tryz.prog (zeroValue 135) w = .ok (.agg zSs) w := by
  have hi : (Tryz.prog.info? 135).map (fun i => i.zero) = some (some (.agg zSs)) := by kernel_rfl
  cases h : Tryz.prog.info? 135 with
  | none => rw [h] at hi; cases hi
  | some i =>
    rw [h] at hi
    simp only [Option.map_some, Option.some.injEq] at hi
    simp [zeroValue, typeInfo, h, hi]
def AddS (g a c : Nat) (F : Nat → Bool) (w : World) (e : Ending) (w' : World) : Prop :=
  e = .returned (.bool (freeB F a c)) ∧ (freeB F a c = true → Blk w' g 135 (bitc (addF F a c) 64)) ∧ w.grownBy w' (some g)
theorem add_any (g a c : Nat) (F : Nat → Bool) (w : World) (h : Blk w g 135 (bitc F 64)) (hac : a + c ≤ 64) :
    Calls Tryz.prog 105 #[.pointer (some ⟨g, 0, none⟩), .int .i64 a, .int .i64 c] w (AddS g a c F w) := by
  have H0 := Lib.hid h
  clear h
  go_enter Tryz.func105, Tryz.ntmps105
  go_wp2_with fail
  go_loopw [9] (fun i wr => ∃ k : Nat, k ≤ c ∧ i = .int .i64 k ∧ Hid (Blk wr g 135 (bitc (addF F a k) 64) ∧ w.grownBy wr (some g) ∧ freeB F a c = freeB F (a + k) (c - k))) (fun i _ => c - (intOf i).toNat)
  case atStart => exact ⟨0, by omega, rfl, Lib.hid ⟨by rw [addF_zero]; exact H0.out, grefl _ _, rfl⟩⟩
  case round =>
    obtain ⟨k, hk, rfl, H⟩ := hrel
    by_cases hlt : k < c
    · have hc := H.out.1.cell (a + k)
      rw [bitc_get _ _ _ (by omega), addF_at] at hc
      have hfz := H.out.1.frozen (a + k)
      have hstep := freeB_step F a c k hlt
      rw [← H.out.2.2] at hstep
      have hS := H.out.1.set (a + k) (.bool true)
      rw [bitc_set, addF_step] at hS
      have HS := Lib.hid hS
      have HG := Lib.hid (gset H.out.2.1 (p := ⟨g, a + k, none⟩) (.inl rfl) (.bool true))
      have hlt64 : a + k < 64 := by omega
      cases hF : F (a + k)
      · rw [hF] at hc hstep
        have hstep' : freeB F a c = freeB F (a + (k + 1)) (c - (k + 1)) := by rw [hstep]; rfl
        have HE := Lib.hid hstep'
        clear hF hstep hstep' hS H
        go_wp2_with fail
        go_roundw
        case rel => exact ⟨k + 1, by omega, by go_num, Lib.hid ⟨HS.out, HG.out, HE.out⟩⟩
        case measure => simp [intOf]; omega
      · rw [hF] at hc hstep
        have hstep' : freeB F a c = false := by rw [hstep]; rfl
        have HE := Lib.hid hstep'
        have HG := Lib.hid H.out.2.1
        clear hF hstep hstep' hS H
        go_wp2_with fail
        go_ret
        exact ⟨by rw [HE.out]; rfl, (fun h => by rw [HE.out] at h; cases h), HG.out⟩
    · obtain rfl : k = c := by omega
      have hend : freeB F a k = true := by rw [H.out.2.2, Nat.sub_self]; rfl
      have HE := Lib.hid hend
      clear hend
      go_wp2_with fail
      go_ret
      exact ⟨by rw [HE.out]; rfl, fun _ => H.out.1, H.out.2.1⟩
set_option maxHeartbeats 2000000 in
theorem extmay_any (v : Value) (ps : List (Int × Int)) (s : Int) (w : World) (h : PtS w v ps) :
    Calls Tryz.prog 88 #[v, .int .i64 s] w fun e w' => e = .returned (.bool (extB ps s)) ∧ Below w.heap.size w w' := by
  obtain ⟨A, cap, rfl, hn, hA⟩ := h
  obtain ⟨n, hl⟩ : ∃ n, ps.length = n := ⟨_, rfl⟩
  have HL := Lib.hid hl
  rw [hl] at hn hA ⊢
  unfold maxLen at hn
  have HA := Lib.hid hA; clear hA
  by_cases hok : (1 ≤ n ∧ n ≤ 4) ∧ (0 ≤ s ∧ s ≤ 64)
  · obtain ⟨⟨n1, n4⟩, s0, s64⟩ := hok
    have hR : extB ps s = goB (ps.drop 0) s noB := by unfold extB; rw [hl, decide_eq_true ⟨n1, n4⟩, decide_eq_true ⟨s0, s64⟩, List.drop_zero]; rfl
    obtain ⟨R, hR2⟩ : ∃ R, goB (ps.drop 0) s noB = R := ⟨_, rfl⟩
    rw [hR, hR2]
    have HR := Lib.hid hR2
    clear hR hR2 hl
    have hz := zSs_run w
    have hne := zSs_ne
    have c0 : Blk (w.alloc (.cells zSs 135)) w.heap.size 135 (bitc noB 64) := Blk.new w _ (bitc noB 64)
    have b0 : Below w.heap.size w (w.alloc (.cells zSs 135)) := (Below.refl _ _).alloc (Nat.le_refl _) _
    have C0 := Lib.hid c0; have B0 := Lib.hid b0
    clear c0 b0
    go_enter Tryz.func88, Tryz.ntmps88
    go_wp2_with fail
    clear hz hne
    go_loopw [26] (fun i wr => ∃ (k : Nat) (F : Nat → Bool), k ≤ n ∧ i = .int .i64 k ∧ Hid (goB (ps.drop k) s F = R ∧ Blk wr w.heap.size 135 (bitc F 64) ∧ Below w.heap.size w wr)) (fun i _ => n - (intOf i).toNat)
    case atStart => exact ⟨0, noB, by omega, rfl, Lib.hid ⟨HR.out, C0.out, B0.out⟩⟩
    case round =>
      obtain ⟨k, F, hk, rfl, H⟩ := hrel
      by_cases hlt : k < n
      · obtain ⟨b, o, rfl, hb, hcell⟩ := HA.out (by omega)
        obtain ⟨l, c, A2, n2, c2, q0, q1, q2, q3, q4⟩ := hcell k hlt
        have g := fun x => H.out.2.2.cell (p := ⟨b, x, none⟩) hb
        rw [← g] at q0 q1 q2 q3 q4
        have hst := goB_step ps s F k (by rw [HL.out]; exact hlt)
        rw [H.out.1] at hst
        obtain ⟨fi, hfi⟩ : ∃ x, (ps.getD k (0, 0)).1 = x := ⟨_, rfl⟩
        obtain ⟨co, hco⟩ : ∃ x, (ps.getD k (0, 0)).2 = x := ⟨_, rfl⟩
        rw [hfi, hco] at hst
        rw [hfi] at q3
        rw [hco] at q4
        have HF := H.out.2.1
        have HB := H.out.2.2
        have hws := HB.size
        clear g hcell hfi hco H
        have HA := Lib.hid (fun O => HB.alloc hws O)
        have HFA := Lib.hid (fun O => HF.alloc O)
        clear HB HF
        by_cases hr : 0 ≤ fi ∧ 0 ≤ co ∧ fi ≤ s ∧ co ≤ s - fi
        · have hrt : runB fi co s = true := decide_eq_true hr
          obtain ⟨r0, r1, r2, r3⟩ := hr
          rw [hrt, Bool.true_and] at hst
          obtain ⟨a, rfl⟩ := Int.eq_ofNat_of_zero_le r0
          obtain ⟨m, rfl⟩ := Int.eq_ofNat_of_zero_le r1
          simp only [Int.toNat_natCast] at hst
          have HST := Lib.hid hst
          clear hst hrt
          go_wp2_with fail
          refine (may_yes _ _ _ _ r0 r1 r2 r3 (by omega)).mono ?_
          rintro e w' ⟨rfl, rfl⟩
          go_wp2_with fail
          refine (add_any w.heap.size a m F _ (HFA.out _) (by omega)).mono ?_
          rintro e w1 ⟨rfl, hB, hg⟩
          have HB1 := Lib.hid ((HA.out _).grown hg (HA.out _).size (fun k hk => by injection hk with hk; omega))
          clear hg
          cases hfree : freeB F a m
          · rw [hfree] at hB
            have hRf : R = false := by rw [HST.out, hfree]; rfl
            have HRF := Lib.hid hRf
            clear hRf hB hfree
            go_wp2_with fail
            go_ret
            exact ⟨by rw [HRF.out]; rfl, HB1.out⟩
          · have HBB := Lib.hid (hB hfree)
            have hRt : goB (ps.drop (k + 1)) s (addF F a m) = R := by rw [HST.out, hfree]; rfl
            have HRT := Lib.hid hRt
            clear hRt hB hfree
            go_wp2_with fail
            go_roundw
            case rel => exact ⟨k + 1, _, by omega, by go_num, Lib.hid ⟨HRT.out, HBB.out, HB1.out⟩⟩
            case measure => simp [intOf]; omega
        · have hrf : runB fi co s = false := decide_eq_false hr
          have hRf : R = false := by rw [hst, hrf]; rfl
          have HRF := Lib.hid hRf
          have HR2 := Lib.hid hr
          clear hRf hst hrf hr
          go_wp2_with fail
          refine (may_no _ _ _ _ HR2.out (by omega)).mono ?_
          rintro e w' ⟨rfl, rfl⟩
          go_wp2_with fail
          go_ret
          exact ⟨by rw [HRF.out]; rfl, HA.out _⟩
      · go_wp2_with fail
        go_ret
        exact ⟨by rw [← H.out.1, goB_end _ _ _ _ (by rw [HL.out]; omega)]; rfl, H.out.2.2⟩
  · have hR : extB ps s = false := by
      unfold extB; rw [hl]
      by_cases h1 : 1 ≤ n ∧ n ≤ 4
      · rw [decide_eq_false (show ¬ (0 ≤ s ∧ s ≤ 64) from fun h => hok ⟨h1, h⟩)]; simp
      · rw [decide_eq_false h1]; simp
    rw [hR]
    have hw : n < 1 ∨ (1 ≤ n ∧ 4 < n) ∨ (1 ≤ n ∧ n ≤ 4 ∧ s < 0) ∨ (1 ≤ n ∧ n ≤ 4 ∧ 0 ≤ s ∧ 64 < s) := by omega
    clear hR hok hl
    rcases hw with h1 | ⟨h1, h2⟩ | ⟨h1, h2, h3⟩ | ⟨h1, h2, h3, h4⟩
    all_goals
      go_enter Tryz.func88, Tryz.ntmps88
      go_wp2_with fail
      go_ret
      exact ⟨rfl, Below.refl _ _⟩
end Go.Proofs.YtkaalinoiilmoaaGreat
namespace Go.Proofs.YtkaalinoiilmoaaGreat
open Go.RowKit
set_option linter.unusedVariables false
set_option maxRecDepth 100000
theorem pair_at {w : World} {g : Nat} {t : TypeId} {x y : Value} (h : Blk w g t [x, y]) : w.cell? ⟨g, 0, none⟩ = some x ∧ w.cell? ⟨g, 1, none⟩ = some y ∧ w.frozen? ⟨g, 0, none⟩ = false ∧ w.frozen? ⟨g, 1, none⟩ = false :=
  ⟨h.cell 0, h.cell 1, h.frozen 0, h.frozen 1⟩
theorem may_parts (l c : Int) : lB l c = true ∧ 0 ≤ l ∧ l ≤ 3 ∧ 0 ≤ c ∧ c ≤ 15 ∨ lB l c = false ∧ (l < 0 ∨ 0 ≤ l ∧ 3 < l ∨ 0 ≤ l ∧ l ≤ 3 ∧ c < 0 ∨ 0 ≤ l ∧ l ≤ 3 ∧ 0 ≤ c ∧ decide (c ≤ 15) = false) := by
  by_cases h : 0 ≤ l ∧ l ≤ 3 ∧ 0 ≤ c ∧ c ≤ 15
  · exact .inl ⟨decide_eq_true h, h⟩
  · refine .inr ⟨decide_eq_false h, ?_⟩
    rw [decide_eq_false_iff_not]
    omega
theorem lmay_any (l c : Int) (w : World) :
    Calls Tryz.prog 79 #[.agg #[.int .i64 l, .int .i64 c]] w fun e w' => e = .returned (.bool (lB l c)) ∧ Below w.heap.size w w' := by
  rcases may_parts l c with ⟨h, h0, h1, h2, h3⟩ | ⟨h, h0 | ⟨h0, h1⟩ | ⟨h0, h1, h2⟩ | ⟨h0, h1, h2, h3⟩⟩
  all_goals
    rw [h]; clear h
    go_enter Tryz.func79, Tryz.ntmps79
    go_wp2
    go_ret
    exact ⟨rfl, (Below.refl _ _).alloc (Nat.le_refl _) _⟩
theorem rlmay_any (l c : Int) (w : World) :
    Calls Tryz.prog 45 #[.agg #[.int .i64 l, .int .i64 c]] w fun e w' => e = .returned (.bool (lB l c)) ∧ Below w.heap.size w w' := by
  rcases may_parts l c with ⟨h, h0, h1, h2, h3⟩ | ⟨h, h0 | ⟨h0, h1⟩ | ⟨h0, h1, h2⟩ | ⟨h0, h1, h2, h3⟩⟩
  all_goals
    rw [h]; clear h
    go_enter Tryz.func45, Tryz.ntmps45
    go_wp2
    go_ret
    exact ⟨rfl, (Below.refl _ _).alloc (Nat.le_refl _) _⟩
theorem lmay_is (l c : Int) (b : Bool) (w : World) (h : lB l c = b) :
    Calls Tryz.prog 79 #[.agg #[.int .i64 l, .int .i64 c]] w fun e w' => e = .returned (.bool b) ∧ Below w.heap.size w w' := by subst h; exact lmay_any l c w
theorem rlmay_is (l c : Int) (b : Bool) (w : World) (h : lB l c = b) :
    Calls Tryz.prog 45 #[.agg #[.int .i64 l, .int .i64 c]] w fun e w' => e = .returned (.bool b) ∧ Below w.heap.size w w' := by subst h; exact rlmay_any l c w
theorem dom_parts (l c l' c' : Int) (Q : Bool) (hQ : 0 ≤ c → c ≤ 15 → 0 ≤ c' → c' ≤ 15 → Q = hasB c c') :
    lB l c = false ∧ lD l c l' c' = false ∨ lB l c = true ∧ lB l' c' = false ∧ lD l c l' c' = false ∨ lB l c = true ∧ lB l' c' = true ∧ l < l' ∧ lD l c l' c' = false ∨ lB l c = true ∧ lB l' c' = true ∧ l' ≤ l ∧ Q = lD l c l' c' := by
  by_cases h : lB l c = true
  · by_cases h' : lB l' c' = true
    · have a := lB_of h
      have b := lB_of h'
      by_cases hl : l' ≤ l
      · refine .inr (.inr (.inr ⟨h, h', hl, ?_⟩))
        rw [hQ (by omega) (by omega) (by omega) (by omega)]
        unfold lD; rw [h, h', decide_eq_true hl]; simp
      · refine .inr (.inr (.inl ⟨h, h', by omega, ?_⟩))
        unfold lD; rw [decide_eq_false hl]; simp
    · exact .inr (.inl ⟨h, by simpa using h', lD_no _ _ _ _ (.inr (by simpa using h'))⟩)
  · exact .inl ⟨by simpa using h, lD_no _ _ _ _ (.inl (by simpa using h))⟩
set_option maxHeartbeats 1000000 in
theorem ldom_any (l c l' c' : Int) (w : World) :
    Calls Tryz.prog 71 #[.agg #[.int .i64 l, .int .i64 c], .agg #[.int .i64 l', .int .i64 c']] w fun e w' => e = .returned (.bool (lD l c l' c')) ∧ Below w.heap.size w w' := by
  have hp := dom_parts l c l' c' _ (fun h0 h1 h2 h3 => (bits_has c c' h0 h1 h2 h3).1)
  generalize hQ : bits BinOp.andNot IntKind.i64 c' c = Q at hp
  generalize hD : lD l c l' c' = D at *
  clear hD
  have t0 := (Blk.new w 68 [.int .i64 l, .int .i64 c]).alloc (.cells #[.int .i64 l', .int .i64 c'] 68)
  have u0 := Blk.new (w.alloc (.cells #[.int .i64 l, .int .i64 c] 68)) 68 [.int .i64 l', .int .i64 c']
  rw [World.size_alloc] at u0
  have b0 : Below w.heap.size w ((w.alloc (.cells #[.int .i64 l, .int .i64 c] 68)).alloc (.cells #[.int .i64 l', .int .i64 c'] 68)) := ((Below.refl _ _).alloc (Nat.le_refl _) _).alloc (by simp) _
  have HP := Lib.hid hp
  clear hp
  go_enter Tryz.func71, Tryz.ntmps71
  go_wp2_with fail
  generalize hw0 : (w.alloc (.cells #[.int .i64 l, .int .i64 c] 68)).alloc (.cells #[.int .i64 l', .int .i64 c'] 68) = w0 at *
  have hs0 := b0.size
  clear hw0
  refine (lmay_any _ _ _).mono ?_
  rintro e w1 ⟨rfl, b1⟩
  have t1 := t0.below b1 t0.lt
  have u1 := u0.below b1 u0.lt
  have k1 := Below.down b0 b1 hs0
  have hs1 := k1.size
  clear t0 u0 b0 hs0 b1
  obtain ⟨x0, x1, _, _⟩ := pair_at t1
  obtain ⟨x2, x3, _, _⟩ := pair_at u1
  rcases HP.out with ⟨h1, rfl⟩ | ⟨h1, h2, rfl⟩ | ⟨h1, h2, h3, rfl⟩ | ⟨h1, h2, h3, rfl⟩
  · rw [h1]; clear h1 HP
    go_wp2_with fail
    go_ret
    exact ⟨rfl, k1⟩
  all_goals
    rw [h1]; clear h1 HP
    go_wp2_with fail
    refine (lmay_any _ _ _).mono ?_
    rintro e w2 ⟨rfl, b2⟩
    have t2 := t1.below b2 t1.lt
    have u2 := u1.below b2 u1.lt
    have k2 := Below.down k1 b2 hs1
    rw [h2]; clear h2 t1 u1 b2 x0 x1 x2 x3
    obtain ⟨x0, x1, _, _⟩ := pair_at t2
    obtain ⟨x2, x3, _, _⟩ := pair_at u2
    clear t2 u2
    go_wp2_with fail
    go_ret
    exact ⟨rfl, k2⟩
set_option maxHeartbeats 1000000 in
theorem rldom_any (l c l' c' : Int) (w : World) :
    Calls Tryz.prog 51 #[.agg #[.int .i64 l, .int .i64 c], .agg #[.int .i64 l', .int .i64 c']] w fun e w' => e = .returned (.bool (lD l c l' c')) ∧ Below w.heap.size w w' := by
  have hp := dom_parts l c l' c' _ (fun h0 h1 h2 h3 => (bits_has c c' h0 h1 h2 h3).2.1)
  generalize hQ : bits BinOp.and IntKind.i64 c c' = Q at hp
  generalize hD : lD l c l' c' = D at *
  clear hD
  have t0 := (Blk.new w 68 [.int .i64 l, .int .i64 c]).alloc (.cells #[.int .i64 l', .int .i64 c'] 68)
  have u0 := Blk.new (w.alloc (.cells #[.int .i64 l, .int .i64 c] 68)) 68 [.int .i64 l', .int .i64 c']
  rw [World.size_alloc] at u0
  have b0 : Below w.heap.size w ((w.alloc (.cells #[.int .i64 l, .int .i64 c] 68)).alloc (.cells #[.int .i64 l', .int .i64 c'] 68)) := ((Below.refl _ _).alloc (Nat.le_refl _) _).alloc (by simp) _
  have HP := Lib.hid hp
  clear hp
  go_enter Tryz.func51, Tryz.ntmps51
  go_wp2_with fail
  generalize hw0 : (w.alloc (.cells #[.int .i64 l, .int .i64 c] 68)).alloc (.cells #[.int .i64 l', .int .i64 c'] 68) = w0 at *
  have hs0 := b0.size
  clear hw0
  refine (rlmay_any _ _ _).mono ?_
  rintro e w1 ⟨rfl, b1⟩
  have t1 := t0.below b1 t0.lt
  have u1 := u0.below b1 u0.lt
  have k1 := Below.down b0 b1 hs0
  have hs1 := k1.size
  clear t0 u0 b0 hs0 b1
  obtain ⟨x0, x1, _, _⟩ := pair_at t1
  obtain ⟨x2, x3, _, _⟩ := pair_at u1
  rcases HP.out with ⟨h1, rfl⟩ | ⟨h1, h2, rfl⟩ | ⟨h1, h2, h3, rfl⟩ | ⟨h1, h2, h3, rfl⟩
  · rw [h1]; clear h1 HP
    go_wp2_with fail
    go_ret
    exact ⟨rfl, k1⟩
  all_goals
    rw [h1]; clear h1 HP
    go_wp2_with fail
    refine (rlmay_any _ _ _).mono ?_
    rintro e w2 ⟨rfl, b2⟩
    have t2 := t1.below b2 t1.lt
    have u2 := u1.below b2 u1.lt
    have k2 := Below.down k1 b2 hs1
    rw [h2]; clear h2 t1 u1 b2 x0 x1 x2 x3
    obtain ⟨x0, x1, _, _⟩ := pair_at t2
    obtain ⟨x2, x3, _, _⟩ := pair_at u2
    clear t2 u2
    go_wp2_with fail
    go_ret
    exact ⟨rfl, k2⟩
end Go.Proofs.YtkaalinoiilmoaaGreat
