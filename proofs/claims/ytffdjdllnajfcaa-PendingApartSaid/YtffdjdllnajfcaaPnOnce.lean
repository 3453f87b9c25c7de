/-
  Layer 12's law PendingOnce: it answers true for every input.
-/
import Derived.Test.YtffdjdllnajfcaaPAwake
import Derived.Test.YtffdjdllnajfcaaPr3
namespace Go.Proofs.Ytffdjdllnajfcaa
open Go.RowKit Go.ChangeMaps
set_option linter.unusedVariables false
set_option maxRecDepth 100000

theorem mkB_nil (k : Nat) : mkB [] k = false := by simp [mkB]
theorem tkL_nil (F : Nat → Bool) : tkL F [] = (List.range 32).filter F := by
  unfold tkL
  exact List.filter_congr (fun k _ => by rw [mkB_nil]; simp)
theorem tkL_congr {F G : Nat → Bool} (M : List Iq) (h : ∀ k, k < 32 → F k = G k) : tkL F M = tkL G M := by
  unfold tkL
  exact List.filter_congr (fun k hk => by rw [h k (List.mem_range.1 hk)])
theorem takF_far {F : Nat → Bool} {p q : Nat} {M : List Iq} {k : Nat} (hk : k < 32) (h : q ≠ p) : takF F p M (q * 32 + k) = F (q * 32 + k) := by
  unfold takF; rw [if_neg (by omega)]
theorem takF_nil {F : Nat → Bool} {p : Nat} {k : Nat} (hk : k < 32) : takF F p [] (p * 32 + k) = false := by
  unfold takF; rw [if_pos (by omega), mkB_nil]; simp
theorem tkL_none {F : Nat → Bool} (M : List Iq) (h : ∀ k, k < 32 → F k = false) : tkL F M = [] := by
  unfold tkL
  rw [List.filter_eq_nil_iff]
  intro k hk
  rw [h k (List.mem_range.1 hk)]; simp
/-- Those among the first k places come first. -/
theorem tkN_pre (F : Nat → Bool) (M : List Iq) (k : Nat) (hk : k ≤ 32) : ∃ rest, tkL F M = tkN F M k ++ rest := by
  refine ⟨((List.range' k (32 - k)).filter (fun j => F j && !mkB M j)), ?_⟩
  unfold tkL tkN
  rw [← List.filter_append, List.range_eq_range', List.range_eq_range']
  congr 1
  have := List.range'_append_1 (s := 0) (m := k) (n := 32 - k)
  rw [Nat.zero_add, show k + (32 - k) = 32 by omega] at this
  exact this.symm
/-- The next that is taken: where it stands among them. -/
theorem tkN_at (F : Nat → Bool) (M : List Iq) (k : Nat) (hk : k < 32) (h : (F k && !mkB M k) = true) : ∃ h' : (tkN F M k).length < (tkL F M).length, (tkL F M)[(tkN F M k).length] = k := by
  obtain ⟨rest, hr⟩ := tkN_pre F M (k + 1) (by omega)
  have hs := tkN_step F M k
  rw [if_pos h] at hs
  rw [hs] at hr
  have hl : (tkN F M k).length < (tkL F M).length := by rw [hr]; simp
  refine ⟨hl, ?_⟩
  have e : (tkL F M)[(tkN F M k).length]? = some k := by
    rw [hr, List.append_assoc, List.getElem?_append_right (Nat.le_refl _), Nat.sub_self]
    rfl
  rw [List.getElem?_eq_getElem hl] at e
  exact Option.some.inj e
theorem tks_at (t : Int) (L : List Nat) (i : Nat) (h : i < L.length) : ∃ h', (tks t L)[i]'h' = ⟨t, ((L[i] / 8 : Nat) : Int), ((L[i] % 8 : Nat) : Int)⟩ := by
  refine ⟨by rw [tks_len]; exact h, ?_⟩
  simp [tks]

/-- The law's table. -/
def zUp : Array Value := (bitc (fun _ => false) 64).toArray
theorem zUp_ne : ¬ (zUp = #[]) := by simp [zUp, bitc]
theorem zUp_run (w : World) : Sem.run Try.prog (zeroValue 47) w = .ok (.agg zUp) w := by
  have hi : (Try.prog.info? 47).map (fun i => i.zero) = some (some (.agg zUp)) := by kernel_rfl
  cases h : Try.prog.info? 47 with
  | none => rw [h] at hi; cases hi
  | some i =>
    rw [h] at hi
    simp only [Option.map_some, Option.some.injEq] at hi
    simp [zeroValue, typeInfo, h, hi]

/-- The program's Sets and the law's table: G waits, F was raised. -/
structure On (W0 : World) (s h : Nat) (G F : Nat → Bool) (us : List (Value × List Iq)) (w : World) : Prop where
  l : L1 W0 s 2 G us [h] w
  b : Blk w h 47 (bitc F 64)
  hh : W0.heap.size ≤ h

theorem sl1_at {w : World} {v : Value} {n : Nat} {zs : List Int} (h : Sl w v n 1 (ints zs)) (k : Nat) (hk : k < n) : ∃ b o cap, v = .slice (some ⟨b, o, none⟩) n cap ∧ b < w.heap.size ∧ w.cell? ⟨b, o + k, none⟩ = some (.int .i64 (zs.getD k 0)) := by
  obtain ⟨A, cap, rfl, hc, hl, hA⟩ := h
  obtain ⟨b, o, rfl, hb, hcell⟩ := hA (by omega)
  exact ⟨b, o, cap, rfl, hb, hcell k _ (ints_get zs k (by rw [ints_len] at hl; omega))⟩
/-- A part, a place out of a number. -/
theorem parts_of (P K : Int) (h0 : 0 ≤ P) (h1 : P ≤ 1) (h2 : 0 ≤ K) (h3 : K ≤ 31) : ∃ p c d v : Nat, P = (p : Int) ∧ K = (c : Int) ∧ c = d * 8 + v ∧ p < 2 ∧ d < 4 ∧ v < 8 ∧ K / 8 = (d : Int) ∧ K % 8 = (v : Int) :=
  ⟨P.toNat, K.toNat, (K / 8).toNat, (K % 8).toNat, by omega, by omega, by omega, by omega, by omega, by omega, by omega, by omega⟩

theorem On.put {W0 w' : World} {s h i : Nat} {F : Nat → Bool} (l : L1 W0 s 2 (putF F i) [] [h] w') (b : Blk w' h 47 (bitc F 64)) (hh : W0.heap.size ≤ h) : On W0 s h (putF F i) (putF F i) [] (w'.setCell ⟨h, i, none⟩ (.bool true)) :=
  ⟨l.turn List.mem_cons_self hh (by simp) (gone _), by have := b.set i (.bool true); rw [bitc_set] at this; exact this, hh⟩
/-- The parts from q on as they were raised. -/
def Oq (W0 : World) (s h : Nat) (F : Nat → Bool) (q : Nat) (w : World) : Prop := ∃ G : Nat → Bool, (∀ p k, k < 32 → q ≤ p → G (p * 32 + k) = F (p * 32 + k)) ∧ On W0 s h G F [] w

set_option maxHeartbeats 4000000 in
theorem law_PendingOnce (v : Value) (n : Nat) (zs : List Int) (t : Int) (w : World) (hv : Sl w v n 1 (ints zs)) (hn : n ≤ maxLen) :
    Calls Try.prog 4 #[v, .int .i64 t] w fun e w' => e = .returned (.bool true) ∧ Below w.heap.size w w' := by
  obtain ⟨A, cap, rfl⟩ : ∃ A cap, v = .slice A n cap := by obtain ⟨A, c, e, _⟩ := hv; exact ⟨A, c, e⟩
  unfold maxLen at hn
  have HV := Lib.hid hv; clear hv
  have hz := zUp_run
  have hne := zUp_ne
  go_enter Try.func4, Try.ntmps4
  go_wp2_with fail
  refine (pawake_any _).mono ?_
  rintro e wa ⟨rfl, ba⟩
  have BA := Lib.hid ba
  clear ba
  go_wp2_with fail
  have c1 : Calls Try.prog 8 #[.int .i64 2] wa fun e w' => ∃ s, e = .returned (.tuple #[.pointer (some ⟨s, 0, none⟩), .int .i64 0]) ∧ L1 wa s 2 (fun _ => false) [] [] w' := l1new 2 wa (by decide) (by decide)
  refine c1.mono ?_
  clear c1
  rintro e w1 ⟨s, rfl, l1⟩
  have L := Lib.hid l1
  clear l1
  go_wp2_with fail
  refine (num_any _ _).mono ?_
  rintro e w' ⟨rfl, rfl⟩
  go_wp2_with fail
  have o0 : On wa s w1.heap.size (fun _ => false) (fun _ => false) [] (w1.alloc (.cells zUp 47)) := ⟨L.out.alloc _, Blk.new _ _ _, L.out.below.size⟩
  have O0 := Lib.hid o0
  clear o0 L hz hne
  generalize w1.alloc (.cells zUp 47) = w2 at *
  generalize w1.heap.size = h at *
  go_loopw [8] (fun i wr => ∃ (k : Nat) (F : Nat → Bool), k ≤ n ∧ k ≤ 60 ∧ i = .int .i64 k ∧ Hid (On wa s h F F [] wr)) (fun i _ => 60 - (intOf i).toNat)
  case atStart => exact ⟨0, _, by omega, by omega, rfl, O0⟩
  case round =>
    clear O0
    obtain ⟨k, F, hkn, hk60, rfl, HO⟩ := hrel
    have hbel : Below w.heap.size w wr := Below.down BA.out HO.out.l.below BA.out.size
    have hsl := HV.out.below hbel
    by_cases hlt : k < n
    · by_cases h60 : k < 60
      · obtain ⟨b, o, cap', e, hbw, hcell⟩ := sl1_at hsl k hlt
        simp only [Value.slice.injEq] at e
        obtain ⟨rfl, -, -⟩ := e
        generalize zs.getD k 0 = q at *
        have hP := band q 1 (by omega) (by omega)
        have hK := band (q / 2) 31 (by omega) (by omega)
        generalize hP' : bits BinOp.and IntKind.i64 q 1 = P at hP
        generalize hK' : bits BinOp.and IntKind.i64 (q / 2) 31 = K at hK
        obtain ⟨hP0, hP1⟩ := hP
        obtain ⟨hK0, hK1⟩ := hK
        clear hsl hbel
        have h60I : (k : Int) < 60 := by omega
        go_wp2_with fail
        go_quiet (fail)
        clear hP' hK'
        obtain ⟨p, c, d, v, rfl, rfl, hcd, hp2, hd4, hv8, e1, e2⟩ := parts_of P K hP0 hP1 hK0 hK1
        have HCD := Lib.hid hcd
        have hc32 : c < 32 := by omega
        have cR := l1raise p d v (wr.drewN nq) (HO.out.l.drewN nq) hp2 hd4 hv8
        have hi : p * 32 + (d * 8 + v) = p * 32 + c := by omega
        rw [hi] at cR
        have hcell2 : ∀ w', Ke [h] (wr.drewN nq) w' → w'.cell? ⟨h, p * 32 + c, none⟩ = some (.bool (F (p * 32 + c))) ∧ w'.frozen? ⟨h, p * 32 + c, none⟩ = false := fun w' hk => by
          have hb := hk.blk List.mem_cons_self (HO.out.b.drewN nq)
          exact ⟨by rw [hb.cell, bitc_get _ _ _ (by omega)], hb.frozen _⟩
        have HC2 := Lib.hid hcell2
        clear hcd hi hcell hcell2 hP0 hP1 hK0 hK1
        have hpI : (p : Int) < 2 := by omega
        have hcI : (c : Int) < 32 := by omega
        cases hf : F (p * 32 + c) with
        | false =>
          rw [hf] at cR
          have HF := Lib.hid hf
          clear hf
          go_wp2_with fail
          refine cR.mono ?_
          rintro e w3 ⟨rfl, l3, k3⟩
          obtain ⟨c3, f3⟩ := HC2.out w3 k3
          rw [HF.out] at c3
          have o3 := On.put l3 (k3.blk List.mem_cons_self (HO.out.b.drewN nq)) HO.out.hh
          have O3 := Lib.hid o3
          clear l3 k3 cR o3
          go_wp2_with fail
          refine (num_any _ _).mono ?_
          rintro e w' ⟨rfl, rfl⟩
          go_wp2_with fail
          go_roundw
          case rel => exact ⟨k + 1, _, by omega, by omega, by go_num, O3.out⟩
          case measure => simp [intOf]; omega
        | true =>
          rw [hf] at cR
          have HF := Lib.hid hf
          clear hf
          go_wp2_with fail
          refine cR.mono ?_
          rintro e w3 ⟨rfl, l3, k3⟩
          obtain ⟨c3, f3⟩ := HC2.out w3 k3
          rw [HF.out] at c3
          have o3 := On.put l3 (k3.blk List.mem_cons_self (HO.out.b.drewN nq)) HO.out.hh
          have O3 := Lib.hid o3
          clear l3 k3 cR o3
          go_wp2_with fail
          refine (num_any _ _).mono ?_
          rintro e w' ⟨rfl, rfl⟩
          go_wp2_with fail
          go_roundw
          case rel => exact ⟨k + 1, _, by omega, by omega, by go_num, O3.out⟩
          case measure => simp [intOf]; omega
      · have hk60' : k = 60 := by omega
        subst hk60'
        clear h60
        clear hsl hbel
        have HO0 : Hid (Oq wa s h F 0 wr) := Lib.hid ⟨F, fun _ _ _ _ => rfl, HO.out⟩
        clear HO
        go_wp2_with fail
        go_loopw [13] (fun i wq => ∃ (q : Nat), q ≤ 2 ∧ i = .int .i64 q ∧ Hid (Oq wa s h F q wq)) (fun i _ => 2 - (intOf i).toNat)
        case atStart => exact ⟨0, by omega, rfl, HO0⟩
        case round =>
          clear HO0
          obtain ⟨q, hq2, rfl, HQ⟩ := hrel
          by_cases hlq : q < 2
          · have hqI : (q : Int) < 2 := by omega
            obtain ⟨G, hG, hon⟩ := HQ.out
            have cT := l1take q t _ [] 0 wr hon.l hlq (sl_nil wr) rfl (by decide)
            have hL : tkL (fun k => G (q * 32 + k)) [] = tkL (fun k => F (q * 32 + k)) [] := tkL_congr [] (fun k hk => hG q k hk (Nat.le_refl _))
            rw [hL] at cT
            obtain ⟨L, hLL⟩ : ∃ L, tkL (fun k => F (q * 32 + k)) [] = L := ⟨_, rfl⟩
            rw [hLL] at cT
            have HLL := Lib.hid hLL
            have HON := Lib.hid hon
            have HG := Lib.hid hG
            clear hL hLL hon hG
            go_wp2_with fail
            refine cT.mono ?_
            clear cT
            rintro e w3 ⟨u, rfl, l3, k3⟩
            have hb3 := k3.blk List.mem_cons_self HON.out.b
            obtain ⟨Au, cu, hu, -⟩ := l3.sl (p := (u, tks t L)) List.mem_cons_self
            rw [show (u, tks t L).2.length = L.length from tks_len t L] at hu
            obtain ⟨z, hz⟩ : ∃ z, z = L.length := ⟨_, rfl⟩
            rw [← hz] at hu
            have hz32 : z ≤ 32 := by rw [hz, ← HLL.out]; unfold tkL; have := List.length_filter_le (fun k => F (q * 32 + k) && !mkB [] k) (List.range 32); simpa using this
            have HZ := Lib.hid hz
            have L3 := Lib.hid l3
            have B3 := Lib.hid hb3
            simp only at hu
            subst hu
            clear l3 k3 hb3 hz
            go_wp2_with fail
            go_loop [15, 16] (fun a i => ∃ (j c : Nat), j ≤ 32 ∧ i = .int .i64 j ∧ a = .int .i64 c ∧ c ≤ j ∧ c ≤ z ∧ Hid (c = (tkN (fun k => F (q * 32 + k)) [] j).length)) (fun _ i => 32 - (intOf i).toNat)
            case atStart => exact ⟨0, 0, by omega, rfl, rfl, by omega, by omega, Lib.hid rfl⟩
            case round =>
              obtain ⟨j, c, hj, rfl, rfl, hcj, hcz, HC⟩ := hrel
              by_cases hlj : j < 32
              · have hjI : (j : Int) < 32 := by omega
                have cb := B3.out.cell (q * 32 + j)
                rw [bitc_get _ _ _ (by omega)] at cb
                have hst := tkN_step (fun k => F (q * 32 + k)) [] j
                cases hf : F (q * 32 + j) with
                | false =>
                  rw [hf] at cb
                  rw [if_neg (by simp only [hf, Bool.false_and]; decide)] at hst
                  have HS : Hid (c = (tkN (fun k => F (q * 32 + k)) [] (j + 1)).length) := Lib.hid (by rw [hst, List.append_nil]; exact HC.out)
                  clear hst hf
                  go_wp2_with fail
                  go_round
                  case rel => exact ⟨j + 1, c, by omega, by go_num, rfl, by omega, hcz, HS⟩
                  case measure => simp [intOf]; omega
                | true =>
                  rw [hf] at cb
                  have hin : ((fun k => F (q * 32 + k)) j && !mkB [] j) = true := by simp only [hf, mkB_nil]; decide
                  rw [if_pos hin] at hst
                  have HS : Hid (c + 1 = (tkN (fun k => F (q * 32 + k)) [] (j + 1)).length) := Lib.hid (by rw [hst, List.length_append, ← HC.out]; rfl)
                  obtain ⟨h1, h2⟩ := tkN_at (fun k => F (q * 32 + k)) [] j hlj hin
                  simp only [HLL.out, ← HC.out] at h1 h2
                  have hcz1 : c < z := by rw [HZ.out]; exact h1
                  obtain ⟨h3, h4⟩ := tks_at t L c h1
                  rw [h2] at h4
                  obtain ⟨b5, o5, cp5, e5, -, -, d0, d1, d2⟩ := iq_at (L3.out.sl (p := (.slice Au z cu, tks t L)) List.mem_cons_self) rfl c h3
                  simp only [Value.slice.injEq] at e5
                  obtain ⟨rfl, -, -⟩ := e5
                  simp only at d0 d1 d2
                  rw [h4] at d0 d1 d2
                  simp only at d0 d1 d2
                  obtain ⟨dd, hdd⟩ : ∃ dd : Nat, j / 8 = dd := ⟨_, rfl⟩
                  obtain ⟨vv, hvv⟩ : ∃ vv : Nat, j % 8 = vv := ⟨_, rfl⟩
                  rw [hdd] at d1
                  rw [hvv] at d2
                  have e1 : (j : Int) / 8 = (dd : Int) := by omega
                  have e2 : (j : Int) % 8 = (vv : Int) := by omega
                  have hczI : (c : Int) < (z : Int) := by omega
                  clear hst hf hin h1 h2 h3 h4 hdd hvv
                  go_wp2_with fail
                  go_round
                  case rel => exact ⟨j + 1, c + 1, by omega, by go_num, by go_num, by omega, by omega, HS⟩
                  case measure => simp [intOf]; omega
              · have e32 : j = 32 := by omega
                subst e32
                have hcz' : c = z := by rw [HZ.out, ← HLL.out, HC.out]; rfl
                subst hcz'
                have cT := l1take q t _ [] 0 w3 L3.out hlq (sl_nil w3) rfl (by decide)
                have hL0 : tkL (fun k => takF G q [] (q * 32 + k)) [] = [] := tkL_none [] (fun k hk => takF_nil hk)
                rw [hL0] at cT
                clear hL0
                go_wp2_with fail
                refine cT.mono ?_
                clear cT
                rintro e w4 ⟨u4, rfl, l4, k4⟩
                have hb4 := k4.blk List.mem_cons_self B3.out
                obtain ⟨A4, c4, hu4, -⟩ := l4.sl (p := (u4, tks t [])) List.mem_cons_self
                have hu4' : u4 = .slice A4 0 c4 := hu4
                have O4 : Hid (Oq wa s h F (q + 1) w4) := Lib.hid ⟨_, fun p k hk hp => by rw [takF_far hk (by omega), takF_far hk (by omega)]; exact HG.out p k hk (by omega), ⟨l4.drop (by simp) (fun b hb => hb), hb4, HON.out.hh⟩⟩
                clear l4 k4 hb4 hu4
                subst hu4'
                go_wp2_with fail
                go_roundw
                case rel => exact ⟨q + 1, by omega, by go_num, O4⟩
                case measure => simp [intOf]; omega
          · have e2 : q = 2 := by omega
            subst e2
            obtain ⟨G, -, hon⟩ := HQ.out
            have HB := Lib.hid (Below.down BA.out hon.l.below BA.out.size)
            clear hon
            go_wp2_with fail
            go_ret
            exact ⟨rfl, HB.out⟩
    · have hkn' : k = n := by omega
      subst hkn'
      clear hlt
      clear hsl hbel
      have HO0 : Hid (Oq wa s h F 0 wr) := Lib.hid ⟨F, fun _ _ _ _ => rfl, HO.out⟩
      clear HO
      go_wp2_with fail
      go_loopw [13] (fun i wq => ∃ (q : Nat), q ≤ 2 ∧ i = .int .i64 q ∧ Hid (Oq wa s h F q wq)) (fun i _ => 2 - (intOf i).toNat)
      case atStart => exact ⟨0, by omega, rfl, HO0⟩
      case round =>
        clear HO0
        obtain ⟨q, hq2, rfl, HQ⟩ := hrel
        by_cases hlq : q < 2
        · have hqI : (q : Int) < 2 := by omega
          obtain ⟨G, hG, hon⟩ := HQ.out
          have cT := l1take q t _ [] 0 wr hon.l hlq (sl_nil wr) rfl (by decide)
          have hL : tkL (fun k => G (q * 32 + k)) [] = tkL (fun k => F (q * 32 + k)) [] := tkL_congr [] (fun k hk => hG q k hk (Nat.le_refl _))
          rw [hL] at cT
          obtain ⟨L, hLL⟩ : ∃ L, tkL (fun k => F (q * 32 + k)) [] = L := ⟨_, rfl⟩
          rw [hLL] at cT
          have HLL := Lib.hid hLL
          have HON := Lib.hid hon
          have HG := Lib.hid hG
          clear hL hLL hon hG
          go_wp2_with fail
          refine cT.mono ?_
          clear cT
          rintro e w3 ⟨u, rfl, l3, k3⟩
          have hb3 := k3.blk List.mem_cons_self HON.out.b
          obtain ⟨Au, cu, hu, -⟩ := l3.sl (p := (u, tks t L)) List.mem_cons_self
          rw [show (u, tks t L).2.length = L.length from tks_len t L] at hu
          obtain ⟨z, hz⟩ : ∃ z, z = L.length := ⟨_, rfl⟩
          rw [← hz] at hu
          have hz32 : z ≤ 32 := by rw [hz, ← HLL.out]; unfold tkL; have := List.length_filter_le (fun k => F (q * 32 + k) && !mkB [] k) (List.range 32); simpa using this
          have HZ := Lib.hid hz
          have L3 := Lib.hid l3
          have B3 := Lib.hid hb3
          simp only at hu
          subst hu
          clear l3 k3 hb3 hz
          go_wp2_with fail
          go_loop [15, 16] (fun a i => ∃ (j c : Nat), j ≤ 32 ∧ i = .int .i64 j ∧ a = .int .i64 c ∧ c ≤ j ∧ c ≤ z ∧ Hid (c = (tkN (fun k => F (q * 32 + k)) [] j).length)) (fun _ i => 32 - (intOf i).toNat)
          case atStart => exact ⟨0, 0, by omega, rfl, rfl, by omega, by omega, Lib.hid rfl⟩
          case round =>
            obtain ⟨j, c, hj, rfl, rfl, hcj, hcz, HC⟩ := hrel
            by_cases hlj : j < 32
            · have hjI : (j : Int) < 32 := by omega
              have cb := B3.out.cell (q * 32 + j)
              rw [bitc_get _ _ _ (by omega)] at cb
              have hst := tkN_step (fun k => F (q * 32 + k)) [] j
              cases hf : F (q * 32 + j) with
              | false =>
                rw [hf] at cb
                rw [if_neg (by simp only [hf, Bool.false_and]; decide)] at hst
                have HS : Hid (c = (tkN (fun k => F (q * 32 + k)) [] (j + 1)).length) := Lib.hid (by rw [hst, List.append_nil]; exact HC.out)
                clear hst hf
                go_wp2_with fail
                go_round
                case rel => exact ⟨j + 1, c, by omega, by go_num, rfl, by omega, hcz, HS⟩
                case measure => simp [intOf]; omega
              | true =>
                rw [hf] at cb
                have hin : ((fun k => F (q * 32 + k)) j && !mkB [] j) = true := by simp only [hf, mkB_nil]; decide
                rw [if_pos hin] at hst
                have HS : Hid (c + 1 = (tkN (fun k => F (q * 32 + k)) [] (j + 1)).length) := Lib.hid (by rw [hst, List.length_append, ← HC.out]; rfl)
                obtain ⟨h1, h2⟩ := tkN_at (fun k => F (q * 32 + k)) [] j hlj hin
                simp only [HLL.out, ← HC.out] at h1 h2
                have hcz1 : c < z := by rw [HZ.out]; exact h1
                obtain ⟨h3, h4⟩ := tks_at t L c h1
                rw [h2] at h4
                obtain ⟨b5, o5, cp5, e5, -, -, d0, d1, d2⟩ := iq_at (L3.out.sl (p := (.slice Au z cu, tks t L)) List.mem_cons_self) rfl c h3
                simp only [Value.slice.injEq] at e5
                obtain ⟨rfl, -, -⟩ := e5
                simp only at d0 d1 d2
                rw [h4] at d0 d1 d2
                simp only at d0 d1 d2
                obtain ⟨dd, hdd⟩ : ∃ dd : Nat, j / 8 = dd := ⟨_, rfl⟩
                obtain ⟨vv, hvv⟩ : ∃ vv : Nat, j % 8 = vv := ⟨_, rfl⟩
                rw [hdd] at d1
                rw [hvv] at d2
                have e1 : (j : Int) / 8 = (dd : Int) := by omega
                have e2 : (j : Int) % 8 = (vv : Int) := by omega
                have hczI : (c : Int) < (z : Int) := by omega
                clear hst hf hin h1 h2 h3 h4 hdd hvv
                go_wp2_with fail
                go_round
                case rel => exact ⟨j + 1, c + 1, by omega, by go_num, by go_num, by omega, by omega, HS⟩
                case measure => simp [intOf]; omega
            · have e32 : j = 32 := by omega
              subst e32
              have hcz' : c = z := by rw [HZ.out, ← HLL.out, HC.out]; rfl
              subst hcz'
              have cT := l1take q t _ [] 0 w3 L3.out hlq (sl_nil w3) rfl (by decide)
              have hL0 : tkL (fun k => takF G q [] (q * 32 + k)) [] = [] := tkL_none [] (fun k hk => takF_nil hk)
              rw [hL0] at cT
              clear hL0
              go_wp2_with fail
              refine cT.mono ?_
              clear cT
              rintro e w4 ⟨u4, rfl, l4, k4⟩
              have hb4 := k4.blk List.mem_cons_self B3.out
              obtain ⟨A4, c4, hu4, -⟩ := l4.sl (p := (u4, tks t [])) List.mem_cons_self
              have hu4' : u4 = .slice A4 0 c4 := hu4
              have O4 : Hid (Oq wa s h F (q + 1) w4) := Lib.hid ⟨_, fun p k hk hp => by rw [takF_far hk (by omega), takF_far hk (by omega)]; exact HG.out p k hk (by omega), ⟨l4.drop (by simp) (fun b hb => hb), hb4, HON.out.hh⟩⟩
              clear l4 k4 hb4 hu4
              subst hu4'
              go_wp2_with fail
              go_roundw
              case rel => exact ⟨q + 1, by omega, by go_num, O4⟩
              case measure => simp [intOf]; omega
        · have e2 : q = 2 := by omega
          subst e2
          obtain ⟨G, -, hon⟩ := HQ.out
          have HB := Lib.hid (Below.down BA.out hon.l.below BA.out.size)
          clear hon
          go_wp2_with fail
          go_ret
          exact ⟨rfl, HB.out⟩
end Go.Proofs.Ytffdjdllnajfcaa
