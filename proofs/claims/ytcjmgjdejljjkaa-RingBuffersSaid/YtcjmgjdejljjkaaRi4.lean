/-
  Contracts of package ring: checkOne, Check.
-/
import Derived.Test.YtcjmgjdejljjkaaRi3
namespace Go.Proofs.Ytcjmgjdejljjkaa
open Go.RowKit
set_option linter.unusedVariables false
set_option linter.unusedSimpArgs false
set_option maxRecDepth 100000

/-- The ways of one descriptor. -/
theorem one_ways (o x l b n : Int) (rs ws : List Int) :
    (deB o x l b n = false ∧ oneC ⟨o, x, l, b, n⟩ rs ws = 1700) ∨ (deB o x l b n = true ∧ n < 1 ∧ oneC ⟨o, x, l, b, n⟩ rs ws = 1700) ∨ (deB o x l b n = true ∧ 1 ≤ n ∧ 4 < n ∧ oneC ⟨o, x, l, b, n⟩ rs ws = 1700) ∨
    (deB o x l b n = true ∧ 1 ≤ n ∧ n ≤ 4 ∧ o = 1 ∧ oneC ⟨o, x, l, b, n⟩ rs ws = e17 (bufB b n rs)) ∨ (deB o x l b n = true ∧ 1 ≤ n ∧ n ≤ 4 ∧ o = 0 ∧ oneC ⟨o, x, l, b, n⟩ rs ws = e17 (bufB b n ws)) ∨
    (deB o x l b n = true ∧ 1 ≤ n ∧ n ≤ 4 ∧ (o == 1) = false ∧ (o == 0) = false ∧ oneC ⟨o, x, l, b, n⟩ rs ws = 0) := by
  unfold oneC deD
  simp only
  cases hd : deB o x l b n
  · exact .inl ⟨rfl, rfl⟩
  · right
    by_cases h1 : 1 ≤ n
    · right
      by_cases h4 : n ≤ 4
      · right
        rw [decide_eq_true h1, decide_eq_true h4]
        by_cases e1 : o = 1
        · subst e1; exact .inl ⟨rfl, h1, h4, rfl, rfl⟩
        · right
          by_cases e0 : o = 0
          · subst e0; exact .inl ⟨rfl, h1, h4, rfl, rfl⟩
          · right
            exact ⟨rfl, h1, h4, by simpa using e1, by simpa using e0, by rw [if_neg e1, if_neg e0]; rfl⟩
      · exact .inl ⟨rfl, h1, by omega, by rw [decide_eq_false h4]; simp⟩
    · exact .inl ⟨rfl, by omega, by rw [decide_eq_false h1]; simp⟩

/-- A descriptor boxed. -/
theorem box_at (w : World) (o x l b n : Int) : Blk (w.alloc (.cells #[.int .i64 o, .int .i64 x, .int .i64 l, .int .i64 b, .int .i64 n] 42)) w.heap.size 42 [.int .i64 o, .int .i64 x, .int .i64 l, .int .i64 b, .int .i64 n] := Blk.new _ _ _

set_option maxHeartbeats 4000000 in
theorem checkOne_any (o x l b n : Int) (g k : Nat) (rs ws : List Int) (w : World) (h : FS w g rs) (h' : FS w k ws) (C : Int) (hC : oneC ⟨o, x, l, b, n⟩ rs ws = C) :
    Calls Try.prog 27 #[.agg #[.int .i64 o, .int .i64 x, .int .i64 l, .int .i64 b, .int .i64 n], .func (.func 28) #[.pointer (some ⟨g, 0, none⟩)] #[], .func (.func 28) #[.pointer (some ⟨k, 0, none⟩)] #[]] w fun e w' => e = .returned (.int .i64 C) ∧ Below w.heap.size w w' := by
  have t0 := box_at w o x l b n
  have b1 : Below w.heap.size w (w.alloc (.cells #[.int .i64 o, .int .i64 x, .int .i64 l, .int .i64 b, .int .i64 n] 42)) := (Below.refl _ _).alloc (Nat.le_refl _) _
  have H1 := Lib.hid (h.alloc (.cells #[.int .i64 o, .int .i64 x, .int .i64 l, .int .i64 b, .int .i64 n] 42))
  have H2 := Lib.hid (h'.alloc (.cells #[.int .i64 o, .int .i64 x, .int .i64 l, .int .i64 b, .int .i64 n] 42))
  clear h h'
  have hq := one_ways o x l b n rs ws
  rw [hC] at hq
  clear hC
  rcases hq with ⟨hd, rfl⟩ | ⟨hd, h0, rfl⟩ | ⟨hd, h0, h1, rfl⟩ | ⟨hd, h0, h1, rfl, hC⟩ | ⟨hd, h0, h1, rfl, hC⟩ | ⟨hd, h0, h1, e1, e0, rfl⟩
  · have HD := Lib.hid hd; clear hd
    go_enter Try.func27, Try.ntmps27
    go_wp2_with fail
    refine (demay_is _ _ _ _ _ _ _ HD.out).mono ?_
    rintro e w1 ⟨rfl, b2⟩
    have HB := Lib.hid (Below.down b1 b2 b1.size)
    clear t0 b1 b2 H1 H2
    go_wp2_with fail
    go_ret
    exact ⟨rfl, HB.out⟩
  · have HD := Lib.hid hd; clear hd
    go_enter Try.func27, Try.ntmps27
    go_wp2_with fail
    refine (demay_is _ _ _ _ _ _ _ HD.out).mono ?_
    rintro e w1 ⟨rfl, b2⟩
    have HB := Lib.hid (Below.down b1 b2 b1.size)
    obtain ⟨c0, c1, c2, c3, c4⟩ := five_at (t0.below b2 t0.lt)
    clear t0 b1 b2 H1 H2 c0 c1 c2 c3
    go_wp2_with fail
    go_ret
    exact ⟨rfl, HB.out⟩
  · have HD := Lib.hid hd; clear hd
    go_enter Try.func27, Try.ntmps27
    go_wp2_with fail
    refine (demay_is _ _ _ _ _ _ _ HD.out).mono ?_
    rintro e w1 ⟨rfl, b2⟩
    have HB := Lib.hid (Below.down b1 b2 b1.size)
    obtain ⟨c0, c1, c2, c3, c4⟩ := five_at (t0.below b2 t0.lt)
    clear t0 b1 b2 H1 H2 c0 c1 c2 c3
    go_wp2_with fail
    go_ret
    exact ⟨rfl, HB.out⟩
  · have HD := Lib.hid hd; have hb := (de_iff ..).1 hd; clear hd
    have HC := Lib.hid hC; clear hC
    obtain ⟨-, -, -, -, -, hb0, hb1, -⟩ := hb
    go_enter Try.func27, Try.ntmps27
    go_wp2_with fail
    refine (demay_is _ _ _ _ _ _ _ HD.out).mono ?_
    rintro e w1 ⟨rfl, b2⟩
    have HB := Lib.hid (Below.down b1 b2 b1.size)
    obtain ⟨c0, c1, c2, c3, c4⟩ := five_at (t0.below b2 t0.lt)
    have H1 := Lib.hid (H1.out.below b2)
    have hs1 := HB.out.size
    clear t0 b1 b2 H2
    go_wp2_with fail
    refine (checkBuffer_any _ _ _ _ _ _ rs _ H1.out hb0 hb1 h0 h1).mono ?_
    rintro e w2 ⟨rfl, b3⟩
    rw [← HC.out]
    have HB := Lib.hid (Below.down HB.out b3 hs1)
    clear b3
    go_wp2_with fail
    go_ret
    exact ⟨rfl, HB.out⟩
  · have HD := Lib.hid hd; have hb := (de_iff ..).1 hd; clear hd
    have HC := Lib.hid hC; clear hC
    obtain ⟨-, -, -, -, -, hb0, hb1, -⟩ := hb
    go_enter Try.func27, Try.ntmps27
    go_wp2_with fail
    refine (demay_is _ _ _ _ _ _ _ HD.out).mono ?_
    rintro e w1 ⟨rfl, b2⟩
    have HB := Lib.hid (Below.down b1 b2 b1.size)
    obtain ⟨c0, c1, c2, c3, c4⟩ := five_at (t0.below b2 t0.lt)
    have H2 := Lib.hid (H2.out.below b2)
    have hs1 := HB.out.size
    clear t0 b1 b2 H1
    go_wp2_with fail
    refine (checkBuffer_any _ _ _ _ _ _ ws _ H2.out hb0 hb1 h0 h1).mono ?_
    rintro e w2 ⟨rfl, b3⟩
    rw [← HC.out]
    have HB := Lib.hid (Below.down HB.out b3 hs1)
    clear b3
    go_wp2_with fail
    go_ret
    exact ⟨rfl, HB.out⟩
  · have HD := Lib.hid hd; clear hd
    go_enter Try.func27, Try.ntmps27
    go_wp2_with fail
    refine (demay_is _ _ _ _ _ _ _ HD.out).mono ?_
    rintro e w1 ⟨rfl, b2⟩
    have HB := Lib.hid (Below.down b1 b2 b1.size)
    obtain ⟨c0, c1, c2, c3, c4⟩ := five_at (t0.below b2 t0.lt)
    clear t0 b1 b2 H1 H2
    go_wp2_with fail
    go_ret
    exact ⟨rfl, HB.out⟩

set_option maxHeartbeats 2000000 in
theorem check_any (v vr vw : Value) (n nr nw : Nat) (l : List Ds) (rs ws : List Int) (w : World) (hs : Sl w v n 5 (ints (dss l))) (hll : l.length = n) (hn : n ≤ maxLen)
    (hr : Sl w vr nr 1 (ints rs)) (hrl : rs.length = nr) (hrn : nr ≤ maxLen) (hw : Sl w vw nw 1 (ints ws)) (hwl : ws.length = nw) (hwn : nw ≤ maxLen) (C : Int) (hC : ckC l rs ws = C) :
    Calls Try.prog 12 #[v, vr, vw] w fun e w' => e = .returned (.int .i64 C) ∧ Below w.heap.size w w' := by
  have HR := Lib.hid (framesOf_any vr nr rs w hr hrl hrn)
  have HW := Lib.hid (fun W (hW : Below w.heap.size w W) => framesOf_any vw nw ws W (hw.below hW) hwl hwn)
  have HC := Lib.hid hC
  have HS := Lib.hid hs
  obtain ⟨A, cap, rfl, -, -, -⟩ := hs
  unfold maxLen at hn
  clear hr hrl hrn hw hwl hwn hC
  go_enter Try.func12, Try.ntmps12
  go_wp2_with fail
  refine HR.out.mono ?_
  rintro e w1 ⟨g, rfl, hg, b1⟩
  have HG := Lib.hid hg
  clear hg
  go_wp2_with fail
  refine (HW.out w1 b1).mono ?_
  rintro e w2 ⟨k, rfl, hk, b2⟩
  have HK := Lib.hid hk
  have HG := Lib.hid (HG.out.below b2)
  have HB := Lib.hid (Below.down b1 b2 b1.size)
  have hs2 := HB.out.size
  clear hk b1 b2 HR HW
  go_wp2_with fail
  go_loopw [18] (fun i wr => ∃ j : Nat, j ≤ n ∧ i = .int .i64 j ∧ Hid (ckC (l.drop j) rs ws = C ∧ Below w2.heap.size w2 wr)) (fun i _ => n - (intOf i).toNat)
  case atStart => exact ⟨0, by omega, rfl, Lib.hid ⟨HC.out, Below.refl _ _⟩⟩
  case round =>
    obtain ⟨j, hj, rfl, H⟩ := hrel
    by_cases hlt : j < n
    · have hjl : j < l.length := by omega
      have hwr := H.out.2.size
      have hb' := Below.down HB.out H.out.2 hs2
      obtain ⟨bb, oo, rfl, -, c0, c1, c2, c3, c4⟩ := ds_at (HS.out.below hb') hll j hjl
      have hst := ck_step l rs ws j hjl
      rw [H.out.1] at hst
      generalize l[j] = d at *
      obtain ⟨o, x, lb, b, m⟩ := d
      simp only at c0 c1 c2 c3 c4 hst
      obtain ⟨E, hE⟩ : ∃ E, oneC ⟨o, x, lb, b, m⟩ rs ws = E := ⟨_, rfl⟩
      rw [hE] at hst
      have HE := Lib.hid hE
      have HST := Lib.hid hst
      have HGr := Lib.hid ((HG.out.below H.out.2).alloc (.cells #[.int .i64 o, .int .i64 x, .int .i64 lb, .int .i64 b, .int .i64 m] 42))
      have HKr := Lib.hid ((HK.out.below H.out.2).alloc (.cells #[.int .i64 o, .int .i64 x, .int .i64 lb, .int .i64 b, .int .i64 m] 42))
      have HBr := Lib.hid (H.out.2.alloc hwr (.cells #[.int .i64 o, .int .i64 x, .int .i64 lb, .int .i64 b, .int .i64 m] 42))
      clear hst hE hb' H
      go_wp2_with fail
      generalize wr.alloc (.cells #[.int .i64 o, .int .i64 x, .int .i64 lb, .int .i64 b, .int .i64 m] 42) = wa at *
      refine (checkOne_any o x lb b m g k rs ws _ HGr.out HKr.out E HE.out).mono ?_
      rintro e w3 ⟨rfl, b3⟩
      have HBr := Lib.hid (Below.down HBr.out b3 HBr.out.size)
      clear b3 HGr HKr
      by_cases hE0 : E = 0
      · subst hE0
        go_wp2_with fail
        go_roundw
        case rel => exact ⟨j + 1, by omega, by go_num, Lib.hid ⟨by rw [HST.out]; simp, HBr.out⟩⟩
        case measure => simp [intOf]; omega
      · have hE1 : (E == 0) = false := by simpa using hE0
        have HCE : Hid (C = E) := Lib.hid (by rw [HST.out, if_neg hE0])
        clear hE0
        go_wp2_with fail
        go_ret
        exact ⟨by rw [HCE.out]; rfl, Below.down HB.out HBr.out hs2⟩
    · go_wp2
      go_ret
      exact ⟨by rw [← H.out.1, ck_end _ _ _ _ (by omega)]; rfl, Below.down HB.out H.out.2 hs2⟩

end Go.Proofs.Ytcjmgjdejljjkaa
