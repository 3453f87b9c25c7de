/-
  Layer 3's law MemWords: it answers true for every input.
-/
import Derived.Test.YtcljcjlfbeplcaaPhysStr
import Derived.Test.YtcljcjlfbeplcaaPlain2
namespace Go.Proofs.Ytcljcjlfbeplcaa
open Go.RowKit
set_option linter.unusedVariables false

/-- The bytes of words. -/
def wds (q : List Int) : List UInt8 := q.flatMap by4
theorem wds_len (q : List Int) : (wds q).length = 4 * q.length := by
  induction q with
  | nil => rfl
  | cons x q ih => simp only [wds, List.flatMap_cons, List.length_append, by4_len, List.length_cons] at ih ⊢; omega
theorem wds_cons (x : Int) (q : List Int) : wds (x :: q) = by4 x ++ wds q := rfl
theorem wds_drop (q : List Int) : ∀ k, (wds q).drop (4 * k) = wds (q.drop k) := by
  induction q with
  | nil => intro k; simp [wds]
  | cons x q ih =>
    intro k
    match k with
    | 0 => rfl
    | k + 1 =>
      rw [wds_cons, List.drop_succ_cons, ← ih k, show 4 * (k + 1) = (by4 x).length + 4 * k by rw [by4_len]; omega, List.drop_append]
      simp [by4_len]
theorem wds_take (q : List Int) : ∀ k, (wds q).take (4 * k) = wds (q.take k) := by
  induction q with
  | nil => intro k; simp [wds]
  | cons x q ih =>
    intro k
    match k with
    | 0 => rfl
    | k + 1 =>
      rw [wds_cons, List.take_succ_cons, wds_cons, ← ih k, show 4 * (k + 1) = (by4 x).length + 4 * k by rw [by4_len]; omega, List.take_length_add_append]
theorem wds_append (a b : List Int) : wds (a ++ b) = wds a ++ wds b := by simp [wds]
theorem wds_put (q : List Int) (k : Nat) (x : Int) (h : k < q.length) : put (wds q) (4 * k) (by4 x) = wds (q.set k x) := by
  unfold put
  rw [by4_len, show 4 * k + 4 = 4 * (k + 1) by omega, wds_take, wds_drop, List.set_eq_take_append_cons_drop, if_pos h, wds_append, wds_cons, List.append_assoc]
theorem wds_at (q : List Int) (k : Nat) (h : k < q.length) : ((wds q).drop (4 * k)).take 4 = by4 (q.getD k 0) := by
  rw [wds_drop, List.drop_eq_getElem_cons h, wds_cons, List.take_append_of_le_length (by rw [by4_len]; omega), List.take_of_length_le (by rw [by4_len]; omega)]
  simp [List.getD, List.getElem?_eq_getElem h]

theorem wds_pw (q : List Int) (k : Nat) (x : Int) (h : k < q.length) (h0 : 0 ≤ x) (h1 : x ≤ 4294967295) : pwL (wds q) (4 * (k : Int)) x = wds (q.set k x) ∧ errC (pwB (wds q).length (4 * (k : Int)) x) = 0 := by
  have hs : pwB (wds q).length (4 * (k : Int)) x = true := decide_eq_true (by rw [wds_len]; omega)
  constructor
  · unfold pwL
    rw [hs, if_pos rfl, ← wds_put q k x h, show (4 * (k : Int)).toNat = 4 * k by omega]
  · rw [hs]; rfl
theorem wds_rd (q : List Int) (k : Nat) (h : k < q.length) : rdL (wds q) (4 * (k : Int)) 4 = by4 (q.getD k 0) ∧ errC (mayB (4 * (k : Int)) 4 (wds q).length) = 0 := by
  have hs : mayB (4 * (k : Int)) 4 (wds q).length = true := decide_eq_true (by rw [wds_len]; omega)
  constructor
  · unfold rdL
    rw [hs, if_pos rfl, show (4 * (k : Int)).toNat = 4 * k by omega, show (4 : Int).toNat = 4 from rfl, wds_at q k h]
  · rw [hs]; rfl
theorem wds_wd (q : List Int) (k : Nat) (h : k < q.length) (hr : ∀ x ∈ q, 0 ≤ x ∧ x ≤ 4294967295) : wdN (wds q) (4 * (k : Int)) = q.getD k 0 ∧ errC (wdB (wds q).length (4 * (k : Int))) = 0 := by
  have hs : wdB (wds q).length (4 * (k : Int)) = true := decide_eq_true (by rw [wds_len]; omega)
  have hq := getD_range q 0 4294967295 hr k h
  constructor
  · unfold wdN
    rw [hs, if_pos rfl, show (4 * (k : Int)).toNat = 4 * k by omega, wds_at q k h, num_by _ hq.1 hq.2]
  · rw [hs]; rfl
theorem set_range (q : List Int) (k : Nat) (x lo hi : Int) (hr : ∀ x ∈ q, lo ≤ x ∧ x ≤ hi) (h : lo ≤ x ∧ x ≤ hi) : ∀ y ∈ q.set k x, lo ≤ y ∧ y ≤ hi := by
  intro y hy
  rcases List.mem_or_eq_of_mem_set hy with hy | rfl
  · exact hr y hy
  · exact h

theorem by4_cells (X : Int) (h0 : 0 ≤ X) (h1 : X ≤ 4294967295) : bts (by4 X) = [.int .u8 (X % 256), .int .u8 (X / 256 % 256), .int .u8 (X / 65536 % 256), .int .u8 (X / 16777216)] := by
  obtain ⟨X, rfl⟩ := Int.eq_ofNat_of_zero_le h0
  simp only [bts, by4, List.map_cons, List.map_nil, UInt8.toNat_ofNat']
  simp only [List.cons.injEq, Value.int.injEq, and_true, true_and]
  refine ⟨by omega, by omega, by omega, by omega⟩
theorem by4_str (X : Int) (h0 : 0 ≤ X) (h1 : X ≤ 4294967295) (W : World) : (convert 33 9 (.slice (some ⟨W.heap.size, 0, none⟩) 4 4)).run Try.prog (W.alloc (.cells #[.int .u8 (X % 256), .int .u8 (X / 256 % 256), .int .u8 (X / 65536 % 256), .int .u8 (X / 16777216)] 5)) = .ok (.string (str (by4 X))) (W.alloc (.cells #[.int .u8 (X % 256), .int .u8 (X / 256 % 256), .int .u8 (X / 65536 % 256), .int .u8 (X / 16777216)] 5)) := by
  have hb := Blk.new W 5 (bts (by4 X))
  have := conv_str (w := W.alloc (.cells (bts (by4 X)).toArray 5)) W.heap.size 0 4 (by4 X) (fun i hi => by rw [hb.cell, Nat.zero_add, bts_get _ i hi])
  rw [by4_len, by4_cells X h0 h1] at this
  exact this

/-- The program's memory and the law's own array say the same. -/
def Words (h g : Nat) (w wq : World) : Prop := ∃ q : List Int, Hid (q.length = 16) ∧ Hid (∀ x ∈ q, 0 ≤ x ∧ x ≤ 4294967295) ∧ Blk wq h 56 (ints q) ∧ PM wq g (wds q) ∧ Below w.heap.size w wq

set_option maxRecDepth 100000 in
set_option maxHeartbeats 4000000 in
theorem law_MemWords (v : Value) (n : Nat) (zs : List Int) (a : Int) (w : World) (hv : Sl w v n 1 (ints zs)) (hn : n ≤ maxLen) (hl : zs.length = n) (w1 : (Lit.int .i64 a).wf = true) :
    Calls Try.prog 5 #[v, .int .i64 a] w fun e w' => e = .returned (.bool true) ∧ Below w.heap.size w w' := by
  obtain ⟨A, cap, rfl, hcap, hzl, hA⟩ := hv
  unfold maxLen at hn
  have hJ := band a 15 (by omega) (by omega)
  generalize hJ' : bits BinOp.and IntKind.i64 a 15 = J at hJ
  obtain ⟨hJ0, hJ1⟩ := hJ
  have HA := Lib.hid hA; have HL := Lib.hid hl; clear hA hl hzl
  go_enter Try.func5, Try.ntmps5
  go_wp2_with fail
  refine (awake_any _).mono ?_
  rintro e wa ⟨rfl, ba⟩
  have hsa := ba.size
  go_wp2_with fail
  refine (new_yes 1 _ (by omega) (by omega)).mono ?_
  rintro e w1 ⟨rfl, t1, b1⟩
  have b1' := Below.down ba b1 hsa
  generalize hg : wa.heap.size = g at *
  have hgw : w.heap.size ≤ g := by omega
  have HG := Lib.hid hg; clear hg b1 ba
  go_wp2_with fail
  refine (num_any _ _).mono ?_
  rintro e w' ⟨rfl, rfl⟩
  go_wp2_with fail
  have hh := Blk.new w1 56 (ints (List.replicate 16 0))
  have t2 := t1.alloc (.cells (ints (List.replicate 16 0)).toArray 56)
  have b2 := b1'.alloc b1'.size (.cells (ints (List.replicate 16 0)).toArray 56)
  have hgl := t1.lt
  have hs1 := b1'.size
  change Code.wp _ _ _ _ (w1.alloc (.cells (ints (List.replicate 16 0)).toArray 56))
  generalize w1.alloc (.cells (ints (List.replicate 16 0)).toArray 56) = w2 at *
  generalize hh' : w1.heap.size = h at *
  have HH := Lib.hid hh'; clear hh' t1 b1'
  have hgh : g ≠ h := by omega
  have hwh : w.heap.size ≤ h := by omega
  go_loopw [8] (fun i wq => ∃ (k : Nat), k ≤ n ∧ i = .int .i64 k ∧ Words h g w wq) (fun i _ => n - (intOf i).toNat)
  case atStart =>
    refine ⟨0, by omega, rfl, List.replicate 16 0, Lib.hid (by simp), Lib.hid (fun x hx => by rw [List.eq_of_mem_replicate hx]; omega), hh, t2, b2⟩
  case round =>
    clear hh t2 b2
    obtain ⟨k, hk, rfl, q, HQ, HR, hh, ht, hb⟩ := hrel
    by_cases hgo : k < n ∧ k < 40
    · obtain ⟨hkn, hk40⟩ := hgo
      have hd : decide ((k : Int) < 40) = true := by simp; omega
      obtain ⟨b, o, rfl, hblt, hcell⟩ := HA.out (by omega)
      have c0 := (hb.cell (p := ⟨b, o + k, none⟩) hblt).trans (hcell _ _ (ints_get zs k (by rw [HL.out]; exact hkn)))
      clear hcell
      generalize zs.getD k 0 = Z at c0
      have hX := band Z 4294967295 (by omega) (by omega)
      generalize hX' : bits BinOp.and IntKind.i64 Z 4294967295 = X at hX
      obtain ⟨hX0, hX1⟩ := hX
      obtain ⟨K, hK, hK16⟩ : ∃ K : Nat, ((k : Int) * 5 + J) % 16 = K ∧ K < 16 := ⟨(((k : Int) * 5 + J) % 16).toNat, by omega, by omega⟩
      have i1 : (0 : Int) ≤ k := by omega
      have i2 : (k : Int) < n := by omega
      have n1 : IntKind.i64.wrap ((k : Int) * 5) = k * 5 := IntWalk.i64_in _ (by omega)
      have n2 : IntKind.i64.wrap ((k : Int) * 5 + J) = k * 5 + J := IntWalk.i64_in _ (by omega)
      have n3 : ((k : Int) * 5 + J).tmod 16 = K := by rw [Int.tmod_eq_emod_of_nonneg (by omega)]; exact hK
      go_wp2_with fail
      go_quiet (fail)
      clear n1 n2 n3 hK
      go_wp2_with fail
      have hpw := wds_pw q K X (by rw [HQ.out]; exact hK16) hX0 hX1
      refine (pputword_is g (wds q) (wds (q.set K X)) _ _ 0 _ (ht.drewN nq) hpw.1 hpw.2).mono ?_
      rintro e w3 ⟨rfl, t3, g3⟩
      have hh3 := (hh.drewN nq).grown g3 (by intro e; injection e with e; omega)
      have b3 := bone (bdrewN hb nq) g3 (by have := (bdrewN hb nq).size; omega) hgw
      have hc := hh3.int (k := K) (by have := HQ.out; omega)
      generalize q.getD K 0 = u at hc
      have hf := hh3.frozen K
      have hh4 := hh3.setInt K X
      have t4 := t3.far (p := ⟨h, K, none⟩) (by exact hgh) (.int .i64 X)
      have b4 := b3.setCell (p := ⟨h, K, none⟩) hwh (.int .i64 X)
      have HQ3 : Hid ((q.set K X).length = 16) := Lib.hid (by have := HQ.out; simpa using this)
      have HR3 := Lib.hid (set_range q K X 0 4294967295 HR.out ⟨hX0, hX1⟩)
      have HX3 := Lib.hid (show (q.set K X).getD K 0 = X by simp [List.getD, HQ.out, hK16])
      clear hh ht hb hpw c0 t3 hh3 b3 g3
      generalize q.set K X = q3 at *
      have iK : (K : Int) < 16 := by omega
      have iK0 : (0 : Int) ≤ K := by omega
      go_wp2_with fail
      generalize (w3.setCell ⟨h, K, none⟩ (.int .i64 X)) = w4 at *
      clear hc hf
      refine (pread_is g (wds q3) _ _ 0 (str (by4 X)) _ t4 (by rw [(wds_rd q3 K (by rw [HQ3.out]; exact hK16)).1, HX3.out]) (wds_rd q3 K (by rw [HQ3.out]; exact hK16)).2).mono ?_
      rintro e w' ⟨rfl, rfl⟩
      go_wp2_with fail
      refine (num_any _ _).mono ?_
      rintro e w' ⟨rfl, rfl⟩
      go_wp2_with fail
      refine (num_any _ _).mono ?_
      rintro e w' ⟨rfl, rfl⟩
      have hcv := by4_str X hX0 hX1
      generalize str (by4 X) = S4 at hcv ⊢
      go_wp2_with fail
      clear hcv
      replace t4 := t4.alloc (.cells #[.int .u8 (X % 256), .int .u8 (X / 256 % 256), .int .u8 (X / 65536 % 256), .int .u8 (X / 16777216)] 5)
      replace hh4 := hh4.alloc (.cells #[.int .u8 (X % 256), .int .u8 (X / 256 % 256), .int .u8 (X / 65536 % 256), .int .u8 (X / 16777216)] 5)
      replace b4 := b4.alloc b4.size (.cells #[.int .u8 (X % 256), .int .u8 (X / 256 % 256), .int .u8 (X / 65536 % 256), .int .u8 (X / 16777216)] 5)
      generalize w4.alloc (.cells #[.int .u8 (X % 256), .int .u8 (X / 256 % 256), .int .u8 (X / 65536 % 256), .int .u8 (X / 16777216)] 5) = w5 at *
      go_loop [14] (fun j => ∃ y : Nat, y ≤ 16 ∧ j = .int .i64 y) (fun j => 16 - (intOf j).toNat)
      case atStart => exact ⟨0, by omega, rfl⟩
      case round =>
        obtain ⟨y, hy, rfl⟩ := hrel
        by_cases hy16 : y < 16
        · have hwd := wds_wd q3 y (by rw [HQ3.out]; exact hy16) HR3.out
          have hc := hh4.int (k := y) (by have := HQ3.out; omega)
          generalize q3.getD y 0 = u at hc hwd
          have HO := Lib.hid hwd; clear hwd
          go_wp2_with fail
          refine (pword_is g (wds q3) _ u 0 _ t4 HO.out.1 HO.out.2).mono ?_
          rintro e w' ⟨rfl, rfl⟩
          go_wp2_with fail
          refine (num_any _ _).mono ?_
          rintro e w' ⟨rfl, rfl⟩
          go_wp2_with fail
          go_round
          case rel => exact ⟨y + 1, by omega, by go_num⟩
          case measure => simp [intOf]; omega
        · go_wp2_with fail
          go_roundw
          case rel => exact ⟨k + 1, by omega, by go_num, q3, HQ3, HR3, hh4, t4, b4⟩
          case measure => simp [intOf]; omega
    · have hx : (k : Int) ≥ n ∨ ((k : Int) < n ∧ decide ((k : Int) < 40) = false) := by
        by_cases h1 : k < n
        · exact .inr ⟨by omega, by simp; omega⟩
        · exact .inl (by omega)
      clear hgo ht hh
      rcases hx with hx | ⟨hx, hx2⟩
      all_goals
        go_wp2_with fail
        go_ret
        exact ⟨rfl, hb⟩

end Go.Proofs.Ytcljcjlfbeplcaa
