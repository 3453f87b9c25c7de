/-
  Contracts of package phys: numberOf, bytesOf, wordBy, Word, PutWord.
-/
import Derived.Test.YtfddmfdfimaddaaPhys1
namespace Go.Proofs.Ytfddmfdfimaddaa
open Go.RowKit
set_option linter.unusedVariables false

/-- The number of the first k bytes, the lowest first. -/
def numTo (b : List UInt8) : Nat → Int
  | 0 => 0
  | k + 1 => numTo b k + 256 ^ k * ((b.getD k 0).toNat : Int)
theorem num4_to (b : List UInt8) : num4 b = numTo b 4 := by simp [num4, numTo]
theorem numTo_bound (b : List UInt8) (k : Nat) : 0 ≤ numTo b k ∧ numTo b k < 256 ^ k := by
  induction k with
  | zero => simp [numTo]
  | succ k ih =>
    have h := (b.getD k 0).toNat_lt
    simp only [numTo]
    generalize ((b.getD k 0).toNat) = x at h
    have hp : (0 : Int) < 256 ^ k := Int.pow_pos (by omega)
    have hx : (256 : Int) ^ k * (x : Int) ≤ 256 ^ k * 255 := Int.mul_le_mul_of_nonneg_left (by omega) (by omega)
    have h0 : (0 : Int) ≤ 256 ^ k * (x : Int) := Int.mul_nonneg (by omega) (by omega)
    rw [Int.pow_succ]
    omega

theorem byte_get (s : ByteArray) (k : Nat) (h : k < s.size) : s.data.toList.getD k 0 = s[k] := by
  have h' : k < s.data.size := h
  simp only [List.getD, Array.getElem?_toList, Array.getElem?_eq_getElem h', Option.getD_some]
  rfl
/-- An 'or' of numbers whose digits do not meet. -/
theorem bor (x y n : Nat) (h : x < 2 ^ n) (h2 : x + 2 ^ n * y < 9223372036854775808) : bits BinOp.or IntKind.i64 (x : Int) ((2 ^ n * y : Nat) : Int) = ((x + 2 ^ n * y : Nat) : Int) := by
  have hx : (BitVec.ofInt 64 (x : Int)).toNat = x := by
    rw [BitVec.ofInt_natCast, BitVec.toNat_ofNat]; exact Nat.mod_eq_of_lt (by omega)
  have hy : (BitVec.ofInt 64 ((2 ^ n * y : Nat) : Int)).toNat = 2 ^ n * y := by
    rw [BitVec.ofInt_natCast, BitVec.toNat_ofNat]; exact Nat.mod_eq_of_lt (by omega)
  have e : bits BinOp.or IntKind.i64 (x : Int) ((2 ^ n * y : Nat) : Int) = IntKind.i64.wrap ((BitVec.ofInt 64 (x : Int) ||| BitVec.ofInt 64 ((2 ^ n * y : Nat) : Int)).toNat : Int) := rfl
  rw [e, BitVec.toNat_or, hx, hy, Nat.or_comm, ← Nat.two_pow_add_eq_or_of_lt h, IntKind.wrap_i64]
  omega

theorem or_step (b : List UInt8) (k : Nat) (hk : k < 4) (c : Int) (hc : c = ((b.getD k 0).toNat : Int)) : bits BinOp.or IntKind.i64 (numTo b k) (wrap64 (wrap64 c * 2 ^ (8 * k))) = numTo b (k + 1) := by
  subst hc
  have h := numTo_bound b k
  have hb := (b.getD k 0).toNat_lt
  simp only [numTo]
  generalize (b.getD k 0).toNat = y at hb
  generalize numTo b k = x at h
  obtain ⟨h1, h2⟩ := h
  obtain ⟨x, rfl⟩ := Int.eq_ofNat_of_zero_le h1
  have hw : wrap64 (y : Int) = y := by unfold wrap64; omega
  rw [hw]
  have e : ((256 : Int) ^ k) = ((2 ^ (8 * k) : Nat) : Int) := by rw [Nat.pow_mul]; simp
  have hm : (2 : Nat) ^ (8 * k) ≤ 16777216 := Nat.le_trans (Nat.pow_le_pow_right (by omega) (show 8 * k ≤ 24 by omega)) (by decide)
  rw [e] at h2 ⊢
  have hy : 2 ^ (8 * k) * y ≤ 16777216 * 256 := Nat.mul_le_mul hm (by omega)
  have hw2 : wrap64 ((y : Int) * 2 ^ (8 * k)) = ((2 ^ (8 * k) * y : Nat) : Int) := by
    rw [show ((y : Int) * 2 ^ (8 * k)) = ((2 ^ (8 * k) * y : Nat) : Int) by push_cast; rw [Int.mul_comm]]
    unfold wrap64
    generalize 2 ^ (8 * k) * y = z at hy
    omega
  rw [hw2, bor x y (8 * k) (by omega) (by omega)]
  push_cast
  rfl

theorem number_any (s : ByteArray) (w : World) (hs : s.size = 4) :
    Calls Try.prog 32 #[.string s] w fun e w' => e = .returned (.int .i64 (num4 s.data.toList)) ∧ w = w' := by
  rw [num4_to]
  have HS := Lib.hid hs; clear hs
  go_enter Try.func32, Try.ntmps32
  go_wp2
  go_loop [3, 5] (fun x i => ∃ k : Nat, k ≤ 4 ∧ i = .int .i64 k ∧ x = .int .i64 (numTo s.data.toList k)) (fun _ i => 4 - (intOf i).toNat)
  case atStart => exact ⟨0, by omega, rfl, rfl⟩
  case round =>
    obtain ⟨k, hk, rfl, rfl⟩ := hrel
    by_cases hlt : k < 4
    · have hks : k < s.size := by rw [HS.out]; exact hlt
      have HO := Lib.hid (or_step s.data.toList k hlt (s[k].toNat : Int) (by rw [byte_get s k hks]))
      go_wp2
      go_round
      case rel => exact ⟨k + 1, by omega, by go_num, by rw [HO.out]⟩
      case measure => simp [intOf]; omega
    · obtain rfl : k = 4 := by omega
      go_wp2
      go_ret
      exact ⟨rfl, rfl⟩

theorem by4_at (x : Int) (k : Nat) (hk : k < 4) (h0 : 0 ≤ x) : x / 2 ^ (8 * k) % 256 = ((((by4 x).getD k 0).toNat : Nat) : Int) := by
  obtain ⟨x, rfl⟩ := Int.eq_ofNat_of_zero_le h0
  rcases k with _ | _ | _ | _ | k
  · simp [by4]
  · simp only [by4, List.getD_cons_zero, List.getD_cons_succ, UInt8.toNat_ofNat']; omega
  · simp only [by4, List.getD_cons_zero, List.getD_cons_succ, UInt8.toNat_ofNat']; omega
  · simp only [by4, List.getD_cons_zero, List.getD_cons_succ, UInt8.toNat_ofNat']; omega
  · omega
/-- An array of four bytes on the way. -/
def byK (x : Int) (k : Nat) : List UInt8 := put [0, 0, 0, 0] 0 ((by4 x).take k)
theorem byK_len (x : Int) (k : Nat) : (byK x k).length = 4 := put_len _ _ _ (by simp [by4]; omega)
theorem byK_step (x : Int) (k : Nat) (hk : k < 4) (h0 : 0 ≤ x) : (bts (byK x k)).set k (.int .u8 (x / 2 ^ (8 * k) % 256)) = bts (byK x (k + 1)) := by
  rw [by4_at x k hk h0]
  have := put_step [0, 0, 0, 0] 0 (by4 x) k hk (by simp [by4]) _ rfl
  unfold byK
  rw [← this, Nat.zero_add]
  simp [bts, List.map_set]
theorem byK_all (x : Int) : byK x 4 = by4 x := by simp [byK, put, by4]

theorem bytes_any (x : Int) (w : World) (h0 : 0 ≤ x) (h1 : x ≤ 4294967295) :
    Calls Try.prog 26 #[.int .i64 x] w fun e w' => e = .returned (.string (str (by4 x))) ∧ Below w.heap.size w w' := by
  go_enter Try.func26, Try.ntmps26
  go_wp2
  have hw : Blk (w.alloc (.cells #[.int .u8 0, .int .u8 0, .int .u8 0, .int .u8 0] 72)) w.heap.size 72 [.int .u8 0, .int .u8 0, .int .u8 0, .int .u8 0] := Blk.new _ _ _
  have hb : Below w.heap.size w (w.alloc (.cells #[.int .u8 0, .int .u8 0, .int .u8 0, .int .u8 0] 72)) := (Below.refl _ _).alloc (Nat.le_refl _) _
  generalize hW : w.alloc (.cells #[.int .u8 0, .int .u8 0, .int .u8 0, .int .u8 0] 72) = w1 at *
  generalize hG : w.heap.size = G at *
  have HW := Lib.hid hW; have HG := Lib.hid hG; clear hW hG
  go_loopw [5] (fun i wr => ∃ k : Nat, k ≤ 4 ∧ i = .int .i64 k ∧ Blk wr G 72 (bts (byK x k)) ∧ Below G w wr) (fun i _ => 4 - (intOf i).toNat)
  case atStart => exact ⟨0, by omega, rfl, hw, hb⟩
  case round =>
    clear hw hb
    obtain ⟨k, hk, rfl, hw, hb⟩ := hrel
    by_cases hlt : k < 4
    · have hc := hw.cell k
      rw [bts_get _ k (by rw [byK_len]; exact hlt)] at hc
      have hf := hw.frozen k
      have hw' := hw.set k (.int .u8 (x / 2 ^ (8 * k) % 256))
      rw [byK_step x k hlt h0] at hw'
      generalize ((byK x k).getD k 0).toNat = u at hc
      have HB := Lib.hid hb; have HW' := Lib.hid hw'; clear hw hb hw'
      go_wp2
      go_roundw
      case rel => exact ⟨k + 1, by omega, by go_num, HW'.out, HB.out.setCell (Nat.le_refl _) _⟩
      case measure => simp [intOf]; omega
    · obtain rfl : k = 4 := by omega
      rw [byK_all] at hw
      have hcv := conv_str (w := wr) G 0 4 (by4 x) (fun i hi => by rw [hw.cell, Nat.zero_add, bts_get _ i hi])
      rw [by4_len] at hcv
      generalize hX : str (by4 x) = X at hcv
      have HX := Lib.hid hX; clear hX
      go_wp2
      go_ret
      exact ⟨by rw [HX.out]; rfl, by rw [HG.out]; exact hb⟩

theorem rdL_len (l : List UInt8) (a n : Int) (h : mayB a n l.length = true) : (rdL l a n).length = n.toNat := by
  unfold rdL
  rw [h, if_pos rfl]
  simp only [mayB, decide_eq_true_eq] at h
  simp
  omega

theorem wordBy_any (g : Nat) (l : List UInt8) (a : Int) (w : World) (h : PM w g l) :
    Calls Try.prog 28 #[.func (.func 12) #[.pointer (some ⟨g, 0, none⟩)] #[], .int .i64 a] w fun e w' => e = .returned (.tuple #[.int .i64 (wdN l a), .int .i64 (errC (wdB l.length a))]) ∧ w = w' := by
  by_cases hm : 0 ≤ a ∧ (0 : Int) ≤ 4 ∧ a ≤ l.length ∧ 4 ≤ l.length - a
  · have hb : mayB a 4 l.length = true := decide_eq_true hm
    by_cases h4 : a % 4 = 0
    · have hd : wdB l.length a = true := decide_eq_true (by omega)
      have HN : Hid (wdN l a = num4 (rdL l a 4)) := Lib.hid (by unfold wdN rdL; rw [hd, hb]; rfl)
      have HC : Hid (errC (wdB l.length a) = 0) := Lib.hid (by rw [hd]; rfl)
      have HE : Hid (errC (mayB a 4 l.length) = 0) := Lib.hid (by rw [hb]; rfl)
      have hlen := rdL_len l a 4 hb
      have HX := Lib.hid (show (str (rdL l a 4)).size = 4 by rw [str_size, hlen]; rfl)
      have HN2 := Lib.hid (show (str (rdL l a 4)).data.toList = rdL l a 4 from str_list _)
      have H := Lib.hid h
      obtain ⟨ha, _⟩ := hm
      have hx : (a % 4 != 0) = false := by simp [h4]
      clear hb hd h h4 hlen
      go_enter Try.func28, Try.ntmps28
      go_wp2_with fail
      refine (pread_any g l _ _ _ H.out).mono ?_
      rintro e w' ⟨rfl, rfl⟩
      rw [HE.out]
      go_wp2_with fail
      refine (number_any _ _ HX.out).mono ?_
      rintro e w' ⟨rfl, rfl⟩
      go_wp2_with fail
      go_ret2
      exact ⟨by rw [HN.out, HC.out, HN2.out]; rfl, rfl⟩
    · have hd : wdB l.length a = false := decide_eq_false (by omega)
      have HN : Hid (wdN l a = 0) := Lib.hid (by unfold wdN; rw [hd]; rfl)
      have HC : Hid (errC (wdB l.length a) = 300) := Lib.hid (by rw [hd]; rfl)
      have HE : Hid (errC (mayB a 4 l.length) = 0) := Lib.hid (by rw [hb]; rfl)
      have H := Lib.hid h
      obtain ⟨ha, _⟩ := hm
      have hx : (a % 4 != 0) = true := by simpa using h4
      clear hb hd h h4
      go_enter Try.func28, Try.ntmps28
      go_wp2_with fail
      refine (pread_any g l _ _ _ H.out).mono ?_
      rintro e w' ⟨rfl, rfl⟩
      rw [HE.out]
      go_wp2_with fail
      go_ret2
      exact ⟨by rw [HN.out, HC.out]; rfl, rfl⟩
  · have hb : mayB a 4 l.length = false := decide_eq_false hm
    have hd : wdB l.length a = false := decide_eq_false (by omega)
    have HL : Hid (rdL l a 4 = []) := Lib.hid (by unfold rdL; rw [hb]; rfl)
    have HN : Hid (wdN l a = 0) := Lib.hid (by unfold wdN; rw [hd]; rfl)
    have HC : Hid (errC (wdB l.length a) = 300) := Lib.hid (by rw [hd]; rfl)
    have HE : Hid (errC (mayB a 4 l.length) = 300) := Lib.hid (by rw [hb]; rfl)
    have H := Lib.hid h
    clear hb hd h hm
    go_enter Try.func28, Try.ntmps28
    go_wp2_with fail
    refine (pread_any g l _ _ _ H.out).mono ?_
    rintro e w' ⟨rfl, rfl⟩
    rw [HE.out]
    go_wp2_with fail
    go_ret2
    exact ⟨by rw [HN.out, HC.out]; rfl, rfl⟩

theorem pword_any (g : Nat) (l : List UInt8) (a : Int) (w : World) (h : PM w g l) :
    Calls Try.prog 19 #[.pointer (some ⟨g, 0, none⟩), .int .i64 a] w fun e w' => e = .returned (.tuple #[.int .i64 (wdN l a), .int .i64 (errC (wdB l.length a))]) ∧ w = w' := by
  have H := Lib.hid h; clear h
  go_enter Try.func19, Try.ntmps19
  go_wp2_with fail
  refine (wordBy_any g l _ _ H.out).mono ?_
  rintro e w' ⟨rfl, rfl⟩
  go_wp2_with fail
  go_ret2
  exact ⟨rfl, rfl⟩

theorem pputword_any (g : Nat) (l : List UInt8) (a x : Int) (w : World) (h : PM w g l) :
    Calls Try.prog 15 #[.pointer (some ⟨g, 0, none⟩), .int .i64 a, .int .i64 x] w fun e w' => e = .returned (.int .i64 (errC (pwB l.length a x))) ∧ PM w' g (pwL l a x) ∧ w.grownBy w' (some g) := by
  have H := Lib.hid h
  clear h
  by_cases h4 : a % 4 = 0
  · have hx4 : (a.tmod 4 != 0) = false := by simp [Int.tmod_eq_zero_of_dvd (Int.dvd_of_emod_eq_zero h4)]
    by_cases hx : 0 ≤ x ∧ x ≤ 4294967295
    · obtain ⟨hx0, hx1⟩ := hx
      have HB : Hid (pwB l.length a x = mayB a ((str (by4 x)).size : Nat) l.length) := Lib.hid (by
        rw [str_size, by4_len]
        unfold pwB mayB
        rw [decide_eq_decide]
        omega)
      have HL : Hid (pwL l a x = wrL l a (str (by4 x)).data.toList) := Lib.hid (by
        unfold pwL wrL
        rw [HB.out, str_list, str_size])
      have HS : Hid ((str (by4 x)).size ≤ maxLen) := Lib.hid (by rw [str_size, by4_len]; decide)
      clear h4
      go_enter Try.func15, Try.ntmps15
      go_wp2_with fail
      refine (bytes_any _ _ hx0 hx1).mono ?_
      rintro e w1 ⟨rfl, b1⟩
      have H1 := Lib.hid (H.out.below b1 H.out.lt)
      have HG := Lib.hid (gof b1 (some g))
      generalize str (by4 x) = X at HB HL HS
      clear b1
      go_wp2_with fail
      refine (pwrite_any g l _ _ _ H1.out HS.out).mono ?_
      rintro e w2 ⟨rfl, h2, g2⟩
      have H2 := Lib.hid h2; have G2 := Lib.hid g2; clear h2 g2
      go_wp2_with fail
      go_ret
      exact ⟨by rw [HB.out]; rfl, by rw [HL.out]; exact H2.out, gtrans HG.out G2.out⟩
    · have hb : pwB l.length a x = false := decide_eq_false (by omega)
      have HC : Hid (errC (pwB l.length a x) = 300) := Lib.hid (by rw [hb]; rfl)
      have HL : Hid (pwL l a x = l) := Lib.hid (by unfold pwL; rw [hb]; rfl)
      have h5 : x < 0 ∨ (0 ≤ x ∧ 4294967295 < x) := by omega
      clear hb hx h4
      rcases h5 with h5 | ⟨h5, h6⟩
      all_goals
        go_enter Try.func15, Try.ntmps15
        go_wp2_with fail
        go_ret
        exact ⟨by rw [HC.out]; rfl, by rw [HL.out]; exact H.out, grefl _ _⟩
  · have hx4 : (a.tmod 4 != 0) = true := by simpa using fun h => h4 (Int.emod_eq_zero_of_dvd (Int.dvd_of_tmod_eq_zero h))
    have hb : pwB l.length a x = false := decide_eq_false (by omega)
    have HC : Hid (errC (pwB l.length a x) = 300) := Lib.hid (by rw [hb]; rfl)
    have HL : Hid (pwL l a x = l) := Lib.hid (by unfold pwL; rw [hb]; rfl)
    clear hb h4
    go_enter Try.func15, Try.ntmps15
    go_wp2_with fail
    go_ret
    exact ⟨by rw [HC.out]; rfl, by rw [HL.out]; exact H.out, grefl _ _⟩

end Go.Proofs.Ytfddmfdfimaddaa
