/-
  Plain words for layer 4: which entries may be, their words, the entry of a word. No Go here.
-/
import Derived.Test.YtggdbiniklchoaaPlain
import Derived.Test.YtggdbiniklchoaaChecked
import Derived.Test.YtggdbiniklchoaaPlain2
import Derived.Test.YtggdbiniklchoaaNum
import Derived.Test.YtggdbiniklchoaaMem
namespace Go.Proofs.Ytggdbiniklchoaa
open Go.RowKit
set_option linter.unusedVariables false
set_option maxRecDepth 100000

/-- May an entry be? -/
def eB (f p : Int) : Bool := decide ((p = 0 ∧ f = 0) ∨ (1 ≤ p ∧ p ≤ 3 ∧ 0 ≤ f ∧ f < 64))
/-- Its word. -/
def eN (f p : Int) : Int := if eB f p = true ∧ 1 ≤ p then 1 + 2 * p + 4096 * f else 0
/-- The number of its error. -/
def e4 (b : Bool) : Int := if b then 0 else 400
/-- Is a word an entry's? -/
def gB (w : Int) : Bool := decide (w = 0 ∨ (0 ≤ w ∧ w < 262144 ∧ (w % 4096 = 3 ∨ w % 4096 = 5 ∨ w % 4096 = 7)))
/-- The entry of a word: its frame, its rights. -/
def gF (w : Int) : Int := if gB w = true then w / 4096 else 0
def gP (w : Int) : Int := if gB w = true then w % 4096 / 2 else 0

theorem eB_yes (f p : Int) (h1 : 1 ≤ p) (h2 : p ≤ 3) (h3 : 0 ≤ f) (h4 : f < 64) : eB f p = true := decide_eq_true (by omega)
theorem eB_zero : eB 0 0 = true := rfl
theorem eB_no (f p : Int) (h : ¬ ((p = 0 ∧ f = 0) ∨ (1 ≤ p ∧ p ≤ 3 ∧ 0 ≤ f ∧ f < 64))) : eB f p = false := decide_eq_false h
theorem eN_yes (f p : Int) (h1 : 1 ≤ p) (h2 : p ≤ 3) (h3 : 0 ≤ f) (h4 : f < 64) : eN f p = 1 + 2 * p + 4096 * f := by unfold eN; rw [if_pos ⟨eB_yes f p h1 h2 h3 h4, h1⟩]
theorem eN_zero (f : Int) : eN f 0 = 0 := by unfold eN; rw [if_neg (by omega)]
theorem eN_no (f p : Int) (h : eB f p = false) : eN f p = 0 := by unfold eN; rw [if_neg (by simp [h])]

/-- A word's fields are an entry with that very word, just where it is an entry's. -/
theorem gB_fields (w : Int) : gB w = true ↔ (eB (w / 4096) (w / 2 % 4) = true ∧ eN (w / 4096) (w / 2 % 4) = w) := by
  constructor
  · intro h
    have h := of_decide_eq_true h
    rcases h with rfl | ⟨h0, h1, h2⟩
    · exact ⟨rfl, rfl⟩
    · have hp : w / 2 % 4 = w % 4096 / 2 := by omega
      rw [hp]
      refine ⟨eB_yes _ _ (by omega) (by omega) (by omega) (by omega), ?_⟩
      rw [eN_yes _ _ (by omega) (by omega) (by omega) (by omega)]
      omega
  · rintro ⟨h, hw⟩
    have h := of_decide_eq_true h
    apply decide_eq_true
    rcases h with ⟨hp, hf⟩ | ⟨h1, h2, h3, h4⟩
    · rw [hp, eN_zero] at hw
      exact .inl hw.symm
    · rw [eN_yes _ _ h1 h2 h3 h4] at hw
      right
      omega
theorem gP_eq (w : Int) (h : gB w = true) : gP w = w / 2 % 4 := by
  unfold gP
  rw [h, if_pos rfl]
  have h := of_decide_eq_true h
  omega
theorem gF_eq (w : Int) (h : gB w = true) : gF w = w / 4096 := by unfold gF; rw [h, if_pos rfl]
theorem gP_no (w : Int) (h : gB w = false) : gP w = 0 := by unfold gP; rw [h]; rfl
theorem gF_no (w : Int) (h : gB w = false) : gF w = 0 := by unfold gF; rw [h]; rfl

/-- There and back. -/
theorem g_of (f p : Int) (h1 : 1 ≤ p) (h2 : p ≤ 3) (h3 : 0 ≤ f) (h4 : f < 64) : gB (eN f p) = true ∧ gF (eN f p) = f ∧ gP (eN f p) = p := by
  rw [eN_yes f p h1 h2 h3 h4]
  have hb : gB (1 + 2 * p + 4096 * f) = true := decide_eq_true (by omega)
  refine ⟨hb, ?_, ?_⟩
  · rw [gF_eq _ hb]; omega
  · rw [gP_eq _ hb]; omega
theorem e_of (w : Int) (h : gB w = true) : eN (gF w) (gP w) = w ∧ eB (gF w) (gP w) = true := by
  have := (gB_fields w).1 h
  rw [gF_eq w h, gP_eq w h]
  exact ⟨this.2, this.1⟩

/-- The 'or' of digits that do not meet. -/
theorem orB (x y n : Nat) (h : x < 2 ^ n) (h2 : x + 2 ^ n * y < 9223372036854775808) : bits BinOp.or IntKind.i64 (x : Int) ((2 ^ n * y : Nat) : Int) = ((x + 2 ^ n * y : Nat) : Int) := by
  have hx : (BitVec.ofInt 64 (x : Int)).toNat = x := by
    rw [BitVec.ofInt_natCast, BitVec.toNat_ofNat]; exact Nat.mod_eq_of_lt (by omega)
  have hy : (BitVec.ofInt 64 ((2 ^ n * y : Nat) : Int)).toNat = 2 ^ n * y := by
    rw [BitVec.ofInt_natCast, BitVec.toNat_ofNat]; exact Nat.mod_eq_of_lt (by omega)
  have e : bits BinOp.or IntKind.i64 (x : Int) ((2 ^ n * y : Nat) : Int) = IntKind.i64.wrap ((BitVec.ofInt 64 (x : Int) ||| BitVec.ofInt 64 ((2 ^ n * y : Nat) : Int)).toNat : Int) := rfl
  rw [e, BitVec.toNat_or, hx, hy, Nat.or_comm, ← Nat.two_pow_add_eq_or_of_lt h, IntKind.wrap_i64]
  omega
/-- A mask of the lowest bits. -/
theorem maskB (x : Int) (n : Nat) (hn : n ≤ 62) : bits BinOp.and IntKind.i64 x ((2 ^ n - 1 : Nat) : Int) = x % (2 ^ n : Nat) := by
  have hm : (2 : Nat) ^ n ≤ 2 ^ 62 := Nat.pow_le_pow_right (by omega) hn
  have hp : 0 < 2 ^ n := Nat.pow_pos (by omega)
  have hy : (BitVec.ofInt 64 ((2 ^ n - 1 : Nat) : Int)).toNat = 2 ^ n - 1 := by
    rw [BitVec.ofInt_natCast, BitVec.toNat_ofNat]; exact Nat.mod_eq_of_lt (by omega)
  have e : bits BinOp.and IntKind.i64 x ((2 ^ n - 1 : Nat) : Int) = IntKind.i64.wrap ((BitVec.ofInt 64 x &&& BitVec.ofInt 64 ((2 ^ n - 1 : Nat) : Int)).toNat : Int) := rfl
  rw [e, BitVec.toNat_and, hy, Nat.and_two_pow_sub_one_eq_mod, BitVec.toNat_ofInt]
  have hd : (2 ^ 64 : Nat) = 2 ^ n * 2 ^ (64 - n) := by rw [← Nat.pow_add]; congr 1; omega
  have h1 : ((x % (2 ^ 64 : Nat)).toNat % 2 ^ n : Nat) = (x % (2 ^ n : Nat)).toNat := by
    have h0 : 0 ≤ x % ((2 ^ 64 : Nat) : Int) := Int.emod_nonneg _ (by omega)
    have h2 : 0 ≤ x % ((2 ^ n : Nat) : Int) := Int.emod_nonneg _ (by omega)
    have h3 : (x % ((2 ^ 64 : Nat) : Int)) % ((2 ^ n : Nat) : Int) = x % ((2 ^ n : Nat) : Int) := Int.emod_emod_of_dvd _ ⟨((2 ^ (64 - n) : Nat) : Int), by rw [hd]; push_cast; rfl⟩
    have : (((x % ((2 ^ 64 : Nat) : Int)).toNat % 2 ^ n : Nat) : Int) = ((x % (2 ^ n : Nat)).toNat : Int) := by
      rw [Int.natCast_emod, Int.toNat_of_nonneg h0, h3, Int.toNat_of_nonneg h2]
    omega
  rw [h1, IntKind.wrap_i64]
  have h2 : 0 ≤ x % ((2 ^ n : Nat) : Int) := Int.emod_nonneg _ (by omega)
  have h3 : x % ((2 ^ n : Nat) : Int) < ((2 ^ n : Nat) : Int) := Int.emod_lt_of_pos _ (by omega)
  rw [Int.toNat_of_nonneg h2]
  omega
/-- What Put computes. -/
theorem e_or (f p : Int) (h1 : 1 ≤ p) (h2 : p ≤ 3) (h3 : 0 ≤ f) (h4 : f < 64) : bits BinOp.or IntKind.i64 (bits BinOp.or IntKind.i64 1 (p * 2)) (f * 4096) = 1 + 2 * p + 4096 * f := by
  obtain ⟨p, rfl⟩ := Int.eq_ofNat_of_zero_le (show 0 ≤ p by omega)
  obtain ⟨f, rfl⟩ := Int.eq_ofNat_of_zero_le h3
  have a := orB 1 p 1 (by omega) (by omega)
  have b := orB (1 + 2 ^ 1 * p) f 12 (by omega) (by omega)
  rw [show ((p : Int) * 2) = ((2 ^ 1 * p : Nat) : Int) by omega, show bits BinOp.or IntKind.i64 1 ((2 ^ 1 * p : Nat) : Int) = ((1 + 2 ^ 1 * p : Nat) : Int) from a, show ((f : Int) * 4096) = ((2 ^ 12 * f : Nat) : Int) by omega, b]
  omega

end Go.Proofs.Ytggdbiniklchoaa

namespace Go.Proofs.Ytggdbiniklchoaa
open Go.RowKit
set_option linter.unusedVariables false
set_option maxRecDepth 100000

theorem emay_any (f p : Int) (w : World) :
    Calls Try.prog 58 #[.agg #[.int .i64 f, .int .i64 p]] w fun e w' => e = .returned (.bool (eB f p)) ∧ Below w.heap.size w w' := by
  by_cases hp : p = 0
  · subst hp
    by_cases hf : f = 0
    · subst hf
      rw [eB_zero]
      go_enter Try.func58, Try.ntmps58
      go_wp2
      go_ret
      exact ⟨rfl, (Below.refl _ _).alloc (Nat.le_refl _) _⟩
    · rw [eB_no f 0 (by omega)]
      have hf' : (f == 0) = false := by simpa using hf
      go_enter Try.func58, Try.ntmps58
      go_wp2
      go_ret
      exact ⟨rfl, (Below.refl _ _).alloc (Nat.le_refl _) _⟩
  · have hp' : (p == 0) = false := by simpa using hp
    by_cases h0 : 1 ≤ p
    · skip
      by_cases h1 : p ≤ 3
      · skip
        by_cases h2 : 0 ≤ f
        · skip
          by_cases h3 : f < 64
          · skip
            rw [eB_yes f p (by omega) (by omega) (by omega) (by omega)]
            go_enter Try.func58, Try.ntmps58
            go_wp2
            go_ret
            exact ⟨rfl, (Below.refl _ _).alloc (Nat.le_refl _) _⟩
          · rw [eB_no f p (by omega)]
            have g3 : 64 ≤ f := by omega
            go_enter Try.func58, Try.ntmps58
            go_wp2
            go_ret
            exact ⟨rfl, (Below.refl _ _).alloc (Nat.le_refl _) _⟩
        · rw [eB_no f p (by omega)]
          have g2 : f < 0 := by omega
          go_enter Try.func58, Try.ntmps58
          go_wp2
          go_ret
          exact ⟨rfl, (Below.refl _ _).alloc (Nat.le_refl _) _⟩
      · rw [eB_no f p (by omega)]
        have g1 : 3 < p := by omega
        go_enter Try.func58, Try.ntmps58
        go_wp2
        go_ret
        exact ⟨rfl, (Below.refl _ _).alloc (Nat.le_refl _) _⟩
    · rw [eB_no f p (by omega)]
      have g0 : p < 1 := by omega
      go_enter Try.func58, Try.ntmps58
      go_wp2
      go_ret
      exact ⟨rfl, (Below.refl _ _).alloc (Nat.le_refl _) _⟩

theorem remay_any (f p : Int) (w : World) :
    Calls Try.prog 51 #[.agg #[.int .i64 f, .int .i64 p]] w fun e w' => e = .returned (.bool (eB f p)) ∧ Below w.heap.size w w' := by
  by_cases hp : p = 0
  · subst hp
    by_cases hf : f = 0
    · subst hf
      rw [eB_zero]
      go_enter Try.func51, Try.ntmps51
      go_wp2
      go_ret
      exact ⟨rfl, (Below.refl _ _).alloc (Nat.le_refl _) _⟩
    · rw [eB_no f 0 (by omega)]
      have hf' : (f == 0) = false := by simpa using hf
      go_enter Try.func51, Try.ntmps51
      go_wp2
      go_ret
      exact ⟨rfl, (Below.refl _ _).alloc (Nat.le_refl _) _⟩
  · have hp' : (p == 0) = false := by simpa using hp
    by_cases h0 : 1 ≤ p
    · skip
      by_cases h1 : p ≤ 3
      · skip
        by_cases h2 : 0 ≤ f
        · skip
          by_cases h3 : f < 64
          · skip
            rw [eB_yes f p (by omega) (by omega) (by omega) (by omega)]
            go_enter Try.func51, Try.ntmps51
            go_wp2
            go_ret
            exact ⟨rfl, (Below.refl _ _).alloc (Nat.le_refl _) _⟩
          · rw [eB_no f p (by omega)]
            have g3 : 64 ≤ f := by omega
            go_enter Try.func51, Try.ntmps51
            go_wp2
            go_ret
            exact ⟨rfl, (Below.refl _ _).alloc (Nat.le_refl _) _⟩
        · rw [eB_no f p (by omega)]
          have g2 : f < 0 := by omega
          go_enter Try.func51, Try.ntmps51
          go_wp2
          go_ret
          exact ⟨rfl, (Below.refl _ _).alloc (Nat.le_refl _) _⟩
      · rw [eB_no f p (by omega)]
        have g1 : 3 < p := by omega
        go_enter Try.func51, Try.ntmps51
        go_wp2
        go_ret
        exact ⟨rfl, (Below.refl _ _).alloc (Nat.le_refl _) _⟩
    · rw [eB_no f p (by omega)]
      have g0 : p < 1 := by omega
      go_enter Try.func51, Try.ntmps51
      go_wp2
      go_ret
      exact ⟨rfl, (Below.refl _ _).alloc (Nat.le_refl _) _⟩

end Go.Proofs.Ytggdbiniklchoaa

namespace Go.Proofs.Ytggdbiniklchoaa
open Go.RowKit
set_option linter.unusedVariables false
set_option maxRecDepth 100000

theorem below_alloc {w w1 : World} {o : Obj} (h : Below (w.alloc o).heap.size (w.alloc o) w1) : Below w.heap.size w w1 := ((Below.refl _ _).alloc (Nat.le_refl _) o).trans (h.mono (by simp))
theorem errno_no (n : Int) (h : n ≠ 0) : (n != 0) = true := by simpa using h

theorem eput_any (f p : Int) (w : World) :
    Calls Try.prog 40 #[.agg #[.int .i64 f, .int .i64 p]] w fun e w' => e = .returned (.tuple #[.int .i64 (eN f p), .int .i64 (e4 (eB f p))]) ∧ Below w.heap.size w w' := by
  by_cases hb : eB f p = true
  · rw [hb]
    have HB := Lib.hid hb
    have hb := of_decide_eq_true hb
    by_cases hp : p = 0
    · subst hp
      rw [eN_zero]
      clear hb
      go_enter Try.func40, Try.ntmps40
      go_wp2_with fail
      refine (emay_any _ _ _).mono ?_
      rintro e w1 ⟨rfl, b1⟩
      rw [HB.out]
      have hc := b1.cell (p := ⟨w.heap.size, 0, none⟩) (by simp)
      have hc1 := b1.cell (p := ⟨w.heap.size, 1, none⟩) (by simp)
      go_wp2
      go_ret2
      exact ⟨rfl, below_alloc b1⟩
    · have h1 : 1 ≤ p := by omega
      have h2 : p ≤ 3 := by omega
      have h3 : 0 ≤ f := by omega
      have h4 : f < 64 := by omega
      have hp' : (p == 0) = false := by simpa using hp
      clear hb hp
      have HN := Lib.hid (eN_yes f p h1 h2 h3 h4)
      have HO := Lib.hid (e_or f p h1 h2 h3 h4)
      go_enter Try.func40, Try.ntmps40
      go_wp2_with fail
      refine (emay_any _ _ _).mono ?_
      rintro e w1 ⟨rfl, b1⟩
      rw [HB.out]
      have hc := b1.cell (p := ⟨w.heap.size, 0, none⟩) (by simp)
      have hc1 := b1.cell (p := ⟨w.heap.size, 1, none⟩) (by simp)
      go_wp2
      go_ret2
      exact ⟨by rw [HN.out, ← HO.out]; rfl, below_alloc b1⟩
  · have hb : eB f p = false := by simpa using hb
    rw [eN_no f p hb, hb]
    have HB := Lib.hid hb; clear hb
    go_enter Try.func40, Try.ntmps40
    go_wp2_with fail
    refine (emay_any _ _ _).mono ?_
    rintro e w1 ⟨rfl, b1⟩
    rw [HB.out]
    go_wp2
    go_ret2
    exact ⟨rfl, below_alloc b1⟩

theorem fields_any (x : Int) (w : World) :
    Calls Try.prog 77 #[.int .i64 x] w fun e w' => e = .returned (.agg #[.int .i64 (x / 4096), .int .i64 (x / 2 % 4)]) ∧ Below w.heap.size w w' := by
  have hm : bits BinOp.and IntKind.i64 (x / 2) 3 = x / 2 % 4 := maskB (x / 2) 2 (by omega)
  go_enter Try.func77, Try.ntmps77
  go_wp2
  exact bodyPost_ret (v := .agg #[.int .i64 (x / 4096), .int .i64 (x / 2 % 4)]) (by simp [results, Try.results77, go_sem]) rfl ⟨rfl, (Below.refl _ _).alloc (Nat.le_refl _) _⟩

/-- What Get answers of a word. -/
def getV (x : Int) : Value := .tuple #[.agg #[.int .i64 (gF x), .int .i64 (gP x)], .int .i64 (e4 (gB x))]

theorem get_parts (x : Int) : (gB x = true ∧ eB (x / 4096) (x / 2 % 4) = true ∧ eN (x / 4096) (x / 2 % 4) = x) ∨ (gB x = false ∧ eB (x / 4096) (x / 2 % 4) = false) ∨ (gB x = false ∧ eB (x / 4096) (x / 2 % 4) = true ∧ (eN (x / 4096) (x / 2 % 4) != x) = true) := by
  by_cases h : gB x = true
  · exact .inl ⟨h, (gB_fields x).1 h⟩
  · have h' : gB x = false := by simpa using h
    by_cases hb : eB (x / 4096) (x / 2 % 4) = true
    · refine .inr (.inr ⟨h', hb, ?_⟩)
      simp only [bne_iff_ne]
      intro he
      exact h ((gB_fields x).2 ⟨hb, he⟩)
    · exact .inr (.inl ⟨h', by simpa using hb⟩)

/-- A block of an entry's two numbers, as the walk asks for it. -/
theorem two_at {w : World} {g : Nat} {t : TypeId} {x y : Value} (h : Blk w g t [x, y]) : w.cell? ⟨g, 0, none⟩ = some x ∧ w.cell? ⟨g, 1, none⟩ = some y ∧ w.frozen? ⟨g, 0, none⟩ = false ∧ w.frozen? ⟨g, 1, none⟩ = false :=
  ⟨h.cell 0, h.cell 1, h.frozen 0, h.frozen 1⟩

set_option maxHeartbeats 1000000 in
theorem eget_any (x : Int) (w : World) :
    Calls Try.prog 62 #[.int .i64 x] w fun e w' => e = .returned (getV x) ∧ Below w.heap.size w w' := by
  have hq := get_parts x
  generalize hF : x / 4096 = F at *
  generalize hP : x / 2 % 4 = P at *
  have HF := Lib.hid hF; have HP := Lib.hid hP; clear hF hP
  have t0 := Blk.new w 46 [.int .i64 0, .int .i64 0]
  have HV : Hid ((gB x = true ∧ getV x = .tuple #[.agg #[.int .i64 F, .int .i64 P], .int .i64 0]) ∨ (gB x = false ∧ getV x = .tuple #[.agg #[.int .i64 0, .int .i64 0], .int .i64 400])) := by
    apply Lib.hid
    unfold getV
    rcases hq with ⟨hg, _⟩ | ⟨hg, _⟩ | ⟨hg, _⟩
    · left; rw [gF_eq x hg, gP_eq x hg, hg, HF.out, HP.out]; exact ⟨rfl, rfl⟩
    · right; rw [gF_no x hg, gP_no x hg, hg]; exact ⟨rfl, rfl⟩
    · right; rw [gF_no x hg, gP_no x hg, hg]; exact ⟨rfl, rfl⟩
  have HQ := Lib.hid hq; clear hq
  go_enter Try.func62, Try.ntmps62
  go_wp2_with fail
  refine (fields_any _ _).mono ?_
  rintro e w1 ⟨rfl, b1⟩
  rw [HF.out, HP.out]
  have hs1 := b1.size
  have t1 := (t0.below b1 t0.lt).alloc (.cells #[.int .i64 F, .int .i64 P] 46)
  have c1 := Blk.new w1 46 [.int .i64 F, .int .i64 P]
  go_wp2_with fail
  refine (eput_any _ _ _).mono ?_
  rintro e w2 ⟨rfl, b2⟩
  have t2 := two_at (t1.below b2 t1.lt)
  have c2 := two_at (c1.below b2 c1.lt)
  have hb : Below w.heap.size w w2 := (below_alloc b1).trans ((below_alloc b2).mono (by simp at hs1; omega))
  obtain ⟨t20, t21, t2f, t2g⟩ := t2
  obtain ⟨c20, c21, _, _⟩ := c2
  have hne : w1.heap.size ≠ w.heap.size := by simp at hs1; omega
  clear t0 t1 c1 b1 b2 hs1
  rcases HQ.out with ⟨hg, hb1, hn⟩ | ⟨hg, hb1⟩ | ⟨hg, hb1, hn⟩
  · rw [hb1, hn, show e4 true = 0 from rfl]
    have HV' : Hid (getV x = .tuple #[.agg #[.int .i64 F, .int .i64 P], .int .i64 0]) := by
      apply Lib.hid
      rcases HV.out with ⟨_, h⟩ | ⟨h, _⟩
      · exact h
      · rw [hg] at h; cases h
    clear hb1 hn hg
    go_wp2_with fail
    exact bodyPost_ret (v := .tuple #[.agg #[.int .i64 F, .int .i64 P], .int .i64 0]) (by simp [results, Try.results62, go_sem, t20, t21]) rfl ⟨by rw [HV'.out], (hb.setCell (Nat.le_refl _) _).setCell (Nat.le_refl _) _⟩
  · have HV' : Hid (getV x = .tuple #[.agg #[.int .i64 0, .int .i64 0], .int .i64 400]) := by
      apply Lib.hid
      rcases HV.out with ⟨h, _⟩ | ⟨_, h⟩
      · rw [hg] at h; cases h
      · exact h
    rw [hb1, show e4 false = 400 from rfl]
    clear hb1 hg
    go_wp2_with fail
    exact bodyPost_ret (v := .tuple #[.agg #[.int .i64 0, .int .i64 0], .int .i64 400]) (by simp [results, Try.results62, go_sem, t20, t21]) rfl ⟨by rw [HV'.out], (hb.setCell (Nat.le_refl _) _).setCell (Nat.le_refl _) _⟩
  · have HV' : Hid (getV x = .tuple #[.agg #[.int .i64 0, .int .i64 0], .int .i64 400]) := by
      apply Lib.hid
      rcases HV.out with ⟨h, _⟩ | ⟨_, h⟩
      · rw [hg] at h; cases h
      · exact h
    rw [hb1, show e4 true = 0 from rfl]
    clear hb1 hg
    go_wp2_with fail
    exact bodyPost_ret (v := .tuple #[.agg #[.int .i64 0, .int .i64 0], .int .i64 400]) (by simp [results, Try.results62, go_sem, t20, t21]) rfl ⟨by rw [HV'.out], (hb.setCell (Nat.le_refl _) _).setCell (Nat.le_refl _) _⟩

end Go.Proofs.Ytggdbiniklchoaa

namespace Go.Proofs.Ytggdbiniklchoaa
open Go.RowKit
set_option linter.unusedVariables false
set_option maxRecDepth 100000

theorem reput_any (f p : Int) (w : World) :
    Calls Try.prog 54 #[.agg #[.int .i64 f, .int .i64 p]] w fun e w' => e = .returned (.tuple #[.int .i64 (eN f p), .int .i64 (e4 (eB f p))]) ∧ Below w.heap.size w w' := by
  by_cases hb : eB f p = true
  · rw [hb]
    have HB := Lib.hid hb
    have hb := of_decide_eq_true hb
    by_cases hp : p = 0
    · subst hp
      rw [eN_zero]
      clear hb
      go_enter Try.func54, Try.ntmps54
      go_wp2_with fail
      refine (remay_any _ _ _).mono ?_
      rintro e w1 ⟨rfl, b1⟩
      rw [HB.out]
      have hc := b1.cell (p := ⟨w.heap.size, 0, none⟩) (by simp)
      have hc1 := b1.cell (p := ⟨w.heap.size, 1, none⟩) (by simp)
      go_wp2
      go_ret2
      exact ⟨rfl, below_alloc b1⟩
    · have h1 : 1 ≤ p := by omega
      have h2 : p ≤ 3 := by omega
      have h3 : 0 ≤ f := by omega
      have h4 : f < 64 := by omega
      have hp' : (p == 0) = false := by simpa using hp
      clear hb hp
      have HN := Lib.hid (eN_yes f p h1 h2 h3 h4)
      go_enter Try.func54, Try.ntmps54
      go_wp2_with fail
      refine (remay_any _ _ _).mono ?_
      rintro e w1 ⟨rfl, b1⟩
      rw [HB.out]
      have hc := b1.cell (p := ⟨w.heap.size, 0, none⟩) (by simp)
      have hc1 := b1.cell (p := ⟨w.heap.size, 1, none⟩) (by simp)
      go_wp2
      go_ret2
      exact ⟨by rw [HN.out]; rfl, below_alloc b1⟩
  · have hb : eB f p = false := by simpa using hb
    rw [eN_no f p hb, hb]
    have HB := Lib.hid hb; clear hb
    go_enter Try.func54, Try.ntmps54
    go_wp2_with fail
    refine (remay_any _ _ _).mono ?_
    rintro e w1 ⟨rfl, b1⟩
    rw [HB.out]
    go_wp2
    go_ret2
    exact ⟨rfl, below_alloc b1⟩

theorem regetz (w : World) :
    Calls Try.prog 86 #[.int .i64 0] w fun e w' => e = .returned (getV 0) ∧ Below w.heap.size w w' := by
  go_enter Try.func86, Try.ntmps86
  go_wp2
  exact bodyPost_ret (v := .tuple #[.agg #[.int .i64 0, .int .i64 0], .int .i64 0]) (by simp [results, Try.results86, go_sem]) rfl ⟨rfl, (Below.refl _ _).alloc (Nat.le_refl _) _⟩

set_option maxHeartbeats 1000000 in
theorem reget_any (x : Int) (w : World) :
    Calls Try.prog 86 #[.int .i64 x] w fun e w' => e = .returned (getV x) ∧ Below w.heap.size w w' := by
  by_cases hx : x = 0
  · subst hx; exact regetz w
  have hx0 : (x == 0) = false := by simpa using hx
  have hq := get_parts x
  have hm : bits BinOp.and IntKind.i64 (x / 2) 3 = x / 2 % 4 := maskB (x / 2) 2 (by omega)
  generalize hF : x / 4096 = F at *
  generalize hP : x / 2 % 4 = P at *
  have HF := Lib.hid hF; have HP := Lib.hid hP
  have t0 := Blk.new w 46 [.int .i64 0, .int .i64 0]
  have HX : Hid (gB x = true → 0 ≤ x) := Lib.hid (fun h => by have := of_decide_eq_true h; omega)
  have HV : Hid ((gB x = true ∧ getV x = .tuple #[.agg #[.int .i64 F, .int .i64 P], .int .i64 0]) ∨ (gB x = false ∧ getV x = .tuple #[.agg #[.int .i64 0, .int .i64 0], .int .i64 400])) := by
    apply Lib.hid
    unfold getV
    rcases hq with ⟨hg, _⟩ | ⟨hg, _⟩ | ⟨hg, _⟩
    · left; rw [gF_eq x hg, gP_eq x hg, hg, HF.out, HP.out]; exact ⟨rfl, rfl⟩
    · right; rw [gF_no x hg, gP_no x hg, hg]; exact ⟨rfl, rfl⟩
    · right; rw [gF_no x hg, gP_no x hg, hg]; exact ⟨rfl, rfl⟩
  have HQ := Lib.hid hq; clear hq hP hx
  go_enter Try.func86, Try.ntmps86
  go_wp2_with fail
  clear hm hF
  have c1 := Blk.new (w.alloc (.cells #[.int .i64 0, .int .i64 0] 46)) 46 [.int .i64 F, .int .i64 P]
  have t1 := t0.alloc (.cells #[.int .i64 F, .int .i64 P] 46)
  refine (reput_any _ _ _).mono ?_
  rintro e w2 ⟨rfl, b2⟩
  have t2 := two_at (t1.below b2 t1.lt)
  have c2 := two_at (c1.below b2 c1.lt)
  have hb : Below w.heap.size w w2 := (((Below.refl _ _).alloc (Nat.le_refl _) _).alloc (by simp) _).trans (b2.mono (by simp; omega))
  obtain ⟨t20, t21, t2f, t2g⟩ := t2
  obtain ⟨c20, c21, _, _⟩ := c2
  have hsz : (w.alloc (.cells #[.int .i64 0, .int .i64 0] 46)).heap.size = w.heap.size + 1 := by simp
  rw [hsz] at c20 c21
  clear t0 t1 c1 b2 hsz
  rcases HQ.out with ⟨hg, hb1, hn⟩ | ⟨hg, hb1⟩ | ⟨hg, hb1, hn⟩
  · rw [hb1, hn, show e4 true = 0 from rfl]
    have hx := HX.out hg
    have HV' : Hid (getV x = .tuple #[.agg #[.int .i64 F, .int .i64 P], .int .i64 0]) := by
      apply Lib.hid
      rcases HV.out with ⟨_, h⟩ | ⟨h, _⟩
      · exact h
      · rw [hg] at h; cases h
    clear hb1 hn hg
    go_wp2_with fail
    exact bodyPost_ret (v := .tuple #[.agg #[.int .i64 F, .int .i64 P], .int .i64 0]) (by simp [results, Try.results86, go_sem, t20, t21]) rfl ⟨by rw [HV'.out], (hb.setCell (Nat.le_refl _) _).setCell (Nat.le_refl _) _⟩
  all_goals
    have HV' : Hid (getV x = .tuple #[.agg #[.int .i64 0, .int .i64 0], .int .i64 400]) := by
      apply Lib.hid
      rcases HV.out with ⟨h, _⟩ | ⟨_, h⟩
      · rw [hg] at h; cases h
      · exact h
    rw [hb1]
    first | rw [show e4 true = 0 from rfl] | rw [show e4 false = 400 from rfl]
    clear hb1 hg
    by_cases hx : x < 0
    all_goals
      go_wp2_with fail
      exact bodyPost_ret (v := .tuple #[.agg #[.int .i64 0, .int .i64 0], .int .i64 400]) (by simp [results, Try.results86, go_sem, t20, t21]) rfl ⟨by rw [HV'.out], (hb.setCell (Nat.le_refl _) _).setCell (Nat.le_refl _) _⟩

end Go.Proofs.Ytggdbiniklchoaa

namespace Go.Proofs.Ytggdbiniklchoaa
open Go.RowKit
set_option linter.unusedVariables false
set_option maxRecDepth 100000

theorem eput_is (f p n c : Int) (w : World) (hn : eN f p = n) (hc : e4 (eB f p) = c) :
    Calls Try.prog 40 #[.agg #[.int .i64 f, .int .i64 p]] w fun e w' => e = .returned (.tuple #[.int .i64 n, .int .i64 c]) ∧ Below w.heap.size w w' := by
  subst hn hc; exact eput_any f p w
theorem eget_is (x f p c : Int) (w : World) (hf : gF x = f) (hp : gP x = p) (hc : e4 (gB x) = c) :
    Calls Try.prog 62 #[.int .i64 x] w fun e w' => e = .returned (.tuple #[.agg #[.int .i64 f, .int .i64 p], .int .i64 c]) ∧ Below w.heap.size w w' := by
  subst hf hp hc; exact eget_any x w
theorem emay_is (f p : Int) (b : Bool) (w : World) (hb : eB f p = b) :
    Calls Try.prog 58 #[.agg #[.int .i64 f, .int .i64 p]] w fun e w' => e = .returned (.bool b) ∧ Below w.heap.size w w' := by
  subst hb; exact emay_any f p w

end Go.Proofs.Ytggdbiniklchoaa
