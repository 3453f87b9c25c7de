/-
  Plain words for the console: what each command tells; what a script tells. No Go function here.
-/
import Derived.Test.YtobpggpjboonfaaDoorCn0
import Derived.Test.YtobpggpjboonfaaDoorPlain
import Derived.Test.YtobpggpjboonfaaDoorPte0
import Derived.Test.YtobpggpjboonfaaDoorLat0
import Derived.Test.YtobpggpjboonfaaDoorSch0
namespace Go.Proofs.YtobpggpjboonfaaDoor
open Go.Lib
set_option linter.unusedVariables false
set_option linter.unusedSimpArgs false
set_option maxRecDepth 100000

/-! ### numerals that the kernel reckons -/
def dcF : Nat → Nat → List UInt8
  | 0, _ => []
  | f + 1, u => if u < 10 then [UInt8.ofNat (48 + u)] else dcF f (u / 10) ++ [UInt8.ofNat (48 + u % 10)]
theorem dcF_eq (f : Nat) : ∀ u, u < 10 ^ f → 0 < f → dcF f u = decDigits u := by
  induction f with
  | zero => intro u _ h; omega
  | succ f ih =>
    intro u hu _
    rw [decDigits, dcF]
    split
    · rfl
    · rename_i h
      rw [Nat.pow_succ] at hu
      have hf : 0 < f := by
        rcases Nat.eq_zero_or_pos f with h0 | h0
        · subst h0; simp at hu; omega
        · exact h0
      rw [ih (u / 10) (by omega) hf]
/-- A number's numeral. -/
def dcm (n : Int) : List UInt8 := if n < 0 then 45 :: dcF 19 n.natAbs else dcF 19 n.toNat
theorem dcm_eq (n : Int) (h0 : -9223372036854775808 ≤ n) (h1 : n ≤ 9223372036854775807) : itoa n = dcm n := by
  unfold itoa dcm
  split
  · rw [dcF_eq 19 _ (by omega) (by omega)]
  · rw [dcF_eq 19 _ (by omega) (by omega)]
theorem dcm_nat (u : Nat) (h : u < 1000000000) : dcm (u : Int) = decDigits u := by
  unfold dcm
  rw [if_neg (by omega), Int.toNat_natCast, dcF_eq 19 _ (by omega) (by omega)]
theorem dcF_len (f : Nat) : ∀ u, (dcF f u).length ≤ f := by
  induction f with
  | zero => intro u; simp [dcF]
  | succ f ih =>
    intro u
    rw [dcF]
    split
    · simp
    · have := ih (u / 10)
      simp only [List.length_append, List.length_cons, List.length_nil]; omega
theorem dcm_len (n : Int) : (dcm n).length ≤ 20 := by
  unfold dcm
  split
  · have := dcF_len 19 n.natAbs; simp only [List.length_cons]; omega
  · have := dcF_len 19 n.toNat; omega

/-! ### what a command tells -/
def sp : UInt8 := 32
/-- Behind the first of some texts: each with a blank ahead. -/
def tlS : List (List UInt8) → List UInt8
  | [] => []
  | t :: ts => 32 :: t ++ tlS ts
/-- Texts with blanks between. -/
def jnS : List (List UInt8) → List UInt8
  | [] => []
  | t :: ts => t ++ tlS ts
theorem jnS_eq (ts : List (List UInt8)) : join ts [32] = jnS ts := by
  have key : ∀ ts : List (List UInt8), joinTail [32] ts = tlS ts := by
    intro ts
    induction ts with
    | nil => rfl
    | cons t ts ih => rw [tlS, ← ih]; simp [joinTail]
  cases ts with
  | nil => rfl
  | cons t ts => rw [join_cons, jnS, key]
/-- Numbers with blanks between. -/
def rwS (xs : List Int) : List UInt8 := jnS (xs.map dcm)
/-- 'error ' and a number. -/
def erS (e : Int) : List UInt8 := [101, 114, 114, 111, 114, 32] ++ dcm e
/-- What an answer tells. -/
def otS (x : List UInt8 × Int) : List UInt8 := if x.2 = 0 then x.1 else erS x.2
/-- May a run be split? -/
def spB (a n : Int) : Bool := decide (0 ≤ a ∧ 0 ≤ n ∧ a ≤ 4096 ∧ n ≤ 4096 - a)
/-- Pieces' numbers. -/
def fnS (l : List (Nat × Nat × Nat)) : List Int := l.flatMap fun p => [(p.1 : Int), (p.2.1 : Int), (p.2.2 : Int)]
def yesS (b : Bool) : List UInt8 := if b then [121, 101, 115] else [110, 111]
def spS (a n : Int) : List UInt8 × Int := if spB a n then (rwS (fnS (spl a.toNat n.toNat)), 0) else ([], 100)
def enS (f p : Int) : List UInt8 × Int := (rwS [eN f p], e4 (eB f p))
def wdS (x : Int) : List UInt8 × Int := (rwS [gF x, gP x], e4 (gB x))
def ovS (l c l' c' : Int) : List UInt8 × Int := (yesS (lD l c l' c'), 0)
def nxS (m s l d t : Int) : List UInt8 × Int := (rwS [nxtN [⟨0, s, l, d⟩] m 0 t], nxtC [⟨0, s, l, d⟩] m 0 t)
/-- The commands' words, and how many numbers stand behind each. -/
def cmW : Nat → List UInt8
  | 0 => [115, 112, 108, 105, 116]
  | 1 => [101, 110, 116, 114, 121]
  | 2 => [119, 111, 114, 100]
  | 3 => [111, 118, 101, 114]
  | _ => [110, 101, 120, 116]
def cmN : Nat → Nat
  | 0 => 2
  | 1 => 2
  | 2 => 1
  | 3 => 4
  | _ => 5
def tlC : Nat → List Int → List UInt8 × Int
  | 0, [a, b] => spS a b
  | 1, [a, b] => enS a b
  | 2, [a] => wdS a
  | 3, [a, b, c, d] => ovS a b c d
  | 4, [a, b, c, d, e] => nxS a b c d e
  | _, _ => ([], 2500)
/-- Does a line call the k-th command? -/
def isC (w : List UInt8) (n k : Nat) : Bool := decide (w = cmW k) && decide (n = cmN k)
/-- Which one it calls, from the k-th of f on. -/
def cmF (w : List UInt8) (n : Nat) : Nat → Nat → Option Nat
  | 0, _ => none
  | f + 1, k => if isC w n k then some k else cmF w n f (k + 1)
/-- What the words of a line are answered. -/
def asS (ws : List (List UInt8)) : List UInt8 × Int :=
  match ws with
  | [] => ([], 2500)
  | w :: r => match cmF w r.length 5 0 with
    | none => ([], 2500)
    | some k => match numsS r with
      | none => ([], 2500)
      | some xs => tlC k xs
/-- Do words tell a line? -/
def syS (ws : List (List UInt8)) : Bool := match ws with
  | [] => false
  | w :: _ => !hasPrefix w [35]
/-- What a line tells. -/
def lnS (t : List UInt8) : List UInt8 := if syS (fld [] t) then otS (asS (fld [] t)) ++ [10] else []
/-- What a script tells. -/
def rnS (t : List UInt8) : List UInt8 := (lns10 [] t).flatMap lnS

theorem rnS_app (a b : List UInt8) : rnS (a ++ 10 :: b) = rnS a ++ rnS b := by unfold rnS; rw [lns10_app, List.flatMap_append]
theorem rnS_nil : rnS [] = [] := rfl
theorem rnS_lf (a : List UInt8) : rnS (a ++ [10]) = rnS a := by rw [rnS_app, rnS_nil, List.append_nil]
theorem rnS_line (t : List UInt8) (h : ∀ c ∈ t, c ≠ 10) : rnS t = lnS t := by unfold rnS; rw [lns10_one t h]; simp

/-- A script of ten lines. -/
theorem rn_awake : rnS [115, 112, 108, 105, 116, 32, 54, 48, 32, 49, 48, 10, 35, 32, 120, 10, 10, 101, 110, 116, 114, 121, 32, 53, 32, 50, 10, 119, 111, 114, 100, 32, 50, 48, 52, 56, 53, 10, 111, 118, 101, 114, 32, 50, 32, 53, 32, 49, 32, 52, 10, 110, 101, 120, 116, 32, 54, 32, 50, 32, 51, 32, 51, 32, 52, 10, 102, 114, 111, 98, 10, 101, 110, 116, 114, 121, 32, 53, 32, 48, 10, 115, 112, 108, 105, 116, 32, 53, 32, 48]
    = [48, 32, 54, 48, 32, 52, 32, 49, 32, 48, 32, 54, 10, 50, 48, 52, 56, 53, 10, 53, 32, 50, 10, 121, 101, 115, 10, 57, 10, 101, 114, 114, 111, 114, 32, 50, 53, 48, 48, 10, 101, 114, 114, 111, 114, 32, 52, 48, 48, 10, 10] := by decide +kernel

end Go.Proofs.YtobpggpjboonfaaDoor
