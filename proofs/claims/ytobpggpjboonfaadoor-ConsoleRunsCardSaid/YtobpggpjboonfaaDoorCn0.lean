/-
  Plain words for the console: words of a line, lines of a script, numbers, what each line tells. No Go here.
-/
import Derived.Lib.FieldsP
import Derived.Lib.SplitLaws
import Derived.Lib.FieldsLaws
import Derived.Lib.Join
import Derived.Lib.ItoaNum
namespace Go.Proofs.YtobpggpjboonfaaDoor
open Go.Lib
set_option linter.unusedVariables false
set_option linter.unusedSimpArgs false
set_option maxRecDepth 100000

/-! ### words of a line -/
/-- Is a byte a blank? Is a rune one? -/
def isB (c : UInt8) : Bool := c == 32 || c == 9
def isR (x : Nat) : Bool := x == 32 || x == 9
/-- The words of a line, the first bytes of one of them in hand. -/
def fld : List UInt8 → List UInt8 → List (List UInt8)
  | cur, [] => if cur = [] then [] else [cur]
  | cur, c :: l => if isB c then (if cur = [] then fld [] l else cur :: fld [] l) else fld (cur ++ [c]) l

theorem fld_nil (cur : List UInt8) : fld cur [] = if cur = [] then [] else [cur] := by unfold fld; rfl
theorem fld_blank (cur : List UInt8) (c : UInt8) (l : List UInt8) (h : isB c = true) : fld cur (c :: l) = if cur = [] then fld [] l else cur :: fld [] l := by
  rw [fld, if_pos h]
theorem fld_byte (cur : List UInt8) (c : UInt8) (l : List UInt8) (h : isB c = false) : fld cur (c :: l) = fld (cur ++ [c]) l := by
  rw [fld, if_neg (by simp [h])]
theorem fld_skip (t l : List UInt8) : ∀ cur, (∀ c ∈ t, isB c = false) → fld cur (t ++ l) = fld (cur ++ t) l := by
  induction t with
  | nil => intro cur _; simp
  | cons c t ih =>
    intro cur h
    rw [List.cons_append, fld_byte _ _ _ (h c (by simp)), ih _ (fun x hx => h x (by simp [hx]))]
    simp
/-- A word, a blank, more. -/
theorem fld_word (t : List UInt8) (c : UInt8) (l : List UInt8) (ht : ∀ x ∈ t, isB x = false) (hn : t ≠ []) (hc : isB c = true) : fld [] (t ++ c :: l) = t :: fld [] l := by
  rw [fld_skip _ _ _ ht, List.nil_append, fld_blank _ _ _ hc, if_neg hn]
theorem fld_last (t : List UInt8) (ht : ∀ x ∈ t, isB x = false) (hn : t ≠ []) : fld [] t = [t] := by
  have := fld_skip t [] [] ht
  rw [List.append_nil, List.nil_append] at this
  rw [this, fld_nil, if_neg hn]

set_option maxHeartbeats 2000000 in
theorem dec_fact (n b0 b1 b2 b3 : Nat) (hb : b0 < 256) (h1 : b1 < 256) (h2 : b2 < 256) (h3 : b3 < 256) :
    (isR (decodeN n b0 b1 b2 b3).1 = true → (b0 = 32 ∨ b0 = 9) ∧ (decodeN n b0 b1 b2 b3).2 = 1) ∧
    (isR (decodeN n b0 b1 b2 b3).1 = false → b0 ≠ 32 ∧ b0 ≠ 9 ∧ (2 ≤ (decodeN n b0 b1 b2 b3).2 → 128 ≤ b1) ∧ (3 ≤ (decodeN n b0 b1 b2 b3).2 → 128 ≤ b2) ∧ (4 ≤ (decodeN n b0 b1 b2 b3).2 → 128 ≤ b3)) ∧ (decodeN n b0 b1 b2 b3).2 ≤ 4 := by
  have e1 : ∀ x, isR x = true ↔ (x = 32 ∨ x = 9) := fun x => by simp [isR]
  have e2 : ∀ x, isR x = false ↔ (x ≠ 32 ∧ x ≠ 9) := fun x => by simp [isR]
  rw [e1, e2]
  unfold decodeN
  repeat' split
  all_goals
    dsimp only
    omega

theorem get_at (s : ByteArray) (i : Nat) (h : i < s.size) : ∃ c, s.data.toList[i]? = some c ∧ (s.get! i) = c := by
  have h2 : i < s.data.toList.length := by rw [← size_eq]; exact h
  have h3 : i < s.data.size := by simpa using h2
  refine ⟨s.data.toList[i], List.getElem?_eq_getElem h2, ?_⟩
  show s.data[i]! = _
  rw [getElem!_pos s.data i h3]
  simp

theorem get_lt (s : ByteArray) (i : Nat) : (s.get! i).toNat < 256 := (s.get! i).toNat_lt

theorem not_blank {c : UInt8} (h1 : c.toNat ≠ 32) (h2 : c.toNat ≠ 9) : isB c = false := by
  simp only [isB, Bool.or_eq_false_iff, beq_eq_false_iff_ne]
  exact ⟨fun e => h1 (by rw [e]; rfl), fun e => h2 (by rw [e]; rfl)⟩
theorem is_blank {c : UInt8} (h : c.toNat = 32 ∨ c.toNat = 9) : isB c = true := by
  simp only [isB, Bool.or_eq_true, beq_iff_eq]
  rcases h with h | h
  · exact .inl (UInt8.toNat_inj.1 h)
  · exact .inr (UInt8.toNat_inj.1 h)

/-- One rune on. -/
theorem fld_rune (s : ByteArray) (pos : Nat) (hlt : pos < s.size) (cur : List UInt8) :
    (isR (Utf8.decode s pos).1 = true → (Utf8.decode s pos).2 = 1 ∧ fld cur (s.data.toList.drop pos) = if cur = [] then fld [] (s.data.toList.drop (pos + 1)) else cur :: fld [] (s.data.toList.drop (pos + 1))) ∧
    (isR (Utf8.decode s pos).1 = false → fld cur (s.data.toList.drop pos) = fld (cur ++ (s.data.toList.drop pos).take (Utf8.decode s pos).2) (s.data.toList.drop (pos + (Utf8.decode s pos).2))) := by
  have f := dec_fact (s.size - pos) (s.get! pos).toNat (s.get! (pos + 1)).toNat (s.get! (pos + 2)).toNat (s.get! (pos + 3)).toNat (get_lt _ _) (get_lt _ _) (get_lt _ _) (get_lt _ _)
  rw [← decode_at] at f
  obtain ⟨f1, f2, f3⟩ := f
  have hwn : pos + (Utf8.decode s pos).2 ≤ s.size := by
    have := decodeN_le_n' (s.size - pos) (s.get! pos).toNat (s.get! (pos + 1)).toNat (s.get! (pos + 2)).toNat (s.get! (pos + 3)).toNat (by omega)
    rw [← decode_at] at this
    omega
  generalize hk : (Utf8.decode s pos).2 = k at *
  generalize hr : (Utf8.decode s pos).1 = r at *
  refine ⟨fun h => ?_, fun h => ?_⟩
  · obtain ⟨h0, h1⟩ := f1 h
    subst h1
    refine ⟨rfl, ?_⟩
    obtain ⟨c, hc, he⟩ := get_at s pos hlt
    rw [he] at h0
    rw [drop_at hc, fld_blank _ _ _ (is_blank h0)]
  · obtain ⟨a0, a1, a2, a3, a4⟩ := f2 h
    have e : s.data.toList.drop pos = (s.data.toList.drop pos).take k ++ s.data.toList.drop (pos + k) := by
      rw [← List.drop_drop, List.take_append_drop]
    conv => lhs; rw [e]
    refine fld_skip _ _ _ (fun c hc => ?_)
    obtain ⟨j, hj⟩ := List.mem_iff_getElem?.1 hc
    rw [List.getElem?_take] at hj
    split at hj
    case isFalse => cases hj
    case isTrue hjk =>
      rw [List.getElem?_drop] at hj
      obtain ⟨c', hc', he'⟩ := get_at s (pos + j) (by omega)
      rw [hj] at hc'
      injection hc' with hc'
      rw [← hc'] at he'
      have hcn : (s.get! (pos + j)).toNat = c.toNat := by rw [he']
      have : c.toNat ≠ 32 ∧ c.toNat ≠ 9 := by
        rw [← hcn]
        rcases j with _ | _ | _ | _ | j
        · exact ⟨a0, a1⟩
        · have := a2 (by omega); rw [show pos + (0 + 1) = pos + 1 from rfl]; omega
        · have := a3 (by omega); rw [show pos + (0 + 1 + 1) = pos + 2 from rfl]; omega
        · have := a4 (by omega); rw [show pos + (0 + 1 + 1 + 1) = pos + 3 from rfl]; omega
        · omega
      exact not_blank this.1 this.2

theorem spansB_eq (s : ByteArray) : ∀ (f pos : Nat) (st : Option Nat) (acc : List (Nat × Nat)), s.size ≤ pos + f → pos ≤ s.size → (∀ a, st = some a → a < pos) →
    acc.map (fun p => pieceU s.data.toList p.1 p.2) ++ fld (openPiece s.data.toList st pos) (s.data.toList.drop pos) = (closeSpans s (spansFromP isR s f pos st acc)).map (fun p => pieceU s.data.toList p.1 p.2) := by
  have done : ∀ (f : Nat) (st : Option Nat) (acc : List (Nat × Nat)), (∀ a, st = some a → a < s.size) →
      acc.map (fun p => pieceU s.data.toList p.1 p.2) ++ fld (openPiece s.data.toList st s.size) (s.data.toList.drop s.size) = (closeSpans s (spansFromP isR s f s.size st acc)).map (fun p => pieceU s.data.toList p.1 p.2) := by
    intro f st acc hst
    have hd : s.data.toList.drop s.size = [] := List.drop_eq_nil_of_le (by rw [← size_eq]; exact Nat.le_refl _)
    rw [hd, fld_nil, spansFromP_end _ s _ _ _ _ (by omega)]
    cases st with
    | none => simp [closeSpans, openPiece]
    | some a =>
      have := pieceU_ne s.data.toList a s.size (hst a rfl) (by rw [← size_eq]; exact Nat.le_refl _)
      simp [closeSpans, openPiece, this]
  intro f
  induction f with
  | zero =>
    intro pos st acc h hp hst
    obtain rfl : pos = s.size := by omega
    exact done 0 st acc hst
  | succ f ih =>
    intro pos st acc h hp hst
    by_cases hlt : pos < s.size
    · have hw := width_pos s pos
      have hwn : pos + (Utf8.decode s pos).2 ≤ s.size := by
        have := decodeN_le_n' (s.size - pos) (s.get! pos).toNat (s.get! (pos + 1)).toNat (s.get! (pos + 2)).toNat (s.get! (pos + 3)).toNat (by omega)
        rw [← decode_at] at this
        omega
      obtain ⟨r1, r2⟩ := fld_rune s pos hlt (openPiece s.data.toList st pos)
      simp only [spansFromP, if_pos hlt]
      cases hsp : isR (Utf8.decode s pos).1 with
      | true =>
        obtain ⟨hk, r1⟩ := r1 hsp
        rw [r1, hk]
        simp only [if_true]
        cases st with
        | none =>
          have ih := ih (pos + 1) none acc (by omega) (by omega) (fun a h => by cases h)
          simpa [openPiece] using ih
        | some a =>
          have hpn := pieceU_ne s.data.toList a pos (hst a rfl) (by rw [← size_eq]; omega)
          have ih := ih (pos + 1) none (acc ++ [(a, pos)]) (by omega) (by omega) (fun a h => by cases h)
          simpa [openPiece, hpn] using ih
      | false =>
        have r2 := r2 hsp
        rw [r2]
        simp only [Bool.false_eq_true, if_false]
        cases st with
        | none =>
          have ih := ih (pos + (Utf8.decode s pos).2) (some pos) acc (by omega) hwn (fun a h => by cases h; omega)
          have e : ([] : List UInt8) ++ (s.data.toList.drop pos).take (Utf8.decode s pos).2 = pieceU s.data.toList pos (pos + (Utf8.decode s pos).2) := by
            unfold pieceU
            rw [List.nil_append, Nat.add_sub_cancel_left]
          simp only [openPiece] at ih ⊢
          rw [e]
          exact ih
        | some a =>
          have ih := ih (pos + (Utf8.decode s pos).2) (some a) acc (by omega) hwn (fun b h => by cases h; have := hst a rfl; omega)
          simp only [openPiece] at ih ⊢
          rw [pieceU_grow _ _ _ _ (Nat.le_of_lt (hst a rfl))]
          exact ih
    · obtain rfl : pos = s.size := by omega
      exact done _ st acc hst

theorem fields_eq (s : ByteArray) : (goFieldsP isR s).map (·.data.toList) = fld [] s.data.toList := by
  have h := spansB_eq s s.size 0 none [] (by omega) (Nat.zero_le _) (fun a h => by cases h)
  simp only [List.map_nil, List.nil_append, openPiece, List.drop_zero] at h
  unfold goFieldsP spansOfP
  rw [h, List.map_map]
  congr 1
  funext p
  simp [pieceU]

/-! ### lines of a script -/
def lns10 : List UInt8 → List UInt8 → List (List UInt8)
  | cur, [] => [cur]
  | cur, c :: l => if c = 10 then cur :: lns10 [] l else lns10 (cur ++ [c]) l
theorem lns10_skip (t l : List UInt8) : ∀ cur, (∀ c ∈ t, c ≠ 10) → lns10 cur (t ++ l) = lns10 (cur ++ t) l := by
  induction t with
  | nil => intro cur _; simp
  | cons c t ih =>
    intro cur h
    rw [List.cons_append, lns10, if_neg (h c (by simp)), ih _ (fun x hx => h x (by simp [hx]))]
    simp
/-- Two rows of lines with an LF between. -/
theorem lns10_app (a b : List UInt8) : ∀ cur, lns10 cur (a ++ 10 :: b) = lns10 cur a ++ lns10 [] b := by
  induction a with
  | nil => intro cur; simp [lns10]
  | cons c a ih =>
    intro cur
    rw [List.cons_append, lns10, lns10]
    split
    · rw [ih, List.cons_append]
    · rw [ih]
theorem lns10_one (t : List UInt8) (h : ∀ c ∈ t, c ≠ 10) : lns10 [] t = [t] := by
  have := lns10_skip t [] [] h
  rw [List.append_nil, List.nil_append] at this
  rw [this, lns10]

/-! ### numbers -/
/-- The number that digits are, n of those ahead. -/
def dgs : Nat → List UInt8 → Option Nat
  | n, [] => some n
  | n, c :: l => if c.toNat < 48 ∨ 57 < c.toNat then none else dgs (10 * n + (c.toNat - 48)) l
/-- The number that a word is, if it is one. -/
def numS (w : List UInt8) : Option Int :=
  if (trimPrefix w [45]).length < 1 ∨ 6 < (trimPrefix w [45]).length then none
  else match dgs 0 (trimPrefix w [45]) with
    | none => none
    | some n => some (if hasPrefix w [45] then -(n : Int) else n)
/-- The numbers that words are, if each is one. -/
def numsS : List (List UInt8) → Option (List Int)
  | [] => some []
  | w :: ws => match numS w with
    | none => none
    | some x => match numsS ws with
      | none => none
      | some xs => some (x :: xs)

theorem dgs_app (l m : List UInt8) : ∀ n k, dgs n l = some k → dgs n (l ++ m) = dgs k m := by
  induction l with
  | nil => intro n k h; simp [dgs] at h; subst h; rfl
  | cons c l ih =>
    intro n k h
    rw [List.cons_append, dgs]
    rw [dgs] at h
    split at h
    · cases h
    · rename_i hc; rw [if_neg hc]; exact ih _ _ h
theorem dig_nat (d : Nat) (h : d < 10) : (UInt8.ofNat (48 + d)).toNat = 48 + d := by rw [UInt8.toNat_ofNat']; omega
theorem dgs_dec (u : Nat) : dgs 0 (decDigits u) = some u := by
  induction u using Nat.strongRecOn with
  | _ u ih =>
    rw [decDigits]
    split
    · rename_i h
      simp only [dgs, dig_nat u h]
      rw [if_neg (by omega)]
      congr 1; omega
    · rename_i h
      rw [dgs_app _ _ _ _ (ih (u / 10) (by omega))]
      simp only [dgs, dig_nat (u % 10) (by omega)]
      rw [if_neg (by omega)]
      congr 1; omega
theorem dec_digit (u : Nat) : ∀ c ∈ decDigits u, 48 ≤ c.toNat ∧ c.toNat ≤ 57 := by
  induction u using Nat.strongRecOn with
  | _ u ih =>
    intro c hc
    rw [decDigits] at hc
    split at hc
    · rename_i h
      simp only [List.mem_singleton] at hc
      rw [hc, dig_nat u h]; omega
    · rename_i h
      simp only [List.mem_append, List.mem_singleton] at hc
      rcases hc with hc | hc
      · exact ih _ (by omega) c hc
      · rw [hc, dig_nat _ (by omega)]; omega
theorem dec_len (u : Nat) (h : u < 1000000) : 1 ≤ (decDigits u).length ∧ (decDigits u).length ≤ 6 := by
  rw [decDigits_length]
  refine ⟨nDigits_pos u, ?_⟩
  by_cases h0 : u < 10
  · rw [nDigits_small h0]; omega
  rw [nDigits_big h0]
  by_cases h1 : u / 10 < 10
  · rw [nDigits_small h1]; omega
  rw [nDigits_big h1]
  by_cases h2 : u / 10 / 10 < 10
  · rw [nDigits_small h2]; omega
  rw [nDigits_big h2]
  by_cases h3 : u / 10 / 10 / 10 < 10
  · rw [nDigits_small h3]; omega
  rw [nDigits_big h3]
  by_cases h4 : u / 10 / 10 / 10 / 10 < 10
  · rw [nDigits_small h4]; omega
  rw [nDigits_big h4, nDigits_small (by omega)]; omega
theorem dec_len9 (u : Nat) (h : u < 1000000000) : (decDigits u).length ≤ 9 := by
  rw [decDigits_length]
  by_cases h0 : u < 10
  · rw [nDigits_small h0]; omega
  rw [nDigits_big h0]
  by_cases h1 : u / 10 < 10
  · rw [nDigits_small h1]; omega
  rw [nDigits_big h1]
  by_cases h2 : u / 10 / 10 < 10
  · rw [nDigits_small h2]; omega
  rw [nDigits_big h2]
  have h3 := dec_len (u / 10 / 10 / 10) (by omega)
  rw [decDigits_length] at h3
  omega
theorem dec_ne (u : Nat) : decDigits u ≠ [] := by
  intro e
  have := decDigits_length u
  rw [e] at this
  have := nDigits_pos u
  simp at *
  omega
theorem dec_noB (u : Nat) : ∀ c ∈ decDigits u, isB c = false := fun c hc => by
  have := dec_digit u c hc
  exact not_blank (by omega) (by omega)
theorem dec_no10 (u : Nat) : ∀ c ∈ decDigits u, c ≠ 10 := fun c hc e => by
  have := dec_digit u c hc
  rw [e] at this
  simp at this
theorem dec_noP (u : Nat) : hasPrefix (decDigits u) [45] = false := by
  cases h : decDigits u with
  | nil => rfl
  | cons c l =>
    have := dec_digit u c (by rw [h]; simp)
    have hc : c ≠ 45 := fun e => by rw [e] at this; simp at this
    simp [hasPrefix, List.isPrefixOf]
    exact fun e => hc e.symm
theorem numS_dec (u : Nat) (h : u < 1000000) : numS (decDigits u) = some (u : Int) := by
  have hl := dec_len u h
  unfold numS
  rw [show trimPrefix (decDigits u) [45] = decDigits u by rw [trimPrefix, if_neg (by rw [dec_noP]; simp)], if_neg (by omega), dgs_dec, dec_noP]
  simp

theorem dgs_at (l : List UInt8) (k m : Nat) (hk : k < l.length) (h : dgs 0 (l.take k) = some m) : dgs 0 l = dgs m (l.getD k 0 :: l.drop (k + 1)) := by
  have e : l = l.take k ++ (l.getD k 0 :: l.drop (k + 1)) := by
    have : l.getD k 0 = l[k] := by simp [List.getD, List.getElem?_eq_getElem hk]
    rw [this, ← List.drop_eq_getElem_cons hk, List.take_append_drop]
  conv => lhs; rw [e]
  exact dgs_app _ _ _ _ h
theorem dgs_bad (l : List UInt8) (k m : Nat) (hk : k < l.length) (h : dgs 0 (l.take k) = some m) (hb : (l.getD k 0).toNat < 48 ∨ 57 < (l.getD k 0).toNat) : dgs 0 l = none := by
  rw [dgs_at l k m hk h, dgs, if_pos hb]
theorem dgs_more (l : List UInt8) (k m : Nat) (hk : k < l.length) (h : dgs 0 (l.take k) = some m) (hb : ¬ ((l.getD k 0).toNat < 48 ∨ 57 < (l.getD k 0).toNat)) : dgs 0 (l.take (k + 1)) = some (10 * m + ((l.getD k 0).toNat - 48)) := by
  have e : l.take (k + 1) = l.take k ++ [l.getD k 0] := by
    rw [List.take_add_one]
    simp [List.getD, List.getElem?_eq_getElem hk]
  rw [e, dgs_app _ _ _ _ h, dgs, if_neg hb, dgs]
theorem dgs_lt (l : List UInt8) : ∀ n k, dgs n l = some k → k < (n + 1) * 10 ^ l.length := by
  induction l with
  | nil => intro n k h; simp [dgs] at h; subst h; simp
  | cons c l ih =>
    intro n k h
    rw [dgs] at h
    split at h
    · cases h
    · rename_i hc
      have := ih _ _ h
      have h9 : 10 * n + (c.toNat - 48) + 1 ≤ (n + 1) * 10 := by omega
      calc k < (10 * n + (c.toNat - 48) + 1) * 10 ^ l.length := this
        _ ≤ ((n + 1) * 10) * 10 ^ l.length := Nat.mul_le_mul_right _ h9
        _ = (n + 1) * 10 ^ (c :: l).length := by rw [List.length_cons, Nat.pow_succ, Nat.mul_assoc, Nat.mul_comm 10]
theorem dgs_small (l : List UInt8) (k m : Nat) (hk : k ≤ 5) (h : dgs 0 (l.take k) = some m) : m < 100000 := by
  have := dgs_lt _ _ _ h
  have hl : (l.take k).length ≤ 5 := by rw [List.length_take]; omega
  have hp : 10 ^ (l.take k).length ≤ 10 ^ 5 := Nat.pow_le_pow_right (by decide) hl
  omega
theorem dgs_small6 (l : List UInt8) (m : Nat) (hk : l.length ≤ 6) (h : dgs 0 l = some m) : m < 1000000 := by
  have := dgs_lt _ _ _ h
  have hp : 10 ^ l.length ≤ 10 ^ 6 := Nat.pow_le_pow_right (by decide) hk
  omega
/-- What numberOf answers. -/
def nmV (t : List UInt8) : Int := match numS t with
  | some n => n
  | none => 0
def nmO (t : List UInt8) : Bool := (numS t).isSome
theorem nm_none {t : List UInt8} (h : numS t = none) : nmV t = 0 ∧ nmO t = false := by unfold nmV nmO; rw [h]; exact ⟨rfl, rfl⟩
theorem nm_long {t : List UInt8} (h : (trimPrefix t [45]).length < 1 ∨ 6 < (trimPrefix t [45]).length) : nmV t = 0 ∧ nmO t = false := nm_none (by unfold numS; rw [if_pos h])
theorem nm_bad {t : List UInt8} (h : dgs 0 (trimPrefix t [45]) = none) : nmV t = 0 ∧ nmO t = false := nm_none (by unfold numS; rw [h]; split <;> rfl)
theorem nm_good {t : List UInt8} {n : Nat} (h1 : 1 ≤ (trimPrefix t [45]).length) (h6 : (trimPrefix t [45]).length ≤ 6) (h : dgs 0 (trimPrefix t [45]) = some n) : nmV t = (if hasPrefix t [45] then -(n : Int) else n) ∧ nmO t = true := by
  unfold nmV nmO numS
  rw [if_neg (by omega), h]
  exact ⟨rfl, rfl⟩
theorem numS_small {t : List UInt8} {x : Int} (h : numS t = some x) : -1000000 < x ∧ x < 1000000 := by
  unfold numS at h
  split at h
  · cases h
  · rename_i hl
    split at h
    · cases h
    · rename_i n hn
      have := dgs_small6 _ _ (by omega) hn
      injection h with h
      subst h
      split <;> omega

theorem numsS_snoc (a : List (List UInt8)) (w : List UInt8) : numsS (a ++ [w]) = match numsS a with
    | none => none
    | some xs => match numS w with
      | none => none
      | some x => some (xs ++ [x]) := by
  induction a with
  | nil => cases h : numS w <;> simp [numsS, h]
  | cons v a ih =>
    simp only [List.cons_append, numsS, ih]
    cases numS v with
    | none => rfl
    | some y =>
      cases numsS a with
      | none => rfl
      | some ys => cases numS w <;> rfl
theorem numsS_none_app (a b : List (List UInt8)) (h : numsS a = none) : numsS (a ++ b) = none := by
  induction a with
  | nil => simp [numsS] at h
  | cons v a ih =>
    simp only [List.cons_append, numsS] at h ⊢
    cases hv : numS v with
    | none => rfl
    | some y =>
      rw [hv] at h
      simp only at h ⊢
      cases ha : numsS a with
      | none => rw [ih ha]
      | some ys => rw [ha] at h; cases h
theorem numsS_take (ts : List (List UInt8)) (k : Nat) (hk : k < ts.length) (xs : List Int) (h : numsS (ts.take k) = some xs) : numsS (ts.take (k + 1)) = match numS (ts.getD k []) with
    | none => none
    | some x => some (xs ++ [x]) := by
  have e : ts.take (k + 1) = ts.take k ++ [ts.getD k []] := by
    rw [List.take_add_one]
    simp [List.getD, List.getElem?_eq_getElem hk]
  rw [e, numsS_snoc, h]
theorem numsS_bad (ts : List (List UInt8)) (k : Nat) (hk : k < ts.length) (xs : List Int) (h : numsS (ts.take k) = some xs) (hb : numS (ts.getD k []) = none) : numsS ts = none := by
  have h1 := numsS_take ts k hk xs h
  rw [hb] at h1
  rw [← List.take_append_drop (k + 1) ts]
  exact numsS_none_app _ _ h1
theorem numsS_len (ts : List (List UInt8)) : ∀ xs, numsS ts = some xs → xs.length = ts.length := by
  induction ts with
  | nil => intro xs h; simp [numsS] at h; subst h; rfl
  | cons w ts ih =>
    intro xs h
    simp only [numsS] at h
    cases hw : numS w with
    | none => rw [hw] at h; cases h
    | some x =>
      rw [hw] at h
      simp only at h
      cases hs : numsS ts with
      | none => rw [hs] at h; cases h
      | some ys =>
        rw [hs] at h
        injection h with h
        rw [← h, List.length_cons, ih ys hs, List.length_cons]
theorem numsS_small (ts : List (List UInt8)) : ∀ xs, numsS ts = some xs → ∀ x ∈ xs, -1000000 < x ∧ x < 1000000 := by
  induction ts with
  | nil => intro xs h; simp [numsS] at h; subst h; intro x hx; cases hx
  | cons w ts ih =>
    intro xs h
    simp only [numsS] at h
    cases hw : numS w with
    | none => rw [hw] at h; cases h
    | some y =>
      rw [hw] at h
      simp only at h
      cases hs : numsS ts with
      | none => rw [hs] at h; cases h
      | some ys =>
        rw [hs] at h
        injection h with h
        subst h
        intro x hx
        rcases List.mem_cons.1 hx with rfl | hx
        · exact numS_small hw
        · exact ih ys hs x hx

/-! ### what is told -/
/-- Numbers with blanks between. -/
def rowS (xs : List Int) : List UInt8 := join (xs.map itoa) [32]
/-- 'error ' and a number. -/
def errS (e : Int) : List UInt8 := [101, 114, 114, 111, 114, 32] ++ itoa e
/-- What an answer tells. -/
def outS (x : List UInt8 × Int) : List UInt8 := if x.2 = 0 then x.1 else errS x.2

end Go.Proofs.YtobpggpjboonfaaDoor
