/-
  Plain words of layer 16: a descriptor's five numbers and its eight bytes. No Go function here.
-/
import Derived.Test.YtobpggpjboonfaaDoorPhys0
import Derived.Test.YtobpggpjboonfaaDoorPhys2
import Derived.Test.YtobpggpjboonfaaDoorPlain2
namespace Go.Proofs.YtobpggpjboonfaaDoor
open Go.RowKit
set_option linter.unusedVariables false
set_option maxRecDepth 100000

/-- A number from 0 to the last. -/
def wiB (x m : Int) : Bool := decide (0 ≤ x ∧ x ≤ m)
/-- A place of the ring, or its end. -/
def nxB (x : Int) : Bool := decide (0 ≤ x ∧ x ≤ 7 ∨ x = 255)
/-- May a descriptor be? -/
def deB (o x l b n : Int) : Bool := wiB o 3 && (nxB x && (wiB l 65535 && (wiB b 65535 && wiB n 255)))
/-- A descriptor's bytes, whether or not it may be. -/
def deR (o x l b n : Int) : List UInt8 := [UInt8.ofNat o.toNat, UInt8.ofNat x.toNat, UInt8.ofNat l.toNat, UInt8.ofNat (l / 256).toNat, UInt8.ofNat b.toNat, UInt8.ofNat (b / 256).toNat, UInt8.ofNat n.toNat, 0]
def deL (o x l b n : Int) : List UInt8 := if deB o x l b n then deR o x l b n else []
def e16 (b : Bool) : Int := if b then 0 else 1600

theorem de_iff (o x l b n : Int) : deB o x l b n = true ↔ (0 ≤ o ∧ o ≤ 3 ∧ (0 ≤ x ∧ x ≤ 7 ∨ x = 255) ∧ 0 ≤ l ∧ l ≤ 65535 ∧ 0 ≤ b ∧ b ≤ 65535 ∧ 0 ≤ n ∧ n ≤ 255) := by
  unfold deB wiB nxB
  simp only [Bool.and_eq_true, decide_eq_true_eq]
  omega
theorem de_no (o x l b n : Int) (h : ¬ (0 ≤ o ∧ o ≤ 3 ∧ (0 ≤ x ∧ x ≤ 7 ∨ x = 255) ∧ 0 ≤ l ∧ l ≤ 65535 ∧ 0 ≤ b ∧ b ≤ 65535 ∧ 0 ≤ n ∧ n ≤ 255)) : deB o x l b n = false := by
  cases hb : deB o x l b n with
  | false => rfl
  | true => exact absurd ((de_iff ..).1 hb) h
theorem deR_len (o x l b n : Int) : (deR o x l b n).length = 8 := rfl
theorem deL_yes {o x l b n : Int} (h : deB o x l b n = true) : deL o x l b n = deR o x l b n := by unfold deL; rw [h]; rfl
theorem deL_no {o x l b n : Int} (h : deB o x l b n = false) : deL o x l b n = [] := by unfold deL; rw [h]; rfl

/-- The fields of eight bytes. -/
def fo (t : List UInt8) : Int := ((t.getD 0 0).toNat : Int)
def fx (t : List UInt8) : Int := ((t.getD 1 0).toNat : Int)
def fl (t : List UInt8) : Int := ((t.getD 2 0).toNat : Int) + 256 * ((t.getD 3 0).toNat : Int)
def fb (t : List UInt8) : Int := ((t.getD 4 0).toNat : Int) + 256 * ((t.getD 5 0).toNat : Int)
def fn (t : List UInt8) : Int := ((t.getD 6 0).toNat : Int)
def dfB (t : List UInt8) : Bool := deB (fo t) (fx t) (fl t) (fb t) (fn t)
/-- Are these bytes a descriptor's? -/
def dgB (t : List UInt8) : Bool := decide (t.length = 8) && (decide (t.getD 7 0 = 0) && dfB t)
def gO (t : List UInt8) : Int := if dgB t then fo t else 0
def gX (t : List UInt8) : Int := if dgB t then fx t else 0
def gL (t : List UInt8) : Int := if dgB t then fl t else 0
def gBu (t : List UInt8) : Int := if dgB t then fb t else 0
def gN (t : List UInt8) : Int := if dgB t then fn t else 0

theorem f_bounds (t : List UInt8) : (0 ≤ fo t ∧ fo t ≤ 255) ∧ (0 ≤ fx t ∧ fx t ≤ 255) ∧ (0 ≤ fl t ∧ fl t ≤ 65535) ∧ (0 ≤ fb t ∧ fb t ≤ 65535) ∧ (0 ≤ fn t ∧ fn t ≤ 255) := by
  have h0 := (t.getD 0 0).toNat_lt
  have h1 := (t.getD 1 0).toNat_lt
  have h2 := (t.getD 2 0).toNat_lt
  have h3 := (t.getD 3 0).toNat_lt
  have h4 := (t.getD 4 0).toNat_lt
  have h5 := (t.getD 5 0).toNat_lt
  have h6 := (t.getD 6 0).toNat_lt
  unfold fo fx fl fb fn
  omega

theorem toNat_of (x : Int) (h0 : 0 ≤ x) : (((UInt8.ofNat x.toNat).toNat : Nat) : Int) = x % 256 := by
  rw [UInt8.toNat_ofNat']; omega

/-- What may be is written and read again. -/
theorem de_back {o x l b n : Int} (h : deB o x l b n = true) : dgB (deR o x l b n) = true ∧ gO (deR o x l b n) = o ∧ gX (deR o x l b n) = x ∧ gL (deR o x l b n) = l ∧ gBu (deR o x l b n) = b ∧ gN (deR o x l b n) = n := by
  have h' := (de_iff ..).1 h
  have e0 : fo (deR o x l b n) = o := by unfold fo deR; simp only [List.getD_cons_zero]; rw [toNat_of _ (by omega)]; omega
  have e1 : fx (deR o x l b n) = x := by unfold fx deR; simp only [List.getD_cons_zero, List.getD_cons_succ]; rw [toNat_of _ (by omega)]; omega
  have e2 : fl (deR o x l b n) = l := by unfold fl deR; simp only [List.getD_cons_zero, List.getD_cons_succ]; rw [toNat_of _ (by omega), toNat_of _ (by omega)]; omega
  have e3 : fb (deR o x l b n) = b := by unfold fb deR; simp only [List.getD_cons_zero, List.getD_cons_succ]; rw [toNat_of _ (by omega), toNat_of _ (by omega)]; omega
  have e4 : fn (deR o x l b n) = n := by unfold fn deR; simp only [List.getD_cons_zero, List.getD_cons_succ]; rw [toNat_of _ (by omega)]; omega
  have hd : dgB (deR o x l b n) = true := by
    unfold dgB dfB
    rw [e0, e1, e2, e3, e4, h]
    rfl
  unfold gO gX gL gBu gN
  rw [hd, e0, e1, e2, e3, e4]
  exact ⟨rfl, rfl, rfl, rfl, rfl, rfl⟩

theorem u8_eq {a b : UInt8} (h : (a.toNat : Int) = b.toNat) : a = b := UInt8.toNat_inj.1 (by omega)
theorem of_u8 (a : UInt8) (x : Int) (h : x % 256 = (a.toNat : Int)) (h0 : 0 ≤ x) : UInt8.ofNat x.toNat = a := u8_eq (by rw [toNat_of x h0, h])

/-- What is read is written as it stood, but for the last byte. -/
theorem dg_fields (t : List UInt8) (h : t.length = 8) : deR (fo t) (fx t) (fl t) (fb t) (fn t) = t.set 7 0 := by
  rcases t with _ | ⟨a0, _ | ⟨a1, _ | ⟨a2, _ | ⟨a3, _ | ⟨a4, _ | ⟨a5, _ | ⟨a6, _ | ⟨a7, _ | ⟨a8, t⟩⟩⟩⟩⟩⟩⟩⟩⟩ <;> simp only [List.length_cons, List.length_nil] at h <;> try omega
  have h0 := a0.toNat_lt
  have h1 := a1.toNat_lt
  have h2 := a2.toNat_lt
  have h3 := a3.toNat_lt
  have h4 := a4.toNat_lt
  have h5 := a5.toNat_lt
  have h6 := a6.toNat_lt
  unfold deR fo fx fl fb fn
  simp only [List.getD_cons_zero, List.getD_cons_succ, List.set_cons_zero, List.set_cons_succ]
  rw [of_u8 a0 _ (by omega) (by omega), of_u8 a1 _ (by omega) (by omega), of_u8 a2 _ (by omega) (by omega), of_u8 a3 _ (by omega) (by omega), of_u8 a4 _ (by omega) (by omega), of_u8 a5 _ (by omega) (by omega), of_u8 a6 _ (by omega) (by omega)]
theorem dg_put (t : List UInt8) (h : t.length = 8) (h7 : t.getD 7 0 = 0) : deR (fo t) (fx t) (fl t) (fb t) (fn t) = t := by
  rw [dg_fields t h]
  rcases t with _ | ⟨a0, _ | ⟨a1, _ | ⟨a2, _ | ⟨a3, _ | ⟨a4, _ | ⟨a5, _ | ⟨a6, _ | ⟨a7, _ | ⟨a8, t⟩⟩⟩⟩⟩⟩⟩⟩⟩ <;> simp only [List.length_cons, List.length_nil] at h <;> try omega
  simp only [List.getD_cons_zero, List.getD_cons_succ] at h7
  subst h7
  rfl
theorem dg_last (t : List UInt8) (h : t.length = 8) (h7 : t.getD 7 0 ≠ 0) : deR (fo t) (fx t) (fl t) (fb t) (fn t) ≠ t := by
  rw [dg_fields t h]
  intro e
  apply h7
  rw [← e]
  simp [List.getD, h]

theorem dg_no {t : List UInt8} (h : dgB t = false) : gO t = 0 ∧ gX t = 0 ∧ gL t = 0 ∧ gBu t = 0 ∧ gN t = 0 := by
  unfold gO gX gL gBu gN
  rw [h]
  exact ⟨rfl, rfl, rfl, rfl, rfl⟩
theorem dg_yes {t : List UInt8} (h : dgB t = true) : gO t = fo t ∧ gX t = fx t ∧ gL t = fl t ∧ gBu t = fb t ∧ gN t = fn t := by
  unfold gO gX gL gBu gN
  rw [h]
  exact ⟨rfl, rfl, rfl, rfl, rfl⟩
/-- The ways of some bytes. -/
theorem dg_ways (t : List UInt8) : (dgB t = false ∧ t.length ≠ 8) ∨ (dgB t = false ∧ t.length = 8 ∧ t.getD 7 0 ≠ 0) ∨ (dgB t = false ∧ t.length = 8 ∧ t.getD 7 0 = 0 ∧ dfB t = false) ∨ (dgB t = true ∧ t.length = 8 ∧ t.getD 7 0 = 0 ∧ dfB t = true) := by
  unfold dgB
  by_cases h : t.length = 8
  · rw [decide_eq_true h]
    by_cases h7 : t.getD 7 0 = 0
    · rw [decide_eq_true h7]
      cases hd : dfB t
      · exact .inr (.inr (.inl ⟨rfl, h, h7, rfl⟩))
      · exact .inr (.inr (.inr ⟨rfl, h, h7, rfl⟩))
    · rw [decide_eq_false h7]
      exact .inr (.inl ⟨rfl, h, h7⟩)
  · rw [decide_eq_false h]
    exact .inl ⟨rfl, h⟩
/-- What is read may be, and is written as it stood. -/
theorem dg_back {t : List UInt8} (h : dgB t = true) : t.length = 8 ∧ deB (gO t) (gX t) (gL t) (gBu t) (gN t) = true ∧ deR (gO t) (gX t) (gL t) (gBu t) (gN t) = t := by
  obtain ⟨e0, e1, e2, e3, e4⟩ := dg_yes h
  rw [e0, e1, e2, e3, e4]
  rcases dg_ways t with ⟨h', _⟩ | ⟨h', _⟩ | ⟨h', _⟩ | ⟨_, hl, h7, hd⟩
  · rw [h] at h'; cases h'
  · rw [h] at h'; cases h'
  · rw [h] at h'; cases h'
  · exact ⟨hl, hd, dg_put t hl h7⟩
/-- Unlike descriptors have unlike bytes. -/
theorem de_inj {o x l b n o' x' l' b' n' : Int} (h : deB o x l b n = true) (h' : deB o' x' l' b' n' = true) (e : deR o x l b n = deR o' x' l' b' n') : o = o' ∧ x = x' ∧ l = l' ∧ b = b' ∧ n = n' := by
  obtain ⟨_, a0, a1, a2, a3, a4⟩ := de_back h
  obtain ⟨_, c0, c1, c2, c3, c4⟩ := de_back h'
  rw [e] at a0 a1 a2 a3 a4
  exact ⟨a0.symm.trans c0, a1.symm.trans c1, a2.symm.trans c2, a3.symm.trans c3, a4.symm.trans c4⟩

/-- The cells of a descriptor, and of its bytes. -/
def dsC (o x l b n : Int) : List Value := [.int .i64 o, .int .i64 x, .int .i64 l, .int .i64 b, .int .i64 n]
theorem deR_cells (o x l b n : Int) (h : deB o x l b n = true) : bts (deR o x l b n) = [.int .u8 (o % 256), .int .u8 (x % 256), .int .u8 (l % 256), .int .u8 (l / 256 % 256), .int .u8 (b % 256), .int .u8 (b / 256 % 256), .int .u8 (n % 256), .int .u8 0] := by
  have h' := (de_iff ..).1 h
  unfold deR bts
  simp only [List.map_cons, List.map_nil]
  rw [toNat_of _ (by omega), toNat_of _ (by omega), toNat_of _ (by omega), toNat_of _ (by omega), toNat_of _ (by omega), toNat_of _ (by omega), toNat_of _ (by omega)]
  rfl
/-- A number of two bytes, the lower first. -/
theorem num2 (a b : UInt8) : bits BinOp.or IntKind.i64 (a.toNat : Int) ((b.toNat : Int) * 256) = (a.toNat : Int) + 256 * (b.toNat : Int) := by
  have ha := a.toNat_lt
  have hb := b.toNat_lt
  have := bor a.toNat b.toNat 8 (by omega) (by omega)
  rw [show ((b.toNat : Int) * 256) = ((2 ^ 8 * b.toNat : Nat) : Int) by push_cast; omega, this]
  push_cast
  omega

/-- What Get answers of some bytes. -/
def degV (t : List UInt8) : Value := .tuple #[.agg #[.int .i64 (gO t), .int .i64 (gX t), .int .i64 (gL t), .int .i64 (gBu t), .int .i64 (gN t)], .int .i64 (e16 (dgB t))]

theorem degV_no {t : List UInt8} (h : dgB t = false) : degV t = .tuple #[.agg #[.int .i64 0, .int .i64 0, .int .i64 0, .int .i64 0, .int .i64 0], .int .i64 1600] := by
  obtain ⟨e0, e1, e2, e3, e4⟩ := dg_no h
  unfold degV; rw [e0, e1, e2, e3, e4, h]; rfl
theorem degV_yes {t : List UInt8} (h : dgB t = true) : degV t = .tuple #[.agg #[.int .i64 (fo t), .int .i64 (fx t), .int .i64 (fl t), .int .i64 (fb t), .int .i64 (fn t)], .int .i64 0] := by
  obtain ⟨e0, e1, e2, e3, e4⟩ := dg_yes h
  unfold degV; rw [e0, e1, e2, e3, e4, h]; rfl

theorem u8_wrap (u : UInt8) : IntKind.i64.wrap (u.toNat : Int) = (u.toNat : Int) := by
  have := u.toNat_lt
  rw [IntKind.wrap_i64]
  omega

theorem num2w (a b : UInt8) : bits BinOp.or IntKind.i64 (IntKind.i64.wrap (a.toNat : Int)) (IntKind.i64.wrap (IntKind.i64.wrap (b.toNat : Int) * 256)) = (a.toNat : Int) + (256 : Int) * (b.toNat : Int) := by
  have hb := b.toNat_lt
  rw [u8_wrap, u8_wrap, show IntKind.i64.wrap ((b.toNat : Int) * 256) = (b.toNat : Int) * 256 by rw [IntKind.wrap_i64]; omega]
  exact num2 a b
theorem str_tl (l : List UInt8) : (str l).toList = l := by unfold str; exact Go.ByteArray.toList_mk ..
theorem str_ne {S s : ByteArray} (h : S ≠ s) : (S.toList == s.toList) = false := by
  refine beq_eq_false_iff_ne.2 fun e => h ?_
  rw [← str_of S, ← str_of s]
  rw [← str_of S, ← str_of s, str_tl, str_tl] at e
  rw [e]

/-- A block of five numbers, as the walk asks for it. -/
theorem five_at {w : World} {g : Nat} {t : TypeId} {a b c d e : Value} (h : Blk w g t [a, b, c, d, e]) : w.cell? ⟨g, 0, none⟩ = some a ∧ w.cell? ⟨g, 1, none⟩ = some b ∧ w.cell? ⟨g, 2, none⟩ = some c ∧ w.cell? ⟨g, 3, none⟩ = some d ∧ w.cell? ⟨g, 4, none⟩ = some e :=
  ⟨h.cell 0, h.cell 1, h.cell 2, h.cell 3, h.cell 4⟩
theorem five_fr {w : World} {g : Nat} {t : TypeId} {a b c d e : Value} (h : Blk w g t [a, b, c, d, e]) : w.frozen? ⟨g, 0, none⟩ = false ∧ w.frozen? ⟨g, 1, none⟩ = false ∧ w.frozen? ⟨g, 2, none⟩ = false ∧ w.frozen? ⟨g, 3, none⟩ = false ∧ w.frozen? ⟨g, 4, none⟩ = false :=
  ⟨h.frozen 0, h.frozen 1, h.frozen 2, h.frozen 3, h.frozen 4⟩
theorem below_of {w w1 : World} {o : Obj} (h : Below (w.alloc o).heap.size (w.alloc o) w1) : Below w.heap.size w w1 := ((Below.refl _ _).alloc (Nat.le_refl _) o).trans (h.mono (by simp))

end Go.Proofs.YtobpggpjboonfaaDoor
