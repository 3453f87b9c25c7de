/-
  Layer 2's law OwnerLast: it answers true for every input.
-/
import Derived.Test.YtcplbjidilddiaaOwnAwake
import Derived.Test.YtcplbjidilddiaaPlain2
import Derived.Test.YtcplbjidilddiaaArgs
namespace Go.Proofs.Ytcplbjidilddiaa
open Go.RowKit
set_option linter.unusedVariables false

theorem set_yes (l : List Int) (f o : Int) (h : 0 ≤ f ∧ f < l.length ∧ -2 ≤ o ∧ o ≤ 3) : setL l f o = l.set f.toNat o ∧ setC l.length f o = 0 := by
  have hs : setB l.length f o = true := decide_eq_true h
  simp [setL, setC, hs]
theorem of_yes (l : List Int) (f : Int) (h : 0 ≤ f ∧ f < l.length) : ofN l f = l.getD f.toNat 0 ∧ ofC l.length f = 0 := by
  have hs : ofB l.length f = true := decide_eq_true h
  simp [ofN, ofC, hs]

/-- The two numbers of a slice's k-th record. -/
theorem rec2 {w : World} {A : Option Addr} {n c : Nat} {zs : List Int} (h : Sl w (.slice A n c) n 2 (ints zs)) (k : Nat) (hk : k < n) :
    ∃ b o, A = some ⟨b, o, none⟩ ∧ b < w.heap.size ∧ w.cell? ⟨b, o + k * 2, none⟩ = some (.int .i64 (zs.getD (k * 2) 0)) ∧ w.cell? ⟨b, o + k * 2 + 1, none⟩ = some (.int .i64 (zs.getD (k * 2 + 1) 0)) := by
  obtain ⟨A', c', e, _, hl, hA⟩ := h
  simp only [Value.slice.injEq] at e
  obtain ⟨rfl, _, rfl⟩ := e
  obtain ⟨b, o, rfl, hb, hc⟩ := hA (by omega)
  rw [ints_len] at hl
  exact ⟨b, o, rfl, hb, hc _ _ (ints_get zs _ (by omega)), by have := hc _ _ (ints_get zs (k * 2 + 1) (by omega)); rw [← Nat.add_assoc] at this; exact this⟩

/-- An array of m on the way to all -1. -/
def fillN (m k : Nat) : List Int := free k ++ List.replicate (m - k) 0
theorem fillN_len (m k : Nat) (h : k ≤ m) : (fillN m k).length = m := by simp [fillN, free]; omega
theorem fillN_zero (m : Nat) : fillN m 0 = List.replicate m 0 := by simp [fillN, free]
theorem fillN_all (m : Nat) : fillN m m = free m := by simp [fillN]
theorem fillN_set (m k : Nat) (h : k < m) : (fillN m k).set k (-1) = fillN m (k + 1) := by
  unfold fillN
  rw [List.set_append_right _ _ (by rw [free_len]; exact Nat.le_refl _), free_len, Nat.sub_self]
  obtain ⟨d, hd⟩ : ∃ d, m - k = d + 1 := ⟨m - k - 1, by omega⟩
  rw [hd, show m - (k + 1) = d by omega, List.replicate_succ, List.set_cons_zero]
  simp [free, List.replicate_succ']

section
variable {w : World} {h : Nat} {t : TypeId} {q : List Int}
theorem Blk.int (hb : Blk w h t (ints q)) {k : Nat} (hk : k < q.length) : w.cell? ⟨h, k, none⟩ = some (.int .i64 (q.getD k 0)) := by rw [hb.cell, ints_get q k hk]
theorem Blk.setInt (hb : Blk w h t (ints q)) (k : Nat) (x : Int) : Blk (w.setCell ⟨h, k, none⟩ (.int .i64 x)) h t (ints (q.set k x)) := by rw [← ints_set]; exact hb.set _ _
end

/-- The program's table and the law's own array say the same. -/
def Twin (h g : Nat) (w wq : World) : Prop := ∃ l : List Int, Hid (l.length = 8) ∧ Blk wq h 47 (ints l) ∧ Tab wq g l ∧ Below w.heap.size w wq

set_option maxRecDepth 100000 in
set_option maxHeartbeats 1000000 in
theorem law_OwnerLast (v : Value) (n : Nat) (zs : List Int) (w : World) (hv : Sl w v n 2 (ints zs)) (hn : n ≤ maxLen) :
    Calls Try.prog 5 #[v] w fun e w' => e = .returned (.bool true) ∧ Below w.heap.size w w' := by
  obtain ⟨A, cap, rfl⟩ : ∃ A cap, v = .slice A n cap := by obtain ⟨A, c, e, _⟩ := hv; exact ⟨A, c, e⟩
  unfold maxLen at hn
  have HV := Lib.hid hv; clear hv
  go_enter Try.func5, Try.ntmps5
  go_wp2_with fail
  refine (awake_any _).mono ?_
  rintro e wa ⟨rfl, ba⟩
  have hsa := ba.size
  go_wp2_with fail
  refine (pnew 8 _ (by omega) (by omega)).mono ?_
  rintro e w1 ⟨rfl, t1, b1⟩
  have b1' := Below.down ba b1 hsa
  have hs1 := b1.size
  have hs1' := b1'.size
  generalize hg : wa.heap.size = g at *
  have HG := Lib.hid hg; clear hg b1 ba
  have hgl := t1.lt
  go_wp2_with fail
  refine (num_any _ _).mono ?_
  rintro e w' ⟨rfl, rfl⟩
  go_wp2_with fail
  have hz : Blk (w1.alloc (.cells #[.int .i64 0, .int .i64 0, .int .i64 0, .int .i64 0, .int .i64 0, .int .i64 0, .int .i64 0, .int .i64 0] 47)) w1.heap.size 47 (ints (fillN 8 0)) := Blk.new _ _ _
  have tz := t1.below ((Below.refl _ _).alloc (Nat.le_refl _) (.cells #[.int .i64 0, .int .i64 0, .int .i64 0, .int .i64 0, .int .i64 0, .int .i64 0, .int .i64 0, .int .i64 0] 47)) t1.lt
  have bz := b1'.alloc hs1' (.cells #[.int .i64 0, .int .i64 0, .int .i64 0, .int .i64 0, .int .i64 0, .int .i64 0, .int .i64 0, .int .i64 0] 47)
  generalize (w1.alloc (.cells #[.int .i64 0, .int .i64 0, .int .i64 0, .int .i64 0, .int .i64 0, .int .i64 0, .int .i64 0, .int .i64 0] 47)) = wz at *
  generalize hh : w1.heap.size = h at *
  have HH := Lib.hid hh; clear hh t1 b1'
  have hgh : g ≠ h := by omega
  have hwh : w.heap.size ≤ h := by omega
  have hwg : w.heap.size ≤ g := by omega
  go_loopw [6] (fun i wr => ∃ k : Nat, k ≤ 8 ∧ i = .int .i64 k ∧ Blk wr h 47 (ints (fillN 8 k)) ∧ Tab wr g (free 8) ∧ Below w.heap.size w wr) (fun i _ => 8 - (intOf i).toNat)
  case atStart => exact ⟨0, by omega, rfl, hz, tz, bz⟩
  case round =>
    obtain ⟨k, hk, rfl, hb, ht, hbel⟩ := hrel
    by_cases hlt : k < 8
    · have hc := hb.int (k := k) (by rw [fillN_len 8 k hk]; exact hlt)
      generalize (fillN 8 k).getD k 0 = u at hc
      have hf := hb.frozen k
      have hb' := hb.setInt k (-1)
      rw [fillN_set 8 k hlt] at hb'
      have ht' : Tab (wr.setCell ⟨h, k, none⟩ (.int .i64 (-1))) g (free 8) := by obtain ⟨hl, r, hr, hh⟩ := ht; exact ⟨hl, r, hr, hh.far hgh _⟩
      have hbel' := hbel.setCell (p := ⟨h, k, none⟩) hwh (.int .i64 (-1))
      clear hz tz bz hb ht hbel
      go_wp2
      go_roundw
      case rel => exact ⟨k + 1, by omega, by go_num, hb', ht', hbel'⟩
      case measure => simp [intOf]; omega
    · obtain rfl : k = 8 := by omega
      rw [fillN_all] at hb
      have hfl := free_len 8
      generalize hq : free 8 = q at *
      clear hz tz bz hlt
      have HF := Lib.hid hfl; clear hfl hq
      go_wp2_with fail
      go_loopw [7] (fun i wq => ∃ (k : Nat), k ≤ n ∧ i = .int .i64 k ∧ Twin h g w wq) (fun i _ => n - (intOf i).toNat)
      case atStart => exact ⟨0, by omega, rfl, q, HF, hb, ht, hbel⟩
      case round =>
        clear ht hb hbel HF
        obtain ⟨k, hk, rfl, l, HF, hb, ht, hbel⟩ := hrel
        by_cases hkn : k < n
        · by_cases hk60 : k < 60
          · obtain ⟨b, o, rfl, hblt, c0, c1⟩ := rec2 (HV.out.below hbel) k hkn
            generalize zs.getD (k * 2) 0 = F at c0
            generalize zs.getD (k * 2 + 1) 0 = O at c1
            have hX := band F 7 (by omega) (by omega)
            have hY := band O 3 (by omega) (by omega)
            generalize hX' : bits BinOp.and IntKind.i64 F 7 = X at hX
            generalize hY' : bits BinOp.and IntKind.i64 O 3 = Y at hY
            obtain ⟨hX0, hX1⟩ := hX
            obtain ⟨hY0, hY1⟩ := hY
            obtain ⟨x, rfl⟩ := Int.eq_ofNat_of_zero_le hX0
            go_wp2_with fail
            go_quiet (fail)
            go_wp2_with fail
            refine (pset_is g l (l.set x Y) _ _ 0 _ (ht.drewN nq) (by rw [(set_yes l x Y (by have := HF.out; omega)).1, Int.toNat_natCast]) (set_yes l x Y (by have := HF.out; omega)).2).mono ?_
            rintro e w2 ⟨rfl, t2, g2⟩
            have hb2 := (hb.drewN nq).grown g2 (by intro e; injection e with e; omega)
            have bel2 := bone (bdrewN hbel nq) g2 (by have := (bdrewN hbel nq).size; omega) hwg
            have hc := hb2.int (k := x) (by have := HF.out; omega)
            generalize l.getD x 0 = u at hc
            have hf := hb2.frozen x
            have hb3 := hb2.setInt x Y
            have t3 : Tab (w2.setCell ⟨h, x, none⟩ (.int .i64 Y)) g (l.set x Y) := by obtain ⟨hl, r, hr, hh⟩ := t2; exact ⟨hl, r, hr, hh.far hgh _⟩
            have bel3 := bel2.setCell (p := ⟨h, x, none⟩) hwh (.int .i64 Y)
            have HL : Hid ((l.set x Y).length = 8) := Lib.hid (by have := HF.out; simpa using this)
            clear hb ht hbel g2 hb2 bel2 t2 hX' hY' c0 c1
            generalize l.set x Y = l3 at *
            go_wp2_with fail
            generalize (w2.setCell ⟨h, x, none⟩ (.int .i64 Y)) = w3 at *
            clear hc hf
            refine (num_any _ _).mono ?_
            rintro e w' ⟨rfl, rfl⟩
            go_wp2_with fail
            go_loop [11] (fun j => ∃ y : Nat, y ≤ 8 ∧ j = .int .i64 y) (fun j => 8 - (intOf j).toNat)
            case atStart => exact ⟨0, by omega, rfl⟩
            case round =>
              obtain ⟨y, hy, rfl⟩ := hrel
              by_cases hy8 : y < 8
              · have hof := of_yes l3 y (by have := HL.out; omega)
                rw [Int.toNat_natCast] at hof
                have hc := hb3.int (k := y) (by have := HL.out; omega)
                generalize l3.getD y 0 = u at hc hof
                have HO := Lib.hid hof; clear hof
                go_wp2_with fail
                refine (pof_is g l3 _ u 0 _ t3 HO.out.1 HO.out.2).mono ?_
                rintro e w' ⟨rfl, rfl⟩
                go_wp2_with fail
                refine (num_any _ _).mono ?_
                rintro e w' ⟨rfl, rfl⟩
                go_wp2_with fail
                go_round
                case rel => exact ⟨y + 1, by omega, by go_num⟩
                case measure => simp [intOf]; omega
              · go_wp2_with fail
                go_roundw
                case rel => exact ⟨k + 1, by omega, by go_num, l3, HL, hb3, t3, bel3⟩
                case measure => simp [intOf]; omega
          · go_wp2_with fail
            go_ret
            exact ⟨rfl, hbel⟩
        · go_wp2_with fail
          go_ret
          exact ⟨rfl, hbel⟩

end Go.Proofs.Ytcplbjidilddiaa
