/-
  Layer 3's law Mems: it answers true for every input.
-/
import Derived.Test.YtcljcjlfbeplcaaPhysStr
import Derived.Test.YtcljcjlfbeplcaaPlain2
import Derived.Test.YtcljcjlfbeplcaaArgs
namespace Go.Proofs.Ytcljcjlfbeplcaa
open Go.RowKit Go.ChangeShapes Go.WideShapes Go.Deep
set_option linter.unusedVariables false

/-- The k-th act of a row. -/
def ActAt (xs : List Value) (i : Nat) : Prop := ∃ (k a x : Int) (s : ByteArray), xs[i * 4]? = some (.int .i64 k) ∧ xs[i * 4 + 1]? = some (.int .i64 a) ∧ xs[i * 4 + 2]? = some (.int .i64 x) ∧ xs[i * 4 + 3]? = some (.string s) ∧ s.size ≤ maxLen

theorem acts_of {H : Type} {enc : TypeId × Value → H} {W : World} {n : Nat} {xs : List Value}
    (hr : ∀ i, i < n → ∃ (m : Nat) (y : DataW H × List MemPlace), DataW.trod enc Try.prog W 0 (fun _ => true) true m 37 ((xs.drop (i * 4)).take 4) = some y) : ∀ i, i < n → ActAt xs i := by
  intro i hi
  obtain ⟨m, y, hy⟩ := hr i hi
  obtain ⟨k, hk, _⟩ := fld_int (P := Try.prog) Try.underlying37 hy 0 0 _ rfl rfl (by kernel_rfl) Try.underlying3
  obtain ⟨a, ha, _⟩ := fld_int (P := Try.prog) Try.underlying37 hy 1 1 _ rfl rfl (by kernel_rfl) Try.underlying3
  obtain ⟨x, hx, _⟩ := fld_int (P := Try.prog) Try.underlying37 hy 2 2 _ rfl rfl (by kernel_rfl) Try.underlying3
  obtain ⟨s, hs, hl⟩ := fld_str (P := Try.prog) Try.underlying37 hy 3 3 _ rfl rfl (by kernel_rfl) Try.underlying9
  rw [elem_at _ _ _ _ (by omega)] at hk ha hx hs
  exact ⟨k, a, x, s, hk, ha, hx, hs, hl⟩

theorem zeL_len (l : List UInt8) (f : Int) (h : l.length % 64 = 0) : (zeL l f).length = l.length := by
  unfold zeL; split
  · rename_i hz
    simp only [zeB, decide_eq_true_eq] at hz
    exact put_len _ _ _ (by rw [zero64_len]; omega)
  · rfl
theorem rd_whole (l : List UInt8) : str (rdL l 0 (l.length : Nat)) = str l ∧ errC (mayB 0 (l.length : Nat) l.length) = 0 := by
  have hs : mayB 0 (l.length : Nat) l.length = true := decide_eq_true (by omega)
  constructor
  · unfold rdL
    rw [hs, if_pos rfl, Int.toNat_zero, Int.toNat_natCast, List.drop_zero, List.take_of_length_le (Nat.le_refl _)]
  · rw [hs]; rfl

theorem RM.whole {w : World} {r b : Nat} {l : List UInt8} (h : RM w r b l) : (convert 33 9 (.slice (some ⟨b, 0, none⟩) l.length l.length)).run Try.prog w = .ok (.string (str l)) w :=
  conv_str (w := w) b 0 l.length l (fun i hi => by rw [Nat.zero_add, h.at_ hi])

theorem act_cells {w : World} {h : Nat} {t : TypeId} {K A X : Int} {s : ByteArray} (ha : Blk w h t [.int .i64 K, .int .i64 A, .int .i64 X, .string s]) : w.cell? ⟨h, 1, none⟩ = some (.int .i64 A) ∧ w.cell? ⟨h, 2, none⟩ = some (.int .i64 X) ∧ w.cell? ⟨h, 3, none⟩ = some (.string s) :=
  ⟨by rw [ha.cell]; rfl, by rw [ha.cell]; rfl, by rw [ha.cell]; rfl⟩

/-- Both memories say the same. -/
def Both (g r b : Nat) (c : Nat) (w wq : World) : Prop := ∃ l : List UInt8, Hid (l.length = c) ∧ PM wq g l ∧ RM wq r b l ∧ Below w.heap.size w wq

theorem num_q (n : Int) (W : World) : Calls Try.prog 10 #[.int .i64 n] W fun e w' => e = .returned (.int .i64 n) ∧ W = w' := num_any n W

set_option maxRecDepth 100000 in
set_option maxHeartbeats 2000000 in
theorem mems_no (c : Int) (v : Value) (w : World) (hc : ¬ (1 ≤ c ∧ c ≤ 64)) :
    Calls Try.prog 3 #[.int .i64 c, v] w fun e w' => e = .returned (.bool true) ∧ Below w.heap.size w w' := by
  have HC := Lib.hid hc; clear hc
  go_enter Try.func3, Try.ntmps3
  go_wp2_with fail
  refine (new_no _ _ HC.out).mono ?_
  rintro e w' ⟨rfl, rfl⟩
  go_wp2_with fail
  refine (rnew_no _ _ HC.out).mono ?_
  rintro e w' ⟨rfl, rfl⟩
  go_wp2_with fail
  refine (num_any _ _).mono ?_
  rintro e w' ⟨rfl, rfl⟩
  go_wp2_with fail
  refine (awake_any _).mono ?_
  rintro e wa ⟨rfl, ba⟩
  go_wp2_with fail
  go_ret
  exact ⟨rfl, ba⟩

set_option maxRecDepth 100000 in
set_option maxHeartbeats 4000000 in
theorem mems_yes (c : Int) (v : Value) (n : Nat) (xs : List Value) (w : World) (hv : Sl w v n 4 xs) (hn : n ≤ maxLen) (hr : ∀ i, i < n → ActAt xs i) (h1 : 1 ≤ c) (h2 : c ≤ 64) :
    Calls Try.prog 3 #[.int .i64 c, v] w fun e w' => e = .returned (.bool true) ∧ Below w.heap.size w w' := by
  obtain ⟨A, cap, rfl, hcap, hxl, hA⟩ := hv
  unfold maxLen at hn
  have HA := Lib.hid hA; have HR := Lib.hid hr; clear hA hr hxl
  obtain ⟨c, rfl⟩ := Int.eq_ofNat_of_zero_le (show 0 ≤ c by omega)
  go_enter Try.func3, Try.ntmps3
  go_wp2_with fail
  refine (new_yes _ _ (by omega) (by omega)).mono ?_
  rintro e w1 ⟨rfl, t1, b1⟩
  rw [Int.toNat_natCast] at t1
  have hs1 := b1.size
  have hgl := t1.lt
  go_wp2_with fail
  refine (rnew_yes _ _ (by omega) (by omega)).mono ?_
  rintro e w2 ⟨rfl, r2, b2⟩
  rw [Int.toNat_natCast] at r2
  have t2 := t1.below b2 hgl
  have b2' := Below.down b1 b2 hs1
  have hzl := zeros_len (64 * c)
  generalize zeros (64 * c) = l at *
  generalize hg : w.heap.size = g at *
  have hgw : g ≤ w.heap.size := by omega
  have hwg : w.heap.size ≤ g := by omega
  generalize hb : w1.heap.size = b at *
  have hwb : w.heap.size ≤ b := by omega
  have hgb : g < b := by omega
  have HG := Lib.hid hg; have HB := Lib.hid hb; have HL := Lib.hid hzl; clear hg hb hzl t1 b1
  have hrow := r2.row
  go_wp2_with fail
  go_quiet ((first | (go_at_call 10; first | exact quiet_ (fun W => num_any 0 W) | exact quiet_a (fun W => num_any 0 W)) | (go_at_call 12; first | exact quiet_at (fun k => psize_any g l _ (t2.drewN k)) | exact quiet_at_a (fun k => psize_any g l _ (t2.drewN k)))))
  go_wp2_with fail
  have hs2 := b2'.size
  go_loopw [9] (fun i wq => ∃ (k : Nat), k ≤ n ∧ i = .int .i64 k ∧ Both g (b + 1) b (64 * c) w wq) (fun i _ => n - (intOf i).toNat)
  case atStart => exact ⟨0, by omega, rfl, l, HL, t2.drewN _, r2.drewN _, by rw [HG.out]; exact bdrewN b2' _⟩
  case round =>
    clear t2 r2 b2' b2 hrow HL
    obtain ⟨k, hk, rfl, l, HL, ht, hr, hbel⟩ := hrel
    by_cases hgo : k < n ∧ k < 60
    · obtain ⟨hkn, hk60⟩ := hgo
      have hd : decide ((k : Int) < 60) = true := by simp; omega
      obtain ⟨ab, ao, rfl, hblt, hcell⟩ := HA.out (by omega)
      replace hblt : ab < w.heap.size := by rw [HG.out]; exact hblt
      obtain ⟨K, A, X, s, x0, x1, x2, x3, hs⟩ := HR.out k hkn
      have c0 := (hbel.cell (p := ⟨ab, ao + k * 4, none⟩) hblt).trans (hcell _ _ x0)
      have y1 := hcell _ _ x1
      rw [← Nat.add_assoc] at y1
      have c1 := (hbel.cell (p := ⟨ab, ao + k * 4 + 1, none⟩) hblt).trans y1
      have y2 := hcell _ _ x2
      rw [← Nat.add_assoc] at y2
      have c2 := (hbel.cell (p := ⟨ab, ao + k * 4 + 2, none⟩) hblt).trans y2
      have y3 := hcell _ _ x3
      rw [← Nat.add_assoc] at y3
      have c3 := (hbel.cell (p := ⟨ab, ao + k * 4 + 3, none⟩) hblt).trans y3
      clear hcell x0 x1 x2 x3 y1 y2 y3
      go_wp2_with fail
      all_goals
        have hh := hr.lt.1
        have hact := Blk.new wr 37 [.int .i64 K, .int .i64 A, .int .i64 X, .string s]
        replace ht := ht.alloc (.cells #[.int .i64 K, .int .i64 A, .int .i64 X, .string s] 37)
        replace hr := hr.alloc (.cells #[.int .i64 K, .int .i64 A, .int .i64 X, .string s] 37)
        replace hbel := hbel.alloc hbel.size (.cells #[.int .i64 K, .int .i64 A, .int .i64 X, .string s] 37)
        clear c0 c1 c2 c3
        generalize wr.alloc (.cells #[.int .i64 K, .int .i64 A, .int .i64 X, .string s] 37) = w3 at *
        generalize wr.heap.size = h at *
      · -- a writing
        have hcs := act_cells hact
        obtain ⟨a1, a2, a3⟩ := hcs
        refine (pwrite_any g l A s _ ht hs).mono ?_
        rintro e w4 ⟨rfl, t4, g4⟩
        have r4 := hr.grown g4 (by intro e; injection e with e; omega) (by intro e; injection e with e; omega)
        have hact4 := hact.grown g4 (by intro e; injection e with e; omega)
        have b4 := bone hbel g4 hbel.size (by omega)
        clear ht hr hact hbel g4 a1 a2 a3
        go_wp2_with fail
        refine (num_any _ _).mono ?_
        rintro e w' ⟨rfl, rfl⟩
        obtain ⟨a1, a2, a3⟩ := act_cells hact4
        go_wp2_with fail
        refine (rwrite_any (b + 1) b l A s _ r4 hs).mono ?_
        rintro e w5 ⟨rfl, r5, g5⟩
        have t5 := t4.grown g5 (by intro e; injection e with e; omega)
        have hact5 := hact4.grown g5 (by intro e; injection e with e; omega)
        have b5 := bone b4 g5 b4.size hwb
        clear t4 r4 hact4 b4 g5 a1 a2 a3
        have HL5 := Lib.hid (show (wrL l A s.data.toList).length = 64 * c by rw [wrL_len, HL.out])
        generalize wrL l A s.data.toList = l5 at *
        generalize errC (mayB A s.size l.length) = C
        have hrow := r5.row
        go_wp2_with fail
        refine (pread_is g l5 _ _ 0 (str l5) _ t5 (rd_whole l5).1 (rd_whole l5).2).mono ?_
        rintro e w' ⟨rfl, rfl⟩
        obtain ⟨a1, a2, a3⟩ := act_cells hact5
        go_wp2_with fail
        refine (pword_any g l5 A _ t5).mono ?_
        rintro e w' ⟨rfl, rfl⟩
        go_wp2_with fail
        refine (rword_any (b + 1) b l5 A _ r5).mono ?_
        rintro e w6 ⟨rfl, q6, rfl⟩
        replace t5 := t5.drewN q6
        replace r5 := r5.drewN q6
        replace hact5 := hact5.drewN q6
        replace b5 := bdrewN b5 q6
        clear a1 a2 a3 hrow
        generalize w5.drewN q6 = w6 at *
        obtain ⟨a1, a2, a3⟩ := act_cells hact5
        have hrow := r5.row
        have hwh := r5.whole
        generalize wdN l5 A = N1
        generalize errC (wdB l5.length A) = C1
        go_wp2_with fail
        refine (pread_any g l5 A X _ t5).mono ?_
        rintro e w' ⟨rfl, rfl⟩
        go_wp2_with fail
        refine (rread_any (b + 1) b l5 A X _ r5).mono ?_
        rintro e w' ⟨rfl, rfl⟩
        generalize str (rdL l5 A X) = S1
        generalize errC (mayB A X l5.length) = C2
        generalize str l5 = S0 at hwh ⊢
        go_wp2_with (go_at_call 10; refine (num_any _ _).mono ?_; rintro e w' ⟨rfl, rfl⟩)
        go_roundw
        case rel => exact ⟨k + 1, by omega, by go_num, l5, HL5, t5, r5, b5⟩
        case measure => simp [intOf]; omega
      · -- a word
        have hcs := act_cells hact
        obtain ⟨a1, a2, a3⟩ := hcs
        refine (pputword_any g l A X _ ht).mono ?_
        rintro e w4 ⟨rfl, t4, g4⟩
        have r4 := hr.grown g4 (by intro e; injection e with e; omega) (by intro e; injection e with e; omega)
        have hact4 := hact.grown g4 (by intro e; injection e with e; omega)
        have b4 := bone hbel g4 hbel.size (by omega)
        clear ht hr hact hbel g4 a1 a2 a3
        go_wp2_with fail
        refine (num_any _ _).mono ?_
        rintro e w' ⟨rfl, rfl⟩
        obtain ⟨a1, a2, a3⟩ := act_cells hact4
        go_wp2_with fail
        refine (rputword_any (b + 1) b l A X _ r4).mono ?_
        rintro e w5 ⟨rfl, r5, g5⟩
        have t5 := t4.grown g5 (by intro e; injection e with e; omega)
        have hact5 := hact4.grown g5 (by intro e; injection e with e; omega)
        have b5 := bone b4 g5 b4.size hwb
        clear t4 r4 hact4 b4 g5 a1 a2 a3
        have HL5 := Lib.hid (show (pwL l A X).length = 64 * c by rw [pwL_len, HL.out])
        generalize pwL l A X = l5 at *
        generalize errC (pwB l.length A X) = C
        have hrow := r5.row
        go_wp2_with fail
        refine (pread_is g l5 _ _ 0 (str l5) _ t5 (rd_whole l5).1 (rd_whole l5).2).mono ?_
        rintro e w' ⟨rfl, rfl⟩
        obtain ⟨a1, a2, a3⟩ := act_cells hact5
        go_wp2_with fail
        refine (pword_any g l5 A _ t5).mono ?_
        rintro e w' ⟨rfl, rfl⟩
        go_wp2_with fail
        refine (rword_any (b + 1) b l5 A _ r5).mono ?_
        rintro e w6 ⟨rfl, q6, rfl⟩
        replace t5 := t5.drewN q6
        replace r5 := r5.drewN q6
        replace hact5 := hact5.drewN q6
        replace b5 := bdrewN b5 q6
        clear a1 a2 a3 hrow
        generalize w5.drewN q6 = w6 at *
        obtain ⟨a1, a2, a3⟩ := act_cells hact5
        have hrow := r5.row
        have hwh := r5.whole
        generalize wdN l5 A = N1
        generalize errC (wdB l5.length A) = C1
        go_wp2_with fail
        refine (pread_any g l5 A X _ t5).mono ?_
        rintro e w' ⟨rfl, rfl⟩
        go_wp2_with fail
        refine (rread_any (b + 1) b l5 A X _ r5).mono ?_
        rintro e w' ⟨rfl, rfl⟩
        generalize str (rdL l5 A X) = S1
        generalize errC (mayB A X l5.length) = C2
        generalize str l5 = S0 at hwh ⊢
        go_wp2_with (go_at_call 10; refine (num_any _ _).mono ?_; rintro e w' ⟨rfl, rfl⟩)
        go_roundw
        case rel => exact ⟨k + 1, by omega, by go_num, l5, HL5, t5, r5, b5⟩
        case measure => simp [intOf]; omega
      · -- a frame
        have hcs := act_cells hact
        obtain ⟨a1, a2, a3⟩ := hcs
        refine (pzero_any g l X _ ht).mono ?_
        rintro e w4 ⟨rfl, t4, g4⟩
        have r4 := hr.grown g4 (by intro e; injection e with e; omega) (by intro e; injection e with e; omega)
        have hact4 := hact.grown g4 (by intro e; injection e with e; omega)
        have b4 := bone hbel g4 hbel.size (by omega)
        clear ht hr hact hbel g4 a1 a2 a3
        go_wp2_with fail
        refine (num_any _ _).mono ?_
        rintro e w' ⟨rfl, rfl⟩
        obtain ⟨a1, a2, a3⟩ := act_cells hact4
        go_wp2_with fail
        refine (rzero_any (b + 1) b l X _ r4).mono ?_
        rintro e w5 ⟨rfl, r5, g5⟩
        have t5 := t4.grown g5 (by intro e; injection e with e; omega)
        have hact5 := hact4.grown g5 (by intro e; injection e with e; omega)
        have b5 := bone b4 g5 b4.size hwb
        clear t4 r4 hact4 b4 g5 a1 a2 a3
        have HL5 := Lib.hid (show (zeL l X).length = 64 * c by rw [zeL_len _ _ (by rw [HL.out]; omega), HL.out])
        generalize zeL l X = l5 at *
        generalize errC (zeB l.length X) = C
        have hrow := r5.row
        go_wp2_with fail
        refine (pread_is g l5 _ _ 0 (str l5) _ t5 (rd_whole l5).1 (rd_whole l5).2).mono ?_
        rintro e w' ⟨rfl, rfl⟩
        obtain ⟨a1, a2, a3⟩ := act_cells hact5
        go_wp2_with fail
        refine (pword_any g l5 A _ t5).mono ?_
        rintro e w' ⟨rfl, rfl⟩
        go_wp2_with fail
        refine (rword_any (b + 1) b l5 A _ r5).mono ?_
        rintro e w6 ⟨rfl, q6, rfl⟩
        replace t5 := t5.drewN q6
        replace r5 := r5.drewN q6
        replace hact5 := hact5.drewN q6
        replace b5 := bdrewN b5 q6
        clear a1 a2 a3 hrow
        generalize w5.drewN q6 = w6 at *
        obtain ⟨a1, a2, a3⟩ := act_cells hact5
        have hrow := r5.row
        have hwh := r5.whole
        generalize wdN l5 A = N1
        generalize errC (wdB l5.length A) = C1
        go_wp2_with fail
        refine (pread_any g l5 A X _ t5).mono ?_
        rintro e w' ⟨rfl, rfl⟩
        go_wp2_with fail
        refine (rread_any (b + 1) b l5 A X _ r5).mono ?_
        rintro e w' ⟨rfl, rfl⟩
        generalize str (rdL l5 A X) = S1
        generalize errC (mayB A X l5.length) = C2
        generalize str l5 = S0 at hwh ⊢
        go_wp2_with (go_at_call 10; refine (num_any _ _).mono ?_; rintro e w' ⟨rfl, rfl⟩)
        go_roundw
        case rel => exact ⟨k + 1, by omega, by go_num, l5, HL5, t5, r5, b5⟩
        case measure => simp [intOf]; omega
    · have hx : (k : Int) ≥ n ∨ ((k : Int) < n ∧ decide ((k : Int) < 60) = false) := by
        by_cases h1 : k < n
        · exact .inr ⟨by omega, by simp; omega⟩
        · exact .inl (by omega)
      clear hgo ht hr
      have hsz := hbel.size
      rcases hx with hx | ⟨hx, hx2⟩
      all_goals
        go_wp2_with fail
        refine (awake_any _).mono ?_
        rintro e wa ⟨rfl, ba⟩
        go_wp2_with fail
        go_ret
        exact ⟨rfl, Below.down hbel ba hsz⟩

theorem law_Mems (c : Int) (v : Value) (n : Nat) (xs : List Value) (w : World) (hv : Sl w v n 4 xs) (hn : n ≤ maxLen) (hr : ∀ i, i < n → ActAt xs i) :
    Calls Try.prog 3 #[.int .i64 c, v] w fun e w' => e = .returned (.bool true) ∧ Below w.heap.size w w' := by
  by_cases hc : 1 ≤ c ∧ c ≤ 64
  · exact mems_yes c v n xs w hv hn hr hc.1 hc.2
  · exact mems_no c v w hc

end Go.Proofs.Ytcljcjlfbeplcaa
