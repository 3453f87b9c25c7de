/-
  Layer 17's law RingForms: it answers true for every input.
-/
import Derived.Test.YtcjmgjdejljjkaaRiAwake
import Derived.StillTailTactics
import Derived.BigRegion
import Derived.Deep.CutBlock
import Derived.Deep.DeepCutAuto
namespace Go.Proofs.Ytcjmgjdejljjkaa
open Go.RowKit
set_option linter.unusedVariables false
set_option linter.unusedSimpArgs false
set_option maxRecDepth 100000

/-- The law's ring: one descriptor that ends it, zeros. -/
def fmD : Ds := ⟨0, 255, 0, 0, 1⟩
def fmQ : List UInt8 := rngL [fmD]
/-- Rings that are none. -/
def fmB : Nat → List UInt8
  | 0 => []
  | 1 => fmQ.drop 1
  | 2 => fmQ ++ [0]
  | 3 => [4] ++ fmQ.drop 1
  | 4 => fmQ.take 7 ++ [1] ++ fmQ.drop 8
  | _ => fmQ.take 1 ++ [9] ++ fmQ.drop 2
theorem fmB_no (i : Nat) (h : i < 6) : riP (fmB i) 0 = (1700, []) := by
  rcases (show i = 0 ∨ i = 1 ∨ i = 2 ∨ i = 3 ∨ i = 4 ∨ i = 5 by omega) with rfl | rfl | rfl | rfl | rfl | rfl <;> kernel_rfl
theorem str_ext (q : List UInt8) (a b : Nat) : (str q).extract a b = str ((q.drop a).take (b - a)) := ByteArray.extract_mk q a b
theorem sl_l (q : List UInt8) (k : Nat) (hk : k ≤ q.length) (wx : World) : (Instr.slice 9 (.string (str q)) (some (.int .i64 (k : Int))) none none).run Try.prog wx = .ok (.string (str (q.drop k))) wx := by
  have h := run_slice_string_l (P := Try.prog) wx 9 (str q) Try.underlying9 .i64 (k : Int) (by omega) (by rw [str_size]; omega)
  rw [h, Int.toNat_natCast, str_size, str_ext, List.take_of_length_le (by simp)]
theorem sl_h (q : List UInt8) (k : Nat) (hk : k ≤ q.length) (wx : World) : (Instr.slice 9 (.string (str q)) none (some (.int .i64 (k : Int))) none).run Try.prog wx = .ok (.string (str (q.take k))) wx := by
  have h := run_slice_string_h (P := Try.prog) wx 9 (str q) Try.underlying9 .i64 (k : Int) (by omega) (by rw [str_size]; omega)
  rw [h, Int.toNat_natCast, str_ext]; simp
theorem st_add (a b : List UInt8) (h : a.length + b.length ≤ 9223372036854775807) (wx : World) : (Op.stringOp .add (str a) (str b)).run Try.prog wx = .ok (.string (str (a ++ b))) wx := by
  rw [run_string_add_sum wx (str a) (str b) (by rw [str_size, str_size]; exact h), str_append]
theorem fmQ_len : fmQ.length = 64 := rngL_len _

/-- What stands between the law's last calls: the frames, the descriptor. -/
structure Fm (w0 : World) (ga gd : Nat) (o x l b n : Int) (w : World) : Prop where
  a : Blk w ga 3 (ints [0, 1, 2, 3])
  d : Blk w gd 42 (ints (dss [⟨o, x, l, b, n⟩]))
  bel : Below w0.heap.size w0 w
  hd : w0.heap.size ≤ gd
  ne : ga ≠ gd
theorem Fm.next {w0 w w' : World} {ga gd : Nat} {o x l b n : Int} (h : Fm w0 ga gd o x l b n w) (hb : Below w.heap.size w w') : Fm w0 ga gd o x l b n w' :=
  ⟨h.a.below hb h.a.lt, h.d.below hb h.d.lt, Below.down h.bel hb h.bel.size, h.hd, h.ne⟩
theorem Fm.set {w0 w : World} {ga gd : Nat} {o x l b n : Int} (h : Fm w0 ga gd o x l b n w) (i : Nat) (z : Int) {o' x' l' b' n' : Int} (e : (ints (dss [⟨o, x, l, b, n⟩])).set i (.int .i64 z) = ints (dss [⟨o', x', l', b', n'⟩])) : Fm w0 ga gd o' x' l' b' n' (w.setCell ⟨gd, i, none⟩ (.int .i64 z)) :=
  ⟨h.a.far (p := ⟨gd, i, none⟩) h.ne _, by rw [← e]; exact h.d.set i _, h.bel.setCell h.hd _, h.hd, h.ne⟩
theorem Sl.of_blk {w : World} {g : Nat} {t : TypeId} {cs : List Value} (h : Blk w g t cs) (n size : Nat) (hl : cs.length = n * size) : Sl w (.slice (some ⟨g, 0, none⟩) n n) n size cs :=
  ⟨_, n, rfl, Nat.le_refl _, hl, fun _ => ⟨g, 0, rfl, h.lt, fun j u hu => by rw [h.cell, Nat.zero_add]; exact hu⟩⟩
theorem own_blk {w : World} {g B : Nat} {t : TypeId} {cs : List Value} (h : Blk w g t cs) (n size : Nat) (hl : cs.length = n * size) (hB : B ≤ g) (hn : n ≤ maxLen) : w.ownsRow B t size (.slice (some ⟨g, 0, none⟩) n n) n cs :=
  ⟨hl, .inr ⟨g, n, cs.toArray, rfl, hB, h, Nat.le_refl _, hn, by simpa using hl, by simp [← hl]⟩⟩
/-- One descriptor alone. -/
theorem ck_one (o x l b n : Int) (rs ws : List Int) (C : Int) (h : oneC ⟨o, x, l, b, n⟩ rs ws = C) : ckC [⟨o, x, l, b, n⟩] rs ws = C := by
  unfold ckC; rw [h]
  by_cases e : C = 0
  · rw [if_pos e, e]; rfl
  · rw [if_neg e]
theorem one_form (o x l b n : Int) (rs ws : List Int) (h : deB o x l b n = false) : oneC ⟨o, x, l, b, n⟩ rs ws = 1700 := by unfold oneC deD; simp only; rw [h]; rfl
theorem one_len (o x l b n : Int) (rs ws : List Int) (h : 4 < n) : oneC ⟨o, x, l, b, n⟩ rs ws = 1700 := by unfold oneC; simp only; rw [decide_eq_false (show ¬ n ≤ 4 by omega)]; simp

set_option maxHeartbeats 4000000 in
theorem law_RingForms (q y : Int) (wq : (Lit.int .i64 q).wf = true) (wy : (Lit.int .i64 y).wf = true) (w : World) :
    Calls Try.prog 6 #[.int .i64 q, .int .i64 y] w fun e w' => e = .returned (.bool true) ∧ Below w.heap.size w w' := by
  have hU := u64b q
  have hF := band y 1023 (by omega) (by omega)
  generalize hU' : IntKind.u64.wrap q = U at hU
  generalize hF' : bits BinOp.and IntKind.i64 y 1023 = F at hF
  obtain ⟨hU0, hU1⟩ := hU
  obtain ⟨hF0, hF1⟩ := hF
  have hJ0 : 0 ≤ U % 9 := by omega
  have hJ1 : U % 9 < 9 := by omega
  generalize hJ' : U % 9 = J at hJ0 hJ1
  have hI0 : 0 ≤ U % 6 := by omega
  have hI1 : U % 6 < 6 := by omega
  generalize hI' : U % 6 = I at hI0 hI1
  obtain ⟨I, rfl⟩ := Int.eq_ofNat_of_zero_le hI0
  clear wq wy
  obtain ⟨R, hR⟩ : ∃ R, str fmQ = R := ⟨_, rfl⟩
  have HR := Lib.hid hR
  have H0 : Hid (riP R.data.toList 0 = (0, [fmD])) := Lib.hid (by rw [← hR, str_list]; kernel_rfl)
  have HE : Hid (∀ h : Int, ¬ (0 ≤ h ∧ h < 8) → riP R.data.toList h = (1701, [])) := Lib.hid (by rw [← hR, str_list]; exact fun h hh => riP_head fmQ_len hh)
  have HRZ : Hid (R.size = 64) := Lib.hid (by rw [← hR, str_size, fmQ_len])
  clear hR
  go_enter Try.func6, Try.ntmps6
  go_wp2_with fail
  refine (riawake_any _).mono ?_
  rintro e w1 ⟨rfl, b1⟩
  have HB := Lib.hid b1
  clear b1
  go_wp2_with fail
  refine (ringed_is _ 1 [fmD] R _ (Sl.lit w1 (ints (dss [fmD])) 1 5 42 rfl) rfl (by decide) HR.out).mono ?_
  rintro e w2 ⟨rfl, b⟩
  have HB := Lib.hid (Below.down (HB.out.alloc HB.out.size _) b (HB.out.alloc HB.out.size _).size)
  clear b
  go_wp2_with fail
  refine (chain_is R 0 _ _ H0.out).mono ?_
  rintro e w3 ⟨va, rfl, ho, b⟩
  have HB := Lib.hid (Below.down HB.out b HB.out.size)
  have hva : ∃ A c, va = .slice A 1 c := by obtain ⟨A, c, e, _⟩ := Sl.own ho; exact ⟨A, c, e⟩
  obtain ⟨Aa, ca, rfl⟩ := hva
  clear b ho
  go_wp2_with fail
  refine (chain_is R _ _ _ (HE.out _ (by omega))).mono ?_
  rintro e w4 ⟨vb, rfl, ho, b⟩
  have HB := Lib.hid (Below.down HB.out b HB.out.size)
  clear b ho
  go_wp2_with fail
  refine (chain_is R _ _ _ (HE.out _ (by omega))).mono ?_
  rintro e w5 ⟨vc, rfl, ho, b⟩
  have HB := Lib.hid (Below.down HB.out b HB.out.size)
  clear b ho
  obtain ⟨L1, eL1⟩ : ∃ L, str (fmQ.drop 1) = L := ⟨_, rfl⟩
  obtain ⟨L2, eL2⟩ : ∃ L, str (fmQ.drop 2) = L := ⟨_, rfl⟩
  obtain ⟨L8, eL8⟩ : ∃ L, str (fmQ.drop 8) = L := ⟨_, rfl⟩
  obtain ⟨K1, eK1⟩ : ∃ L, str (fmQ.take 1) = L := ⟨_, rfl⟩
  obtain ⟨K7, eK7⟩ : ∃ L, str (fmQ.take 7) = L := ⟨_, rfl⟩
  obtain ⟨M1, eM1⟩ : ∃ L, str (fmQ.take 1 ++ [9]) = L := ⟨_, rfl⟩
  obtain ⟨M7, eM7⟩ : ∃ L, str (fmQ.take 7 ++ [1]) = L := ⟨_, rfl⟩
  obtain ⟨B2, eB2⟩ : ∃ L, str (fmB 2) = L := ⟨_, rfl⟩
  obtain ⟨B3, eB3⟩ : ∃ L, str (fmB 3) = L := ⟨_, rfl⟩
  obtain ⟨B4, eB4⟩ : ∃ L, str (fmB 4) = L := ⟨_, rfl⟩
  obtain ⟨B5, eB5⟩ : ∃ L, str (fmB 5) = L := ⟨_, rfl⟩
  have hq := fmQ_len
  have hs1 : ∀ wx : World, (Instr.slice 9 (.string R) (some (.int .i64 1)) none none).run Try.prog wx = .ok (.string L1) wx := by rw [← HR.out, ← eL1]; exact sl_l fmQ 1 (by omega)
  have hs2 : ∀ wx : World, (Instr.slice 9 (.string R) (some (.int .i64 2)) none none).run Try.prog wx = .ok (.string L2) wx := by rw [← HR.out, ← eL2]; exact sl_l fmQ 2 (by omega)
  have hs8 : ∀ wx : World, (Instr.slice 9 (.string R) (some (.int .i64 8)) none none).run Try.prog wx = .ok (.string L8) wx := by rw [← HR.out, ← eL8]; exact sl_l fmQ 8 (by omega)
  have hk1 : ∀ wx : World, (Instr.slice 9 (.string R) none (some (.int .i64 1)) none).run Try.prog wx = .ok (.string K1) wx := by rw [← HR.out, ← eK1]; exact sl_h fmQ 1 (by omega)
  have hk7 : ∀ wx : World, (Instr.slice 9 (.string R) none (some (.int .i64 7)) none).run Try.prog wx = .ok (.string K7) wx := by rw [← HR.out, ← eK7]; exact sl_h fmQ 7 (by omega)
  have ha2 : ∀ wx : World, (Op.stringOp .add R ⟨#[0]⟩).run Try.prog wx = .ok (.string B2) wx := by rw [← HR.out, ← eB2]; exact st_add fmQ [0] (by simp [hq])
  have ha3 : ∀ wx : World, (Op.stringOp .add ⟨#[4]⟩ L1).run Try.prog wx = .ok (.string B3) wx := by rw [← eL1, ← eB3]; exact st_add [4] (fmQ.drop 1) (by simp [hq])
  have hm7 : ∀ wx : World, (Op.stringOp .add K7 ⟨#[1]⟩).run Try.prog wx = .ok (.string M7) wx := by rw [← eK7, ← eM7]; exact st_add (fmQ.take 7) [1] (by simp [hq])
  have ha4 : ∀ wx : World, (Op.stringOp .add M7 L8).run Try.prog wx = .ok (.string B4) wx := by rw [← eM7, ← eL8, ← eB4]; exact st_add (fmQ.take 7 ++ [1]) (fmQ.drop 8) (by simp [hq])
  have hm1 : ∀ wx : World, (Op.stringOp .add K1 ⟨#[9]⟩).run Try.prog wx = .ok (.string M1) wx := by rw [← eK1, ← eM1]; exact st_add (fmQ.take 1) [9] (by simp [hq])
  have ha5 : ∀ wx : World, (Op.stringOp .add M1 L2).run Try.prog wx = .ok (.string B5) wx := by rw [← eM1, ← eL2, ← eB5]; exact st_add (fmQ.take 1 ++ [9]) (fmQ.drop 2) (by simp [hq])
  have HBB : Hid (∀ i u, i < 6 → ([.string ⟨#[]⟩, .string L1, .string B2, .string B3, .string B4, .string B5] : List Value)[i]? = some (.string u) → riP u.data.toList 0 = (1700, [])) := Lib.hid (by
    intro i u hi hu
    have h6 := fmB_no i hi
    have e : u = str (fmB i) := by
      rcases (show i = 0 ∨ i = 1 ∨ i = 2 ∨ i = 3 ∨ i = 4 ∨ i = 5 by omega) with rfl | rfl | rfl | rfl | rfl | rfl
      · simp at hu; rw [← hu]; rfl
      · simp at hu; rw [← hu, ← eL1]; rfl
      · simp at hu; rw [← hu, ← eB2]
      · simp at hu; rw [← hu, ← eB3]
      · simp at hu; rw [← hu, ← eB4]
      · simp at hu; rw [← hu, ← eB5]
    rw [e, str_list]; exact h6)
  clear hq eL1 eL2 eL8 eK1 eK7 eM1 eM7 eB2 eB3 eB4 eB5
  go_wp2_with fail
  go_still_tail 19, (by kernel_rfl)
  repeat still_step
  have hB := bdrewN HB.out 1
  change Below _ _ (World.drew _) at hB
  change wpList _ _ _ _ _ w5.drew
  generalize w5.drew = wd at *
  have hBl := Blk.new wd 9 [.string ⟨#[]⟩, .string L1, .string B2, .string B3, .string B4, .string B5]
  have hB2 := hB.alloc hB.size (.cells #[.string ⟨#[]⟩, .string L1, .string B2, .string B3, .string B4, .string B5] 9)
  have hu : ∃ u, ([.string ⟨#[]⟩, .string L1, .string B2, .string B3, .string B4, .string B5] : List Value)[I]? = some (.string u) := by
    rcases (show I = 0 ∨ I = 1 ∨ I = 2 ∨ I = 3 ∨ I = 4 ∨ I = 5 by omega) with rfl | rfl | rfl | rfl | rfl | rfl <;> exact ⟨_, rfl⟩
  obtain ⟨u, hu⟩ := hu
  have HU0 := Lib.hid (HBB.out I u (by omega) hu)
  have hcu := (hBl.cell I).trans hu
  have HB := Lib.hid hB2
  clear hs1 hs2 hs8 hk1 hk7 ha2 ha3 ha4 ha5 hm1 hm7 hB hB2 hBl HBB hu
  have HJ := Lib.hid hJ'
  clear hJ'
  go_wp2_with fail
  refine (chain_is u 0 _ _ HU0.out).mono ?_
  rintro e w6 ⟨vn, rfl, ho, b⟩
  have hb6 := Below.down HB.out b HB.out.size
  have hvn : ∃ A c, vn = .slice A 0 c := by obtain ⟨A, c, e, _⟩ := Sl.own ho; exact ⟨A, c, e⟩
  obtain ⟨An, cn, rfl⟩ := hvn
  clear b ho hcu
  have t1 := (Blk.new w6 3 (ints [0, 1, 2, 3])).alloc (.cells (ints (dss [fmD])).toArray 42)
  have t2 := Blk.new (w6.alloc (.cells (ints [0, 1, 2, 3]).toArray 3)) 42 (ints (dss [fmD]))
  have hsz : (w6.alloc (.cells (ints [0, 1, 2, 3]).toArray 3)).heap.size = w6.heap.size + 1 := by simp
  rw [hsz] at t2
  have hFm : Fm w w6.heap.size (w6.heap.size + 1) 0 255 0 0 1 ((w6.alloc (.cells (ints [0, 1, 2, 3]).toArray 3)).alloc (.cells (ints (dss [fmD])).toArray 42)) := ⟨t1, t2, (hb6.alloc hb6.size _).alloc (hb6.alloc hb6.size _).size _, by have := hb6.size; omega, by omega⟩
  have HB6 := Lib.hid hb6
  clear t1 t2 hsz hb6
  go_wp2_with fail
  have HFm := Lib.hid hFm
  clear hFm
  change Calls _ _ _ ((w6.alloc (.cells (ints [0, 1, 2, 3]).toArray 3)).alloc (.cells (ints (dss [fmD])).toArray 42)) _
  generalize (w6.alloc (.cells (ints [0, 1, 2, 3]).toArray 3)).alloc (.cells (ints (dss [fmD])).toArray 42) = w7 at *
  generalize w6.heap.size + 1 = gd at *
  generalize w6.heap.size = ga at *
  refine (check_any _ _ _ 1 4 4 [fmD] [0, 1, 2, 3] [0, 1, 2, 3] _ (Sl.of_blk HFm.out.d 1 5 rfl) rfl (by decide) (Sl.of_blk HFm.out.a 4 1 rfl) rfl (by decide) (Sl.of_blk HFm.out.a 4 1 rfl) rfl (by decide) 0 (by kernel_rfl)).mono ?_
  rintro e w8 ⟨rfl, b8⟩
  have HFm := Lib.hid (HFm.out.next b8)
  clear b8
  have hJ' := HJ.out
  go_upto_block 0 with fail
  rw [hJ']
  clear hJ'
  go_cut [17, 19] (fun v c wx => ∃ (A : Option Addr) (m k : Nat) (l : List Ds) (C : Int), v = .slice A m k ∧ c = .int .i64 C ∧ Hid (Sl wx (.slice A m k) m 5 (ints (dss l)) ∧ l.length = m ∧ m ≤ 2 ∧ ckC l [0, 1, 2, 3] [0, 1, 2, 3] = C ∧ Blk wx ga 3 (ints [0, 1, 2, 3]) ∧ Below w.heap.size w wx))
  case first =>
    obtain ⟨c0, c1, c2, c3, c4⟩ := five_at (show Blk w8 gd 42 [.int .i64 0, .int .i64 255, .int .i64 0, .int .i64 0, .int .i64 1] from HFm.out.d)
    obtain ⟨f0, f1, f2, f3, f4⟩ := five_fr (show Blk w8 gd 42 [.int .i64 0, .int .i64 255, .int .i64 0, .int .i64 0, .int .i64 1] from HFm.out.d)
    have hR0 : 0 ≤ (1 + F) % 200 := by omega
    have hR1 : (1 + F) % 200 < 200 := by omega
    rcases (show J = 0 ∨ J = 1 ∨ J = 2 ∨ J = 3 ∨ J = 4 ∨ J = 5 ∨ J = 6 ∨ J = 7 ∨ J = 8 by omega) with rfl | rfl | rfl | rfl | rfl | rfl | rfl | rfl | rfl
    · as_aux_lemma =>
        have hn := HFm.out.set 4 0 (o' := 0) (x' := 255) (l' := 0) (b' := 0) (n' := 0) rfl
        have HN := Lib.hid hn
        clear hn
        go_wp2_with fail
        go_meet
        exact ⟨some ⟨gd, 0, none⟩, 1, 1, [⟨0, 255, 0, 0, 0⟩], 1700, rfl, rfl, Lib.hid ⟨Sl.of_blk HN.out.d 1 5 rfl, rfl, by decide, by kernel_rfl, HN.out.a, HN.out.bel⟩⟩
    · as_aux_lemma =>
        have hn := HFm.out.set 4 (5 + (1 + F) % 200) (o' := 0) (x' := 255) (l' := 0) (b' := 0) (n' := 5 + (1 + F) % 200) rfl
        have HN := Lib.hid hn
        clear hn
        go_wp2_with fail
        go_meet
        exact ⟨some ⟨gd, 0, none⟩, 1, 1, [⟨0, 255, 0, 0, 5 + (1 + F) % 200⟩], 1700, rfl, rfl, Lib.hid ⟨Sl.of_blk HN.out.d 1 5 rfl, rfl, by decide, ck_one _ _ _ _ _ _ _ _ (one_len _ _ _ _ _ _ _ (by omega)), HN.out.a, HN.out.bel⟩⟩
    · as_aux_lemma =>
        have hn := HFm.out.set 0 (3 + (1 + F)) (o' := 3 + (1 + F)) (x' := 255) (l' := 0) (b' := 0) (n' := 1) rfl
        have HN := Lib.hid hn
        clear hn
        go_wp2_with fail
        go_meet
        exact ⟨some ⟨gd, 0, none⟩, 1, 1, [⟨3 + (1 + F), 255, 0, 0, 1⟩], 1700, rfl, rfl, Lib.hid ⟨Sl.of_blk HN.out.d 1 5 rfl, rfl, by decide, ck_one _ _ _ _ _ _ _ _ (one_form _ _ _ _ _ _ _ (de_no _ _ _ _ _ (by omega))), HN.out.a, HN.out.bel⟩⟩
    · as_aux_lemma =>
        have hn := HFm.out.set 1 (-(1 + F)) (o' := 0) (x' := -(1 + F)) (l' := 0) (b' := 0) (n' := 1) rfl
        have HN := Lib.hid hn
        clear hn
        go_wp2_with fail
        go_meet
        exact ⟨some ⟨gd, 0, none⟩, 1, 1, [⟨0, -(1 + F), 0, 0, 1⟩], 1700, rfl, rfl, Lib.hid ⟨Sl.of_blk HN.out.d 1 5 rfl, rfl, by decide, ck_one _ _ _ _ _ _ _ _ (one_form _ _ _ _ _ _ _ (de_no _ _ _ _ _ (by omega))), HN.out.a, HN.out.bel⟩⟩
    · as_aux_lemma =>
        have hn := HFm.out.set 3 (65535 + (1 + F)) (o' := 0) (x' := 255) (l' := 0) (b' := 65535 + (1 + F)) (n' := 1) rfl
        have HN := Lib.hid hn
        clear hn
        go_wp2_with fail
        go_meet
        exact ⟨some ⟨gd, 0, none⟩, 1, 1, [⟨0, 255, 0, 65535 + (1 + F), 1⟩], 1700, rfl, rfl, Lib.hid ⟨Sl.of_blk HN.out.d 1 5 rfl, rfl, by decide, ck_one _ _ _ _ _ _ _ _ (one_form _ _ _ _ _ _ _ (de_no _ _ _ _ _ (by omega))), HN.out.a, HN.out.bel⟩⟩
    · as_aux_lemma =>
        have hn := HFm.out.set 2 (-(1 + F)) (o' := 0) (x' := 255) (l' := -(1 + F)) (b' := 0) (n' := 1) rfl
        have HN := Lib.hid hn
        clear hn
        go_wp2_with fail
        go_meet
        exact ⟨some ⟨gd, 0, none⟩, 1, 1, [⟨0, 255, -(1 + F), 0, 1⟩], 1700, rfl, rfl, Lib.hid ⟨Sl.of_blk HN.out.d 1 5 rfl, rfl, by decide, ck_one _ _ _ _ _ _ _ _ (one_form _ _ _ _ _ _ _ (de_no _ _ _ _ _ (by omega))), HN.out.a, HN.out.bel⟩⟩
    · as_aux_lemma =>
        have hn := HFm.out.set 3 250 (o' := 0) (x' := 255) (l' := 0) (b' := 250) (n' := 1) rfl
        have HN := Lib.hid hn
        clear hn
        go_wp2_with fail
        go_meet
        exact ⟨some ⟨gd, 0, none⟩, 1, 1, [⟨0, 255, 0, 250, 1⟩], 1703, rfl, rfl, Lib.hid ⟨Sl.of_blk HN.out.d 1 5 rfl, rfl, by decide, by kernel_rfl, HN.out.a, HN.out.bel⟩⟩
    · as_aux_lemma =>
        have hn := HFm.out.set 3 65535 (o' := 0) (x' := 255) (l' := 0) (b' := 65535) (n' := 1) rfl
        have HN := Lib.hid hn
        clear hn
        go_wp2_with fail
        go_meet
        exact ⟨some ⟨gd, 0, none⟩, 1, 1, [⟨0, 255, 0, 65535, 1⟩], 1703, rfl, rfl, Lib.hid ⟨Sl.of_blk HN.out.d 1 5 rfl, rfl, by decide, by kernel_rfl, HN.out.a, HN.out.bel⟩⟩
    · obtain ⟨i0, hi, hz0, hz1, hz2⟩ := info_parts infoDs
      have HI := Lib.hid hi; have HZ0 := Lib.hid hz0; have HZ1 := Lib.hid hz1; have HZ2 := Lib.hid hz2
      have hd := HFm.out.hd
      have hs8 := HFm.out.bel.size
      have HO := Lib.hid (own_blk HFm.out.d 1 5 rfl hd (by decide))
      have H1 := Lib.hid (ints_one1 (dss [(⟨1, 255, 0, 256, 1⟩ : Ds)]))
      have HNW := Lib.hid (row_new w8 (ints (dss [(⟨1, 255, 0, 256, 1⟩ : Ds)])) 42)
      clear hi hz0 hz1 hz2
      go_wp2_with (at_builtin; refine wpList_append_own _ rfl _ _ 22 rfl w.heap.size 42 i0 _ 5 40 Try.underlying22 HI.out HZ0.out HZ1.out HZ2.out rfl (by decide) _ 1 (ints (dss [fmD])) rfl (HO.out.alloc _) ⟨w8.heap.size, 0, none⟩ 1 1 (ints (dss [(⟨1, 255, 0, 256, 1⟩ : Ds)])) rfl rfl (by exact HNW.out) H1.out (by unfold maxLen; omega) (by omega) (by simp; omega) ?_)
      intro v' w9 hown' hgrow _
      have hb9 := below_one _ HO.out hs8 HFm.out.bel hgrow
      have ha9 := (HFm.out.a.alloc _).grown hgrow (by simp [Value.ownBlock]; exact HFm.out.ne)
      rw [← ints_append, ← dss_append] at hown'
      have hsl := Sl.own hown'
      obtain ⟨A, c, rfl, -, -, -⟩ := id hsl
      have HX := Lib.hid (And.intro hsl (And.intro ha9 hb9))
      clear hgrow hown' hb9 ha9 hsl c0 c1 c2 c3 c4 f0 f1 f2 f3 f4
      go_wp2_with fail
      go_meet
      exact ⟨A, 2, c, [fmD, ⟨1, 255, 0, 256, 1⟩], 1703, rfl, rfl, Lib.hid ⟨HX.out.1, rfl, by decide, by kernel_rfl, HX.out.2.1, HX.out.2.2⟩⟩
  case rest =>
    obtain ⟨A, m, k, l, C, rfl, rfl, H⟩ := hcut
    have hm := H.out.2.2.1
    have hC : (C == C) = true := by simp
    go_wp2_with fail
    refine (check_any _ _ _ m 4 4 l [0, 1, 2, 3] [0, 1, 2, 3] _ H.out.1 H.out.2.1 (by unfold maxLen; omega) (Sl.of_blk H.out.2.2.2.2.1 4 1 rfl) rfl (by decide) (Sl.of_blk H.out.2.2.2.2.1 4 1 rfl) rfl (by decide) C H.out.2.2.2.1).mono ?_
    rintro e w11 ⟨rfl, b11⟩
    have HB := Lib.hid (Below.down H.out.2.2.2.2.2 b11 H.out.2.2.2.2.2.size)
    clear b11
    go_wp2_with fail
    refine (num_any _ _).mono ?_; rintro e w' ⟨rfl, rfl⟩
    go_wp2_with fail
    refine (num_any _ _).mono ?_; rintro e w' ⟨rfl, rfl⟩
    go_wp2_with fail
    refine (num_any _ _).mono ?_; rintro e w' ⟨rfl, rfl⟩
    go_wp2_with fail
    refine (num_any _ _).mono ?_; rintro e w' ⟨rfl, rfl⟩
    go_wp2_with fail
    refine (num_any _ _).mono ?_; rintro e w' ⟨rfl, rfl⟩
    go_wp2_with fail
    refine (num_any _ _).mono ?_; rintro e w' ⟨rfl, rfl⟩
    go_wp2_with fail
    go_ret
    exact ⟨rfl, HB.out⟩

end Go.Proofs.Ytcjmgjdejljjkaa
