/-
  The contract of firstPiece of addr.
-/
import Derived.Test.YtggdbiniklchoaaMay
import Derived.Test.YtggdbiniklchoaaMem
namespace Go.Proofs.Ytggdbiniklchoaa
open Go.RowKit
set_option linter.unusedVariables false
set_option maxRecDepth 100000

theorem first_any (a n k : Int) (w : World) (h0 : 0 ≤ a) (h1 : 0 ≤ n) (h2 : a ≤ 4096) (h3 : n ≤ 4096) (hk : k = min n (64 - a % 64)) :
    Calls Try.prog 66 #[.int .i64 a, .int .i64 n] w fun e w' => e = .returned (.agg #[.int .i64 (a / 64), .int .i64 (a % 64), .int .i64 k]) ∧ Below w.heap.size w w' := by
  subst hk
  by_cases h : n ≤ 64 - a % 64
  · rw [show min n (64 - a % 64) = n from by omega]
    go_enter Try.func66, Try.ntmps66
    go_wp2
    exact bodyPost_ret (v := .agg #[.int .i64 (a / 64), .int .i64 (a % 64), .int .i64 n]) (by simp [results, Try.results66, go_sem]) rfl ⟨rfl, (Below.refl _ _).alloc (Nat.le_refl _) _⟩
  · rw [show min n (64 - a % 64) = 64 - a % 64 from by omega]
    go_enter Try.func66, Try.ntmps66
    go_wp2
    exact bodyPost_ret (v := .agg #[.int .i64 (a / 64), .int .i64 (a % 64), .int .i64 (64 - a % 64)]) (by simp [results, Try.results66, go_sem]) rfl ⟨rfl, (Below.refl _ _).alloc (Nat.le_refl _) _⟩

end Go.Proofs.Ytggdbiniklchoaa

namespace Go.Proofs.Ytggdbiniklchoaa
open Go.RowKit
set_option linter.unusedVariables false
set_option maxRecDepth 100000

/-- What a call that answers pieces leaves: they stand in a row of its own; below block B nothing has turned. -/
def Pieces (L : List (Nat × Nat × Nat)) (w : World) (e : Ending) (w' : World) : Prop :=
  ∃ v, e = .returned (.tuple #[v, .int .i64 0]) ∧ w'.ownsRow w.heap.size 65 3 v L.length (flat L) ∧ Below w.heap.size w w'

theorem infoPiece : (Try.prog.info? 65).map (fun i => (i.zero, i.size, i.bytes)) = some (some (.agg #[.int .i64 0, .int .i64 0, .int .i64 0]), 3, 24) := by kernel_rfl

theorem split_yes (a n : Int) (w : World) (h0 : 0 ≤ a) (h1 : 0 ≤ n) (h2 : a + n ≤ 4096) :
    Calls Try.prog 46 #[.int .i64 a, .int .i64 n] w (Pieces (spl a.toNat n.toNat) w) := by
  obtain ⟨a, rfl⟩ := Int.eq_ofNat_of_zero_le h0
  obtain ⟨n, rfl⟩ := Int.eq_ofNat_of_zero_le h1
  simp only [Int.toNat_natCast]
  obtain ⟨i0, hi, hz0, hz1, hz2⟩ := info_parts infoPiece
  generalize hL : spl a n = L
  have HL := Lib.hid hL; clear hL
  have HI := Lib.hid hi; have HZ0 := Lib.hid hz0; have HZ1 := Lib.hid hz1; have HZ2 := Lib.hid hz2; clear hi hz0 hz1 hz2
  go_enter Try.func46, Try.ntmps46
  go_wp2_with (go_at_call 20; refine (may_yes _ _ _ _ (by omega) (by omega) (by omega) (by omega) (by omega)).mono ?_; rintro e w' ⟨rfl, rfl⟩)
  go_loopw [0, 1, 6] (fun s t v wr => ∃ (b m : Nat) (ds : List (Nat × Nat × Nat)), s = .int .i64 b ∧ t = .int .i64 m ∧ b + m = a + n ∧ ds.length + m ≤ n ∧ Hid (ds ++ spl b m = L) ∧ wr.ownsRow w.heap.size 65 3 v ds.length (flat ds) ∧ Below w.heap.size w wr)
    (fun _ t _ _ => (intOf t).toNat)
  case atStart => exact ⟨a, n, [], rfl, rfl, rfl, by simp, HL.out, World.ownsRow_nil _ _ _ _, Below.refl _ _⟩
  case round =>
    obtain ⟨b, m, ds, rfl, rfl, hbm, hdm, HR, hown, hbel⟩ := hrel
    by_cases hm : 0 < m
    · obtain ⟨k, hk⟩ : ∃ k : Nat, k = min m (64 - b % 64) := ⟨_, rfl⟩
      have hkm : k ≤ m := by omega
      have hk0 : 0 < k := by omega
      have HK := Lib.hid hk; clear hk
      go_wp2_with (first
        | (go_at_call 66; refine (first_any _ _ (k : Int) _ (by omega) (by omega) (by omega) (by omega) (by rw [HK.out]; omega)).mono ?_; rintro e w1 ⟨rfl, hb1⟩)
        | (at_builtin; refine wpList_append_own _ rfl _ _ 59 rfl w.heap.size 65 i0 _ 3 24 Try.underlying59 HI.out HZ0.out HZ1.out HZ2.out rfl (by decide) _ ds.length (flat ds) rfl ?d1 ⟨w1.heap.size + 1, 0, none⟩ 1 1 [.int .i64 (b / 64), .int .i64 (b % 64), .int .i64 k] rfl rfl ?d2 ?d3 ?d4 ?d5 ?d6 ?_))
      case d1 => exact ((own_below hown hb1).alloc _).alloc _
      case d2 => exact pv_new2 w1 _ _ _ _ _
      case d3 => exact pv_one _ _ _
      case d4 => unfold maxLen; omega
      case d5 => omega
      case d6 => have := hb1.size; have := hbel.size; simp; omega
      intro v' w2 hown' hgrow _
      have hbel2 := below_two _ _ hown hbel.size hbel hb1 hgrow
      have hblk := kept_first _ _ hown hb1.size hgrow
      have hcell : w2.cell? ⟨w1.heap.size, 2, none⟩ = some (.int .i64 (k : Int)) := by
        rw [cell_of_row w2 _ 2 _ _ (0, 0) hblk]; rfl
      clear hblk hgrow hown hb1 hbel
      go_wp2
      go_quiet (fail)
      go_wp2
      go_roundw
      case rel => exact ⟨b + k, m - k, ds ++ [(b / 64, b % 64, k)], by go_num, by go_num, by omega, by simp; omega, Lib.hid (spl_next b m k ds L hm HK.out HR.out), by rw [flat_append, flat_one, List.length_append]; exact hown', bdrewN hbel2 _⟩
      case measure => simp [intOf]; omega
    · go_wp2
      go_ret2
      refine ⟨_, rfl, ?_, hbel⟩
      obtain rfl : m = 0 := by omega
      have e := HR.out
      rw [spl_zero, List.append_nil] at e
      rw [← e]
      exact hown

/-- What a call leaves that refuses. -/
theorem split_no (a n : Int) (w : World) (h : ¬ (0 ≤ a ∧ 0 ≤ n ∧ a ≤ 4096 ∧ n ≤ 4096 - a)) :
    Calls Try.prog 46 #[.int .i64 a, .int .i64 n] w fun e w' => e = .returned (.tuple #[.slice none 0 0, .int .i64 100]) ∧ w = w' := by
  have H := Lib.hid h; clear h
  go_enter Try.func46, Try.ntmps46
  go_wp2_with (go_at_call 20; refine (may_no _ _ _ _ H.out (by omega)).mono ?_; rintro e w' ⟨rfl, rfl⟩)
  go_ret2
  exact ⟨rfl, rfl⟩

end Go.Proofs.Ytggdbiniklchoaa

namespace Go.Proofs.Ytggdbiniklchoaa
open Go.RowKit
set_option linter.unusedVariables false
set_option maxRecDepth 100000

theorem same_yes (x y : Value) (l : List (Nat × Nat × Nat)) (w : World) (hx : Sl w x l.length 3 (flat l)) (hy : Sl w y l.length 3 (flat l)) (hl : l.length ≤ 65536) :
    Calls Try.prog 19 #[x, y] w fun e w' => e = .returned (.bool true) ∧ ∃ n, w.drewN n = w' := by
  obtain ⟨A, c, rfl, hc, _, hA⟩ := hx
  obtain ⟨B, d, rfl, hd, _, hB⟩ := hy
  generalize hn : l.length = n at *
  have HN := Lib.hid hn; clear hn
  go_enter Try.func19, Try.ntmps19
  go_wp2
  go_loopw [5] (fun i wr => ∃ k q : Nat, k ≤ n ∧ i = .int .i64 k ∧ wr = w.drewN q) (fun i _ => n - (intOf i).toNat)
  case atStart => exact ⟨0, 0, by omega, rfl, rfl⟩
  case round =>
    obtain ⟨k, q, hk, rfl, rfl⟩ := hrel
    by_cases hlt : k < n
    · obtain ⟨b, o, rfl, _, gA⟩ := hA (by omega)
      obtain ⟨b', o', rfl, _, gB⟩ := hB (by omega)
      clear hA hB
      have f := flat_get l k (by rw [HN.out]; exact hlt)
      obtain ⟨p1, hp1⟩ : ∃ p : Nat, p = (l[k]'(by rw [HN.out]; exact hlt)).1 := ⟨_, rfl⟩
      obtain ⟨p2, hp2⟩ : ∃ p : Nat, p = (l[k]'(by rw [HN.out]; exact hlt)).2.1 := ⟨_, rfl⟩
      obtain ⟨p3, hp3⟩ : ∃ p : Nat, p = (l[k]'(by rw [HN.out]; exact hlt)).2.2 := ⟨_, rfl⟩
      rw [← hp1, ← hp2, ← hp3] at f
      have a0 := gA _ _ f.1
      have a1 := gA _ _ f.2.1
      have a2 := gA _ _ f.2.2
      have b0 := gB _ _ f.1
      have b1 := gB _ _ f.2.1
      have b2 := gB _ _ f.2.2
      simp only [← Nat.add_assoc] at a1 a2 b1 b2
      clear gA gB f hp1 hp2 hp3
      go_wp2
      go_quiet (fail)
      go_wp2
      go_roundw
      case rel => exact ⟨k + 1, _, by omega, by go_num, rfl⟩
      case measure => simp [intOf]; omega
    · go_wp2
      go_ret
      exact ⟨rfl, _, rfl⟩

theorem AllInts.flat (l : List (Nat × Nat × Nat)) : AllInts (flat l) := by
  intro j hj
  have hl := flat_len l
  have f := flat_get l (j / 3) (by omega)
  have e : j = j / 3 * 3 + j % 3 := by omega
  have h3 : j % 3 = 0 ∨ j % 3 = 1 ∨ j % 3 = 2 := by omega
  rcases h3 with h | h | h
  · exact ⟨_, by rw [e, h]; exact f.1⟩
  · exact ⟨_, by rw [e, h]; exact f.2.1⟩
  · exact ⟨_, by rw [e, h]; exact f.2.2⟩

theorem spoil_any (v : Value) (base n : Nat) (xs : List Value) (w : World) (hown : w.ownsRow base 65 3 v n xs) (hi : AllInts xs) (hn : n ≤ 65536) :
    Calls Try.prog 34 #[v] w fun e w' => e = .returned (.tuple #[]) ∧ w.grownBy w' v.ownBlock := by
  obtain ⟨A, c, hv, hc, _, _⟩ := Sl.own hown
  obtain ⟨xs, hxs⟩ : ∃ ys, ys = xs := ⟨_, rfl⟩
  subst hv
  have hob : ∀ g, A = some ⟨g, 0, none⟩ → (Value.slice A n c).ownBlock = some g := by rintro g rfl; rfl
  generalize hrow : (Value.slice A n c).ownBlock = row at *
  have HO := Lib.hid hob; clear hob hrow
  have hg : A = none ∨ ∃ g, A = some ⟨g, 0, none⟩ ∧ base ≤ g := by
    rcases hown.2 with ⟨h, _⟩ | ⟨g, cap, cur, h, hb, _⟩
    · left; simp at h; exact h.1
    · right; simp at h; exact ⟨g, h.1, hb⟩
  have hA0 : A = none → n = 0 := by
    intro e; subst e
    rcases hown.2 with ⟨_, h⟩ | ⟨g, cap, cur, h, hb, _⟩
    · exact h
    · simp at h
  go_enter Try.func34, Try.ntmps34
  go_wp2
  go_loopw [2] (fun i wr => ∃ (k : Nat) (ys : List Value), k ≤ n ∧ i = .int .i64 k ∧ wr.ownsRow base 65 3 (.slice A n c) n ys ∧ AllInts ys ∧ w.grownBy wr row) (fun i _ => n - (intOf i).toNat)
  case atStart => exact ⟨0, _, by omega, rfl, hown, hi, grefl _ _⟩
  case round =>
    obtain ⟨k, ys, hk, rfl, ho, hy, hbel⟩ := hrel
    by_cases hlt : k < n
    · rcases hg with rfl | ⟨g, rfl, hbg⟩
      · have := hA0 rfl; omega
      · obtain ⟨q, hq⟩ := hy (k * 3 + 2) (by rw [ho.1]; omega)
        have hcell := ho.cellAt (k * 3 + 2) (by omega)
        rw [hq] at hcell
        have hfz := ho.frozenAt (k * 3 + 2)
        clear hown hA0 hq
        go_wp2
        go_roundw
        case rel => exact ⟨k + 1, _, by omega, by go_num, (ho.stored _ _).1, hy.set _ _, gtrans hbel (by rw [HO.out g rfl]; exact (ho.stored _ _).2)⟩
        case measure => simp [intOf]; omega
    · go_wp2
      go_end0
      exact ⟨rfl, hbel⟩

end Go.Proofs.Ytggdbiniklchoaa
