/-
  Contracts of the document's table of owners: Row, NewOwners.
-/
import Derived.Test.YtcplbjidilddiaaRefOwn
namespace Go.Proofs.Ytcplbjidilddiaa
open Go.RowKit
set_option linter.unusedVariables false

theorem row_any (B r : Nat) (v : Value) (l : List Int) (p : Int) (w : World) (h : RTab w B r v l) :
    Calls Try.prog 17 #[.pointer (some ⟨r, 0, none⟩), .int .i64 p] w (IntsOf (ownL l p) w) := by
  have hl := h.len
  have hc : w.cell? ⟨r, 0, none⟩ = some v := by rw [h.blk.cell]; rfl
  obtain ⟨A, cap, hv, hcap, _, hA⟩ := Sl.own h.own
  have hr := h.blk.lt
  have H := Lib.hid h; clear h
  obtain ⟨n, hn⟩ : ∃ n, n = l.length := ⟨_, rfl⟩
  rw [← hn] at hl hv hcap hA
  obtain ⟨i0, hi, hz0, hz1, hz2⟩ := info_parts infoInt
  have HI := Lib.hid hi; have HZ0 := Lib.hid hz0; have HZ1 := Lib.hid hz1; have HZ2 := Lib.hid hz2; clear hi hz0 hz1 hz2
  have HN := Lib.hid hn; clear hn
  subst hv
  have HA := Lib.hid hA; clear hA
  have HC := Lib.hid hc; clear hc
  go_enter Try.func17, Try.ntmps17
  go_wp2
  go_loopw [5, 6] (fun v i wr => ∃ (k : Nat), k ≤ n ∧ i = .int .i64 k ∧ wr.ownsRow w.heap.size 3 1 v (ownTo l p k).length (ints (ownTo l p k)) ∧ Below w.heap.size w wr) (fun _ i _ => n - (intOf i).toNat)
  case atStart => exact ⟨0, by omega, rfl, World.ownsRow_nil _ _ _ _, Below.refl _ _⟩
  case round =>
    obtain ⟨k, hk, rfl, hown, hbel⟩ := hrel
    have hc := (hbel.cell (p := ⟨r, 0, none⟩) hr).trans HC.out
    by_cases hlt : k < n
    · obtain ⟨b, o, rfl, hblt, hcells⟩ := HA.out (by omega)
      have hcell := (hbel.cell (p := ⟨b, o + k, none⟩) hblt).trans (hcells k _ (ints_get l k (by rw [← HN.out]; exact hlt)))
      have hsz := hbel.size
      have hkl := ownTo_len l p k
      clear hcells
      by_cases he : l.getD k 0 = p
      · rw [he] at hcell
        have HY := Lib.hid (ownTo_yes l p k he)
        clear he
        go_wp2_with (at_builtin; refine wpList_append_own _ rfl _ _ 40 rfl w.heap.size 3 i0 _ 1 8 Try.underlying40 HI.out HZ0.out HZ1.out HZ2.out rfl (by decide) _ (ownTo l p k).length (ints (ownTo l p k)) rfl (hown.alloc _) ⟨wr.heap.size, 0, none⟩ 1 1 [.int .i64 (k : Int)] rfl rfl (by exact row_new wr [.int .i64 (k : Int)] _) (by exact int_one _) (by unfold maxLen; omega) (by omega) (by simp; omega) ?_)
        intro v' w2 hown' hgrow _
        have hbel2 := below_one _ hown hbel.size hbel hgrow
        clear hgrow hown hbel
        go_wp2
        go_roundw
        case rel => exact ⟨k + 1, by omega, by go_num, by rw [HY.out, ints_append, List.length_append]; exact hown', hbel2⟩
        case measure => simp [intOf]; omega
      · have HY := Lib.hid (ownTo_no l p k he)
        have he' : (l.getD k 0 == p) = false := by simpa using he
        generalize l.getD k 0 = q at he' hcell
        clear he
        go_wp2
        go_roundw
        case rel => exact ⟨k + 1, by omega, by go_num, by rw [HY.out]; exact hown, hbel⟩
        case measure => simp [intOf]; omega
    · go_wp2
      go_ret
      have e : ownL l p = ownTo l p k := by unfold ownL; rw [← HN.out, show n = k from by omega]
      exact ⟨_, rfl, by rw [e]; exact hown, hbel⟩

theorem rnew_no (c : Int) (w : World) (h : ¬ (1 ≤ c ∧ c ≤ 64)) :
    Calls Try.prog 8 #[.int .i64 c] w fun e w' => e = .returned (.tuple #[.pointer none, .int .i64 200]) ∧ w = w' := by
  by_cases h1 : c < 1
  · clear h
    go_enter Try.func8, Try.ntmps8
    go_wp2
    go_ret2
    exact ⟨rfl, rfl⟩
  · have h2 : 64 < c := by omega
    clear h
    go_enter Try.func8, Try.ntmps8
    go_wp2
    go_ret2
    exact ⟨rfl, rfl⟩

theorem free_succ (k : Nat) : ints (free (k + 1)) = ints (free k) ++ [Value.int .i64 (-1)] := by simp [ints, free, List.replicate_succ']

theorem rnew_yes (c : Nat) (w : World) (h1 : 1 ≤ c) (h2 : c ≤ 64) :
    Calls Try.prog 8 #[.int .i64 c] w fun e w' => e = .returned (.tuple #[.pointer (some ⟨w.heap.size, 0, none⟩), .int .i64 0]) ∧ (∃ v, RTab w' w.heap.size w.heap.size v (free c)) ∧ Below w.heap.size w w' := by
  have h3 : decide ((c : Int) < 1) = false := by simp; omega
  have h4 : decide ((64 : Int) < c) = false := by simp; omega
  obtain ⟨i0, hi, hz0, hz1, hz2⟩ := info_parts infoInt
  have HI := Lib.hid hi; have HZ0 := Lib.hid hz0; have HZ1 := Lib.hid hz1; have HZ2 := Lib.hid hz2; clear hi hz0 hz1 hz2
  go_enter Try.func8, Try.ntmps8
  go_wp2
  have hw : Blk (w.alloc (.cells #[.slice none 0 0] 55)) w.heap.size 55 [.slice none 0 0] := Blk.new _ _ _
  have hb : Below w.heap.size w (w.alloc (.cells #[.slice none 0 0] 55)) := (Below.refl _ _).alloc (Nat.le_refl _) _
  generalize w.alloc (.cells #[.slice none 0 0] 55) = w1 at *
  clear h3 h4
  go_loopw [5] (fun i wr => ∃ (k : Nat) (v : Value), k ≤ c ∧ i = .int .i64 k ∧ Blk wr w.heap.size 55 [v] ∧ wr.ownsRow w.heap.size 3 1 v k (ints (free k)) ∧ Below w.heap.size w wr) (fun i _ => c - (intOf i).toNat)
  case atStart => exact ⟨0, _, by omega, rfl, hw, World.ownsRow_nil _ _ _ _, hb⟩
  case round =>
    obtain ⟨k, v, hk, rfl, hblk, hown, hbel⟩ := hrel
    by_cases hlt : k < c
    · have hcell : wr.cell? ⟨w.heap.size, 0, none⟩ = some v := by rw [hblk.cell]; rfl
      have hsz := hbel.size
      have hgt := hblk.lt
      clear hw hb
      go_wp2_with (at_builtin; refine wpList_append_own _ rfl _ _ 40 rfl w.heap.size 3 i0 _ 1 8 Try.underlying40 HI.out HZ0.out HZ1.out HZ2.out rfl (by decide) _ k (ints (free k)) rfl (hown.alloc _) ⟨wr.heap.size, 0, none⟩ 1 1 [.int .i64 (-1)] rfl rfl (by exact row_new wr [.int .i64 (-1)] _) (by exact int_one _) (by unfold maxLen; omega) (by omega) (by simp; omega) ?_)
      intro v' w2 hown' hgrow _
      obtain ⟨A', c', hv', _⟩ := Sl.own hown'
      subst hv'
      have hne : some w.heap.size ≠ v.ownBlock := fun e => own_apart_blk hown hblk (by decide) e.symm
      have hbel2 := below_one _ hown hbel.size hbel hgrow
      have hblk2 := (hblk.alloc _).grown hgrow hne
      have hcell2 : w2.cell? ⟨w.heap.size, 0, none⟩ = some v := by rw [hblk2.cell]; rfl
      have hfz2 := hblk2.frozen 0
      have hne2 : (Value.slice A' (k + 1) c').ownBlock ≠ some w.heap.size := own_apart_blk hown' hblk2 (by decide)
      have hblk3 := hblk2.set 0 (.slice A' (k + 1) c')
      clear hgrow hown hbel hblk hcell
      have HNE := Lib.hid hne; have HNE2 := Lib.hid hne2; clear hne hne2
      go_wp2
      go_roundw
      case rel => exact ⟨k + 1, _, by omega, by go_num, hblk3, by rw [free_succ]; exact hown'.kept (gone _) (.inr HNE2.out), hbel2.setCell (Nat.le_refl _) _⟩
      case measure => simp [intOf]; omega
    · obtain rfl : k = c := by omega
      go_wp2
      go_ret2
      exact ⟨rfl, ⟨v, by rw [free_len]; exact h2, hblk, by rw [free_len]; exact hown⟩, hbel⟩

end Go.Proofs.Ytcplbjidilddiaa
