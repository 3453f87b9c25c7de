/-
  The law ConsoleMany of the console. MADE BY gencnlaws.py.
-/
import Derived.Test.YtobpggpjboonfaaDoorCnAw
import Derived.Test.YtobpggpjboonfaaDoorSli
namespace Go.Proofs.YtobpggpjboonfaaDoor
open Go.RowKit Go.Lib
set_option linter.unusedVariables false
set_option linter.unusedSimpArgs false
set_option maxRecDepth 100000

def cmyL : List (List UInt8) := [[115, 112, 108, 105, 116, 32, 48, 32, 54, 52], [115, 112, 108, 105, 116, 32, 48, 32, 54, 53], [115, 112, 108, 105, 116, 32, 45, 49, 32, 49], [101, 110, 116, 114, 121, 32, 49, 32, 49], [101, 110, 116, 114, 121, 32, 54, 52, 32, 49], [119, 111, 114, 100, 32, 55], [119, 111, 114, 100, 32, 52, 48, 57, 55], [111, 118, 101, 114, 32, 49, 32, 49, 32, 49, 32, 49], [111, 118, 101, 114, 32, 52, 32, 48, 32, 48, 32, 48], [110, 101, 120, 116, 32, 54, 32, 50, 32, 51, 32, 51, 32, 57], [110, 101, 120, 116, 32, 48, 32, 48, 32, 49, 32, 48, 32, 48], [110, 101, 120, 116, 32, 53, 32, 48, 32, 53, 32, 53, 32, 48], [35, 32, 99], [83, 112, 108, 105, 116, 32, 48, 32, 49]]
theorem cmy_all : ((List.range 14).all fun i => decide ((cmyL.getD i []).length ≤ 20) && decide ((rnS (cmyL.getD i [])).length ≤ 30)) = true := by decide +kernel
/-- Ends a text in an LF, or is it none? -/
def EndLF (S : List UInt8) : Prop := S = [] ∨ ∃ Q, S = Q ++ [10]
theorem EndLF.rn {S : List UInt8} (h : EndLF S) (x : List UInt8) : rnS ((S ++ x) ++ [10]) = rnS S ++ rnS x ∧ EndLF ((S ++ x) ++ [10]) := by
  refine ⟨?_, .inr ⟨_, rfl⟩⟩
  rw [rnS_lf]
  rcases h with rfl | ⟨Q, rfl⟩
  · rw [rnS_nil, List.nil_append, List.nil_append]
  · rw [show (Q ++ [10]) ++ x = Q ++ 10 :: x by simp, rnS_app, rnS_lf]

/-- The lines in their block g. -/
structure MnS (W : World) (g : Nat) (w : World) : Prop where
  cell : ∀ i, i < 14 → w.cell? ⟨g, i, none⟩ = some (.string (str (cmyL.getD i [])))
  env : Env w
  low : Below W.heap.size W w
  lt : g < w.heap.size
theorem MnS.next {W : World} {g : Nat} {w w' : World} (h : MnS W g w) (hb : Below w.heap.size w w') : MnS W g w' :=
  ⟨fun i hi => (hb.cell (p := ⟨g, i, none⟩) h.lt).trans (h.cell i hi), h.env.below hb, h.low.trans (hb.mono h.low.size), Nat.lt_of_lt_of_le h.lt hb.size⟩

set_option maxHeartbeats 4000000 in
theorem law_ConsoleMany (v : Value) (n : Nat) (zs : List Int) (W : World) (hs : Sl W v n 1 (ints zs)) (hn : n ≤ maxLen) (hl : zs.length = n) (he : Env W) :
    Calls Tryd.prog 5 #[v] W fun e w' => e = .returned (.bool true) ∧ Below W.heap.size W w' := by
  obtain ⟨A, cap, rfl, hc, _, hA⟩ := hs
  have HA := Lib.hid hA; have HL := Lib.hid hl
  clear hA hl
  unfold maxLen at hn
  have T1 : Hid (∀ w : World, MnS W w.heap.size (w.alloc (.cells #[.string ⟨#[115, 112, 108, 105, 116, 32, 48, 32, 54, 52]⟩, .string ⟨#[115, 112, 108, 105, 116, 32, 48, 32, 54, 53]⟩, .string ⟨#[115, 112, 108, 105, 116, 32, 45, 49, 32, 49]⟩, .string ⟨#[101, 110, 116, 114, 121, 32, 49, 32, 49]⟩, .string ⟨#[101, 110, 116, 114, 121, 32, 54, 52, 32, 49]⟩, .string ⟨#[119, 111, 114, 100, 32, 55]⟩, .string ⟨#[119, 111, 114, 100, 32, 52, 48, 57, 55]⟩, .string ⟨#[111, 118, 101, 114, 32, 49, 32, 49, 32, 49, 32, 49]⟩, .string ⟨#[111, 118, 101, 114, 32, 52, 32, 48, 32, 48, 32, 48]⟩, .string ⟨#[110, 101, 120, 116, 32, 54, 32, 50, 32, 51, 32, 51, 32, 57]⟩, .string ⟨#[110, 101, 120, 116, 32, 48, 32, 48, 32, 49, 32, 48, 32, 48]⟩, .string ⟨#[110, 101, 120, 116, 32, 53, 32, 48, 32, 53, 32, 53, 32, 48]⟩, .string ⟨#[35, 32, 99]⟩, .string ⟨#[83, 112, 108, 105, 116, 32, 48, 32, 49]⟩] 9)) ∨ ¬ (Env w ∧ Below W.heap.size W w)) := Lib.hid (fun w => by
    by_cases h : Env w ∧ Below W.heap.size W w
    · exact .inl ⟨fun i hi => ((Blk.new w 9 (txs cmyL)).cell i).trans (txs_get cmyL i (by rw [show cmyL.length = 14 from rfl]; exact hi)), h.1.alloc _, h.2.alloc h.2.size _, by simp⟩
    · exact .inr h)
  have B0 := Lib.hid (Below.refl W.heap.size W)
  have HEW := Lib.hid he
  go_enter Tryd.func5, Tryd.ntmps5
  go_wp2_with fail
  refine (cawake_any _ he).mono ?_
  rintro e w1 ⟨rfl, b1⟩
  have B1 := Lib.hid (B0.out.trans (b1.mono B0.out.size))
  have HE1 := Lib.hid (he.below B1.out)
  clear b1
  have M0 : Hid (MnS W w1.heap.size (w1.alloc (.cells #[.string ⟨#[115, 112, 108, 105, 116, 32, 48, 32, 54, 52]⟩, .string ⟨#[115, 112, 108, 105, 116, 32, 48, 32, 54, 53]⟩, .string ⟨#[115, 112, 108, 105, 116, 32, 45, 49, 32, 49]⟩, .string ⟨#[101, 110, 116, 114, 121, 32, 49, 32, 49]⟩, .string ⟨#[101, 110, 116, 114, 121, 32, 54, 52, 32, 49]⟩, .string ⟨#[119, 111, 114, 100, 32, 55]⟩, .string ⟨#[119, 111, 114, 100, 32, 52, 48, 57, 55]⟩, .string ⟨#[111, 118, 101, 114, 32, 49, 32, 49, 32, 49, 32, 49]⟩, .string ⟨#[111, 118, 101, 114, 32, 52, 32, 48, 32, 48, 32, 48]⟩, .string ⟨#[110, 101, 120, 116, 32, 54, 32, 50, 32, 51, 32, 51, 32, 57]⟩, .string ⟨#[110, 101, 120, 116, 32, 48, 32, 48, 32, 49, 32, 48, 32, 48]⟩, .string ⟨#[110, 101, 120, 116, 32, 53, 32, 48, 32, 53, 32, 53, 32, 48]⟩, .string ⟨#[35, 32, 99]⟩, .string ⟨#[83, 112, 108, 105, 116, 32, 48, 32, 49]⟩] 9))) := Lib.hid (by
    rcases T1.out w1 with h | h
    · exact h
    · exact absurd ⟨HE1.out, B1.out⟩ h)
  clear T1
  go_wp2_with fail
  generalize w1.heap.size = g at *
  go_loopw [4, 5, 6, 7, 8, 9] (fun s u i _ _ _ wr => ∃ (k : Nat) (S : List UInt8) (Sb Ub : ByteArray), k ≤ n ∧ k ≤ 30 ∧ s = .string Sb ∧ u = .string Ub ∧ i = .int .i64 (k : Int) ∧ Hid (str S = Sb ∧ str (rnS S) = Ub ∧ EndLF S ∧ S.length ≤ 21 * k ∧ (rnS S).length ≤ 30 * k ∧ MnS W g wr)) (fun _ _ i _ _ _ _ => 30 - (RowKit.intOf i).toNat)
  case atStart => exact ⟨0, [], ⟨#[]⟩, ⟨#[]⟩, by omega, by omega, rfl, rfl, rfl, Lib.hid ⟨rfl, rfl, .inl rfl, by simp, by simp [rnS_nil], M0.out⟩⟩
  case round =>
    clear M0
    obtain ⟨k, S, Sb, Ub, hk, hk30, rfl, rfl, rfl, HQ⟩ := hrel
    by_cases hkn : k < n ∧ k < 30
    · obtain ⟨h1, h2⟩ := hkn
      obtain ⟨b, o, rfl, hb, hcell⟩ := HA.out (by omega)
      have hM := HQ.out.2.2.2.2.2
      have c0 := (hM.low.cell (p := ⟨b, o + k, none⟩) hb).trans (hcell k _ (ints_get zs k (by rw [HL.out]; exact h1)))
      generalize zs.getD k 0 = z at *
      have hU := u64b z
      generalize hU' : IntKind.u64.wrap z = U at hU
      have hI : 0 ≤ U % 14 ∧ U % 14 < 14 := by omega
      generalize hI' : U % 14 = I at hI
      obtain ⟨i, rfl⟩ := Int.eq_ofNat_of_zero_le hI.1
      have hi : i < 14 := by omega
      clear hI
      have hall := List.all_eq_true.1 cmy_all i (List.mem_range.2 hi)
      simp only [Bool.and_eq_true, decide_eq_true_eq] at hall
      obtain ⟨hl1, hl2⟩ := hall
      have c1 := hM.cell i hi
      generalize cmyL.getD i [] = X at *
      obtain ⟨Xb, hXb⟩ : ∃ Z, str X = Z := ⟨_, rfl⟩
      rw [hXb] at c1
      obtain ⟨S1, hS1⟩ : ∃ Z, str (S ++ X) = Z := ⟨_, rfl⟩
      obtain ⟨S2, hS2⟩ : ∃ Z, str ((S ++ X) ++ [10]) = Z := ⟨_, rfl⟩
      obtain ⟨R, hR⟩ : ∃ Z, str (rnS X) = Z := ⟨_, rfl⟩
      obtain ⟨U1, hU1⟩ : ∃ Z, str (rnS S ++ rnS X) = Z := ⟨_, rfl⟩
      have hSl := HQ.out.2.2.2.1
      have hRl := HQ.out.2.2.2.2.1
      have a1 : ∀ wx, (Op.stringOp .add Sb Xb).run Tryd.prog wx = .ok (.string S1) wx := add_eq S X S1 Sb Xb HQ.out.1 hXb hS1 (by omega)
      have a2 : ∀ wx, (Op.stringOp .add S1 ⟨#[10]⟩).run Tryd.prog wx = .ok (.string S2) wx := add_eq (S ++ X) [10] S2 S1 ⟨#[10]⟩ hS1 rfl hS2 (by simp only [List.length_append, List.length_cons, List.length_nil]; omega)
      have a3 : ∀ wx, (Op.stringOp .add Ub R).run Tryd.prog wx = .ok (.string U1) wx := add_eq (rnS S) (rnS X) U1 Ub R HQ.out.2.1 hR hU1 (by omega)
      have HX := Lib.hid (run_any X wr hM.env (by omega))
      rw [hXb, hR] at HX
      have HN : Hid (str ((S ++ X) ++ [10]) = S2 ∧ str (rnS ((S ++ X) ++ [10])) = U1 ∧ EndLF ((S ++ X) ++ [10]) ∧ ((S ++ X) ++ [10]).length ≤ 21 * (k + 1) ∧ (rnS ((S ++ X) ++ [10])).length ≤ 30 * (k + 1)) :=
        Lib.hid ⟨hS2, by rw [(HQ.out.2.2.1.rn X).1]; exact hU1, (HQ.out.2.2.1.rn X).2, by simp only [List.length_append, List.length_cons, List.length_nil]; omega, by rw [(HQ.out.2.2.1.rn X).1, List.length_append]; omega⟩
      have HM := Lib.hid hM
      clear hM hS1 hS2 hR hU1 hXb hl1 hl2 hSl hRl hcell
      go_wp2_with fail
      refine HX.out.mono ?_
      rintro e w3 ⟨rfl, b3⟩
      have HM3 := Lib.hid (HM.out.next b3)
      clear b3 c0 c1
      go_wp2_with (go_at_call 12; refine (num_any _ _).mono ?_; rintro e wn ⟨rfl, rfl⟩)
      go_roundw
      case rel => exact ⟨k + 1, _, S2, U1, by omega, by omega, rfl, rfl, by go_num, Lib.hid ⟨HN.out.1, HN.out.2.1, HN.out.2.2.1, HN.out.2.2.2.1, HN.out.2.2.2.2, HM3.out⟩⟩
      case measure => simp [RowKit.intOf]; omega
    · have HX := Lib.hid (run_any S wr HQ.out.2.2.2.2.2.env (by have := HQ.out.2.2.2.1; omega))
      rw [HQ.out.1, HQ.out.2.1] at HX
      have HB := Lib.hid HQ.out.2.2.2.2.2.low
      have hkk : k = n ∨ (k < n ∧ k = 30) := by omega
      clear HQ hkn
      rcases hkk with rfl | ⟨h1, rfl⟩
      all_goals
        go_wp2_with fail
        refine HX.out.mono ?_
        rintro e w3 ⟨rfl, b3⟩
        have B3 := Lib.hid (HB.out.trans (b3.mono HB.out.size))
        clear b3
        go_wp2_with (go_at_call 12; refine (num_any _ _).mono ?_; rintro e wn ⟨rfl, rfl⟩)
        go_ret
        exact ⟨rfl, B3.out⟩

end Go.Proofs.YtobpggpjboonfaaDoor
