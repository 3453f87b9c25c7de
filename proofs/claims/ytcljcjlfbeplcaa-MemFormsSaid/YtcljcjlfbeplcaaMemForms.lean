/-
  Layer 3's law MemForms: it answers true for every input.
-/
import Derived.Test.YtcljcjlfbeplcaaPhysStr
import Derived.Test.YtcljcjlfbeplcaaPlain2
namespace Go.Proofs.Ytcljcjlfbeplcaa
open Go.RowKit
set_option linter.unusedVariables false

def fo1 : List UInt8 := wrL aw0 0 [97, 98, 99, 100, 101, 102, 103, 104]
theorem fo1_len : fo1.length = 128 := by kernel_rfl

/-- What is read at the end: kept closed to the walk. -/
def foS : ByteArray := str fo1
set_option maxRecDepth 100000 in
theorem foS_eq : (⟨#[97, 98, 99, 100, 101, 102, 103, 104]⟩ : ByteArray) ++ str (zeros 120) = foS := by
  have e : (⟨#[97, 98, 99, 100, 101, 102, 103, 104]⟩ : ByteArray) = str [97, 98, 99, 100, 101, 102, 103, 104] := rfl
  have h : [97, 98, 99, 100, 101, 102, 103, 104] ++ zeros 120 = fo1 := by kernel_rfl
  rw [e, str_append, h]
  rfl
theorem foS_read : str (rdL fo1 0 128) = foS := by kernel_rfl

set_option maxRecDepth 100000 in
set_option maxHeartbeats 4000000 in
theorem law_MemForms (a x : Int) (w0 : (Lit.int .i64 a).wf = true) (w1 : (Lit.int .i64 x).wf = true) (w : World) :
    Calls Try.prog 6 #[.int .i64 a, .int .i64 x] w fun e w' => e = .returned (.bool true) ∧ Below w.heap.size w w' := by
  have hX := band x 1023 (by omega) (by omega)
  have hU := u64b a
  generalize hX' : bits BinOp.and IntKind.i64 x 1023 = X at hX
  generalize hU' : IntKind.u64.wrap a = U at hU
  obtain ⟨hX0, hX1⟩ := hX
  obtain ⟨hU0, hU1⟩ := hU
  have hI0 : 0 ≤ U % 11 := by omega
  have hI1 : U % 11 < 11 := by omega
  generalize hI' : U % 11 = I at hI0 hI1
  clear w0 w1
  go_enter Try.func6, Try.ntmps6
  go_wp2_with fail
  refine (awake_any _).mono ?_
  rintro e wa ⟨rfl, ba⟩
  have hsa := ba.size
  go_wp2_with fail
  refine (new_no (1 - (1 + X)) _ (by omega)).mono ?_
  rintro e w' ⟨rfl, rfl⟩
  go_wp2_with fail
  refine (new_no _ _ (by omega)).mono ?_
  rintro e w' ⟨rfl, rfl⟩
  go_wp2_with fail
  refine (new_yes 2 _ (by omega) (by omega)).mono ?_
  rintro e w1 ⟨rfl, t1, b1⟩
  have b1' := Below.down ba b1 hsa
  have hs1 := b1.size
  have hs1' := b1'.size
  generalize hg : wa.heap.size = g at *
  have hgw : w.heap.size ≤ g := by omega
  have HG := Lib.hid hg; clear hg b1 ba
  have t1 : PM w1 g aw0 := t1
  go_wp2_with fail
  refine (num_any _ _).mono ?_
  rintro e w' ⟨rfl, rfl⟩
  go_wp2_with fail
  refine (pwrite_is g aw0 fo1 _ 0 _ _ t1 (by decide) rfl (by kernel_rfl)).mono ?_
  rintro e w2 ⟨rfl, t2, b2⟩
  have b2' := bone b1' b2 hs1' (by omega)
  have hs2 := b2'.size
  clear t1 b1' b2
  have hfl := fo1_len
  go_wp2_with fail
  all_goals try
    (refine (pwrite_is g fo1 fo1 _ 300 _ _ t2 (by decide) (wr_none fo1 _ _ (by rw [fo1_len]; simp [ByteArray.size] <;> omega)).1 (wr_none fo1 _ _ (by rw [fo1_len]; simp [ByteArray.size] <;> omega)).2).mono ?_
     rintro e w3 ⟨rfl, t3, b3⟩
     have b3' := bone b2' b3 hs2 (by omega))
  all_goals try
    (refine (pread_is g fo1 _ _ 300 _ _ t2 (rd_none fo1 _ _ (by rw [fo1_len]; omega)).1 (rd_none fo1 _ _ (by rw [fo1_len]; omega)).2).mono ?_
     rintro e w' ⟨rfl, rfl⟩
     have t3 := t2
     have b3' := b2')
  all_goals try
    (refine (pputword_is g fo1 fo1 _ _ 300 _ t2 (pw_none fo1 _ _ (by rw [fo1_len]; omega)).1 (pw_none fo1 _ _ (by rw [fo1_len]; omega)).2).mono ?_
     rintro e w3 ⟨rfl, t3, b3⟩
     have b3' := bone b2' b3 hs2 (by omega))
  all_goals try
    (refine (pword_is g fo1 _ 0 300 _ t2 (wd_none fo1 _ (by rw [fo1_len]; omega)).1 (wd_none fo1 _ (by rw [fo1_len]; omega)).2).mono ?_
     rintro e w' ⟨rfl, rfl⟩
     have t3 := t2
     have b3' := b2')
  all_goals try
    (refine (pzero_is g fo1 fo1 _ 300 _ t2 (ze_none fo1 _ (by rw [fo1_len]; omega)).1 (ze_none fo1 _ (by rw [fo1_len]; omega)).2).mono ?_
     rintro e w3 ⟨rfl, t3, b3⟩
     have b3' := bone b2' b3 hs2 (by omega))
  all_goals
    have hs3 := b3'.size
    clear t2 b2' hs2
    go_wp2_with fail
    refine (num_any _ _).mono ?_
    rintro e w' ⟨rfl, rfl⟩
    go_wp2_with fail
    refine (pread_is g fo1 _ _ 0 foS _ t3 foS_read (by kernel_rfl)).mono ?_
    rintro e w' ⟨rfl, rfl⟩
    have hm : ∀ W : World, (Instr.makeSlice 33 (.int .i64 120) (.int .i64 120)).run Try.prog W = .ok (.slice (some ⟨W.heap.size, 0, none⟩) 120 120) (W.alloc (.cells (bts (zeros 120)).toArray 5)) := fun W => make_u8 W 120 (by omega)
    have hv := fun W => make_str W 120 (by omega)
    have hq := foS_eq
    go_wp2_with (go_at_call 10; refine (num_any _ _).mono ?_; rintro e w' ⟨rfl, rfl⟩)
    go_ret
    exact ⟨rfl, b3'.alloc hs3 _⟩

end Go.Proofs.Ytcljcjlfbeplcaa
