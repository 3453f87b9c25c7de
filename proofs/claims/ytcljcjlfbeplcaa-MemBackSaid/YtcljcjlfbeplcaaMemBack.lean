/-
  Layer 3's law MemBack: it answers true for every input.
-/
import Derived.Test.YtcljcjlfbeplcaaPhysStr
import Derived.Test.YtcljcjlfbeplcaaPlain2
namespace Go.Proofs.Ytcljcjlfbeplcaa
open Go.RowKit
set_option linter.unusedVariables false

/-- The first k bytes of what lies there first. -/
def old (x : Int) : Nat → List UInt8
  | 0 => []
  | k + 1 => old x k ++ [UInt8.ofNat (wrap64 ((k : Int) * 7 + x) % 256).toNat]
theorem old_len (x : Int) (k : Nat) : (old x k).length = k := by
  induction k with
  | zero => rfl
  | succ k ih => simp [old, ih]

/-- A number's place: a rest. -/
theorem rest_at (a : Int) (n : Nat) (hn : n ≤ 200) : ∃ A : Nat, wrap64 ((IntKind.u64.wrap a).tmod (256 - (n : Int) + 1)) = A ∧ A + n ≤ 256 := by
  obtain ⟨h0, h1⟩ := u64b a
  generalize IntKind.u64.wrap a = U at h0 h1
  obtain ⟨U, rfl⟩ := Int.eq_ofNat_of_zero_le h0
  have hd : (256 - (n : Int) + 1) = ((257 - n : Nat) : Int) := by omega
  rw [hd, ← Int.ofNat_tmod]
  have hlt : U % (257 - n) < 257 - n := Nat.mod_lt _ (by omega)
  generalize U % (257 - n) = V at hlt
  exact ⟨V, by unfold wrap64; omega, by omega⟩

set_option maxRecDepth 100000 in
set_option maxHeartbeats 4000000 in
theorem law_MemBack (a : Int) (s : ByteArray) (x : Int) (w0 : (Lit.int .i64 a).wf = true) (hs : s.size ≤ maxLen) (w2 : (Lit.int .i64 x).wf = true) (w : World) :
    Calls Try.prog 4 #[.int .i64 a, .string s, .int .i64 x] w fun e w' => e = .returned (.bool true) ∧ Below w.heap.size w w' := by
  unfold maxLen at hs
  go_enter Try.func4, Try.ntmps4
  go_wp2_with fail
  refine (awake_any _).mono ?_
  rintro e wa ⟨rfl, ba⟩
  have hsa := ba.size
  by_cases hbig : 200 < s.size
  · go_wp2_with fail
    go_ret
    exact ⟨rfl, ba⟩
  · have hsz : s.size ≤ 200 := by omega
    clear hbig hs
    go_wp2_with fail
    refine (new_yes 4 _ (by omega) (by omega)).mono ?_
    rintro e w1 ⟨rfl, t1, b1⟩
    have b1' := Below.down ba b1 hsa
    have hs1 := b1.size
    have hs1' := b1'.size
    generalize hg : wa.heap.size = g at *
    have hgw : w.heap.size ≤ g := by omega
    have HG := Lib.hid hg; clear hg b1 ba
    go_wp2_with fail
    refine (num_any _ _).mono ?_
    rintro e w' ⟨rfl, rfl⟩
    go_wp2_with fail
    obtain ⟨A, hA, hA2⟩ := rest_at a s.size hsz
    rw [hA]
    clear hA
    go_loopw [10, 11] (fun o i wq => ∃ k : Nat, k ≤ 256 ∧ i = .int .i64 k ∧ o = .string (str (old x k)) ∧ PM wq g (zeros 256) ∧ Below w.heap.size w wq) (fun _ i _ => 256 - (intOf i).toNat)
    case atStart => exact ⟨0, by omega, rfl, rfl, t1, b1'⟩
    case round =>
      clear t1 b1' hs1 hs1'
      obtain ⟨k, hk, rfl, rfl, ht, hb⟩ := hrel
      by_cases hlt : k < 256
      · have hv := fun W => one_str W (wrap64 ((k : Int) * 7 + x) % 256) (UInt8.ofNat (wrap64 ((k : Int) * 7 + x) % 256).toNat) (by rw [UInt8.toNat_ofNat']; omega)
        have hq : str (old x k) ++ str [UInt8.ofNat (wrap64 ((k : Int) * 7 + x) % 256).toNat] = str (old x (k + 1)) := str_append _ _
        generalize UInt8.ofNat (wrap64 ((k : Int) * 7 + x) % 256).toNat = y at hv hq
        have hbs := hb.size
        have ho := old_len x k
        have hz : (str (old x k)).size + (str [y]).size ≤ 9223372036854775807 := by
          rw [str_size, str_size, old_len]
          simp only [List.length_cons, List.length_nil]
          omega
        go_wp2_with fail
        go_roundw
        case rel => exact ⟨k + 1, by omega, by go_num, rfl, ht.alloc _, hb.alloc hbs _⟩
        case measure => simp [intOf]; omega
      · obtain rfl : k = 256 := by omega
        go_wp2_with fail
        have hol := old_len x 256
        generalize old x 256 = L at hol
        refine (pwrite_is g (zeros 256) L _ 0 _ _ ht (by rw [str_size, hol]; decide) (by rw [str_list]; exact (wr_all _ _ (by rw [zeros_len, hol])).1) (by rw [str_size]; exact (wr_all (zeros 256) _ (by rw [zeros_len, hol])).2)).mono ?_
        rintro e w3 ⟨rfl, t3, g3⟩
        have b3 := bone hb g3 hb.size hgw
        clear ht hb g3
        go_wp2_with fail
        refine (pwrite_is g L (put L A s.data.toList) _ 0 _ _ t3 (by unfold maxLen; omega) (wr_yes L A s (by omega)).1 (wr_yes L A s (by omega)).2).mono ?_
        rintro e w4 ⟨rfl, t4, g4⟩
        have b4 := bone b3 g4 b3.size hgw
        clear t3 b3 g4
        have hpl := put_len L A s.data.toList (by rw [list_len]; omega)
        have hpm := put_mid L A s.data.toList (by rw [list_len]; omega)
        have hps := put_str L A s
        generalize put L A s.data.toList = M at *
        have hm0 := rd_yes M 0 256 (by omega)
        have hm1 := rd_yes M A s.size (by omega)
        rw [list_len] at hpm
        rw [hpm] at hm1
        rw [List.drop_zero, List.take_of_length_le (by omega)] at hm0
        have HM0 := Lib.hid hm0; have HM1 := Lib.hid hm1; have HPS := Lib.hid hps
        have HMS := Lib.hid (show str s.data.toList = s from str_of s)
        clear hm0 hm1 hps hpm hpl
        go_wp2_with fail
        refine (pread_is g M _ _ 0 (str M) _ t4 (by rw [HM0.out.1]) HM0.out.2).mono ?_
        rintro e w' ⟨rfl, rfl⟩
        go_wp2_with fail
        refine (pread_is g M _ _ 0 s _ t4 (by rw [HM1.out.1, HMS.out]) HM1.out.2).mono ?_
        rintro e w' ⟨rfl, rfl⟩
        have hps := HPS.out
        rw [hol] at hps
        have hos : (str L).size = 256 := by rw [str_size, hol]
        generalize str L = O at hps hos
        generalize str M = R at hps
        go_wp2_with fail
        go_quiet ((go_at_call 10; first | exact quiet_ (fun W => num_any 0 W) | exact quiet_a (fun W => num_any 0 W)))
        go_wp2_with fail
        go_ret
        exact ⟨rfl, bdrewN b4 _⟩

end Go.Proofs.Ytcljcjlfbeplcaa
