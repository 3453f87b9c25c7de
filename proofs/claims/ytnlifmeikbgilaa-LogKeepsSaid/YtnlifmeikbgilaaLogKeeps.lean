/-
  Layer 8's law LogKeeps: it answers true for every input.
-/
import Derived.Test.YtnlifmeikbgilaaLogAwake
import Derived.Test.YtnlifmeikbgilaaPlain2
namespace Go.Proofs.Ytnlifmeikbgilaa
open Go.RowKit
set_option linter.unusedVariables false
set_option maxRecDepth 100000

/-- The faults of the law. -/
def fK8 (i : Nat) : Fl := ⟨(i : Int), bits BinOp.and IntKind.i64 (i : Int) 3, 0, false, 0⟩
theorem kp_zero (F : Nat → Fl) (c : Nat) : kp F c 0 = [] := by simp [kp]
theorem dr_zero (c : Nat) : dr c 0 = 0 := by unfold dr; omega
theorem ladd_K8 (g c m : Nat) (w : World) (h : PF w g c (kp fK8 c m) (dr c m)) (h1 : 1 ≤ c) (h2 : c ≤ 16) :
    Calls Try.prog 9 #[.pointer (some ⟨g, 0, none⟩), .agg #[.int .i64 (m : Int), .int .i64 (bits BinOp.and IntKind.i64 (m : Int) 3), .int .i64 0, .bool false, .int .i64 0]] w fun e w' => e = .returned (.tuple #[]) ∧ PF w' g c (kp fK8 c (m + 1)) (dr c (m + 1)) ∧ w.grownBy w' (some g) := ladd_kp fK8 g c m w h h1 h2

set_option maxRecDepth 100000 in
set_option maxHeartbeats 2000000 in
theorem law_LogKeeps (most many : Int) (w0 : (Lit.int .i64 most).wf = true) (w1 : (Lit.int .i64 many).wf = true) (w : World) :
    Calls Try.prog 4 #[.int .i64 most, .int .i64 many] w fun e w' => e = .returned (.bool true) ∧ Below w.heap.size w w' := by
  have hU := u64b most
  generalize hU' : IntKind.u64.wrap most = U at hU
  have hK : 0 ≤ U % 16 ∧ U % 16 ≤ 15 := by omega
  generalize hK' : U % 16 = K at hK
  obtain ⟨K, rfl⟩ := Int.eq_ofNat_of_zero_le hK.1
  have hA := band many 63 (by omega) (by omega)
  generalize hA' : bits BinOp.and IntKind.i64 many 63 = M at hA
  have hB := band many 1023 (by omega) (by omega)
  generalize hB' : bits BinOp.and IntKind.i64 many 1023 = T at hB
  have hC := band (many / 1024) 7 (by omega) (by omega)
  generalize hC' : bits BinOp.and IntKind.i64 (many / 1024) 7 = Q at hC
  obtain ⟨M, rfl⟩ := Int.eq_ofNat_of_zero_le hA.1
  obtain ⟨Q, rfl⟩ := Int.eq_ofNat_of_zero_le hC.1
  obtain ⟨hU1, hU2⟩ := hU; obtain ⟨hK1, hK2⟩ := hK; obtain ⟨hA1, hA2⟩ := hA; obtain ⟨hB1, hB2⟩ := hB; obtain ⟨hC1, hC2⟩ := hC
  go_enter Try.func4, Try.ntmps4
  go_wp2_with fail
  refine (lawake_any w).mono ?_
  rintro e w1 ⟨rfl, b1⟩
  have hs1 := b1.size
  obtain ⟨c, hc⟩ : ∃ c : Nat, (c : Int) = 1 + K := ⟨1 + K, by omega⟩
  go_wp2_with fail
  rw [← hc]
  have hc1 : 1 ≤ c := by omega
  have hc16 : c ≤ 16 := by omega
  refine (lnew_yes c w1 hc1 hc16).mono ?_
  rintro e w2 ⟨rfl, t2, b2⟩
  replace b2 := Below.down b1 b2 hs1
  have hgl := t2.lt
  generalize hg : w1.heap.size = g at *
  have HG := Lib.hid hg; clear hg b1
  go_wp2_with fail
  refine (num_any 0 _).mono ?_
  rintro e w' ⟨rfl, rfl⟩
  have hT : ∃ m : Nat, m ≤ 65600 ∧ ((T = 7 ∧ (m : Int) = 65535 + (1 + (K : Int)) + (Q : Int)) ∨ ((T == 7) = false ∧ m = M)) := by
    by_cases h : T = 7
    · exact ⟨65535 + c + Q, by omega, .inl ⟨h, by omega⟩⟩
    · exact ⟨M, by omega, .inr ⟨by simpa using h, rfl⟩⟩
  obtain ⟨m, hm6, hT⟩ := hT
  rcases hT with ⟨rfl, hm⟩ | ⟨hT, hm⟩
  all_goals
    try subst hm
    go_wp2_with fail
    try rw [← hm]
    clear hA' hC' hK' hU' hB1 hB2 hU1 hU2 hK1 hK2 hA1 hA2 hC1 hC2
    try clear hB'
    try clear hm
    go_loopw [9] (fun i wq => ∃ (k : Nat), k ≤ m ∧ i = .int .i64 k ∧ PF wq g c (kp fK8 c k) (dr c k) ∧ Below w.heap.size w wq) (fun i _ => m - (intOf i).toNat)
    case atStart => exact ⟨0, by omega, rfl, by rw [kp_zero, dr_zero]; exact t2, b2⟩
    case round =>
      clear t2 b2 hgl
      obtain ⟨k, hk, rfl, ht, hbel⟩ := hrel
      by_cases hlt : k < m
      · go_wp2_with fail
        refine (ladd_K8 g c k _ ht hc1 hc16).mono ?_
        rintro e w3 ⟨rfl, t3, g3⟩
        have b3 := bone hbel g3 hbel.size (by omega)
        clear ht hbel g3
        go_wp2_with fail
        go_roundw
        case rel => exact ⟨k + 1, by omega, by go_num, t3, b3⟩
        case measure => simp [intOf]; omega
      · obtain rfl : k = m := by omega
        have hgw := ht.lt
        have hkl := kp_len fK8 c k
        have hka := kp_at fK8 c k
        generalize kp fK8 c k = l at *
        have hcase : ((k : Int) < 1 + (K : Int) ∧ l.length = k ∧ dr c k = 0) ∨ ((k : Int) = 1 + (K : Int) ∧ (l.length : Int) = 1 + K ∧ dr c k = 0) ∨ (1 + (K : Int) < k ∧ (k : Int) - (1 + K) ≤ 65535 ∧ (l.length : Int) = 1 + K ∧ (dr c k : Int) = k - (1 + K)) ∨ (1 + (K : Int) < k ∧ 65535 < (k : Int) - (1 + K) ∧ (l.length : Int) = 1 + K ∧ dr c k = 65535) := by
          unfold dr; omega
        generalize dr c k = D at *
        go_wp2_with fail
        refine (ltake_any g c l D _ ht).mono ?_
        rintro e w3 ⟨A, cap, rfl, own3, t3, g3⟩
        have b3 := bone hbel g3 hbel.size (by omega)
        obtain ⟨L, hL⟩ : ∃ L, L = l.length := ⟨_, rfl⟩
        rw [← hL] at own3 hcase ⊢
        have HKL := Lib.hid hkl; have HKA := Lib.hid hka; have HL := Lib.hid hL
        have hL16 : L ≤ 16 := by omega
        clear ht hbel g3 t3 hkl hka hL
        rcases hcase with ⟨x1, x2, x3⟩ | ⟨x1, x2, x3⟩ | ⟨x1, x2, x3, x4⟩ | ⟨x1, x2, x3, x4⟩
        all_goals
          try subst x2
          try subst x3
          try subst x4
          go_wp2_with fail
          have hA := Sl.own own3
          obtain ⟨A', cap', eA, hcap', _, hA⟩ := hA
          obtain ⟨rfl, _, rfl⟩ := Value.slice.inj eA
          clear own3 eA
          have HA := Lib.hid hA; clear hA
          go_loopw [12] (fun i wq => ∃ k2 q : Nat, k2 ≤ L ∧ i = .int .i64 k2 ∧ wq = w3.drewN q) (fun i _ => L - (intOf i).toNat)
          case atStart => exact ⟨0, 0, by omega, rfl, rfl⟩
          case round =>
            obtain ⟨k2, q, hk2, rfl, rfl⟩ := hrel
            by_cases hlt2 : k2 < L
            · obtain ⟨ab, ao, rfl, _, gA⟩ := HA.out (by omega)
              have f := fls_get l k2 (by rw [← HL.out]; exact hlt2)
              rw [HKA.out k2 (by rw [← HL.out]; exact hlt2)] at f
              have a0 := gA _ _ f.1
              have a1 := gA _ _ f.2.1
              have a2 := gA _ _ f.2.2.1
              have a3 := gA _ _ f.2.2.2.1
              have a4 := gA _ _ f.2.2.2.2
              simp only [← Nat.add_assoc, fK8] at a0 a1 a2 a3 a4
              clear gA f
              go_wp2_with fail
              go_roundw
              case rel => exact ⟨k2 + 1, _, by omega, by go_num, rfl⟩
              case measure => simp [intOf]; omega
            · go_wp2_with fail
              refine (lnew_no _ _ (by omega)).mono ?_
              rintro e w' ⟨rfl, rfl⟩
              go_wp2_with fail
              refine (lnew_no _ _ (by omega)).mono ?_
              rintro e w' ⟨rfl, rfl⟩
              go_wp2_with fail
              refine (num_any _ _).mono ?_
              rintro e w' ⟨rfl, rfl⟩
              go_wp2_with fail
              refine (num_any _ _).mono ?_
              rintro e w' ⟨rfl, rfl⟩
              go_wp2_with fail
              go_ret
              exact ⟨rfl, bdrewN b3 q⟩

end Go.Proofs.Ytnlifmeikbgilaa
