/-
  Layer 18's law ExtentApart: it answers true for every input.
-/
import Derived.Test.YtegclnaibbkelaaExAwake
import Derived.Test.YtegclnaibbkelaaExArgs
namespace Go.Proofs.Ytegclnaibbkelaa
open Go.RowKit
set_option linter.unusedVariables false
set_option linter.unusedSimpArgs false
set_option maxRecDepth 100000

theorem goB_free (s : Int) : ∀ (ps : List (Int × Int)) (F : Nat → Bool), goB ps s F = true → ∀ i, i < ps.length → ∀ t : Nat, (ps.getD i (0, 0)).1.toNat ≤ t → t < (ps.getD i (0, 0)).1.toNat + (ps.getD i (0, 0)).2.toNat → F t = false := by
  intro ps
  induction ps with
  | nil => intro F _ i hi; simp at hi
  | cons q ps ih =>
    intro F h i hi t h1 h2
    simp only [goB, Bool.and_eq_true] at h
    cases i with
    | zero =>
      have h1 : q.1.toNat ≤ t := h1
      have h2 : t < q.1.toNat + q.2.toNat := h2
      have := (freeB_iff F q.2.toNat q.1.toNat).1 h.2.1 (t - q.1.toNat) (by omega)
      rw [show q.1.toNat + (t - q.1.toNat) = t by omega] at this
      exact this
    | succ i =>
      have := ih _ h.2.2 i (by simpa using hi) t h1 h2
      unfold addF at this
      simp only [Bool.or_eq_false_iff] at this
      exact this.1
theorem goB_two (s : Int) : ∀ (ps : List (Int × Int)) (F : Nat → Bool), goB ps s F = true → ∀ i j, i < j → j < ps.length → ∀ t : Nat, (ps.getD i (0, 0)).1.toNat ≤ t → t < (ps.getD i (0, 0)).1.toNat + (ps.getD i (0, 0)).2.toNat →
    (ps.getD j (0, 0)).1.toNat ≤ t → t < (ps.getD j (0, 0)).1.toNat + (ps.getD j (0, 0)).2.toNat → False := by
  intro ps
  induction ps with
  | nil => intro F _ i j _ hj; simp at hj
  | cons q ps ih =>
    intro F h i j hij hj t h1 h2 h3 h4
    simp only [goB, Bool.and_eq_true] at h
    obtain ⟨j, rfl⟩ : ∃ m, j = m + 1 := ⟨j - 1, by omega⟩
    cases i with
    | zero =>
      have h1 : q.1.toNat ≤ t := h1
      have h2 : t < q.1.toNat + q.2.toNat := h2
      have := goB_free s ps _ h.2.2 j (by simpa using hj) t h3 h4
      unfold addF at this
      rw [decide_eq_true h1, decide_eq_true h2] at this
      simp at this
    | succ i => exact ih _ h.2.2 i j (by omega) (by simpa using hj) t h1 h2 h3 h4
/-- Two sectors of shares that may be are one only where share and sector are. -/
theorem ext_apart {ps : List (Int × Int)} {s : Int} (h : extB ps s = true) {i j x y : Nat} (hi : i < ps.length) (hj : j < ps.length) (hx : (x : Int) < (ps.getD i (0, 0)).2) (hy : (y : Int) < (ps.getD j (0, 0)).2) :
    ((ps.getD i (0, 0)).1 + x = (ps.getD j (0, 0)).1 + y) ↔ (i = j ∧ x = y) := by
  have hg := (extB_parts h).2.2.2.2
  obtain ⟨i0, i1, _, _⟩ := extB_run h i hi
  obtain ⟨j0, j1, _, _⟩ := extB_run h j hj
  constructor
  · intro e
    by_cases hij : i = j
    · subst hij; exact ⟨rfl, by omega⟩
    · exfalso
      rcases Nat.lt_or_gt_of_ne hij with hlt | hlt
      · exact goB_two s ps noB hg i j hlt hj ((ps.getD i (0, 0)).1 + x).toNat (by omega) (by omega) (by omega) (by omega)
      · exact goB_two s ps noB hg j i hlt hi ((ps.getD i (0, 0)).1 + x).toNat (by omega) (by omega) (by omega) (by omega)
  · rintro ⟨rfl, rfl⟩; rfl
/-- A sector of a share that may be. -/
theorem toC_one {ps : List (Int × Int)} (h : extB ps 64 = true) {i x : Nat} (hi : i < ps.length) (hx : (x : Int) < (ps.getD i (0, 0)).2) : toC ps i x 1 = ((ps.getD i (0, 0)).1 + x, 0) ∧ 0 ≤ (ps.getD i (0, 0)).1 + x ∧ (ps.getD i (0, 0)).1 + x < 64 := by
  obtain ⟨i0, i1, i2, i3⟩ := extB_run h i hi
  refine ⟨?_, by omega, by omega⟩
  rw [toC_at h hi, if_pos]
  exact decide_eq_true (by omega)

set_option maxHeartbeats 4000000 in
theorem law_ExtentApart (u : Value) (a b : Int) (w : World) (h : ∃ l, PaS w u l ∧ PaZ l) :
    Calls Try.prog 4 #[u, .int .i64 a, .int .i64 b] w fun e w' => e = .returned (.bool true) ∧ Below w.heap.size w w' := by
  obtain ⟨l, hs, hz⟩ := h
  have hp := hs.pts hz
  generalize l.map Pa.fc = ps at hp
  clear hs hz
  have HP := Lib.hid hp
  obtain ⟨A, cap, rfl, hn, hA⟩ := hp
  obtain ⟨n, hl⟩ : ∃ n, ps.length = n := ⟨_, rfl⟩
  have HL := Lib.hid hl
  have HA := Lib.hid hA
  rw [hl] at hn HP ⊢
  unfold maxLen at hn
  obtain ⟨E, hE⟩ : ∃ E, extB ps 64 = E := ⟨_, rfl⟩
  have HE := Lib.hid hE
  have hU := u64b a
  have hV := u64b b
  generalize hU' : IntKind.u64.wrap a = U at hU
  generalize hV' : IntKind.u64.wrap b = V at hV
  obtain ⟨hU0, hU1⟩ := hU
  obtain ⟨hV0, hV1⟩ := hV
  clear hE hl hA
  go_enter Try.func4, Try.ntmps4
  go_wp2_with fail
  refine (exawake_any _).mono ?_
  rintro e w1 ⟨rfl, b1⟩
  have HB := Lib.hid b1
  clear b1
  go_wp2_with fail
  refine (extmay_is _ ps 64 _ (HP.out.below HB.out) E HE.out).mono ?_
  rintro e w2 ⟨rfl, b2⟩
  have HB := Lib.hid (Below.down HB.out b2 HB.out.size)
  clear b2
  cases E
  · go_wp2_with fail
    go_ret
    exact ⟨rfl, HB.out⟩
  · by_cases h2 : n < 2
    · go_wp2_with fail
      go_ret
      exact ⟨rfl, HB.out⟩
    · have hn4 : n ≤ 4 := by have := (extB_parts HE.out).2.1; rw [HL.out] at this; exact this
      have hI0 : 0 ≤ U % (n : Int) := Int.emod_nonneg _ (by omega)
      have hI1 : U % (n : Int) < n := Int.emod_lt_of_pos _ (by omega)
      have hJ0 : 0 ≤ V % (n : Int) := Int.emod_nonneg _ (by omega)
      have hJ1 : V % (n : Int) < n := Int.emod_lt_of_pos _ (by omega)
      obtain ⟨i, hi⟩ := Int.eq_ofNat_of_zero_le hI0
      obtain ⟨j, hj⟩ := Int.eq_ofNat_of_zero_le hJ0
      rw [hi] at hI1
      rw [hj] at hJ1
      have hin : i < n := by omega
      have hjn : j < n := by omega
      clear hI0 hJ0 hI1 hJ1
      have hri := extB_run HE.out i (by rw [HL.out]; exact hin)
      have hrj := extB_run HE.out j (by rw [HL.out]; exact hjn)
      obtain ⟨ci, hci⟩ := Int.eq_ofNat_of_zero_le hri.2.1
      obtain ⟨cj, hcj⟩ := Int.eq_ofNat_of_zero_le hrj.2.1
      have hci64 : ci ≤ 64 := by omega
      have hcj64 : cj ≤ 64 := by omega
      have HONE : Hid (∀ x : Nat, x < ci → toC ps i x 1 = ((ps.getD i (0, 0)).1 + x, 0) ∧ 0 ≤ (ps.getD i (0, 0)).1 + x ∧ (ps.getD i (0, 0)).1 + x < 64) := Lib.hid fun x hx => toC_one HE.out (by rw [HL.out]; exact hin) (by omega)
      have HTWO : Hid (∀ y : Nat, y < cj → toC ps j y 1 = ((ps.getD j (0, 0)).1 + y, 0) ∧ 0 ≤ (ps.getD j (0, 0)).1 + y ∧ (ps.getD j (0, 0)).1 + y < 64) := Lib.hid fun x hx => toC_one HE.out (by rw [HL.out]; exact hjn) (by omega)
      have HAP : Hid (∀ x y : Nat, x < ci → y < cj → (((ps.getD i (0, 0)).1 + x = (ps.getD j (0, 0)).1 + y) ↔ (i = j ∧ x = y))) := Lib.hid fun x y hx hy => ext_apart HE.out (by rw [HL.out]; exact hin) (by rw [HL.out]; exact hjn) (by omega) (by omega)
      obtain ⟨bk, o, rfl, hb, hcell⟩ := HA.out (by rw [HL.out]; omega)
      have HQ : Hid (∀ W, Below w.heap.size w W → W.cell? ⟨bk, o + i * 5 + 4, none⟩ = some (.int .i64 ci) ∧ W.cell? ⟨bk, o + j * 5 + 4, none⟩ = some (.int .i64 cj)) := Lib.hid fun W hW => by
        obtain ⟨_, _, _, _, _, _, _, _, _, a4⟩ := hcell i (by rw [HL.out]; exact hin)
        obtain ⟨_, _, _, _, _, _, _, _, _, b4⟩ := hcell j (by rw [HL.out]; exact hjn)
        rw [hci] at a4
        rw [hcj] at b4
        exact ⟨(hW.cell (p := ⟨bk, _, none⟩) hb).trans a4, (hW.cell (p := ⟨bk, _, none⟩) hb).trans b4⟩
      clear hcell hri hrj hci hcj HA
      generalize (ps.getD i (0, 0)).1 = fi at *
      generalize (ps.getD j (0, 0)).1 = fj at *
      have hd2 : decide ((n : Int) < 2) = false := decide_eq_false (by omega)
      go_wp2_with fail
      clear hU' hV' hi hj hd2 hU0 hU1 hV0 hV1
      go_loopw [9] (fun q wr => ∃ x : Nat, x ≤ ci ∧ q = .int .i64 x ∧ Hid (Below w.heap.size w wr)) (fun q _ => ci - (intOf q).toNat)
      case atStart => exact ⟨0, by omega, rfl, HB⟩
      case round =>
        clear HB
        obtain ⟨x, hx, rfl, HB⟩ := hrel
        obtain ⟨p4, r4⟩ := HQ.out _ HB.out
        by_cases hlt : x < ci
        · obtain ⟨g1, g2, g3⟩ := HONE.out x hlt
          have HG1 := Lib.hid g1
          obtain ⟨s, hs⟩ : ∃ s, fi + (x : Int) = s := ⟨_, rfl⟩
          rw [hs] at HG1 g2 g3
          have HSS := Lib.hid hs
          clear g1 hs
          go_wp2_with fail
          refine (to_is _ ps _ _ _ _ (HP.out.below HB.out) s 0 HG1.out).mono ?_
          rintro e w3 ⟨rfl, b3⟩
          have HB := Lib.hid (Below.down HB.out b3 HB.out.size)
          clear b3 p4 r4
          go_wp2_with fail
          refine (num_any _ _).mono ?_; rintro e w' ⟨rfl, rfl⟩
          go_wp2_with fail
          go_loopw [12] (fun q wr => ∃ y : Nat, y ≤ cj ∧ q = .int .i64 y ∧ Hid (Below w.heap.size w wr)) (fun q _ => cj - (intOf q).toNat)
          case atStart => exact ⟨0, by omega, rfl, HB⟩
          case round =>
            clear HB
            obtain ⟨y, hy, rfl, HB⟩ := hrel
            obtain ⟨p4, r4⟩ := HQ.out _ HB.out
            by_cases hlty : y < cj
            · obtain ⟨g1, g2', g3'⟩ := HTWO.out y hlty
              have HG2 := Lib.hid g1
              obtain ⟨t, ht⟩ : ∃ t, fj + (y : Int) = t := ⟨_, rfl⟩
              have hst := HAP.out x y hlt hlty
              rw [HSS.out, ht] at hst
              rw [ht] at HG2
              clear g1 ht g2' g3'
              by_cases hij : i = j
              · by_cases hxy : x = y
                · have k1 : (s == t) = true := beq_iff_eq.2 (hst.2 ⟨hij, hxy⟩)
                  have k2 : ((i : Int) == (j : Int)) = true := beq_iff_eq.2 (by omega)
                  have k3 : ((x : Int) == (y : Int)) = true := beq_iff_eq.2 (by omega)
                  clear hst hij hxy
                  go_wp2_with fail
                  refine (to_is _ ps _ _ _ _ (HP.out.below HB.out) t 0 HG2.out).mono ?_
                  rintro e w4 ⟨rfl, b3⟩
                  have HB := Lib.hid (Below.down HB.out b3 HB.out.size)
                  clear b3 p4 r4
                  go_wp2_with fail
                  refine (num_any _ _).mono ?_; rintro e w' ⟨rfl, rfl⟩
                  go_wp2_with fail
                  go_roundw
                  case rel => exact ⟨y + 1, by omega, by go_num, HB⟩
                  case measure => simp [intOf]; omega
                · have k1 : (s == t) = false := by rw [beq_eq_false_iff_ne]; exact fun e => hxy (hst.1 e).2
                  have k2 : ((i : Int) == (j : Int)) = true := beq_iff_eq.2 (by omega)
                  have k3 : ((x : Int) == (y : Int)) = false := by rw [beq_eq_false_iff_ne]; omega
                  clear hst hij hxy
                  go_wp2_with fail
                  refine (to_is _ ps _ _ _ _ (HP.out.below HB.out) t 0 HG2.out).mono ?_
                  rintro e w4 ⟨rfl, b3⟩
                  have HB := Lib.hid (Below.down HB.out b3 HB.out.size)
                  clear b3 p4 r4
                  go_wp2_with fail
                  refine (num_any _ _).mono ?_; rintro e w' ⟨rfl, rfl⟩
                  go_wp2_with fail
                  go_roundw
                  case rel => exact ⟨y + 1, by omega, by go_num, HB⟩
                  case measure => simp [intOf]; omega
              · have k1 : (s == t) = false := by rw [beq_eq_false_iff_ne]; exact fun e => hij (hst.1 e).1
                have k2 : ((i : Int) == (j : Int)) = false := by rw [beq_eq_false_iff_ne]; omega
                clear hst hij
                go_wp2_with fail
                refine (to_is _ ps _ _ _ _ (HP.out.below HB.out) t 0 HG2.out).mono ?_
                rintro e w4 ⟨rfl, b3⟩
                have HB := Lib.hid (Below.down HB.out b3 HB.out.size)
                clear b3 p4 r4
                go_wp2_with fail
                refine (num_any _ _).mono ?_; rintro e w' ⟨rfl, rfl⟩
                go_wp2_with fail
                go_roundw
                case rel => exact ⟨y + 1, by omega, by go_num, HB⟩
                case measure => simp [intOf]; omega
            · go_wp2_with fail
              go_roundw
              case rel => exact ⟨x + 1, by omega, by go_num, HB⟩
              case measure => simp [intOf]; omega
        · go_wp2_with fail
          go_ret
          exact ⟨rfl, HB.out⟩

end Go.Proofs.Ytegclnaibbkelaa
