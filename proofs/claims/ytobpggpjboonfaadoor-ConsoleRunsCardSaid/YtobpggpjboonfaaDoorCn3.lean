/-
  Contracts of package console: rows of numbers.
-/
import Derived.Test.YtobpggpjboonfaaDoorCn2
import Derived.Test.YtobpggpjboonfaaDoorPlain2
namespace Go.Proofs.YtobpggpjboonfaaDoor
open Go.RowKit Go.Lib
set_option linter.unusedVariables false
set_option linter.unusedSimpArgs false
set_option maxRecDepth 100000

theorem infoInt : (Tryd.prog.info? 3).map (fun i => (i.zero, i.size, i.bytes)) = some (some (.int .i64 0), 1, 8) := by kernel_rfl

/-- What numbersOf answers: v, true where all words are numbers xs. -/
def NmA (ts : List (List UInt8)) (w : World) (e : Ending) (w' : World) : Prop :=
  (numsS ts = none ∧ e = .returned (.tuple #[.slice none 0 0, .bool false]) ∧ Below w.heap.size w w') ∨
  (∃ v xs, numsS ts = some xs ∧ e = .returned (.tuple #[v, .bool true]) ∧ w'.ownsRow w.heap.size 3 1 v xs.length (ints xs) ∧ Below w.heap.size w w')

set_option maxHeartbeats 1000000 in
theorem numbers_any (v : Value) (n : Nat) (ts : List (List UInt8)) (w : World) (hs : Sl w v n 1 (txs ts)) (hn : n ≤ 65536) (ht : ∀ t ∈ ts, t.length ≤ 65536) :
    Calls Tryd.prog 59 #[v] w (NmA ts w) := by
  obtain ⟨A, cap, rfl, hc, hlen, hA⟩ := hs
  rw [txs_len, Nat.mul_one] at hlen
  obtain ⟨i0, hi, hz0, hz1, hz2⟩ := info_parts infoInt
  have HI := Lib.hid hi; have HZ0 := Lib.hid hz0; have HZ1 := Lib.hid hz1; have HZ2 := Lib.hid hz2; have HA := Lib.hid hA; have HL := Lib.hid hlen; have HT := Lib.hid ht
  clear hi hz0 hz1 hz2 hA hlen ht
  go_enter Tryd.func59, Tryd.ntmps59
  go_wp2_with fail
  go_loopw [4, 6, 7, 8, 11, 15] (fun v _ _ _ i _ wr => ∃ (k : Nat) (xs : List Int) (v' : Value), k ≤ n ∧ v' = v ∧ i = .int .i64 k ∧ Hid (numsS (ts.take k) = some xs ∧ xs.length = k ∧ wr.ownsRow w.heap.size 3 1 v' k (ints xs) ∧ Below w.heap.size w wr)) (fun _ _ _ _ i _ _ => n - (intOf i).toNat)
  case atStart => exact ⟨0, [], _, by omega, rfl, rfl, Lib.hid ⟨rfl, rfl, World.ownsRow_nil _ _ _ _, Below.refl _ _⟩⟩
  case round =>
    obtain ⟨k, xs, v', hk, rfl, rfl, HR⟩ := hrel
    by_cases hlt : k < n
    · obtain ⟨b, o, rfl, hb, hcell⟩ := HA.out (by omega)
      have hkl : k < ts.length := by rw [HL.out]; exact hlt
      have hbel := HR.out.2.2.2
      have hc0 := (hbel.cell (p := ⟨b, o + k, none⟩) hb).trans (hcell k _ (txs_get ts k hkl))
      have hmem : ts.getD k [] ∈ ts := by simp [List.getD, List.getElem?_eq_getElem hkl]
      have HN := Lib.hid (number_any (ts.getD k []) wr (by have := HT.out _ hmem; omega))
      have HS := Lib.hid (numsS_take ts k hkl xs HR.out.1)
      have HB := Lib.hid (numsS_bad ts k hkl xs HR.out.1)
      have HC := Lib.hid hcell
      clear hcell hmem hbel
      generalize hT : ts.getD k [] = T at *
      clear hT
      cases hx : numS T with
      | none =>
        have hnb := nm_none hx
        obtain ⟨hv, ho⟩ := hnb
        have HN := Lib.hid (by have := HN.out; rwa [hv, ho] at this)
        have HX := Lib.hid (HB.out hx)
        clear HB HS hv ho hx
        generalize str T = S at *
        go_wp2_with (go_at_call 73; refine HN.out.mono ?_; rintro e w' ⟨rfl, rfl⟩)
        go_ret2
        exact .inl ⟨HX.out, rfl, HR.out.2.2.2⟩
      | some x =>
        have hv : nmV T = x := by unfold nmV; rw [hx]
        have ho : nmO T = true := by unfold nmO; rw [hx]; rfl
        have hsm := numS_small hx
        have HN := Lib.hid (by have := HN.out; rwa [hv, ho] at this)
        have HX := Lib.hid (by have := HS.out; rwa [hx] at this)
        clear HB HS hv ho hx
        generalize str T = S at *
        have HOW := Lib.hid HR.out.2.2.1
        have HBEL := Lib.hid HR.out.2.2.2
        have hsz := HR.out.2.2.2.size
        go_wp2_with (first
          | (go_at_call 73; refine HN.out.mono ?_; rintro e w' ⟨rfl, rfl⟩)
          | (at_builtin; refine wpList_append_own _ rfl _ _ 33 rfl w.heap.size 3 i0 _ 1 8 Tryd.underlying33 HI.out HZ0.out HZ1.out HZ2.out rfl (by decide) _ k (ints xs) rfl (HOW.out.alloc _) ⟨wr.heap.size, 0, none⟩ 1 1 [.int .i64 x] rfl rfl ?d2 ?d3 ?d4 ?d5 ?d6 ?_))
        case d2 => exact row_new wr [.int .i64 x] _
        case d3 => intro u hu; simp at hu; subst hu; rfl
        case d4 => unfold maxLen; omega
        case d5 => omega
        case d6 => simp; omega
        intro v2 w2 hown2 hgrow _
        have HF : Hid (numsS (ts.take (k + 1)) = some (xs ++ [x]) ∧ (xs ++ [x]).length = k + 1 ∧ w2.ownsRow w.heap.size 3 1 v2 (k + 1) (ints (xs ++ [x])) ∧ Below w.heap.size w w2) :=
          Lib.hid ⟨HX.out, by rw [List.length_append, HR.out.2.1]; rfl, by rw [ints_append]; exact hown2, below_one _ HOW.out hsz HBEL.out hgrow⟩
        clear hown2 hgrow HOW HBEL HX HN HR HC hc0
        go_wp2_with fail
        go_roundw
        case rel => exact ⟨k + 1, xs ++ [x], v2, by omega, rfl, by go_num, HF⟩
        case measure => simp [intOf]; omega
    · have hkn : k = n := by omega
      subst hkn
      go_wp2_with fail
      go_ret2
      refine .inr ⟨v', xs, ?_, rfl, ?_, HR.out.2.2.2⟩
      · have := HR.out.1
        rwa [List.take_of_length_le (by rw [HL.out]; exact Nat.le_refl _)] at this
      · have := HR.out.2.2.1
        rw [HR.out.2.1]; exact this

theorem make_strs (n : Nat) (hn : n ≤ 4000) (W : World) : (Instr.makeSlice 28 (.int .i64 (n : Int)) (.int .i64 (n : Int))).run Tryd.prog W = .ok (.slice (some ⟨W.heap.size, 0, none⟩) n n) (W.alloc (.cells (txs (List.replicate n [])).toArray 9)) := by
  obtain ⟨i0, hi, hz0, hz1, hz2⟩ := info_parts infoStr
  have := run_makeSlice (P := Tryd.prog) W 28 9 i0 _ Tryd.underlying28 hi hz0 .i64 .i64 n n (by omega) (by omega) (by rw [hz1]; omega) (by rw [hz2]; omega) (by omega)
  rw [this, Int.toNat_natCast]
  congr 3
  have h := cellsOf_nil n
  have e : madeCells (Value.string ⟨#[]⟩).cells n = (txs (List.replicate n [])).toArray := by
    show madeCells #[Value.string ⟨#[]⟩] n = _
    have h2 : madeCells #[Value.string ByteArray.empty] n = cellsOf [] n := h.symm
    refine Eq.trans ?_ (h2.trans ?_)
    · rfl
    · simp [cellsOf, txs]; exact .inr rfl
  rw [hz1, Nat.mul_one]
  exact e

theorem jnS_len (ts : List (List UInt8)) (h : ∀ t ∈ ts, t.length ≤ 20) : (jnS ts).length ≤ 21 * ts.length := by
  have key : ∀ ts : List (List UInt8), (∀ t ∈ ts, t.length ≤ 20) → (tlS ts).length ≤ 21 * ts.length := by
    intro ts
    induction ts with
    | nil => intro _; simp [tlS]
    | cons t ts ih =>
      intro h
      have h1 := h t (by simp)
      have h2 := ih (fun x hx => h x (by simp [hx]))
      simp only [tlS, List.length_append, List.length_cons]
      omega
  cases ts with
  | nil => simp [jnS]
  | cons t ts =>
    have h1 := h t (by simp)
    have h2 := key ts (fun x hx => h x (by simp [hx]))
    simp only [jnS, List.length_append, List.length_cons]
    omega

/-- The first k numbers told, no text in the others' places. -/
def rwK (xs : List Int) (k : Nat) : List (List UInt8) := (xs.take k).map dcm ++ List.replicate (xs.length - k) []
theorem rwK_zero (xs : List Int) : rwK xs 0 = List.replicate xs.length [] := by simp [rwK]
theorem rwK_all (xs : List Int) : rwK xs xs.length = xs.map dcm := by simp [rwK]
theorem rwK_set (xs : List Int) (k : Nat) (hk : k < xs.length) : (txs (rwK xs k)).set k (.string (str (dcm (xs.getD k 0)))) = txs (rwK xs (k + 1)) := by
  have hl : ((xs.take k).map dcm).length = k := by simp; omega
  have e1 : xs.length - k = (xs.length - (k + 1)) + 1 := by omega
  have e2 : xs.take (k + 1) = xs.take k ++ [xs.getD k 0] := by
    rw [List.take_add_one]; simp [List.getD, List.getElem?_eq_getElem hk]
  have h3 : txs (rwK xs k) = txs ((xs.take k).map dcm) ++ .string (str []) :: txs (List.replicate (xs.length - (k + 1)) []) := by
    unfold rwK; rw [e1, List.replicate_succ, txs_app]; rfl
  have h4 : k = (txs ((xs.take k).map dcm)).length := by rw [txs_len, hl]
  rw [h3]
  conv => lhs; arg 2; rw [h4]
  rw [set_mid]
  unfold rwK
  rw [e2, List.map_append, txs_app, txs_app]
  simp [txs]
theorem rwK_len (xs : List Int) (k : Nat) (hk : k ≤ xs.length) : (rwK xs k).length = xs.length := by simp [rwK]; omega

set_option maxHeartbeats 1000000 in
theorem row_any (v : Value) (n : Nat) (xs : List Int) (w : World) (he : Env w) (hs : Sl w v n 1 (ints xs)) (hn : n ≤ 3000) (hx : ∀ x ∈ xs, -9223372036854775808 ≤ x ∧ x ≤ 9223372036854775807) :
    Calls Tryd.prog 48 #[v] w fun e w' => e = .returned (.string (str (rwS xs))) ∧ Below w.heap.size w w' := by
  obtain ⟨A, cap, rfl, hc, hlen, hA⟩ := hs
  rw [ints_len, Nat.mul_one] at hlen
  have hmk := make_strs n (by omega)
  have HA := Lib.hid hA; have HL := Lib.hid hlen; have HX := Lib.hid hx; have HE := Lib.hid he
  clear hA hlen hx he
  have b0 : Below w.heap.size w (w.alloc (.cells (txs (List.replicate n [])).toArray 9)) := (Below.refl _ w).alloc (Nat.le_refl _) _
  have k0 : Blk (w.alloc (.cells (txs (List.replicate n [])).toArray 9)) w.heap.size 9 (txs (rwK xs 0)) := by
    rw [rwK_zero, HL.out]; exact Blk.new _ _ _
  have B0 := Lib.hid b0; have K0 := Lib.hid k0
  clear b0 k0
  go_enter Tryd.func48, Tryd.ntmps48
  go_wp2_with fail
  clear hmk
  obtain ⟨g, hg⟩ : ∃ g, w.heap.size = g := ⟨_, rfl⟩
  have HG := Lib.hid hg
  generalize w.alloc (.cells (txs (List.replicate n [])).toArray 9) = w1 at *
  rw [hg]
  rw [hg] at B0 K0
  clear hg
  go_loopw [4, 5, 11] (fun _ _ i wr => ∃ (k : Nat), k ≤ n ∧ i = .int .i64 k ∧ Hid (Blk wr g 9 (txs (rwK xs k)) ∧ Below g w wr)) (fun _ _ i _ => n - (intOf i).toNat)
  case atStart => exact ⟨0, by omega, rfl, Lib.hid ⟨K0.out, B0.out⟩⟩
  case round =>
    obtain ⟨k, hk, rfl, HR⟩ := hrel
    by_cases hlt : k < n
    · obtain ⟨b, o, rfl, hb, hcell⟩ := HA.out (by omega)
      have hkl : k < xs.length := by rw [HL.out]; exact hlt
      have hc0 := ((HR.out.2.cell (p := ⟨b, o + k, none⟩) (by rw [← HG.out]; exact hb))).trans (hcell k _ (ints_get xs k hkl))
      have hmem : xs.getD k 0 ∈ xs := by simp [List.getD, List.getElem?_eq_getElem hkl]
      have hxb := HX.out _ hmem
      have hew : Env wr := HE.out.low HR.out.2 (by rw [HG.out]; exact Nat.le_refl _) (by rw [← HG.out]; exact HE.out.lt.1) (by rw [← HG.out]; exact HE.out.lt.2)
      have HI := Lib.hid (itoa_any (xs.getD k 0) wr hew hxb.1 hxb.2)
      have hset := rwK_set xs k hkl
      have hgl : (txs (rwK xs k)).length = n := by rw [txs_len, rwK_len _ _ (by omega), HL.out]
      have HS := Lib.hid hset; have HGL := Lib.hid hgl
      clear hset hgl hew hmem hxb
      generalize hD : str (dcm (xs.getD k 0)) = D at *
      generalize hXk : xs.getD k 0 = X at *
      clear hD hXk
      have HR' := HR
      have hgt := HR.out.1.lt
      clear hcell
      go_wp2_with (go_at_call 42; refine HI.out.mono ?_; rintro e w2 ⟨rfl, hb2⟩; have kb := HR.out.1.below hb2 hgt; have kc : ∃ u, w2.cell? ⟨g, k, none⟩ = some u := (by rw [kb.cell]; exact ⟨_, List.getElem?_eq_getElem (by rw [HGL.out]; exact hlt)⟩); obtain ⟨uc, kc⟩ := kc; have kf := kb.frozen k; have hs2 := hb2.size; have HB2 := Lib.hid hb2; have KB := Lib.hid kb; clear hb2 kb)
      have HF : Hid (Blk (w2.setCell ⟨g, k, none⟩ (.string D)) g 9 (txs (rwK xs (k + 1))) ∧ Below g w (w2.setCell ⟨g, k, none⟩ (.string D))) := by
        refine Lib.hid ⟨?_, ?_⟩
        · have := KB.out.set k (.string D)
          rw [HS.out] at this; exact this
        · exact (HR'.out.2.trans (HB2.out.mono (by have := HR'.out.2.size; omega))).setCell (Nat.le_refl _) _
      go_roundw
      case rel => exact ⟨k + 1, by omega, by go_num, HF⟩
      case measure => simp [intOf]; omega
    · have hkn : k = n := by omega
      subst hkn
      have hsl : Sl wr (.slice (some ⟨g, 0, none⟩) k k) k 1 (txs (xs.map dcm)) := by
        have h1 := HR.out.1
        rw [← HL.out, rwK_all] at h1
        refine ⟨_, k, rfl, Nat.le_refl _, by rw [txs_len, List.length_map, HL.out, Nat.mul_one], fun _ => ⟨g, 0, rfl, h1.lt, fun j u hu => ?_⟩⟩
        rw [h1.cell, Nat.zero_add]; exact hu
      have HJ := Lib.hid (join_any _ k (xs.map dcm) wr hsl (by omega) (by
        have := jnS_len (xs.map dcm) (fun t ht => by obtain ⟨x, _, rfl⟩ := List.mem_map.1 ht; exact dcm_len x)
        rw [List.length_map, HL.out] at this
        omega))
      have e1 : jnS (xs.map dcm) = rwS xs := rfl
      rw [e1] at HJ
      generalize hR : str (rwS xs) = R at HJ
      have HRR := Lib.hid hR
      clear hsl e1 hR
      have HB := Lib.hid HR.out.2
      have hgs := HR.out.2.size
      go_wp2_with (go_at_call 64; refine HJ.out.mono ?_; rintro e w2 ⟨rfl, hb2⟩)
      go_ret
      refine ⟨by rw [HRR.out]; rfl, ?_⟩
      rw [HG.out]
      exact HB.out.trans (hb2.mono (by rw [HG.out] at hgs; exact hgs))

end Go.Proofs.YtobpggpjboonfaaDoor
