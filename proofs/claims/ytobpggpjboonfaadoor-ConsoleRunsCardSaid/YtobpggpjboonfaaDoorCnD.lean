/-
  The document's numerals: caissonref0.Decimal.
-/
import Derived.Test.YtobpggpjboonfaaDoorCn1
import Derived.Test.YtobpggpjboonfaaDoorPhys0
import Derived.Test.YtobpggpjboonfaaDoorApn
import Derived.Test.YtobpggpjboonfaaDoorPlain2
namespace Go.Proofs.YtobpggpjboonfaaDoor
open Go.RowKit Go.Lib
set_option linter.unusedVariables false
set_option linter.unusedSimpArgs false
set_option maxRecDepth 100000

theorem infoByteD : (Tryd.prog.info? 5).map (fun i => (i.zero, i.size, i.bytes)) = some (some (.int .u8 0), 1, 1) := by kernel_rfl
theorem own_litD (w : World) (t : TypeId) (x : Value) (B : Nat) (hB : B ≤ w.heap.size) : (w.alloc (.cells #[x] t)).ownsRow B t 1 (.slice (some ⟨w.heap.size, 0, none⟩) 1 1) 1 [x] :=
  ⟨rfl, .inr ⟨w.heap.size, 1, #[x], rfl, hB, heap_alloc_new w _, Nat.le_refl _, by unfold maxLen; omega, rfl, rfl⟩⟩
/-- Digits l behind, s still to be told. -/
def DcI (x s : Nat) (l : List UInt8) : Prop := (s = 0 ∧ l ≠ [] ∧ decDigits x = l) ∨ ((0 < s ∨ l = []) ∧ decDigits x = decDigits s ++ l)
theorem DcI.step {x s : Nat} {l : List UInt8} (h : DcI x s l) (hg : 0 < s ∨ l = []) : DcI x (s / 10) (UInt8.ofNat (48 + s % 10) :: l) := by
  have h2 : decDigits x = decDigits s ++ l := by
    rcases h with ⟨h0, hl, _⟩ | ⟨_, h2⟩
    · rcases hg with hg | hg
      · omega
      · exact absurd hg hl
    · exact h2
  by_cases hs : s < 10
  · left
    refine ⟨by omega, by simp, ?_⟩
    rw [h2, decDigits, dif_pos hs, show s % 10 = s by omega]; rfl
  · right
    refine ⟨.inl (by omega), ?_⟩
    rw [h2, decDigits, dif_neg hs]; simp
theorem DcI.len {x s : Nat} {l : List UInt8} (h : DcI x s l) (hx : x < 1000000000) : l.length ≤ 9 := by
  have := dec_len9 x hx
  rcases h with ⟨_, _, h⟩ | ⟨_, h⟩
  · rw [h] at this; omega
  · rw [h, List.length_append] at this; omega

set_option maxHeartbeats 1000000 in
theorem dcm_any (x : Nat) (w : World) (hx : x < 1000000000) :
    Calls Tryd.prog 16 #[.int .i64 x] w fun e w' => e = .returned (.string (str (dcm (x : Int)))) ∧ Below w.heap.size w w' := by
  obtain ⟨i0, hi, hz0, hz1, hz2⟩ := info_parts infoByteD
  have HI := Lib.hid hi; have HZ0 := Lib.hid hz0; have HZ1 := Lib.hid hz1; have HZ2 := Lib.hid hz2
  have hxu : IntKind.u64.wrap (x : Int) = (x : Int) := IntWalk.u64_in _ (by omega)
  have hx0 : decide ((x : Int) < 0) = false := by simp
  rw [dcm_nat x hx]
  obtain ⟨P, hP⟩ : ∃ P, decDigits x = P := ⟨_, rfl⟩
  have HP := Lib.hid hP
  rw [hP]
  clear hi hz0 hz1 hz2 hP
  go_enter Tryd.func16, Tryd.ntmps16
  go_wp2_with fail
  go_loopw [3, 4] (fun sz v wr => ∃ (s : Nat) (l : List UInt8), sz = .int .u64 (s : Int) ∧ s ≤ x ∧ Hid (DcI x s l) ∧ wr.ownsRow w.heap.size 5 1 v l.length (bts l) ∧ Below w.heap.size w wr) (fun sz v _ => (RowKit.intOf sz).toNat + (match v with | .slice _ 0 _ => 1 | _ => 0))
  case atStart => exact ⟨x, [], rfl, Nat.le_refl _, Lib.hid (.inr ⟨.inr rfl, by simp⟩), World.ownsRow_nil _ _ _ _, Below.refl _ _⟩
  case round =>
    obtain ⟨s, l, rfl, hsx, HD, hown, hbel⟩ := hrel
    have hs0 := hbel.size
    have hl6 := HD.out.len hx
    obtain ⟨A, c, hv, hlc, _, hA⟩ := Sl.own hown
    subst hv
    have HA := Lib.hid hA
    clear hA
    have hnil : ∀ k c', (Value.slice A l.length c) = .slice none k c' → c' = 0 := fun k c' e => by
      rcases hown.2 with ⟨h1, _⟩ | ⟨g, cap, cur, h1, _⟩
      · rw [h1] at e; simp at e; exact e.2.symm
      · rw [h1] at e; simp at e
    by_cases hgo : 0 < s ∨ l = []
    · obtain ⟨d, hd⟩ : ∃ d, s % 10 = d := ⟨_, rfl⟩
      obtain ⟨h, hh⟩ : ∃ h, s / 10 = h := ⟨_, rfl⟩
      have htd : IntKind.u64.wrap ((s : Int).tdiv 10) = (h : Int) := by
        rw [Int.tdiv_eq_ediv_of_nonneg (by omega)]; rw [show (s : Int) / 10 = (h : Int) by omega]; exact IntWalk.u64_in _ (by omega)
      have htm : (s : Int).tmod 10 = (d : Int) := by rw [Int.tmod_eq_emod_of_nonneg (by omega)]; omega
      have hd9 : d ≤ 9 := by omega
      have hy : ((UInt8.ofNat (48 + d)).toNat : Int) = 48 + (d : Int) := by rw [dig_nat d (by omega)]; omega
      have HSL := Lib.hid ((Sl.own hown).below ((Below.refl _ wr).alloc (Nat.le_refl _) (.cells #[.int .u8 (48 + (d : Int))] 5)))
      have HOW := Lib.hid (own_litD wr 5 (.int .u8 (48 + (d : Int))) w.heap.size hs0)
      have HNIL := Lib.hid hnil
      have H1 : Hid (∀ u ∈ bts l, u.oneCell' = true) := Lib.hid (fun u hu => by obtain ⟨z, _, rfl⟩ := List.mem_map.1 hu; rfl)
      have HBEL := Lib.hid hbel
      have HST : Hid (DcI x h (UInt8.ofNat (48 + d) :: l)) := Lib.hid (by have := HD.out.step hgo; rwa [hh, hd] at this)
      have HHS : Hid (h ≤ s ∧ (h < s ∨ l = [])) := Lib.hid ⟨by omega, by
        rcases hgo with h1 | h1
        · exact .inl (by omega)
        · exact .inr h1⟩
      have HH := Lib.hid hh
      have hcase : (l.length = 0) ∨ (0 < l.length ∧ 0 < s) := by
        rcases hgo with h1 | h1
        · rcases Nat.eq_zero_or_pos l.length with h2 | h2
          · exact .inl h2
          · exact .inr ⟨h2, h1⟩
        · subst h1; exact .inl rfl
      clear hown hnil hbel hgo hd hh
      obtain ⟨n, hn⟩ : ∃ n, l.length = n := ⟨_, rfl⟩
      have HN := Lib.hid hn
      rw [hn] at hcase hlc hl6 HSL HNIL ⊢
      clear hn
      rcases hcase with rfl | ⟨hn0, hsx0⟩
      · by_cases hz : 0 < s
        all_goals
          go_wp2_with (at_builtin; refine wpList_append_sl rfl _ _ 27 rfl w.heap.size 5 i0 _ 1 1 Tryd.underlying27 HI.out HZ0.out HZ1.out HZ2.out rfl (by decide) _ 1 [.int .u8 (48 + (d : Int))] rfl HOW.out _ _ (bts l) rfl HSL.out HNIL.out H1.out (by unfold maxLen; omega) (by omega) (by simp; omega) ?_)
          intro v' w2 own2 gr2
          have hb2 : Below w.heap.size w w2 := (HBEL.out.alloc hs0 _).grown gr2 (by simp; omega) (fun x hx => by
            have e : wr.heap.size = x := by simpa [Value.ownBlock] using hx
            omega)
          have HF : Hid (w2.ownsRow w.heap.size 5 1 v' (UInt8.ofNat (48 + d) :: l).length (bts (UInt8.ofNat (48 + d) :: l)) ∧ Below w.heap.size w w2) := Lib.hid ⟨by
            have e : bts (UInt8.ofNat (48 + d) :: l) = [.int .u8 (48 + (d : Int))] ++ bts l := by simp only [bts, List.map_cons, hy]; rfl
            rw [e, List.length_cons, HN.out, Nat.add_comm]; exact own2, hb2⟩
          clear own2 gr2 hb2
          go_wp2_with fail
          go_roundw
          case rel => exact ⟨h, UInt8.ofNat (48 + d) :: l, (by have := HH.out; congr 1; omega), (by have := HHS.out; omega), HST, HF.out.1, HF.out.2⟩
          case measure =>
            obtain ⟨A', c', e, _⟩ := Sl.own HF.out.1
            rw [List.length_cons, HN.out] at e
            subst e
            have := HHS.out.1
            simp [RowKit.intOf]
            omega
      · have hn1 : ((n : Int) == 0) = false := by simp; omega
        go_wp2_with (at_builtin; refine wpList_append_sl rfl _ _ 27 rfl w.heap.size 5 i0 _ 1 1 Tryd.underlying27 HI.out HZ0.out HZ1.out HZ2.out rfl (by decide) _ 1 [.int .u8 (48 + (d : Int))] rfl HOW.out _ _ (bts l) rfl HSL.out HNIL.out H1.out (by unfold maxLen; omega) (by omega) (by simp; omega) ?_)
        intro v' w2 own2 gr2
        have hb2 : Below w.heap.size w w2 := (HBEL.out.alloc hs0 _).grown gr2 (by simp; omega) (fun x hx => by
          have e : wr.heap.size = x := by simpa [Value.ownBlock] using hx
          omega)
        have HF : Hid (w2.ownsRow w.heap.size 5 1 v' (UInt8.ofNat (48 + d) :: l).length (bts (UInt8.ofNat (48 + d) :: l)) ∧ Below w.heap.size w w2) := Lib.hid ⟨by
          have e : bts (UInt8.ofNat (48 + d) :: l) = [.int .u8 (48 + (d : Int))] ++ bts l := by simp only [bts, List.map_cons, hy]; rfl
          rw [e, List.length_cons, HN.out, Nat.add_comm]; exact own2, hb2⟩
        clear own2 gr2 hb2
        go_wp2_with fail
        go_roundw
        case rel => exact ⟨h, UInt8.ofNat (48 + d) :: l, (by have := HH.out; congr 1; omega), (by have := HHS.out; omega), HST, HF.out.1, HF.out.2⟩
        case measure =>
          obtain ⟨A', c', e, _⟩ := Sl.own HF.out.1
          rw [List.length_cons, HN.out] at e
          subst e
          have h1 := HHS.out
          have h2 : h < s := by
            rcases h1.2 with h2 | h2
            · exact h2
            · have := HN.out; rw [h2] at this; simp at this; omega
          simp [RowKit.intOf]
          omega
    · have hs0' : s = 0 := by omega
      have hln : l ≠ [] := fun e => hgo (.inr e)
      have hll : 1 ≤ l.length := by
        rcases l with _ | ⟨y, l⟩
        · exact absurd rfl hln
        · simp
      have hPl : P = l := by
        rcases HD.out with ⟨_, _, h⟩ | ⟨h, _⟩
        · rw [← HP.out]; exact h
        · exact absurd h hgo
      have hcv : (convert 27 9 (.slice A l.length c)).run Tryd.prog wr = .ok (.string (str P)) wr := by
        rw [hPl]
        obtain ⟨b, o, rfl, _, hcell⟩ := HA.out (by omega)
        exact conv_str (w := wr) b o c l (fun i hi => hcell i _ (bts_get l i hi))
      have HB := Lib.hid hbel
      have hn0 : ((l.length : Int) == 0) = false := by simp; omega
      generalize hS : str P = S at hcv
      have HS := Lib.hid hS
      clear hS
      generalize l.length = n at *
      subst hs0'
      clear hown hnil hbel hgo hln hPl
      go_wp2_with fail
      go_ret
      refine ⟨?_, HB.out⟩
      show Ending.returned (Value.string S) = _
      rw [← HS.out]

end Go.Proofs.YtobpggpjboonfaaDoor
