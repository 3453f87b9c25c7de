/-
  The digits of a small number: caissonref0.Decimal.
-/
import Derived.Test.YtfkdohnpfjdehaaPhys0
import Derived.Test.YtfkdohnpfjdehaaApn
import Derived.Test.YtfkdohnpfjdehaaPlain2
namespace Go.Proofs.Ytfkdohnpfjdehaa
open Go.RowKit
set_option linter.unusedVariables false
set_option linter.unusedSimpArgs false
set_option maxRecDepth 100000

theorem infoByte : (Try.prog.info? 5).map (fun i => (i.zero, i.size, i.bytes)) = some (some (.int .u8 0), 1, 1) := by kernel_rfl
theorem own_lit1 (w : World) (t : TypeId) (x : Value) (B : Nat) (hB : B ≤ w.heap.size) : (w.alloc (.cells #[x] t)).ownsRow B t 1 (.slice (some ⟨w.heap.size, 0, none⟩) 1 1) 1 [x] :=
  ⟨rfl, .inr ⟨w.heap.size, 1, #[x], rfl, hB, heap_alloc_new w _, Nat.le_refl _, by unfold maxLen; omega, rfl, rfl⟩⟩

set_option maxHeartbeats 1000000 in
theorem dec_any (x : Nat) (w : World) (hx : x < 100) :
    Calls Try.prog 25 #[.int .i64 x] w fun e w' => ∃ l : List UInt8, e = .returned (.string (str l)) ∧ 1 ≤ l.length ∧ l.length ≤ 2 ∧ Below w.heap.size w w' := by
  obtain ⟨i0, hi, hz0, hz1, hz2⟩ := info_parts infoByte
  have HI := Lib.hid hi; have HZ0 := Lib.hid hz0; have HZ1 := Lib.hid hz1; have HZ2 := Lib.hid hz2
  have hxu : IntKind.u64.wrap (x : Int) = (x : Int) := IntWalk.u64_in _ (by omega)
  have hx0 : decide ((x : Int) < 0) = false := by simp
  clear hi hz0 hz1 hz2
  go_enter Try.func25, Try.ntmps25
  go_wp2_with fail
  go_loopw [3, 4] (fun sz v wr => ∃ (s : Int) (l : List UInt8), sz = .int .u64 s ∧ 0 ≤ s ∧ ((l.length = 0 ∧ s < 100) ∨ (l.length = 1 ∧ s < 10) ∨ (l.length = 2 ∧ s < 1)) ∧ wr.ownsRow w.heap.size 5 1 v l.length (bts l) ∧ Below w.heap.size w wr) (fun sz v _ => (intOf sz).toNat + (match v with | .slice _ 0 _ => 1 | _ => 0))
  case atStart => exact ⟨x, [], rfl, by omega, .inl ⟨rfl, by omega⟩, World.ownsRow_nil _ _ _ _, Below.refl _ _⟩
  case round =>
    obtain ⟨s, l, rfl, hs1, hc, hown, hbel⟩ := hrel
    have hs0 := hbel.size
    obtain ⟨A, c, hv, hlc, _, hA⟩ := Sl.own hown
    subst hv
    have HA := Lib.hid hA
    clear hA
    have hnil : ∀ k c', (Value.slice A l.length c) = .slice none k c' → c' = 0 := fun k c' e => by
      rcases hown.2 with ⟨h1, _⟩ | ⟨g, cap, cur, h1, _⟩
      · rw [h1] at e; simp at e; exact e.2.symm
      · rw [h1] at e; simp at e
    by_cases hgo : 0 < s ∨ l.length = 0
    · obtain ⟨d, hd⟩ : ∃ d, s % 10 = d := ⟨_, rfl⟩
      obtain ⟨h, hh⟩ : ∃ h, s / 10 = h := ⟨_, rfl⟩
      have htd : IntKind.u64.wrap (s.tdiv 10) = h := by
        rw [Int.tdiv_eq_ediv_of_nonneg hs1, hh]; exact IntWalk.u64_in _ (by omega)
      have htm : s.tmod 10 = d := by rw [Int.tmod_eq_emod_of_nonneg hs1, hd]
      obtain ⟨y, hy⟩ : ∃ y : UInt8, (y.toNat : Int) = 48 + d := ⟨UInt8.ofNat (48 + d).toNat, by rw [UInt8.toNat_ofNat']; omega⟩
      have HSL := Lib.hid ((Sl.own hown).below ((Below.refl _ wr).alloc (Nat.le_refl _) (.cells #[.int .u8 (48 + d)] 5)))
      have HOW := Lib.hid (own_lit1 wr 5 (.int .u8 (48 + d)) w.heap.size hs0)
      have HNIL := Lib.hid hnil
      have H1 : Hid (∀ u ∈ bts l, u.oneCell' = true) := Lib.hid (fun u hu => by obtain ⟨z, _, rfl⟩ := List.mem_map.1 hu; rfl)
      have HBEL := Lib.hid hbel
      have hd9 : 0 ≤ d ∧ d ≤ 9 := by omega
      obtain ⟨hd0, hd9⟩ := hd9
      have HC : Hid (0 ≤ h ∧ ((l.length = 0 ∧ h < 10) ∨ (l.length = 1 ∧ h < 1)) ∧ h * 10 ≤ s) := Lib.hid (by omega)
      have hcase : (l.length = 0 ∧ s ≤ 0) ∨ (l.length = 0 ∧ 0 < s) ∨ (l.length = 1 ∧ 0 < s) := by omega
      clear hown hnil hbel hgo hc
      obtain ⟨n, hn⟩ : ∃ n, l.length = n := ⟨_, rfl⟩
      have HN := Lib.hid hn
      rw [hn] at hcase hlc HSL HNIL HC ⊢
      clear hn
      rcases hcase with ⟨rfl, hsx⟩ | ⟨rfl, hsx⟩ | ⟨rfl, hsx⟩
      all_goals
        go_wp2_with (at_builtin; refine wpList_append_sl rfl _ _ 60 rfl w.heap.size 5 i0 _ 1 1 Try.underlying60 HI.out HZ0.out HZ1.out HZ2.out rfl (by decide) _ 1 [.int .u8 (48 + d)] rfl HOW.out _ _ (bts l) rfl HSL.out HNIL.out H1.out (by unfold maxLen; omega) (by omega) (by simp; omega) ?_)
        intro v' w2 own2 gr2
        have hb2 : Below w.heap.size w w2 := (HBEL.out.alloc hs0 _).grown gr2 (by simp; omega) (fun x hx => by
          have e : wr.heap.size = x := by simpa [Value.ownBlock] using hx
          omega)
        have HF : Hid (w2.ownsRow w.heap.size 5 1 v' (y :: l).length (bts (y :: l)) ∧ Below w.heap.size w w2) := Lib.hid ⟨by
          have e : bts (y :: l) = [.int .u8 (48 + d)] ++ bts l := by simp [bts, hy]
          rw [e, List.length_cons, HN.out, Nat.add_comm]; exact own2, hb2⟩
        clear own2 gr2 hb2
        go_wp2_with fail
        go_roundw
        case rel => exact ⟨h, y :: l, rfl, HC.out.1, (by have := HC.out; rw [List.length_cons, HN.out]; omega), HF.out.1, HF.out.2⟩
        case measure =>
          obtain ⟨A', c', e, _⟩ := Sl.own HF.out.1
          rw [List.length_cons, HN.out] at e
          subst e
          have := HC.out
          simp [intOf]
          omega
    · have hs0' : s = 0 := by omega
      have hl : 1 ≤ l.length ∧ l.length ≤ 2 := by omega
      have hcv : (convert 60 9 (.slice A l.length c)).run Try.prog wr = .ok (.string (str l)) wr := by
        obtain ⟨b, o, rfl, _, hcell⟩ := HA.out (by omega)
        exact conv_str (w := wr) b o c l (fun i hi => hcell i _ (bts_get l i hi))
      have HB := Lib.hid hbel; have HLL := Lib.hid hl
      obtain ⟨n, hn⟩ : ∃ n, l.length = n := ⟨_, rfl⟩
      rw [hn] at hcv hl hlc ⊢
      have hn0 : ((n : Int) == 0) = false := by simp; omega
      subst hs0'
      clear hown hnil hbel hl hc hgo hn
      go_wp2_with fail
      go_ret
      exact ⟨l, rfl, HLL.out.1, HLL.out.2, HB.out⟩

end Go.Proofs.Ytfkdohnpfjdehaa
