/-
  Contracts of container/heap over the row: up, down.
-/
import Derived.Test.YtjmdgjpepogogaaPn1
import Derived.Test.YtjmdgjpepogogaaMeth
namespace Go.Proofs.Ytjmdgjpepogogaa
open Go.RowKit
set_option linter.unusedVariables false
set_option maxRecDepth 100000

/-- The set at block x: its map mv, its row v, which reads as the places l. -/
structure HR (w : World) (x : Nat) (mv v : Value) (B : Nat) (l : List Nat) : Prop where
  blk : Blk w x 98 [mv, v]
  row : RW w B v l

section
variable {w w' : World} {x B : Nat} {mv v : Value} {l l' : List Nat}
theorem HR.drewN (h : HR w x mv v B l) (n : Nat) : HR (w.drewN n) x mv v B l := ⟨h.blk.drewN n, h.row.drewN n⟩
theorem HR.at1 (h : HR w x mv v B l) : w.cell? ⟨x, 1, none⟩ = some v := by rw [h.blk.cell]; rfl
theorem HR.at0 (h : HR w x mv v B l) : w.cell? ⟨x, 0, none⟩ = some mv := by rw [h.blk.cell]; rfl
theorem HR.ne (h : HR w x mv v B l) : some x ≠ v.ownBlock := fun e => own_apart_blk h.row h.blk (by decide) e.symm
theorem HR.turn (h : HR w x mv v B l) (hr : RW w' B v l') (hg : w.grownBy w' v.ownBlock) : HR w' x mv v B l' := ⟨h.blk.grown hg h.ne, hr⟩
end

/-- In up's and down's loops: what the row has become. -/
structure UpR (w : World) (x : Nat) (mv v : Value) (B : Nat) (l : List Nat) (n : Nat) (l' : List Nat) (wr : World) : Prop where
  hr : HR wr x mv v B l'
  same : same l l' n
  grown : w.grownBy wr v.ownBlock

theorem UpR.drewN {w wr : World} {x B n : Nat} {mv v : Value} {l l' : List Nat} (h : UpR w x mv v B l n l' wr) (q : Nat) : UpR w x mv v B l n l' (wr.drewN q) := ⟨h.hr.drewN q, h.same, gdrewN h.grown q⟩
theorem UpR.swap {w wr w' : World} {x B n i j : Nat} {mv v : Value} {l l' : List Nat} (h : UpR w x mv v B l n l' wr) (hn : n ≤ l.length) (hi : i < n) (hj : j < n) (hr : RW w' B v (swp l' i j)) (hg : wr.grownBy w' v.ownBlock) : UpR w x mv v B l n (swp l' i j) w' :=
  ⟨h.hr.turn hr hg, same_swp h.same hn hi hj, gtrans h.grown hg⟩

/-- What up and down leave. -/
def Heaped (w : World) (x : Nat) (mv v : Value) (B : Nat) (l : List Nat) (n i0 : Nat) (w' : World) : Prop := ∃ l', UpR w x mv v B l n l' w' ∧ hp l' n i0

theorem hup_any (x B : Nat) (mv v : Value) (l : List Nat) (n j : Nat) (w : World) (h : HR w x mv v B l) (hn : l.length = n) (hm : n ≤ 1000) (hj : j < n) (hU : hpU l n j) :
    Calls Try.prog 75 #[.iface 124 (.pointer (some ⟨x, 1, none⟩)), .int .i64 j] w fun e w' => e = .returned (.tuple #[]) ∧ Heaped w x mv v B l n 0 w' := by
  have H0 : Hid (UpR w x mv v B l n l w ∧ hpU l n j) := Lib.hid ⟨⟨h, same_refl l n, grefl w _⟩, hU⟩
  have HN := Lib.hid hn
  clear h hU hn
  go_enter Try.func75, Try.ntmps75
  go_wp2_with fail
  go_loopw [1] (fun a wr => ∃ (k : Nat) (l' : List Nat), k < n ∧ a = .int .i64 k ∧ Hid (UpR w x mv v B l n l' wr ∧ hpU l' n k)) (fun a _ => (intOf a).toNat)
  case atStart => exact ⟨j, l, hj, rfl, H0⟩
  case round =>
    clear H0 hj
    obtain ⟨k, l', hk, rfl, HU⟩ := hrel
    by_cases h0 : k = 0
    · subst h0
      go_wp2_with fail
      refine bodyPost_end (results_none rfl _ _ _) rfl ?_
      exact ⟨rfl, l', HU.out.1, hpU_done l' n 0 HU.out.2 (.inl rfl)⟩
    · have hk0 : 0 < k := by omega
      have hk1 : (k : Int) ≤ 1000 := by omega
      clear h0
      obtain ⟨I, hI⟩ : ∃ I, (k - 1) / 2 = I := ⟨_, rfl⟩
      have hIk : I < k := by omega
      have eI : ((k : Int) - 1) / 2 = (I : Int) := by omega
      have HI := Lib.hid hI
      clear hI
      have hlen : l'.length = n := HU.out.1.same.1.trans HN.out
      have cL := rless_row HU.out.1.hr.row k I (by omega) (by omega)
      have hM := meth_less HU.out.1.hr.at1
      have HL := Lib.hid hlen
      clear hlen
      by_cases hl : gd l' k < gd l' I
      · rw [decide_eq_true hl] at cL
        have Hl := Lib.hid hl
        clear hl
        go_wp2_with fail
        refine cL.mono ?_
        rintro e w1 ⟨rfl, q, rfl⟩
        clear cL hM
        have u1 := UpR.drewN HU.out.1 q
        have hM := meth_swap u1.hr.at1
        have cS := rswap_row u1.hr.row I k (by have := HL.out; omega) (by have := HL.out; omega)
        have Hu1 := Lib.hid u1
        clear u1
        generalize wr.drewN q = wd at *
        go_wp2_with fail
        refine cS.mono ?_
        rintro e w2 ⟨rfl, hr2, hg2⟩
        have Hr2 := Lib.hid hr2
        have Hg2 := Lib.hid hg2
        clear hr2 hg2 cS hM
        go_wp2_with fail
        go_roundw
        case rel => exact ⟨I, _, by omega, rfl, Lib.hid ⟨Hu1.out.swap (by rw [HN.out]; exact Nat.le_refl _) (by omega) (by omega) Hr2.out Hg2.out, by have := HI.out; subst this; exact hpU_step l' n k (by rw [HL.out]; exact Nat.le_refl _) hk hk0 HU.out.2 Hl.out⟩⟩
        case measure => simp [intOf]; omega
      · rw [decide_eq_false hl] at cL
        have Hl := Lib.hid hl
        clear hl
        go_wp2_with fail
        refine cL.mono ?_
        rintro e w1 ⟨rfl, q, rfl⟩
        go_wp2_with fail
        refine bodyPost_end (results_none rfl _ _ _) rfl ?_
        exact ⟨rfl, l', UpR.drewN HU.out.1 q, hpU_done l' n k HU.out.2 (.inr (by have := HI.out; have := Hl.out; subst I; omega))⟩

theorem child_cases (k c m : Nat) (h : (c - 1) / 2 = k) (h0 : 0 < c) (hc : c < m) : c = 2 * k + 1 ∨ c = 2 * k + 2 := by omega

set_option maxHeartbeats 1000000 in
theorem hdown_any (x B : Nat) (mv v : Value) (l : List Nat) (m i0 : Nat) (w : World) (h : HR w x mv v B l) (hn : m ≤ l.length) (hm : l.length ≤ 1000) (hi : i0 ≤ 1000) (hD : hpD l m i0 i0) :
    Calls Try.prog 74 #[.iface 124 (.pointer (some ⟨x, 1, none⟩)), .int .i64 i0, .int .i64 m] w fun e w' => (∃ b, e = .returned (.bool b)) ∧ Heaped w x mv v B l m i0 w' := by
  have H0 : Hid (UpR w x mv v B l m l w ∧ hpD l m i0 i0) := Lib.hid ⟨⟨h, same_refl l m, grefl w _⟩, hD⟩
  have hm' : m ≤ 1000 := by omega
  have HN := Lib.hid hn
  clear h hD hn hm
  go_enter Try.func74, Try.ntmps74
  go_wp2_with fail
  go_loopw [7] (fun a wr => ∃ (k : Nat) (l' : List Nat), k ≤ 1000 + i0 ∧ i0 ≤ k ∧ a = .int .i64 k ∧ Hid (UpR w x mv v B l m l' wr ∧ hpD l' m k i0)) (fun a _ => 1000 + m + i0 - (intOf a).toNat)
  case atStart => exact ⟨i0, l, by omega, by omega, rfl, H0⟩
  case round =>
    clear H0
    obtain ⟨k, l', hk1, hk2, rfl, HU⟩ := hrel
    obtain ⟨j1, e1, e1'⟩ : ∃ j1 : Nat, 2 * (k : Int) + 1 = (j1 : Int) ∧ j1 = 2 * k + 1 := ⟨2 * k + 1, by omega, rfl⟩
    obtain ⟨j2, e2, e2'⟩ : ∃ j2 : Nat, (j1 : Int) + 1 = (j2 : Int) ∧ j2 = j1 + 1 := ⟨j1 + 1, by omega, rfl⟩
    have hb : j1 ≤ 4001 := by omega
    have hkj : k < j1 ∧ k < j2 ∧ j1 < j2 ∧ (j1 - 1) / 2 = k ∧ (j2 - 1) / 2 = k ∧ ∀ c, (c - 1) / 2 = k → 0 < c → c = j1 ∨ c = j2 := ⟨by omega, by omega, by omega, by omega, by omega, fun c h1 h2 => by omega⟩
    have HK := Lib.hid hkj
    clear hkj e1' e2'
    have HLen := Lib.hid HU.out.1.same.1
    by_cases h1 : m ≤ j1
    · have h1' : (m : Int) ≤ (j1 : Int) := by omega
      go_wp2_with fail
      go_ret
      exact ⟨⟨_, rfl⟩, l', HU.out.1, hpD_done l' m k i0 HU.out.2 (fun c hc0 hc hck => by rcases HK.out.2.2.2.2.2 c hck hc0 with rfl | rfl <;> (have := HK.out; omega))⟩
    ·
      have h1' : (j1 : Int) < (m : Int) := by omega
      have h1n : j1 < m := by omega
      by_cases h2 : j2 < m
      · have cL := rless_row HU.out.1.hr.row j2 j1 (by have := HLen.out; have := HN.out; omega) (by have := HLen.out; have := HN.out; omega)
        have hM := meth_less HU.out.1.hr.at1
        by_cases hl : gd l' j2 < gd l' j1
        · rw [decide_eq_true hl] at cL
          have HJ : Hid (j2 < m ∧ 0 < j2 ∧ (j2 - 1) / 2 = k ∧ k < j2 ∧ ∀ c, (c - 1) / 2 = k → 0 < c → c < m → gd l' j2 ≤ gd l' c) := Lib.hid ⟨h2, by have := HK.out; omega, HK.out.2.2.2.2.1, HK.out.2.1, fun c h3 h4 h5 => by rcases HK.out.2.2.2.2.2 c h3 h4 with rfl | rfl <;> omega⟩
          clear hl
          go_wp2_with fail
          refine cL.mono ?_
          rintro e w1 ⟨rfl, q, rfl⟩
          clear cL hM
          have Hu := Lib.hid (UpR.drewN HU.out.1 q)
          generalize wr.drewN q = wd at *
          have cL2 := rless_row Hu.out.hr.row j2 k (by have := HJ.out; have := HLen.out; have := HN.out; omega) (by have := HJ.out; have := HLen.out; have := HN.out; omega)
          have hM2 := meth_less Hu.out.hr.at1
          by_cases hlk : gd l' j2 < gd l' k
          · rw [decide_eq_true hlk] at cL2
            have Hlk := Lib.hid hlk
            clear hlk
            go_wp2_with fail
            refine cL2.mono ?_
            rintro e w1 ⟨rfl, q, rfl⟩
            clear cL2 hM2
            have u1 := UpR.drewN Hu.out q
            have hM := meth_swap u1.hr.at1
            have cS := rswap_row u1.hr.row k j2 (by have := HJ.out; have := HLen.out; have := HN.out; omega) (by have := HJ.out; have := HLen.out; have := HN.out; omega)
            have Hu1 := Lib.hid u1
            clear u1
            generalize wd.drewN q = we at *
            go_wp2_with fail
            refine cS.mono ?_
            rintro e w2 ⟨rfl, hr2, hg2⟩
            have Hr2 := Lib.hid hr2
            have Hg2 := Lib.hid hg2
            clear hr2 hg2 cS hM
            go_wp2_with fail
            go_roundw
            case rel => exact ⟨j2, _, by have := HJ.out; omega, by have := HJ.out; omega, rfl, Lib.hid ⟨Hu1.out.swap HN.out (by have := HJ.out; omega) (by have := HJ.out; omega) Hr2.out Hg2.out, hpD_step l' m k i0 j2 (by rw [HLen.out]; exact HN.out) hk2 HJ.out.1 HJ.out.2.2.1 HJ.out.2.1 HU.out.2 Hlk.out (fun c hc0 hc hck => HJ.out.2.2.2.2 c hck hc0 hc)⟩⟩
            case measure => simp [intOf]; have := HJ.out; omega
          · rw [decide_eq_false hlk] at cL2
            have Hlk := Lib.hid hlk
            clear hlk
            go_wp2_with fail
            refine cL2.mono ?_
            rintro e w1 ⟨rfl, q, rfl⟩
            go_wp2_with fail
            go_ret
            exact ⟨⟨_, rfl⟩, l', UpR.drewN Hu.out q, hpD_done l' m k i0 HU.out.2 (fun c hc0 hc hck => by have h5 := HJ.out.2.2.2.2 c hck hc0 hc; have := Hlk.out; omega)⟩
        · rw [decide_eq_false hl] at cL
          have HJ : Hid (j1 < m ∧ 0 < j1 ∧ (j1 - 1) / 2 = k ∧ k < j1 ∧ ∀ c, (c - 1) / 2 = k → 0 < c → c < m → gd l' j1 ≤ gd l' c) := Lib.hid ⟨h1n, by have := HK.out; omega, HK.out.2.2.2.1, HK.out.1, fun c h3 h4 h5 => by rcases HK.out.2.2.2.2.2 c h3 h4 with rfl | rfl <;> omega⟩
          clear hl
          go_wp2_with fail
          refine cL.mono ?_
          rintro e w1 ⟨rfl, q, rfl⟩
          clear cL hM
          have Hu := Lib.hid (UpR.drewN HU.out.1 q)
          generalize wr.drewN q = wd at *
          have cL2 := rless_row Hu.out.hr.row j1 k (by have := HJ.out; have := HLen.out; have := HN.out; omega) (by have := HJ.out; have := HLen.out; have := HN.out; omega)
          have hM2 := meth_less Hu.out.hr.at1
          by_cases hlk : gd l' j1 < gd l' k
          · rw [decide_eq_true hlk] at cL2
            have Hlk := Lib.hid hlk
            clear hlk
            go_wp2_with fail
            refine cL2.mono ?_
            rintro e w1 ⟨rfl, q, rfl⟩
            clear cL2 hM2
            have u1 := UpR.drewN Hu.out q
            have hM := meth_swap u1.hr.at1
            have cS := rswap_row u1.hr.row k j1 (by have := HJ.out; have := HLen.out; have := HN.out; omega) (by have := HJ.out; have := HLen.out; have := HN.out; omega)
            have Hu1 := Lib.hid u1
            clear u1
            generalize wd.drewN q = we at *
            go_wp2_with fail
            refine cS.mono ?_
            rintro e w2 ⟨rfl, hr2, hg2⟩
            have Hr2 := Lib.hid hr2
            have Hg2 := Lib.hid hg2
            clear hr2 hg2 cS hM
            go_wp2_with fail
            go_roundw
            case rel => exact ⟨j1, _, by have := HJ.out; omega, by have := HJ.out; omega, rfl, Lib.hid ⟨Hu1.out.swap HN.out (by have := HJ.out; omega) (by have := HJ.out; omega) Hr2.out Hg2.out, hpD_step l' m k i0 j1 (by rw [HLen.out]; exact HN.out) hk2 HJ.out.1 HJ.out.2.2.1 HJ.out.2.1 HU.out.2 Hlk.out (fun c hc0 hc hck => HJ.out.2.2.2.2 c hck hc0 hc)⟩⟩
            case measure => simp [intOf]; have := HJ.out; omega
          · rw [decide_eq_false hlk] at cL2
            have Hlk := Lib.hid hlk
            clear hlk
            go_wp2_with fail
            refine cL2.mono ?_
            rintro e w1 ⟨rfl, q, rfl⟩
            go_wp2_with fail
            go_ret
            exact ⟨⟨_, rfl⟩, l', UpR.drewN Hu.out q, hpD_done l' m k i0 HU.out.2 (fun c hc0 hc hck => by have h5 := HJ.out.2.2.2.2 c hck hc0 hc; have := Hlk.out; omega)⟩
      · have h2' : (m : Int) ≤ (j2 : Int) := by omega
        have HJ : Hid (j1 < m ∧ 0 < j1 ∧ (j1 - 1) / 2 = k ∧ k < j1 ∧ ∀ c, (c - 1) / 2 = k → 0 < c → c < m → gd l' j1 ≤ gd l' c) := Lib.hid ⟨h1n, by have := HK.out; omega, HK.out.2.2.2.1, HK.out.1, fun c h3 h4 h5 => by rcases HK.out.2.2.2.2.2 c h3 h4 with rfl | rfl <;> omega⟩
        clear h2
        have Hu := Lib.hid HU.out.1
        generalize wr = wd at *
        have cL2 := rless_row Hu.out.hr.row j1 k (by have := HJ.out; have := HLen.out; have := HN.out; omega) (by have := HJ.out; have := HLen.out; have := HN.out; omega)
        have hM2 := meth_less Hu.out.hr.at1
        by_cases hlk : gd l' j1 < gd l' k
        · rw [decide_eq_true hlk] at cL2
          have Hlk := Lib.hid hlk
          clear hlk
          go_wp2_with fail
          refine cL2.mono ?_
          rintro e w1 ⟨rfl, q, rfl⟩
          clear cL2 hM2
          have u1 := UpR.drewN Hu.out q
          have hM := meth_swap u1.hr.at1
          have cS := rswap_row u1.hr.row k j1 (by have := HJ.out; have := HLen.out; have := HN.out; omega) (by have := HJ.out; have := HLen.out; have := HN.out; omega)
          have Hu1 := Lib.hid u1
          clear u1
          generalize wd.drewN q = we at *
          go_wp2_with fail
          refine cS.mono ?_
          rintro e w2 ⟨rfl, hr2, hg2⟩
          have Hr2 := Lib.hid hr2
          have Hg2 := Lib.hid hg2
          clear hr2 hg2 cS hM
          go_wp2_with fail
          go_roundw
          case rel => exact ⟨j1, _, by have := HJ.out; omega, by have := HJ.out; omega, rfl, Lib.hid ⟨Hu1.out.swap HN.out (by have := HJ.out; omega) (by have := HJ.out; omega) Hr2.out Hg2.out, hpD_step l' m k i0 j1 (by rw [HLen.out]; exact HN.out) hk2 HJ.out.1 HJ.out.2.2.1 HJ.out.2.1 HU.out.2 Hlk.out (fun c hc0 hc hck => HJ.out.2.2.2.2 c hck hc0 hc)⟩⟩
          case measure => simp [intOf]; have := HJ.out; omega
        · rw [decide_eq_false hlk] at cL2
          have Hlk := Lib.hid hlk
          clear hlk
          go_wp2_with fail
          refine cL2.mono ?_
          rintro e w1 ⟨rfl, q, rfl⟩
          go_wp2_with fail
          go_ret
          exact ⟨⟨_, rfl⟩, l', UpR.drewN Hu.out q, hpD_done l' m k i0 HU.out.2 (fun c hc0 hc hck => by have h5 := HJ.out.2.2.2.2 c hck hc0 hc; have := Hlk.out; omega)⟩

end Go.Proofs.Ytjmdgjpepogogaa
