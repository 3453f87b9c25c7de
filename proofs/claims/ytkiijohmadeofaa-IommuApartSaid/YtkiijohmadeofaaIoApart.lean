/-
  Layer 7's law of two devices that do not hang on one another: it answers true for every input.
-/
import Derived.Test.YtkiijohmadeofaaIoSet
import Derived.Test.YtkiijohmadeofaaIoClears
import Derived.Test.YtkiijohmadeofaaPlain2
import Derived.Deep.RegionHeld3
import Derived.Deep.CutBlock
import Derived.Deep.DeepCutAuto
namespace Go.Proofs.Ytkiijohmadeofaa
open Go.RowKit
set_option linter.unusedVariables false
set_option maxRecDepth 100000

/-! ### the first device's entries bear both rights, or none -/
def V3 (l : List UInt8) : Prop := ∀ p, p < 256 → view l 0 p = (501, 0, 0) ∨ ∃ f : Int, 0 ≤ f ∧ f < 64 ∧ view l 0 p = (0, f, 3)
section
variable {l l' : List UInt8}
theorem V3.same (h : V3 l) (hk : ∀ p, p < 256 → view l' 0 p = view l 0 p) : V3 l' := fun p hp => by rw [hk p hp]; exact h p hp
theorem V3.map0 (hv : V3 l) (h : Two7 l) (p : Nat) (hp : p < 256) (f : Int) (h0 : 0 ≤ f) (h1 : f < 16) : V3 (ioMapL ps2 l 0 p f 3) := by
  have hB := mapB_0 l h.len p hp f 3 h0 h1 (by omega) (by omega)
  rcases h.a.map ps2 0 ps2_0 p f 3 hB with ⟨_, e, _⟩ | ⟨_, _, _, v1, v2, _⟩
  · rw [e]; exact hv
  · intro q hq
    by_cases e : q = p
    · subst e; exact .inr ⟨f, h0, by omega, v1⟩
    · rw [v2 q hq e]; exact hv q hq
theorem V3.unmap0 (hv : V3 l) (h : Two7 l) (p : Nat) (hp : p < 256) : V3 (ioUnL ps2 l 0 p) := by
  have hB : thB ps2.length 0 p = true := by rw [ps2_th]; exact decide_eq_true (by omega)
  rcases h.a.unmap ps2 0 ps2_0 p hB with ⟨_, _, e⟩ | ⟨_, _, _, _, _, v1, v2, _⟩
  · rw [e]; exact hv
  · intro q hq
    by_cases e : q = p
    · subst e; exact .inl v1
    · rw [v2 q hq e]; exact hv q hq
theorem V3.clear0 (hv : V3 l) (h : Two7 l) : V3 (ioClL ps2 l 0) := fun p hp => .inl ((clear_two l h).2.2.1 p hp)
theorem V3.map1 (hv : V3 l) (h : Two7 l) (p : Nat) (f m : Int) : V3 (ioMapL ps2 l 1 p f m) := by
  obtain ⟨h2, h3⟩ := h.b.map_any ps2 1 ps2_1 p f m
  exact hv.same (h.out1 h3 h2).2.1
theorem V3.unmap1 (hv : V3 l) (h : Two7 l) (p : Nat) : V3 (ioUnL ps2 l 1 p) := by
  obtain ⟨h2, h3⟩ := h.b.unmap_any ps2 1 ps2_1 p
  exact hv.same (h.out1 h3 h2).2.1
theorem V3.clear1 (hv : V3 l) (h : Two7 l) : V3 (ioClL ps2 l 1) := by
  obtain ⟨h2, h3⟩ := h.b.clear_any ps2 1 ps2_1
  exact hv.same (h.out1 h3 h2).2.1
end

/-- Where a page looks the same, its run answers the same. -/
theorem tr_same (l l' : List UInt8) (R : Nat) (d : Int) (q : Nat) (write : Bool) (hr : ioRoot ps2 d = (R : Int)) (hv : view l' R q = view l R q) :
    ioTrC ps2 l' d ((q : Int) * 64) 64 write = ioTrC ps2 l d ((q : Int) * 64) 64 write ∧ ioTrP ps2 l' d ((q : Int) * 64) 64 write = ioTrP ps2 l d ((q : Int) * 64) 64 write := by
  have hs : spl ((q : Int) * 64).toNat (64 : Int).toNat = [(q, 0, 64)] := by
    rw [show ((q : Int) * 64).toNat = q * 64 + 0 by omega]
    exact spl_one q 0 64 (by omega) (by omega)
  have hC : ioTrC ps2 l' d ((q : Int) * 64) 64 write = ioTrC ps2 l d ((q : Int) * 64) 64 write := by
    unfold ioTrC
    rw [hs, hr]
    unfold runC
    rw [view_pgC l l' R write q hv]
    rfl
  refine ⟨hC, ?_⟩
  unfold ioTrP
  rw [hC, hs, hr]
  unfold view at hv
  simp only [Prod.mk.injEq] at hv
  simp only [List.map_cons, List.map_nil]
  rw [hv.2.1]

theorem ap_end {lx ly lz : List UInt8} (h : Apart7 lx ly lz) (hv : V3 lx) (p : Nat) (hp : p < 64) :
    (ioTrC ps2 ly 0 ((p : Int) * 64) 64 true = ioTrC ps2 lx 0 ((p : Int) * 64) 64 true ∧ ioTrP ps2 ly 0 ((p : Int) * 64) 64 true = ioTrP ps2 lx 0 ((p : Int) * 64) 64 true) ∧
    (ioTrC ps2 lz 1 ((p : Int) * 64) 64 true = ioTrC ps2 lx 1 ((p : Int) * 64) 64 true ∧ ioTrP ps2 lz 1 ((p : Int) * 64) 64 true = ioTrP ps2 lx 1 ((p : Int) * 64) 64 true) ∧
    (ioTrC ps2 lx 0 ((p : Int) * 64) 64 true = 0 ∨ ioTrC ps2 lx 0 ((p : Int) * 64) 64 true = 702) := by
  refine ⟨tr_same lx ly 0 0 p true rfl ((h.x.a.same h.sa).2.1 p (by omega)), tr_same lx lz 4 1 p true rfl ((h.x.b.same h.sb).2.1 p (by omega)), ?_⟩
  have e1 : ((p * 64 + 0 : Nat) : Int) = (p : Int) * 64 := by omega
  rcases hv p (by omega) with e | ⟨f, h0, h1, e⟩
  · have := (page_tr lx 0 0 p 0 64 true (by omega) (by omega) (by omega) (by decide) rfl (0, 0) e (.inl rfl)).1
    rw [e1] at this
    exact .inr this
  · have := (page_tr lx 0 0 p 0 64 true (by omega) (by omega) (by omega) (by decide) rfl (f, 3) e (.inr ⟨by simp, by simp, h0, h1⟩)).1
    rw [e1] at this
    exact .inl this

/-- Three Iommus. -/
structure A3 (w0 : World) (gx x tx gy y ty gz z tz : Nat) (lx ly lz : List UInt8) (w : World) : Prop where
  wx : Wd w0 gx x tx ps2 lx w
  wy : Wd w0 gy y ty ps2 ly w
  wz : Wd w0 gz z tz ps2 lz w
  g1 : gx ≠ gy
  g2 : gx ≠ gz
  g3 : gy ≠ gz
  t1 : tx ≠ ty
  t2 : tx ≠ tz
  t3 : ty ≠ tz
section
variable {w0 w w' : World} {gx x tx gy y ty gz z tz : Nat} {lx ly lz l' : List UInt8}
theorem A3.drewN (h : A3 w0 gx x tx gy y ty gz z tz lx ly lz w) (n : Nat) : A3 w0 gx x tx gy y ty gz z tz lx ly lz (w.drewN n) := ⟨h.wx.drewN n, h.wy.drewN n, h.wz.drewN n, h.g1, h.g2, h.g3, h.t1, h.t2, h.t3⟩
theorem A3.below (h : A3 w0 gx x tx gy y ty gz z tz lx ly lz w) (hb : Below w.heap.size w w') : A3 w0 gx x tx gy y ty gz z tz lx ly lz w' := ⟨h.wx.below hb, h.wy.below hb, h.wz.below hb, h.g1, h.g2, h.g3, h.t1, h.t2, h.t3⟩
theorem A3.alloc (h : A3 w0 gx x tx gy y ty gz z tz lx ly lz w) (o : Obj) : A3 w0 gx x tx gy y ty gz z tz lx ly lz (w.alloc o) := h.below ((Below.refl _ _).alloc (Nat.le_refl _) o)
theorem A3.callx (h : A3 w0 gx x tx gy y ty gz z tz lx ly lz w) (k : Wd w0 gx x tx ps2 l' w') (tn : Tn gx tx w w') : A3 w0 gx x tx gy y ty gz z tz l' ly lz w' :=
  ⟨k, h.wy.other h.wx tn (fun e => h.g1 e.symm) (fun e => h.t1 e.symm), h.wz.other h.wx tn (fun e => h.g2 e.symm) (fun e => h.t2 e.symm), h.g1, h.g2, h.g3, h.t1, h.t2, h.t3⟩
theorem A3.cally (h : A3 w0 gx x tx gy y ty gz z tz lx ly lz w) (k : Wd w0 gy y ty ps2 l' w') (tn : Tn gy ty w w') : A3 w0 gx x tx gy y ty gz z tz lx l' lz w' :=
  ⟨h.wx.other h.wy tn h.g1 h.t1, k, h.wz.other h.wy tn (fun e => h.g3 e.symm) (fun e => h.t3 e.symm), h.g1, h.g2, h.g3, h.t1, h.t2, h.t3⟩
theorem A3.callz (h : A3 w0 gx x tx gy y ty gz z tz lx ly lz w) (k : Wd w0 gz z tz ps2 l' w') (tn : Tn gz tz w w') : A3 w0 gx x tx gy y ty gz z tz lx ly l' w' :=
  ⟨h.wx.other h.wz tn h.g2 h.t2, h.wy.other h.wz tn h.g3 h.t3, k, h.g1, h.g2, h.g3, h.t1, h.t2, h.t3⟩
end

/-- The entry that both are given. -/
def Eb (kb : Nat) (f : Int) (w : World) : Prop := Blk w kb 46 (ints [f, 3])
theorem Eb.all {kb : Nat} {f : Int} {w : World} (h : Eb kb f w) : w.cell? ⟨kb, 0, none⟩ = some (.int .i64 f) ∧ w.cell? ⟨kb, 1, none⟩ = some (.int .i64 3) ∧ Eb kb f w := ⟨(Blk.cell h 0).trans rfl, (Blk.cell h 1).trans rfl, h⟩
theorem Eb.drew {kb : Nat} {f : Int} {w : World} (h : Eb kb f w) : Eb kb f w.drew := Blk.drewN h 1
theorem Eb.kp {kb : Nat} {f : Int} {w w' : World} (h : Eb kb f w) (k : Kp w w') : Eb kb f w' := k.blk h (by decide) (by decide)

set_option maxHeartbeats 8000000 in
theorem law_IommuApart (v : Value) (n : Nat) (zs : List Int) (w : World) (hv : Sl w v n 1 (ints zs)) (hn : n ≤ maxLen) (hl : zs.length = n) :
    Calls Try.prog 8 #[v] w fun e w' => e = .returned (.bool true) ∧ Below w.heap.size w w' := by
  obtain ⟨A, cap, rfl, hcap, hzl, hA⟩ := hv
  unfold maxLen at hn
  have HA := Lib.hid hA; have HL := Lib.hid hl
  clear hA hl
  go_enter Try.func8, Try.ntmps8
  go_wp2_with fail
  refine (aw7_any _).mono ?_
  rintro e w1 ⟨rfl, b1⟩
  go_wp2_with fail
  refine (set7_any w w1 b1).mono ?_
  rintro e w2 ⟨gx, x, tx, rfl, hx, _, _, _⟩
  clear b1
  have hgx := hx.pm.lt
  have htx : tx < w2.heap.size := by obtain ⟨L, hp, _⟩ := hx.cw; exact hp.lt
  go_wp2_with fail
  refine (set7_any w w2 hx.b).mono ?_
  rintro e w3 ⟨gy, y, ty, rfl, hy, b3, hgy, hty⟩
  replace hx := hx.below b3
  have hs3 := b3.size
  have hgy3 := hy.pm.lt
  have hty3 : ty < w3.heap.size := by obtain ⟨L, hp, _⟩ := hy.cw; exact hp.lt
  go_wp2_with fail
  refine (set7_any w w3 hy.b).mono ?_
  rintro e w4 ⟨gz, z, tz, rfl, hz, b4, hgz, htz⟩
  have hA3 : A3 w gx x tx gy y ty gz z tz l7 l7 l7 w4 := ⟨hx.below b4, hy.below b4, hz, by omega, by omega, by omega, by omega, by omega, by omega⟩
  have HP : Hid (Apart7 l7 l7 l7 ∧ V3 l7) := Lib.hid ⟨⟨two7_l7.1, two7_l7.1, two7_l7.1, ⟨rfl, fun _ _ _ _ => rfl⟩, ⟨rfl, fun _ _ _ _ => rfl⟩⟩, fun p hp => .inl (two7_l7.2.1 p hp)⟩
  clear hx hy hz b3 b4 hgx htx hgy hty hs3 hgy3 hty3 hgz htz
  go_upto_block 0 with fail
  go_cut [9] (fun s9 wx => ∃ lx ly lz, A3 w gx x tx gy y ty gz z tz lx ly lz wx ∧ Hid (Apart7 lx ly lz ∧ V3 lx))
  case first =>
    go_wp2_with fail
    go_loopw [9] (fun i wq => ∃ (k : Nat) (lx ly lz : List UInt8), k ≤ n ∧ i = .int .i64 k ∧ A3 w gx x tx gy y ty gz z tz lx ly lz wq ∧ Hid (Apart7 lx ly lz ∧ V3 lx)) (fun i _ => n - (intOf i).toNat)
    case atStart => exact ⟨0, _, _, _, by omega, rfl, hA3, HP⟩
    case round =>
      clear hA3 HP
      obtain ⟨k, lx, ly, lz, hk, rfl, hA3, HP⟩ := hrel
      by_cases hgo : k < n ∧ k < 40
      · obtain ⟨hkn, hk40⟩ := hgo
        have hd : decide ((k : Int) < 40) = true := by simp; omega
        have hkn' : (k : Int) < n := by omega
        obtain ⟨b, o, rfl, hb, hcell⟩ := HA.out (by omega)
        have hc := hcell k _ (ints_get zs k (by rw [HL.out]; exact hkn))
        generalize zs.getD k 0 = M at hc
        have HC := Lib.hid hc
        have hcw := (hA3.wx.b.cell (p := ⟨b, o + k, none⟩) hb).trans hc
        have hD := band M 1 (by omega) (by omega)
        have hP := band (M / 2) 63 (by omega) (by omega)
        have hC := band (M / 1024) 3 (by omega) (by omega)
        have hF := band (M / 1024) 7 (by omega) (by omega)
        generalize hD' : bits BinOp.and IntKind.i64 M 1 = D at hD
        generalize hP' : bits BinOp.and IntKind.i64 (M / 2) 63 = P at hP
        generalize hK' : bits BinOp.and IntKind.i64 (M / 128) 7 = K
        generalize hC' : bits BinOp.and IntKind.i64 (M / 1024) 3 = C at hC
        generalize hF' : bits BinOp.and IntKind.i64 (M / 1024) 7 = F at hF
        obtain ⟨P, rfl⟩ := Int.eq_ofNat_of_zero_le hP.1
        have hP64 : P < 64 := by omega
        clear hcell hc
        have hDD : D = 0 ∨ D = 1 := by omega
        rcases hDD with rfl | rfl
        · by_cases hK0 : K = 0
          · subst hK0
            have hap := HP.out.1.unmap0 P
            have HAP := Lib.hid hap.1
            have HP2 := Lib.hid (And.intro hap.2 (HP.out.2.unmap0 HP.out.1.x P (by omega)))
            clear hap HP
            obtain ⟨c, hcc⟩ : ∃ c, ioUnC ps2 lx 0 P = c := ⟨_, rfl⟩
            have HCC := Lib.hid hcc; clear hcc
            have e1 : (c == c) = true := by simp
            have e2 : (c != c) = false := by simp
            go_wp2_with fail
            go_quiet (fail)
            replace hA3 := hA3.drewN nq
            replace hcw : (wr.drewN nq).cell? ⟨b, o + k, none⟩ = some (.int .i64 M) := hcw
            generalize wr.drewN nq = wq at *
            have hpl := hA3.alloc (.cells #[.pointer (some ⟨y, 0, none⟩), .pointer (some ⟨z, 0, none⟩)] 37)
            have hcw2 := (((Below.refl wq.heap.size wq).alloc (Nat.le_refl _) (.cells #[.pointer (some ⟨y, 0, none⟩), .pointer (some ⟨z, 0, none⟩)] 37)).cell (p := ⟨b, o + k, none⟩) (Nat.lt_of_lt_of_le hb hA3.wx.size)).trans hcw
            go_wp2_with fail
            clear hcw2 hcw
            refine (unmap_w 0 (P : Int) c hpl.wx HCC.out rfl).mono ?_
            rintro e w5 ⟨rfl, hx5, tn5⟩
            have hA5 := hpl.callx hx5 tn5
            clear hx5 tn5 hpl hA3
            go_wp2_with fail
            refine (unmap_w 0 (P : Int) c hA5.wy (HAP.out.trans HCC.out) rfl).mono ?_
            rintro e w6 ⟨rfl, hy6, tn6⟩
            have hA6 := hA5.cally hy6 tn6
            clear hy6 tn6 hA5
            go_wp2_with (go_at_call 11; refine (num_any _ _).mono ?_; rintro e w' ⟨rfl, rfl⟩)
            go_roundw
            case rel => exact ⟨k + 1, _, _, _, by omega, by go_num, hA6, HP2⟩
            case measure => simp [intOf]; omega

          · have k0 : (K == 0) = false := by simpa using hK0
            by_cases hK1 : K = 1
            · subst hK1
              by_cases hC0 : C = 0
              · subst hC0
                have HP2 := Lib.hid (And.intro HP.out.1.clear0 (HP.out.2.clear0 HP.out.1.x))
                clear HP
                go_wp2_with fail
                go_quiet (fail)
                replace hA3 := hA3.drewN nq
                replace hcw : (wr.drewN nq).cell? ⟨b, o + k, none⟩ = some (.int .i64 M) := hcw
                generalize wr.drewN nq = wq at *
                have hpl := hA3.alloc (.cells #[.pointer (some ⟨y, 0, none⟩), .pointer (some ⟨z, 0, none⟩)] 37)
                have hcw2 := (((Below.refl wq.heap.size wq).alloc (Nat.le_refl _) (.cells #[.pointer (some ⟨y, 0, none⟩), .pointer (some ⟨z, 0, none⟩)] 37)).cell (p := ⟨b, o + k, none⟩) (Nat.lt_of_lt_of_le hb hA3.wx.size)).trans hcw
                go_wp2_with fail
                clear hcw2 hcw
                refine (clear_w 0 0 hpl.wx (by decide) rfl).mono ?_
                rintro e w5 ⟨rfl, hx5, tn5⟩
                have hA5 := hpl.callx hx5 tn5
                clear hx5 tn5 hpl hA3
                go_wp2_with fail
                refine (clear_w 0 0 hA5.wy (by decide) rfl).mono ?_
                rintro e w6 ⟨rfl, hy6, tn6⟩
                have hA6 := hA5.cally hy6 tn6
                clear hy6 tn6 hA5
                go_wp2_with (go_at_call 11; refine (num_any _ _).mono ?_; rintro e w' ⟨rfl, rfl⟩)
                go_roundw
                case rel => exact ⟨k + 1, _, _, _, by omega, by go_num, hA6, HP2⟩
                case measure => simp [intOf]; omega

              · have c0 : (C == 0) = false := by simpa using hC0
                go_wp2_with fail
                go_quiet (fail)
                replace hA3 := hA3.drewN nq
                replace hcw : (wr.drewN nq).cell? ⟨b, o + k, none⟩ = some (.int .i64 M) := hcw
                generalize wr.drewN nq = wq at *
                have hpl := hA3.alloc (.cells #[.pointer (some ⟨y, 0, none⟩), .pointer (some ⟨z, 0, none⟩)] 37)
                have hcw2 := (((Below.refl wq.heap.size wq).alloc (Nat.le_refl _) (.cells #[.pointer (some ⟨y, 0, none⟩), .pointer (some ⟨z, 0, none⟩)] 37)).cell (p := ⟨b, o + k, none⟩) (Nat.lt_of_lt_of_le hb hA3.wx.size)).trans hcw
                have HP2 := HP
                have hA6 := hpl
                go_wp2_with fail
                go_roundw
                case rel => exact ⟨k + 1, _, _, _, by omega, by go_num, hA6, HP2⟩
                case measure => simp [intOf]; omega

            · have k1 : (K == 1) = false := by simpa using hK1
              have hap := HP.out.1.map0 P (7 + F) 3
              have HAP := Lib.hid hap.1
              have HP2 := Lib.hid (And.intro hap.2 (HP.out.2.map0 HP.out.1.x P (by omega) (7 + F) (by omega) (by omega)))
              clear hap HP
              obtain ⟨c, hcc⟩ : ∃ c, ioMapC ps2 lx 0 P (7 + F) 3 = c := ⟨_, rfl⟩
              have HCC := Lib.hid hcc; clear hcc
              have e1 : (c == c) = true := by simp
              have e2 : (c != c) = false := by simp
              go_wp2_with fail
              go_quiet (fail)
              replace hA3 := hA3.drewN nq
              replace hcw : (wr.drewN nq).cell? ⟨b, o + k, none⟩ = some (.int .i64 M) := hcw
              generalize wr.drewN nq = wq at *
              have hpl := hA3.alloc (.cells #[.pointer (some ⟨y, 0, none⟩), .pointer (some ⟨z, 0, none⟩)] 37)
              have hcw2 := (((Below.refl wq.heap.size wq).alloc (Nat.le_refl _) (.cells #[.pointer (some ⟨y, 0, none⟩), .pointer (some ⟨z, 0, none⟩)] 37)).cell (p := ⟨b, o + k, none⟩) (Nat.lt_of_lt_of_le hb hA3.wx.size)).trans hcw
              go_wp2_with fail
              have hbk := Blk.new (wq.alloc (.cells #[.pointer (some ⟨y, 0, none⟩), .pointer (some ⟨z, 0, none⟩)] 37)) 46 (ints [7 + F, 3])
              have hA4 := hpl.alloc (.cells #[.int .i64 (7 + F), .int .i64 3] 46)
              change Blk ((wq.alloc (.cells #[.pointer (some ⟨y, 0, none⟩), .pointer (some ⟨z, 0, none⟩)] 37)).alloc (.cells #[.int .i64 (7 + F), .int .i64 3] 46)) _ _ _ at hbk
              have hsz : (wq.alloc (.cells #[.pointer (some ⟨y, 0, none⟩), .pointer (some ⟨z, 0, none⟩)] 37)).heap.size = wq.heap.size + 1 := by simp
              rw [hsz] at hbk
              clear hcw2 hcw hpl hA3 hsz
              generalize (wq.alloc (.cells #[.pointer (some ⟨y, 0, none⟩), .pointer (some ⟨z, 0, none⟩)] 37)).alloc (.cells #[.int .i64 (7 + F), .int .i64 3] 46) = w4 at *
              generalize wq.heap.size + 1 = kb at *
              have hEb : Eb kb (7 + F) w4 := hbk
              have hAd := hA4.drewN 1
              change A3 w gx x tx gy y ty gz z tz lx ly lz w4.drew at hAd
              clear hA4 hbk
              obtain ⟨q0, q1, hEb⟩ := hEb.all
              go_region_held3 (fun w' => w'.cell? ⟨kb, 0, none⟩ = some (.int .i64 (7 + F)) ∧ w'.cell? ⟨kb, 1, none⟩ = some (.int .i64 3) ∧ Eb kb (7 + F) w')
                ((go_split_ands; refine Eb.all ?_; (first | assumption | (exact Eb.drew (by assumption)) | (exact Eb.kp (by assumption) (by assumption)))))
                (first
                  | (go_at_call 23; (with_reducible refine (map_w 0 (P : Int) (7 + F) 3 c hAd.wx HCC.out rfl).mono ?_); rintro e w5 ⟨rfl, hx5, tn5⟩; have hA5 := hAd.callx hx5 tn5; have kA := hAd.wx.kp tn5)
                  | (go_at_call 23; (with_reducible refine (map_w 0 (P : Int) (7 + F) 3 c hA5.wy (HAP.out.trans HCC.out) rfl).mono ?_); rintro e w6 ⟨rfl, hy6, tn6⟩; have hA6 := hA5.cally hy6 tn6; have kB := hA5.wy.kp tn6))
              clear hAd
              go_wp2_with (go_at_call 11; refine (num_any _ _).mono ?_; rintro e w' ⟨rfl, rfl⟩)
              go_roundw
              case rel => exact ⟨k + 1, _, _, _, by omega, by go_num, hA6, HP2⟩
              case measure => simp [intOf]; omega
        · by_cases hK0 : K = 0
          · subst hK0
            have hap := HP.out.1.unmap1 P
            have HAP := Lib.hid hap.1
            have HP2 := Lib.hid (And.intro hap.2 (HP.out.2.unmap1 HP.out.1.x P))
            clear hap HP
            obtain ⟨c, hcc⟩ : ∃ c, ioUnC ps2 lx 1 P = c := ⟨_, rfl⟩
            have HCC := Lib.hid hcc; clear hcc
            have e1 : (c == c) = true := by simp
            have e2 : (c != c) = false := by simp
            go_wp2_with fail
            go_quiet (fail)
            replace hA3 := hA3.drewN nq
            replace hcw : (wr.drewN nq).cell? ⟨b, o + k, none⟩ = some (.int .i64 M) := hcw
            generalize wr.drewN nq = wq at *
            have hpl := hA3.alloc (.cells #[.pointer (some ⟨y, 0, none⟩), .pointer (some ⟨z, 0, none⟩)] 37)
            have hcw2 := (((Below.refl wq.heap.size wq).alloc (Nat.le_refl _) (.cells #[.pointer (some ⟨y, 0, none⟩), .pointer (some ⟨z, 0, none⟩)] 37)).cell (p := ⟨b, o + k, none⟩) (Nat.lt_of_lt_of_le hb hA3.wx.size)).trans hcw
            go_wp2_with fail
            clear hcw2 hcw
            refine (unmap_w 1 (P : Int) c hpl.wx HCC.out rfl).mono ?_
            rintro e w5 ⟨rfl, hx5, tn5⟩
            have hA5 := hpl.callx hx5 tn5
            clear hx5 tn5 hpl hA3
            go_wp2_with fail
            refine (unmap_w 1 (P : Int) c hA5.wz (HAP.out.trans HCC.out) rfl).mono ?_
            rintro e w6 ⟨rfl, hy6, tn6⟩
            have hA6 := hA5.callz hy6 tn6
            clear hy6 tn6 hA5
            go_wp2_with (go_at_call 11; refine (num_any _ _).mono ?_; rintro e w' ⟨rfl, rfl⟩)
            go_roundw
            case rel => exact ⟨k + 1, _, _, _, by omega, by go_num, hA6, HP2⟩
            case measure => simp [intOf]; omega

          · have k0 : (K == 0) = false := by simpa using hK0
            by_cases hK1 : K = 1
            · subst hK1
              by_cases hC0 : C = 0
              · subst hC0
                have HP2 := Lib.hid (And.intro HP.out.1.clear1 (HP.out.2.clear1 HP.out.1.x))
                clear HP
                go_wp2_with fail
                go_quiet (fail)
                replace hA3 := hA3.drewN nq
                replace hcw : (wr.drewN nq).cell? ⟨b, o + k, none⟩ = some (.int .i64 M) := hcw
                generalize wr.drewN nq = wq at *
                have hpl := hA3.alloc (.cells #[.pointer (some ⟨y, 0, none⟩), .pointer (some ⟨z, 0, none⟩)] 37)
                have hcw2 := (((Below.refl wq.heap.size wq).alloc (Nat.le_refl _) (.cells #[.pointer (some ⟨y, 0, none⟩), .pointer (some ⟨z, 0, none⟩)] 37)).cell (p := ⟨b, o + k, none⟩) (Nat.lt_of_lt_of_le hb hA3.wx.size)).trans hcw
                go_wp2_with fail
                clear hcw2 hcw
                refine (clear_w 1 0 hpl.wx (by decide) rfl).mono ?_
                rintro e w5 ⟨rfl, hx5, tn5⟩
                have hA5 := hpl.callx hx5 tn5
                clear hx5 tn5 hpl hA3
                go_wp2_with fail
                refine (clear_w 1 0 hA5.wz (by decide) rfl).mono ?_
                rintro e w6 ⟨rfl, hy6, tn6⟩
                have hA6 := hA5.callz hy6 tn6
                clear hy6 tn6 hA5
                go_wp2_with (go_at_call 11; refine (num_any _ _).mono ?_; rintro e w' ⟨rfl, rfl⟩)
                go_roundw
                case rel => exact ⟨k + 1, _, _, _, by omega, by go_num, hA6, HP2⟩
                case measure => simp [intOf]; omega

              · have c0 : (C == 0) = false := by simpa using hC0
                go_wp2_with fail
                go_quiet (fail)
                replace hA3 := hA3.drewN nq
                replace hcw : (wr.drewN nq).cell? ⟨b, o + k, none⟩ = some (.int .i64 M) := hcw
                generalize wr.drewN nq = wq at *
                have hpl := hA3.alloc (.cells #[.pointer (some ⟨y, 0, none⟩), .pointer (some ⟨z, 0, none⟩)] 37)
                have hcw2 := (((Below.refl wq.heap.size wq).alloc (Nat.le_refl _) (.cells #[.pointer (some ⟨y, 0, none⟩), .pointer (some ⟨z, 0, none⟩)] 37)).cell (p := ⟨b, o + k, none⟩) (Nat.lt_of_lt_of_le hb hA3.wx.size)).trans hcw
                have HP2 := HP
                have hA6 := hpl
                go_wp2_with fail
                go_roundw
                case rel => exact ⟨k + 1, _, _, _, by omega, by go_num, hA6, HP2⟩
                case measure => simp [intOf]; omega

            · have k1 : (K == 1) = false := by simpa using hK1
              have hap := HP.out.1.map1 P (7 + F) 3
              have HAP := Lib.hid hap.1
              have HP2 := Lib.hid (And.intro hap.2 (HP.out.2.map1 HP.out.1.x P (7 + F) 3))
              clear hap HP
              obtain ⟨c, hcc⟩ : ∃ c, ioMapC ps2 lx 1 P (7 + F) 3 = c := ⟨_, rfl⟩
              have HCC := Lib.hid hcc; clear hcc
              have e1 : (c == c) = true := by simp
              have e2 : (c != c) = false := by simp
              go_wp2_with fail
              go_quiet (fail)
              replace hA3 := hA3.drewN nq
              replace hcw : (wr.drewN nq).cell? ⟨b, o + k, none⟩ = some (.int .i64 M) := hcw
              generalize wr.drewN nq = wq at *
              have hpl := hA3.alloc (.cells #[.pointer (some ⟨y, 0, none⟩), .pointer (some ⟨z, 0, none⟩)] 37)
              have hcw2 := (((Below.refl wq.heap.size wq).alloc (Nat.le_refl _) (.cells #[.pointer (some ⟨y, 0, none⟩), .pointer (some ⟨z, 0, none⟩)] 37)).cell (p := ⟨b, o + k, none⟩) (Nat.lt_of_lt_of_le hb hA3.wx.size)).trans hcw
              go_wp2_with fail
              have hbk := Blk.new (wq.alloc (.cells #[.pointer (some ⟨y, 0, none⟩), .pointer (some ⟨z, 0, none⟩)] 37)) 46 (ints [7 + F, 3])
              have hA4 := hpl.alloc (.cells #[.int .i64 (7 + F), .int .i64 3] 46)
              change Blk ((wq.alloc (.cells #[.pointer (some ⟨y, 0, none⟩), .pointer (some ⟨z, 0, none⟩)] 37)).alloc (.cells #[.int .i64 (7 + F), .int .i64 3] 46)) _ _ _ at hbk
              have hsz : (wq.alloc (.cells #[.pointer (some ⟨y, 0, none⟩), .pointer (some ⟨z, 0, none⟩)] 37)).heap.size = wq.heap.size + 1 := by simp
              rw [hsz] at hbk
              clear hcw2 hcw hpl hA3 hsz
              generalize (wq.alloc (.cells #[.pointer (some ⟨y, 0, none⟩), .pointer (some ⟨z, 0, none⟩)] 37)).alloc (.cells #[.int .i64 (7 + F), .int .i64 3] 46) = w4 at *
              generalize wq.heap.size + 1 = kb at *
              have hEb : Eb kb (7 + F) w4 := hbk
              have hAd := hA4.drewN 1
              change A3 w gx x tx gy y ty gz z tz lx ly lz w4.drew at hAd
              clear hA4 hbk
              obtain ⟨q0, q1, hEb⟩ := hEb.all
              go_region_held3 (fun w' => w'.cell? ⟨kb, 0, none⟩ = some (.int .i64 (7 + F)) ∧ w'.cell? ⟨kb, 1, none⟩ = some (.int .i64 3) ∧ Eb kb (7 + F) w')
                ((go_split_ands; refine Eb.all ?_; (first | assumption | (exact Eb.drew (by assumption)) | (exact Eb.kp (by assumption) (by assumption)))))
                (first
                  | (go_at_call 23; (with_reducible refine (map_w 1 (P : Int) (7 + F) 3 c hAd.wx HCC.out rfl).mono ?_); rintro e w5 ⟨rfl, hx5, tn5⟩; have hA5 := hAd.callx hx5 tn5; have kA := hAd.wx.kp tn5)
                  | (go_at_call 23; (with_reducible refine (map_w 1 (P : Int) (7 + F) 3 c hA5.wz (HAP.out.trans HCC.out) rfl).mono ?_); rintro e w6 ⟨rfl, hy6, tn6⟩; have hA6 := hA5.callz hy6 tn6; have kB := hA5.wz.kp tn6))
              clear hAd
              go_wp2_with (go_at_call 11; refine (num_any _ _).mono ?_; rintro e w' ⟨rfl, rfl⟩)
              go_roundw
              case rel => exact ⟨k + 1, _, _, _, by omega, by go_num, hA6, HP2⟩
              case measure => simp [intOf]; omega
      · have hx : (k : Int) ≥ n ∨ ((k : Int) < n ∧ decide ((k : Int) < 40) = false) := by
          by_cases h1 : k < n
          · exact .inr ⟨by omega, by simp; omega⟩
          · exact .inl (by omega)
        clear hgo
        rcases hx with hx | ⟨hx, hx2⟩
        all_goals
          go_wp2_with fail
          go_meet
          exact ⟨lx, ly, lz, hA3, HP⟩
  case rest =>
    clear hA3 HP
    obtain ⟨lx, ly, lz, hA3, HP⟩ := hcut
    have HE := Lib.hid (fun p hp => ap_end HP.out.1 HP.out.2 p hp)
    clear HP
    go_wp2_with fail
    go_loopw [22] (fun i wq => ∃ (p : Nat), p ≤ 64 ∧ i = .int .i64 p ∧ A3 w gx x tx gy y ty gz z tz lx ly lz wq) (fun i _ => 64 - (intOf i).toNat)
    case atStart => exact ⟨0, by omega, rfl, hA3⟩
    case round =>
      clear hA3
      obtain ⟨p, hp, rfl, hA3⟩ := hrel
      by_cases hlt : p < 64
      · have hlt' : (p : Int) < 64 := by omega
        obtain ⟨⟨c1, P1⟩, ⟨c2, P2⟩, c3⟩ := HE.out p hlt
        obtain ⟨ca, hca⟩ : ∃ ca, ioTrC ps2 lx 0 ((p : Int) * 64) 64 true = ca := ⟨_, rfl⟩
        obtain ⟨cb, hcb⟩ : ∃ cb, ioTrC ps2 lx 1 ((p : Int) * 64) 64 true = cb := ⟨_, rfl⟩
        obtain ⟨PA, hPA⟩ : ∃ PA, ioTrP ps2 lx 0 ((p : Int) * 64) 64 true = PA := ⟨_, rfl⟩
        obtain ⟨PB, hPB⟩ : ∃ PB, ioTrP ps2 lx 1 ((p : Int) * 64) 64 true = PB := ⟨_, rfl⟩
        rw [hca] at c1 c3
        rw [hcb] at c2
        rw [hPA] at P1
        rw [hPB] at P2
        have C1 := Lib.hid c1; have C2 := Lib.hid c2; have Q1 := Lib.hid P1; have Q2 := Lib.hid P2; have C3 := Lib.hid c3
        have HCA := Lib.hid hca; have HCB := Lib.hid hcb; have HPA := Lib.hid hPA; have HPB := Lib.hid hPB
        clear c1 c2 P1 P2 c3 hca hcb hPA hPB
        go_wp2_with fail
        refine (tr_w 0 ((p : Int) * 64) 64 ca true PA hA3.wx HCA.out HPA.out).mono ?_
        rintro e w5 ⟨A5, cap5, rfl, oa, hx5, tn5⟩
        have hA5 := hA3.callx hx5 tn5
        clear hx5 tn5 hA3
        go_wp2_with fail
        refine (tr_w 0 ((p : Int) * 64) 64 ca true PA hA5.wy C1.out Q1.out).mono ?_
        rintro e w6 ⟨A6, cap6, rfl, ob, hx6, tn6⟩
        replace oa := (hA5.wy.kp tn6).own oa (by decide) (by decide)
        have hA6 := hA5.cally hx6 tn6
        clear hx6 tn6 hA5
        go_wp2_with fail
        refine (tr_w 1 ((p : Int) * 64) 64 cb true PB hA6.wx HCB.out HPB.out).mono ?_
        rintro e w7 ⟨A7, cap7, rfl, oc, hx7, tn7⟩
        replace oa := (hA6.wx.kp tn7).own oa (by decide) (by decide)
        replace ob := (hA6.wx.kp tn7).own ob (by decide) (by decide)
        have hA7 := hA6.callx hx7 tn7
        clear hx7 tn7 hA6
        go_wp2_with fail
        refine (tr_w 1 ((p : Int) * 64) 64 cb true PB hA7.wz C2.out Q2.out).mono ?_
        rintro e w8 ⟨A8, cap8, rfl, od, hx8, tn8⟩
        replace oa := (hA7.wz.kp tn8).own oa (by decide) (by decide)
        replace ob := (hA7.wz.kp tn8).own ob (by decide) (by decide)
        replace oc := (hA7.wz.kp tn8).own oc (by decide) (by decide)
        have hA8 := hA7.callz hx8 tn8
        clear hx8 tn8 hA7
        have hpa : PA.length ≤ 65536 := by
          have e := HPA.out
          unfold ioTrP at e
          rw [← e]
          split
          · rw [List.length_map]
            have := spl_len (64 : Int).toNat ((p : Int) * 64).toNat
            simp at this ⊢
            omega
          · simp
        have hpb : PB.length ≤ 65536 := by
          have e := HPB.out
          unfold ioTrP at e
          rw [← e]
          split
          · rw [List.length_map]
            have := spl_len (64 : Int).toNat ((p : Int) * 64).toNat
            simp at this ⊢
            omega
          · simp
        have sa := Sl.own oa; have sb := Sl.own ob; have sc := Sl.own oc; have sd := Sl.own od
        have eb1 : (cb == cb) = true := by simp
        have eb2 : (cb != cb) = false := by simp
        clear oa ob oc od
        have hC3 := C3.out
        clear C1 C2 Q1 Q2 C3 HCA HCB HPA HPB
        rcases hC3 with rfl | rfl
        all_goals
          go_wp2_with fail
          refine (same_yes _ _ PA _ sa sb hpa).mono ?_
          rintro e w9 ⟨rfl, q9, rfl⟩
          replace sc := sc.drewN q9
          replace sd := sd.drewN q9
          replace hA8 := hA8.drewN q9
          clear sa sb
          generalize w8.drewN q9 = w9 at *
          go_wp2_with (go_at_call 11; refine (num_any _ _).mono ?_; rintro e w' ⟨rfl, rfl⟩)
          refine (same_yes _ _ PB _ sc sd hpb).mono ?_
          rintro e w10 ⟨rfl, q10, rfl⟩
          replace hA8 := hA8.drewN q10
          clear sc sd
          generalize w9.drewN q10 = w10 at *
          go_wp2_with (go_at_call 11; refine (num_any _ _).mono ?_; rintro e w' ⟨rfl, rfl⟩)
          go_roundw
          case rel => exact ⟨p + 1, by omega, by go_num, hA8⟩
          case measure => simp [intOf]; omega
      · have hge : ¬ ((p : Int) < 64) := by omega
        have hb := hA3.wx.b
        clear hA3
        go_wp2_with fail
        go_ret
        exact ⟨rfl, hb⟩

end Go.Proofs.Ytkiijohmadeofaa
