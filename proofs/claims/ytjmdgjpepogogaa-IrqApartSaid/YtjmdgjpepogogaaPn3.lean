/-
  Contracts of the row's Push and Pop, and of container/heap's Push, Pop, Init over the row.
-/
import Derived.Test.YtjmdgjpepogogaaPn2
import Derived.Test.YtjmdgjpepogogaaFo
import Derived.Deep.RegionLaw
import Derived.Deep.DrawnRows
import Derived.Deep.AppendLies
namespace Go.Proofs.Ytjmdgjpepogogaa
open Go.RowKit
set_option linter.unusedVariables false
set_option maxRecDepth 100000

theorem infoPl : (Try.prog.info? 111).map (fun i => (i.zero, i.size, i.bytes)) = some (some (.agg #[.int .i64 0, .int .i64 0]), 2, 16) := by kernel_rfl

theorem form_of {w : World} {B : Nat} {v : Value} {l : List Nat} (h : RW w B v l) : ∃ A cap, v = .slice A l.length cap ∧ l.length ≤ cap := by
  obtain ⟨A, cap, h1, h2, _⟩ := Sl.own h
  exact ⟨A, cap, h1, h2⟩

theorem HR.app {w w2 : World} {x B : Nat} {mv v : Value} {l : List Nat} {o : Obj} (h : HR w x mv v B l) (gr : (w.alloc o).drew.grownBy w2 v.ownBlock) : Blk w2 x 98 [mv, v] :=
  (show Blk (w.alloc o).drew x _ _ from (h.blk.alloc o).drewN 1).grown gr h.ne

theorem tassert_run (v : Value) (W : World) : (Instr.typeAssert (.iface 111 v) 20 111 false).run Try.prog W = .ok v W := by
  simp [Instr.typeAssert, go_sem]

/-- The set's row field written: another row, which lies apart. -/
theorem HR.store {w : World} {x B : Nat} {mv v u : Value} {l' : List Nat} (hb : Blk w x 98 [mv, v]) (hr : RW w B u l') : HR (w.setCell ⟨x, 1, none⟩ u) x mv u B l' :=
  ⟨by have := hb.set 1 u; simpa using this, hr.kept (row := some x) (gone u) (.inr (own_apart_blk hr hb (by decide)))⟩

/-- What a call on the set's row leaves: the row as l'. -/
structure Rs (S : Nat → Prop) (w : World) (x : Nat) (mv : Value) (l' : List Nat) (v' : Value) (w' : World) : Prop where
  hr : HR w' x mv v' 0 l'
  row : ∀ g, v'.ownBlock = some g → S g ∨ w.heap.size ≤ g
  fo : Fo S w w'

set_option maxHeartbeats 2000000 in
theorem rpush_any (S : Nat → Prop) (x k : Nat) (mv v : Value) (l : List Nat) (w : World) (h : HR w x mv v 0 l) (hl : l.length ≤ 1000) (hx : S x) (hs : ∀ g, v.ownBlock = some g → S g) :
    Calls Try.prog 98 #[.pointer (some ⟨x, 1, none⟩), .iface 111 (.agg #[.int .i64 ((k / 8 : Nat) : Int), .int .i64 ((k % 8 : Nat) : Int)])] w fun e w' => e = .returned (.tuple #[]) ∧ ∃ v', Rs S w x mv (l ++ [k]) v' w' := by
  obtain ⟨A, cap, rfl, hcap⟩ := form_of h.row
  obtain ⟨n, hn⟩ : ∃ n, n = l.length := ⟨_, rfl⟩
  have hc1 := h.at1
  have hf1 := h.blk.frozen 1
  have hxl := h.blk.lt
  rw [← hn] at hc1 hcap hl
  have HN := Lib.hid hn; clear hn
  have H := Lib.hid h
  have HS := Lib.hid hs
  have HX := Lib.hid hx
  clear h hs hx
  obtain ⟨i0, hi, hz0, hz1, hz2⟩ := info_parts infoPl
  have HI := Lib.hid hi; have HZ0 := Lib.hid hz0; have HZ1 := Lib.hid hz1; have HZ2 := Lib.hid hz2; clear hi hz0 hz1 hz2
  have HP : Hid (pl2 k = [.int .i64 ((k / 8 : Nat) : Int), .int .i64 ((k % 8 : Nat) : Int)]) := Lib.hid rfl
  have hta := tassert_run (.agg #[.int .i64 ((k / 8 : Nat) : Int), .int .i64 ((k % 8 : Nat) : Int)])
  generalize ((k / 8 : Nat) : Int) = kd at *
  generalize ((k % 8 : Nat) : Int) = kv at *
  go_enter Try.func98, Try.ntmps98
  go_wp2_with fail
  go_region_law ((refine step_append_lies _ (by rfl) _ _ 96 (by rfl) 0 111 i0 _ 2 16 Try.underlying96 HI.out HZ0.out HZ1.out HZ2.out (by rfl) (by decide) (.slice A l.length cap) l.length (pls l) (by rw [← HN.out]; rfl) (own_drewN (H.out.row.alloc _) 1) ⟨w.heap.size, 0, none⟩ 1 1 [.int .i64 kd, .int .i64 kv] (by rfl) (by rfl) (by exact row_new w [.int .i64 kd, .int .i64 kv] _) (by intro u hu; simp at hu; rcases hu with rfl | rfl <;> rfl) (by omega) (by unfold maxLen; have := HN.out; omega) (by have := HN.out; omega) (by simp) (w.heap.size + 1) (by simp) ?_; intro g cap2 w2 own2 gr2 hat hlt; have hb2 := HR.app H.out gr2; have hc2 := hb2.cell 1; have hf2 := hb2.frozen 1; simp only [List.getElem?_cons_zero, List.getElem?_cons_succ] at hc2))
  all_goals
    obtain rfl := HN.out
    have own3 : RW w2 0 (.slice (some ⟨g, 0, none⟩) (l.length + 1) cap2) (l ++ [k]) := by
      unfold RW; rw [show (l ++ [k]).length = l.length + 1 by simp, pls_append, pls_one, HP.out]; exact own2
    have hr3 := HR.store hb2 own3
    have fo2 : Fo S w w2 := (((Fo.refl S w).alloc _).drewN 1).grown gr2 (fun i hi => .inl (HS.out i hi))
    have fo3 := fo2.set (p := ⟨x, 1, none⟩) (.inl HX.out) (.slice (some ⟨g, 0, none⟩) (l.length + 1) cap2)
    have hrow : ∀ i, (Value.slice (some ⟨g, 0, none⟩) (l.length + 1) cap2).ownBlock = some i → S i ∨ w.heap.size ≤ i := by
      intro i hi
      have e : g = i := by simpa [Value.ownBlock] using hi
      subst e
      rcases hat with h | h
      · exact .inl (HS.out _ h)
      · exact .inr (by omega)
    have HE : Hid (Rs S w x mv (l ++ [k]) _ _) := Lib.hid ⟨hr3, hrow, fo3⟩
    clear hr3 fo2 fo3 hrow own3 own2 gr2 hat hlt hb2 hc2 hf2
    go_wp2_with fail
    refine bodyPost_end (results_none rfl _ _ _) rfl ?_
    exact ⟨rfl, _, HE.out⟩
/-- A row cut by its last place. -/
theorem RW.cut {w : World} {B g cap : Nat} {l : List Nat} {k : Nat} (h : RW w B (.slice (some ⟨g, 0, none⟩) (l ++ [k]).length cap) (l ++ [k])) : RW w B (.slice (some ⟨g, 0, none⟩) l.length cap) l := by
  obtain ⟨hl, ⟨e, _⟩ | ⟨g', cap', cur, e, hb, hg, hnc, hcm, hsz, ht⟩⟩ := h
  · cases e
  · simp only [Value.slice.injEq, Option.some.injEq, Addr.mk.injEq] at e
    obtain ⟨⟨rfl, _⟩, _, rfl⟩ := e
    refine ⟨by rw [pls_len], .inr ⟨g, cap, cur, rfl, hb, hg, by simp at hnc; omega, hcm, hsz, ?_⟩⟩
    have h2 : ((cur.toList.take ((l ++ [k]).length * 2)).take (l.length * 2)) = pls l := by
      rw [ht, pls_append, ← pls_len l, List.take_left]
    rw [← h2, List.take_take]
    congr 1
    simp

set_option maxHeartbeats 1000000 in
theorem rpop_any (S : Nat → Prop) (x k : Nat) (mv v : Value) (l : List Nat) (w : World) (h : HR w x mv v 0 (l ++ [k])) (hl : l.length ≤ 1000) (hx : S x) (hs : ∀ g, v.ownBlock = some g → S g) :
    Calls Try.prog 97 #[.pointer (some ⟨x, 1, none⟩)] w fun e w' => e = .returned (.iface 111 (.agg #[.int .i64 ((k / 8 : Nat) : Int), .int .i64 ((k % 8 : Nat) : Int)])) ∧ ∃ v', Rs S w x mv l v' w' := by
  have hlen : (l ++ [k]).length = l.length + 1 := by simp
  obtain ⟨g, cap, rfl, _, hgl, hc, _, hfz, hcell⟩ := h.row.slice (by omega)
  obtain ⟨hk1, hk2⟩ := hcell l.length (by omega)
  have hgd : gd (l ++ [k]) l.length = k := by simp [gd]
  rw [hgd] at hk1 hk2
  have hc1 := h.at1
  have hf1 := h.blk.frozen 1
  have hxl := h.blk.lt
  have Hxg : Hid (some x ≠ (Value.slice (some ⟨g, 0, none⟩) (l ++ [k]).length cap).ownBlock) := Lib.hid h.ne
  have hxg : x ≠ g := fun e => h.ne (by subst e; rfl)
  have hcut := RW.cut h.row
  have H := Lib.hid h
  have HS := Lib.hid hs
  have HX := Lib.hid hx
  have HC := Lib.hid hcut
  clear h hs hx hcut hfz hcell hgd
  rw [hlen] at hc1 hc
  generalize ((k / 8 : Nat) : Int) = kd at *
  generalize ((k % 8 : Nat) : Int) = kv at *
  obtain ⟨n, hn⟩ : ∃ n, n = l.length := ⟨_, rfl⟩
  rw [← hn] at hc1 hc hl hk1 hk2
  have HN := Lib.hid hn; have HL := Lib.hid hlen; clear hn hlen
  go_enter Try.func97, Try.ntmps97
  go_wp2_with fail
  go_ret
  obtain rfl := HN.out
  have hr2 := HR.store H.out.blk HC.out
  exact ⟨rfl, _, ⟨⟨hr2.blk.alloc _, hr2.row.alloc _⟩, fun i hi => .inl (HS.out i hi), ((Fo.refl S w).set (p := ⟨x, 1, none⟩) (.inl HX.out) _).alloc _⟩⟩

theorem Rs.up {S : Nat → Prop} {w w1 w' : World} {x n : Nat} {mv v : Value} {l l' : List Nat} (h : Rs S w x mv l v w1) (u : UpR w1 x mv v 0 l n l' w') : Rs S w x mv l' v w' := ⟨u.hr, h.row, h.fo.grown u.grown h.row⟩
theorem UpR.trans {w w1 w2 : World} {x B n : Nat} {mv v : Value} {l l1 l2 : List Nat} (h : UpR w x mv v B l n l1 w1) (k : UpR w1 x mv v B l1 n l2 w2) : UpR w x mv v B l n l2 w2 :=
  ⟨k.hr, ⟨k.same.1.trans h.same.1, k.same.2.1.trans h.same.2.1, fun i hi => (k.same.2.2 i hi).trans (h.same.2.2 i hi)⟩, gtrans h.grown k.grown⟩
theorem UpR.rs {S : Nat → Prop} {w w' : World} {x n : Nat} {mv v : Value} {l l' : List Nat} (u : UpR w x mv v 0 l n l' w') (hs : ∀ g, v.ownBlock = some g → S g) : Rs S w x mv l' v w' := ⟨u.hr, fun i hi => .inl (hs i hi), (Fo.refl S w).grown u.grown (fun i hi => .inl (hs i hi))⟩

/-- What Push of container/heap leaves. -/
def Pushed (S : Nat → Prop) (w : World) (x : Nat) (mv : Value) (k : Nat) (l : List Nat) (w' : World) : Prop := ∃ l' v', Rs S w x mv l' v' w' ∧ l'.Perm (k :: l) ∧ hp l' l'.length 0

set_option maxHeartbeats 1000000 in
theorem hpush_any (S : Nat → Prop) (x k : Nat) (mv v : Value) (l : List Nat) (w : World) (h : HR w x mv v 0 l) (hl : l.length ≤ 999) (hh : hp l l.length 0) (hx : S x) (hs : ∀ g, v.ownBlock = some g → S g) :
    Calls Try.prog 70 #[.iface 124 (.pointer (some ⟨x, 1, none⟩)), .iface 111 (.agg #[.int .i64 ((k / 8 : Nat) : Int), .int .i64 ((k % 8 : Nat) : Int)])] w fun e w' => e = .returned (.tuple #[]) ∧ Pushed S w x mv k l w' := by
  have cP := rpush_any S x k mv v l w h (by omega) hx hs
  have hM := meth_push ⟨x, 1, none⟩ w
  obtain ⟨n, hn⟩ : ∃ n, n = l.length := ⟨_, rfl⟩
  rw [← hn] at hl
  have HN := Lib.hid hn
  have HU := Lib.hid (hpU_push l k hh)
  clear h hh hx hs hn
  go_enter Try.func70, Try.ntmps70
  go_wp2_with fail
  refine cP.mono ?_
  rintro e w1 ⟨rfl, v1, r1⟩
  clear cP hM
  have hM := meth_len r1.hr.at1
  obtain ⟨A, cap, rfl, hcap⟩ := form_of r1.hr.row
  rw [show (l ++ [k]).length = n + 1 by have := HN.out; simp; omega] at *
  have R1 := Lib.hid r1
  clear r1
  go_wp2_with fail
  refine (rlen_any A (n + 1) cap w1).mono ?_
  rintro e w2 ⟨rfl, rfl⟩
  clear hM
  go_wp2_with fail
  have HL : Hid ((l ++ [k]).length = n + 1) := Lib.hid (by have := HN.out; simp; omega)
  refine (hup_any x 0 _ _ (l ++ [k]) (n + 1) n w1 R1.out.hr HL.out (by omega) (by omega) (by have := HN.out; subst this; exact HU.out)).mono ?_
  rintro e w3 ⟨rfl, l', u, hp'⟩
  have U := Lib.hid u
  have HPP := Lib.hid hp'
  clear u hp'
  go_wp2_with fail
  refine bodyPost_end (results_none rfl _ _ _) rfl ?_
  exact ⟨rfl, l', _, R1.out.up U.out, U.out.same.2.1.trans (List.perm_append_singleton _ _), by rw [U.out.same.1, HL.out]; exact HPP.out⟩

/-- What Pop of container/heap leaves. -/
def Popped (S : Nat → Prop) (w : World) (x : Nat) (mv : Value) (l : List Nat) (w' : World) : Prop := ∃ l' v', Rs S w x mv l' v' w' ∧ (gd l 0 :: l').Perm l ∧ hp l' l'.length 0 ∧ ∀ b ∈ l', gd l 0 ≤ b

set_option maxHeartbeats 1000000 in
theorem hpop_any (S : Nat → Prop) (x : Nat) (mv v : Value) (l : List Nat) (n : Nat) (w : World) (h : HR w x mv v 0 l) (hn : l.length = n + 1) (hl : n ≤ 999) (hh : hp l l.length 0) (hx : S x) (hs : ∀ g, v.ownBlock = some g → S g) :
    Calls Try.prog 69 #[.iface 124 (.pointer (some ⟨x, 1, none⟩))] w fun e w' => e = .returned (.iface 111 (.agg #[.int .i64 ((gd l 0 / 8 : Nat) : Int), .int .i64 ((gd l 0 % 8 : Nat) : Int)])) ∧ Popped S w x mv l w' := by
  have u0 : UpR w x mv v 0 l (n + 1) l w := ⟨h, same_refl l _, grefl w _⟩
  have cS := rswap_row h.row 0 n (by omega) (by omega)
  have hM := meth_len h.at1
  have hM2 := meth_swap h.at1
  obtain ⟨A, cap, hv, hcap⟩ := form_of h.row
  rw [hn] at hv hcap hh
  have cL := rlen_any A (n + 1) cap w
  rw [← hv] at cL
  have HV := Lib.hid hv
  have HN := Lib.hid hn
  have HH := Lib.hid hh
  have HS := Lib.hid hs
  have HX := Lib.hid hx
  have U0 := Lib.hid u0
  clear h hh hx hs hn hv u0
  go_enter Try.func69, Try.ntmps69
  go_wp2_with fail
  refine cL.mono ?_
  rintro e w1 ⟨rfl, rfl⟩
  clear cL hM
  go_wp2_with fail
  refine cS.mono ?_
  rintro e w1 ⟨rfl, hr1, hg1⟩
  clear cS hM2
  have U1 := Lib.hid (U0.out.swap (by rw [HN.out]; exact Nat.le_refl _) (by omega) (by omega) hr1 hg1)
  clear hr1 hg1
  go_wp2_with fail
  refine (hdown_any x 0 mv v (swp l 0 n) n 0 w1 U1.out.hr (by rw [swp_len, HN.out]; omega) (by rw [swp_len, HN.out]; omega) (by omega) (hpD_pop l n HN.out HH.out)).mono ?_
  rintro e w2 ⟨⟨b, rfl⟩, l', u2, hp2⟩
  have HF := Lib.hid (pop_facts l l' n HN.out HH.out u2.same hp2)
  have hr2 := u2.hr
  rw [HF.out.1] at hr2
  have fo2 : Fo S w w2 := ((Fo.refl S w).grown U1.out.grown (fun i hi => .inl (HS.out i hi))).grown u2.grown (fun i hi => .inl (HS.out i hi))
  have cP := rpop_any (fun b => S b) x (gd l 0) mv v (l'.take n) w2 hr2 (by rw [HF.out.2.2.2.1]; omega) HX.out HS.out
  have hM := meth_pop ⟨x, 1, none⟩ w2
  have F2 := Lib.hid fo2
  clear u2 hp2 hr2 fo2
  go_wp2_with fail
  refine cP.mono ?_
  rintro e w3 ⟨rfl, v', r3⟩
  have R3 := Lib.hid r3
  clear r3 cP hM
  go_wp2_with fail
  go_ret
  exact ⟨rfl, l'.take n, v', ⟨R3.out.hr, fun i hi => (R3.out.row i hi).imp id (fun h => Nat.le_trans F2.out.size h), F2.out.trans R3.out.fo⟩, HF.out.2.1, by rw [HF.out.2.2.2.1]; exact HF.out.2.2.1, HF.out.2.2.2.2⟩

set_option maxHeartbeats 1000000 in
theorem hinit_any (x : Nat) (mv v : Value) (l : List Nat) (n : Nat) (w : World) (h : HR w x mv v 0 l) (hn : l.length = n) (hl : n ≤ 1000) :
    Calls Try.prog 73 #[.iface 124 (.pointer (some ⟨x, 1, none⟩))] w fun e w' => e = .returned (.tuple #[]) ∧ Heaped w x mv v 0 l n 0 w' := by
  have hM := meth_len h.at1
  obtain ⟨A, cap, hv, hcap⟩ := form_of h.row
  rw [hn] at hv hcap
  have cL := rlen_any A n cap w
  rw [← hv] at cL
  have HV := Lib.hid hv
  have HN := Lib.hid hn
  have H := Lib.hid h
  clear h hn hv
  go_enter Try.func73, Try.ntmps73
  go_wp2_with fail
  refine cL.mono ?_
  rintro e w1 ⟨rfl, rfl⟩
  clear cL hM
  go_wp2_with fail
  go_loopw [3] (fun a wr => ∃ (k : Nat) (l' : List Nat), k ≤ n / 2 ∧ a = .int .i64 ((k : Int) - 1) ∧ Hid (UpR w x mv v 0 l n l' wr ∧ hp l' n k)) (fun a _ => (intOf a + 1).toNat)
  case atStart => exact ⟨n / 2, l, Nat.le_refl _, by simp, Lib.hid ⟨⟨H.out, same_refl l n, grefl w _⟩, hp_zero l n _ (Nat.le_refl _)⟩⟩
  case round =>
    obtain ⟨k, l', hk, rfl, HU⟩ := hrel
    by_cases h0 : k = 0
    · subst h0
      go_wp2_with fail
      refine bodyPost_end (results_none rfl _ _ _) rfl ?_
      exact ⟨rfl, l', HU.out.1, HU.out.2⟩
    · obtain ⟨i, hi⟩ : ∃ i, k = i + 1 := ⟨k - 1, by omega⟩
      subst hi
      clear h0
      have e1 : ((i + 1 : Nat) : Int) - 1 = (i : Int) := by omega
      rw [e1]
      go_wp2_with fail
      refine (hdown_any x 0 mv v l' n i wr HU.out.1.hr (by have := HU.out.1.same.1; have := HN.out; omega) (by have := HU.out.1.same.1; have := HN.out; omega) (by omega) (hpD_init l' n i HU.out.2)).mono ?_
      rintro e w2 ⟨⟨b, rfl⟩, l2, u2, hp2⟩
      have U2 := Lib.hid u2; have HP2 := Lib.hid hp2
      clear u2 hp2 e1
      go_wp2_with fail
      go_roundw
      case rel => exact ⟨i, l2, by omega, rfl, Lib.hid ⟨HU.out.1.trans U2.out, HP2.out⟩⟩
      case measure => simp [intOf]
end Go.Proofs.Ytjmdgjpepogogaa
