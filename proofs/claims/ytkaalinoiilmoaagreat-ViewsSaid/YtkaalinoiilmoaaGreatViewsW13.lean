/-
  What the proofs lean on: contracts of the program's functions, plain facts.
-/
import Derived.StillTailTactics
import Derived.Test.YtkaalinoiilmoaaGreatViewsW3
import Derived.Test.YtkaalinoiilmoaaGreatViewsW1
namespace Go.Proofs.YtkaalinoiilmoaaGreat
open Go.RowKit
set_option linter.unusedVariables false
set_option linter.unusedSimpArgs false
set_option maxRecDepth 100000
theorem PaO.fo {S : Nat → Prop} {w w' : World} {B : Nat} {v : Value} {l : List Pa} (h : PaO w B v l) (hf : Fo S w w') (hS : ∀ b, S b → b < B) : PaO w' B v l := by
  obtain ⟨L, e, ho, hfs⟩ := h
  have st : ∀ {e' : TypeId} {s n : Nat} {x : Value} {xs : List Value}, w.ownsRow B e' s x n xs → w'.ownsRow B e' s x n xs := fun h =>
    own_stay h (fun b hb => hf.block b (h.lt b hb).2 (fun hs => by have := (h.lt b hb).1; have := hS b hs; omega))
  exact ⟨L, e, st ho, fun x hx => st (hfs x hx)⟩
def dec (x : De × Value) : List Value := [.int .i64 x.1.pt, x.2]
def dcl (L : List (De × Value)) : List Value := L.flatMap dec
theorem dcl_append (L M : List (De × Value)) : dcl (L ++ M) = dcl L ++ dcl M := by simp [dcl, List.flatMap_append]
theorem dcl_one (x : De × Value) : dcl [x] = dec x := by simp [dcl]
theorem dcl_get (L : List (De × Value)) : ∀ i (h : i < L.length), (dcl L)[i * 2]? = some (.int .i64 L[i].1.pt) ∧ (dcl L)[i * 2 + 1]? = some L[i].2 := by
  induction L with
  | nil => intro i h; simp at h
  | cons p L ih =>
    intro i h
    have e : dcl (p :: L) = dec p ++ dcl L := by simp [dcl]
    match i with
    | 0 => rw [e]; simp [dec]
    | i + 1 =>
      have := ih i (by simpa using h)
      have hp : (dec p).length = 2 := rfl
      rw [e, List.getElem?_append_right (by omega), List.getElem?_append_right (by omega), hp]
      rw [show (i + 1) * 2 - 2 = i * 2 by omega, show (i + 1) * 2 + 1 - 2 = i * 2 + 1 by omega]
      simpa using this
def DeO (w : World) (B : Nat) (v : Value) (l : List De) : Prop :=
  ∃ L : List (De × Value), L.map (·.1) = l ∧ w.ownsRow B 46 2 v L.length (dcl L) ∧ ∀ x ∈ L, w.ownsRow B 3 1 x.2 x.1.po.length (ints x.1.po)
theorem DeO.fo {S : Nat → Prop} {w w' : World} {B : Nat} {v : Value} {l : List De} (h : DeO w B v l) (hf : Fo S w w') (hS : ∀ b, S b → b < B) : DeO w' B v l := by
  obtain ⟨L, e, ho, hfs⟩ := h
  have st : ∀ {e' : TypeId} {s n : Nat} {x : Value} {xs : List Value}, w.ownsRow B e' s x n xs → w'.ownsRow B e' s x n xs := fun h =>
    own_stay h (fun b hb => hf.block b (h.lt b hb).2 (fun hs => by have := (h.lt b hb).1; have := hS b hs; omega))
  exact ⟨L, e, st ho, fun x hx => st (hfs x hx)⟩
theorem DeO.des {w : World} {B : Nat} {v : Value} {l : List De} (h : DeO w B v l) : DeS w v l := by
  obtain ⟨L, e, ho, hf⟩ := h
  have hl : l.length = L.length := by rw [← e, List.length_map]
  obtain ⟨A, cap, hv, hc, hxl, hA⟩ := Sl.own ho
  refine ⟨A, cap, by rw [hl]; exact hv, fun h0 => ?_⟩
  obtain ⟨b, o, e', hlt, hcell⟩ := hA (by omega)
  refine ⟨b, o, e', hlt, fun i hi => ?_⟩
  have hi' : i < L.length := by omega
  obtain ⟨h0, h1⟩ := dcl_get L i hi'
  have hg : l.getD i deD = L[i].1 := by
    subst e
    simp [List.getD, List.getElem?_map, List.getElem?_eq_getElem hi']
  have hr := hf _ (List.getElem_mem hi')
  obtain ⟨A2, c2, e2, hn⟩ := own_nilcap hr
  rw [hg]
  rw [e2] at h1
  refine ⟨A2, c2, hcell _ _ h0, ?_, by rw [← e2]; exact Sl.own hr, hn⟩
  have := hcell _ _ h1; simpa [Nat.add_assoc] using this
theorem infoDev : (Tryz.prog.info? 46).map (fun i => (i.zero, i.size, i.bytes)) = some (some (.agg #[.int .i64 0, .slice none 0 0]), 2, 32) := by kernel_rfl
theorem infoInH : (Tryz.prog.info? 3).map (fun i => (i.zero, i.size, i.bytes)) = some (some (.int .i64 0), 1, 8) := by kernel_rfl
theorem infoWinH : (Tryz.prog.info? 82).map (fun i => (i.zero, i.size, i.bytes)) = some (some (.agg #[.int .i64 0, .int .i64 0, .int .i64 0, .int .i64 0]), 4, 32) := by kernel_rfl
theorem infoGrH : (Tryz.prog.info? 65).map (fun i => (i.zero, i.size, i.bytes)) = some (some (.agg #[.int .i64 0, .int .i64 0, .bool false]), 3, 24) := by kernel_rfl
theorem ints_oneH (fs : List Int) : ∀ u ∈ ints fs, u.oneCell' = true := by intro u hu; obtain ⟨x, _, rfl⟩ := List.mem_map.1 hu; rfl
theorem grs_oneH (gs : List Gr) : ∀ u ∈ grs gs, u.oneCell' = true := by
  intro u hu
  obtain ⟨g, _, hm⟩ := List.mem_flatMap.1 hu
  simp only [grc, List.mem_cons, List.not_mem_nil, or_false] at hm
  rcases hm with rfl | rfl | rfl <;> rfl
theorem own_lit0 (w : World) (B : Nat) (hB : B ≤ w.heap.size) (T : TypeId) (s : Nat) : (w.alloc (.cells #[] T)).ownsRow B T s (.slice (some ⟨w.heap.size, 0, none⟩) 0 0) 0 [] := by
  have := World.ownsRow_made w (e := T) (size := s) #[] 0 (Nat.le_refl _) (Nat.zero_le _) (by simp)
  exact own_floor this (fun x hx => by simp [Value.ownBlock] at hx; omega)
def CpG (c : Cf) (w w2 : World) (g : Nat) (vp vw vg : Value) (k : Nat) (W : World) : Prop :=
  ∃ v, DeO W w2.heap.size v (c.ds.take k) ∧ Blk W g 27 (cfc c vp v vw vg) ∧ Below w.heap.size w W ∧ Fo (· = g) w2 W
section
variable {w : World} {c : Cf} {vp vd vw vg : Value}
set_option maxHeartbeats 4000000 in
theorem copy_cfg (h : CfAt w vp vd vw vg c) : Calls Tryz.prog 4 #[.agg #[.int .i64 c.fr, vp, vd, .int .i64 c.mj, vw, vg, .int .i64 c.se, .int .i64 c.qu, .int .i64 c.qt]] w fun e w' =>
    ∃ vp' vd' vw' vg', e = .returned (.agg #[.int .i64 c.fr, vp', vd', .int .i64 c.mj, vw', vg', .int .i64 c.se, .int .i64 c.qu, .int .i64 c.qt]) ∧ CfAt w' vp' vd' vw' vg' c ∧ Below w.heap.size w w' := by
  obtain ⟨hb, hB⟩ := cf_box w c vp vd vw vg
  obtain ⟨f0, f1, f2, f3, f4, f5, f6, f7, f8⟩ := cf_at hb
  have hz := h.dz
  obtain ⟨A, cap, rfl, hA⟩ := h.ds
  have HA := Lib.hid hA; have HZ := Lib.hid hz.2
  have hz1 := hz.1
  have HW := Lib.hid h
  have hb1 := hb.alloc (.cells #[.int .i64 0, .slice none 0 0, .slice none 0 0, .int .i64 0, .slice none 0 0, .slice none 0 0, .int .i64 0, .int .i64 0, .int .i64 0] 27)
  have hB1 := hB.alloc hB.size (.cells #[.int .i64 0, .slice none 0 0, .slice none 0 0, .int .i64 0, .slice none 0 0, .slice none 0 0, .int .i64 0, .int .i64 0, .int .i64 0] 27)
  have hr1 : Blk ((w.alloc (.cells #[.int .i64 c.fr, vp, .slice A c.ds.length cap, .int .i64 c.mj, vw, vg, .int .i64 c.se, .int .i64 c.qu, .int .i64 c.qt] 27)).alloc (.cells #[.int .i64 0, .slice none 0 0, .slice none 0 0, .int .i64 0, .slice none 0 0, .slice none 0 0, .int .i64 0, .int .i64 0, .int .i64 0] 27)) (w.heap.size + 1) 27 [.int .i64 0, .slice none 0 0, .slice none 0 0, .int .i64 0, .slice none 0 0, .slice none 0 0, .int .i64 0, .int .i64 0, .int .i64 0] := by
    have := Blk.new (w.alloc (.cells #[.int .i64 c.fr, vp, .slice A c.ds.length cap, .int .i64 c.mj, vw, vg, .int .i64 c.se, .int .i64 c.qu, .int .i64 c.qt] 27)) 27 [.int .i64 0, .slice none 0 0, .slice none 0 0, .int .i64 0, .slice none 0 0, .slice none 0 0, .int .i64 0, .int .i64 0, .int .i64 0]
    simpa using this
  have hsz : w.heap.size + 1 + 1 = ((w.alloc (.cells #[.int .i64 c.fr, vp, .slice A c.ds.length cap, .int .i64 c.mj, vw, vg, .int .i64 c.se, .int .i64 c.qu, .int .i64 c.qt] 27)).alloc (.cells #[.int .i64 0, .slice none 0 0, .slice none 0 0, .int .i64 0, .slice none 0 0, .slice none 0 0, .int .i64 0, .int .i64 0, .int .i64 0] 27)).heap.size := by simp
  have HCP := Lib.hid (copy_parts vp c.ps _ (h.ps.below hB1) h.pz)
  have HBB := Lib.hid hb1; have HRB := Lib.hid hr1; have HB1 := Lib.hid hB1
  clear h hA hz hb hB hb1 hr1 hB1
  generalize hdn : c.ds.length = n at *
  have HDN := Lib.hid hdn
  clear hdn
  go_enter Tryz.func4, Tryz.ntmps4
  go_wp2_with fail
  clear f0 f1 f2 f3 f4 f5 f6 f7 f8
  generalize (w.alloc (.cells #[.int .i64 c.fr, vp, .slice A n cap, .int .i64 c.mj, vw, vg, .int .i64 c.se, .int .i64 c.qu, .int .i64 c.qt] 27)).alloc (.cells #[.int .i64 0, .slice none 0 0, .slice none 0 0, .int .i64 0, .slice none 0 0, .slice none 0 0, .int .i64 0, .int .i64 0, .int .i64 0] 27) = w1 at *
  have hlt1 : w.heap.size + 1 < w1.heap.size := by omega
  clear hsz
  refine HCP.out.mono ?_
  rintro e w2 ⟨u, rfl, hpo, b2⟩
  obtain ⟨Au, cu, hu, -⟩ := hpo.pas
  generalize c.ps.length = np at hu
  subst hu
  have hs2 := b2.size
  have hb2 := HBB.out.below b2 HBB.out.lt
  have hr2 := HRB.out.below b2 HRB.out.lt
  obtain ⟨f0, f1, f2, f3, f4, f5, f6, f7, f8⟩ := cf_at hb2
  have z1 := hb2.frozen 1
  have z2 := hb2.frozen 2
  have HPO := Lib.hid hpo
  have hW2 := Below.down HB1.out b2 HB1.out.size
  have HG0 : Hid (CpG c w w2 w.heap.size (.slice Au np cu) vw vg 0 ((w2.setCell ⟨w.heap.size, 1, none⟩ (.slice Au np cu)).setCell ⟨w.heap.size, 2, none⟩ (.slice none 0 0))) := Lib.hid
    ⟨.slice none 0 0, ⟨[], by simp, World.ownsRow_nil _ _ _ _, fun x hx => by cases hx⟩, (hb2.set 1 (.slice Au np cu)).set 2 (.slice none 0 0), (hW2.setCell (p := ⟨w.heap.size, 1, none⟩) (Nat.le_refl _) _).setCell (p := ⟨w.heap.size, 2, none⟩) (Nat.le_refl _) _, ((Fo.refl (· = w.heap.size) w2).set (p := ⟨w.heap.size, 1, none⟩) (.inl rfl) (.slice Au np cu)).set (p := ⟨w.heap.size, 2, none⟩) (.inl rfl) _⟩
  have HR2 := Lib.hid hr2
  have HW2 := Lib.hid hW2
  clear hpo b2 hb2 hr2 hW2 HCP
  obtain ⟨i0, hi, hy0, hy1, hy2⟩ := info_parts infoDev
  have HI := Lib.hid hi; have HY0 := Lib.hid hy0; have HY1 := Lib.hid hy1; have HY2 := Lib.hid hy2
  obtain ⟨j0, hj, hj0, hj1, hj2⟩ := info_parts infoInH
  have HJ := Lib.hid hj; have HJ0 := Lib.hid hj0; have HJ1 := Lib.hid hj1; have HJ2 := Lib.hid hj2
  clear hi hy0 hy1 hy2 hj hj0 hj1 hj2
  go_wp2_with fail
  clear f0 f1 f2 f3 f4 f5 f6 f7 f8 z1 z2
  go_loopw [4] (fun i wr => ∃ k : Nat, k ≤ n ∧ i = .int .i64 k ∧ Hid (CpG c w w2 w.heap.size (.slice Au np cu) vw vg k wr)) (fun i _ => n - (intOf i).toNat)
  case atStart => exact ⟨0, by omega, rfl, HG0⟩
  case round =>
    obtain ⟨k, hk, rfl, H⟩ := hrel
    obtain ⟨v, hO, hgb, hbel, hfo⟩ := H.out
    by_cases hlt : k < n
    · obtain ⟨b, o, rfl, hb, hat⟩ := HA.out (by omega)
      have hp := (hat k hlt).below hbel hb
      have hf8 := HZ.out k
      have htk : c.ds.take (k + 1) = c.ds.take k ++ [c.ds.getD k deD] := by
        rw [List.take_add_one, List.getElem?_eq_getElem (by rw [HDN.out]; exact hlt)]
        simp [List.getD, List.getElem?_eq_getElem (show k < c.ds.length by rw [HDN.out]; exact hlt)]
      have HTK := Lib.hid htk
      have HO := Lib.hid hO; have HGB := Lib.hid hgb; have HBL := Lib.hid hbel; have HFO := Lib.hid hfo
      have hws := hbel.size
      have hws2 := hfo.size
      have hgl := hgb.lt
      clear htk hat hO hgb hbel hfo H
      generalize c.ds.getD k deD = p at *
      obtain ⟨pt, po⟩ := p
      obtain ⟨A2, c2, q0, q1, hsl, hnil⟩ := hp
      simp only at q0 q1 hsl hf8
      have hmade : ((wr.alloc (.cells #[.int .i64 pt, .slice A2 po.length c2] 46)).alloc (.cells #[] 3)).ownsRow w2.heap.size 3 1 (.slice (some ⟨wr.heap.size + 1, 0, none⟩) 0 0) 0 [] := by
        have := own_lit0 (wr.alloc (.cells #[.int .i64 pt, .slice A2 po.length c2] 46)) w2.heap.size (by simp; omega) 3 1
        simpa using this
      have HM := Lib.hid hmade
      have HS := Lib.hid ((hsl.below ((Below.refl _ wr).alloc (Nat.le_refl _) (.cells #[.int .i64 pt, .slice A2 po.length c2] 46))).below ((Below.refl _ (wr.alloc (.cells #[.int .i64 pt, .slice A2 po.length c2] 46))).alloc (Nat.le_refl _) (.cells #[] 3)))
      have HN : Hid (∀ k c, Value.slice A2 po.length c2 = .slice none k c → c = 0) := Lib.hid (by
        intro k c e; simp only [Value.slice.injEq] at e; rw [← e.2.2]; exact hnil e.1)
      have H1 := Lib.hid (ints_oneH po)
      have HBK := Lib.hid ((Blk.new wr 46 [.int .i64 pt, .slice A2 po.length c2]).alloc (.cells #[] 3))
      clear hmade hsl hnil
      go_wp2_with (at_builtin; refine wpList_append_sl rfl _ _ 44 rfl w2.heap.size 3 j0 _ 1 8 Tryz.underlying44 HJ.out HJ0.out HJ1.out HJ2.out rfl (by decide) _ 0 [] rfl HM.out _ po.length (ints po) rfl HS.out HN.out H1.out (by unfold maxLen; omega) (by omega) (by simp; omega) ?_)
      intro v1 w3 ho hg
      rw [show (Value.slice (some ⟨wr.heap.size + 1, 0, none⟩) 0 0).ownBlock = some (wr.heap.size + 1) from rfl] at hg
      have hb1 := HBK.out.grown hg (by intro e; injection e with e; omega)
      have bW1 : Below wr.heap.size wr w3 := (((Below.refl _ wr).alloc (Nat.le_refl _) _).alloc (by simp) _).grown hg (by simp; omega) (fun x hx => by injection hx with hx; omega)
      have bW : Below wr.heap.size wr (w3.setCell ⟨wr.heap.size, 1, none⟩ v1) := bW1.setCell (p := ⟨wr.heap.size, 1, none⟩) (Nat.le_refl _) _
      have hne := own_apart_blk ho hb1 (by decide)
      have ho' : (w3.setCell ⟨wr.heap.size, 1, none⟩ v1).ownsRow w2.heap.size 3 1 v1 po.length (ints po) :=
        own_stay ho (fun x hx => Below.heap_setCell w3 ⟨wr.heap.size, 1, none⟩ v1 x (by intro e; subst e; exact hne hx))
      have hb2 : Blk (w3.setCell ⟨wr.heap.size, 1, none⟩ v1) wr.heap.size 46 [.int .i64 pt, v1] := hb1.set 1 v1
      have hfz := hb1.frozen 1
      have cx := hb1.cell 1
      have c0 := hb2.cell 0
      have c1 := hb2.cell 1
      simp only [List.getElem?_cons_zero, List.getElem?_cons_succ] at cx c0 c1
      have hgb3 := HGB.out.below bW hgl
      obtain ⟨f0, f1, f2, f3, f4, f5, f6, f7, f8⟩ := cf_at hgb3
      have hDO := HO.out.fo (Fo.of bW nos) (fun b hb => hb.elim)
      obtain ⟨L, hL, hrow, hfs⟩ := hDO
      have hLl : L.length = k := by
        have := congrArg List.length hL
        rw [List.length_map, List.length_take, HDN.out] at this
        omega
      have hw3s : (w3.setCell ⟨wr.heap.size, 1, none⟩ v1).heap.size = w3.heap.size := by simp [World.setCell]
      have HNW : Hid (∀ j u, (dec (⟨pt, po⟩, v1))[j]? = some u → ((w3.setCell ⟨wr.heap.size, 1, none⟩ v1).alloc (.cells (dec (⟨pt, po⟩, v1)).toArray 46)).cell? ((⟨w3.heap.size, 0, none⟩ : Addr).add j) = some u) := Lib.hid (by
        have := row_new (w3.setCell ⟨wr.heap.size, 1, none⟩ v1) (dec (⟨pt, po⟩, v1)) 46
        rw [hw3s] at this
        exact this)
      obtain ⟨A1, c1', rfl, _⟩ := own_nilcap ho
      have HLL := Lib.hid hLl
      have HO1 := Lib.hid ho'; have HROW := Lib.hid hrow; have HFS := Lib.hid hfs; have HLM := Lib.hid hL
      have BW := Lib.hid bW; have HG3 := Lib.hid hgb3
      have hws3 := bW1.size
      have hws4 := bW.size
      have hgA := hgb3.alloc (.cells #[.int .i64 pt, .slice A1 po.length c1'] 46)
      obtain ⟨g0, g1, g2, g3, g4, g5, g6, g7, g8⟩ := cf_at hgA
      clear ho ho' hrow hfs hL bW bW1 hb1 hb2 hne hg HBK HM HS HN H1 HO hgb3 hgA
      go_wp2_with (at_builtin; refine wpList_append_own _ rfl _ _ 23 rfl w2.heap.size 46 i0 _ 2 32 Tryz.underlying23 HI.out HY0.out HY1.out HY2.out rfl (by decide) _ L.length (dcl L) rfl (HROW.out.alloc _) ⟨w3.heap.size, 0, none⟩ 1 1 (dec (⟨pt, po⟩, .slice A1 po.length c1')) rfl rfl (by exact HNW.out) ?h1 (by unfold maxLen; omega) (by omega) (by simp; omega) ?_)
      case h1 =>
        intro u hu
        simp only [dec, List.mem_cons, List.not_mem_nil, or_false] at hu
        rcases hu with rfl | rfl <;> rfl
      intro v2 w4 ho2 hg2 _
      obtain ⟨A4, c4, e4, -⟩ := own_nilcap ho2
      subst e4
      have hB4 : Below wr.heap.size wr w4 → True := fun _ => trivial
      have hrb : ∀ x, v.ownBlock = some x → w2.heap.size ≤ x := fun x hx => (HROW.out.lt x hx).1
      have hF4 : Fo (· = w.heap.size) w2 w4 := ((HFO.out.trans (Fo.of BW.out _)).alloc _).grown hg2 (fun x hx => .inr (hrb x hx))
      have hW4 : Below w.heap.size w w4 := ((Below.down HBL.out BW.out HBL.out.size).alloc (by have := HBL.out.size; omega) _).grown hg2 (by simp; have := HBL.out.size; omega) (fun x hx => by have := hrb x hx; omega)
      have hgb4 : Blk w4 w.heap.size 27 (cfc c (.slice Au np cu) v vw vg) := (HG3.out.alloc _).grown hg2 (fun e => by have := hrb _ e.symm; omega)
      have keep : ∀ (y : Value) (m : Nat) (ys : List Value), (w3.setCell ⟨wr.heap.size, 1, none⟩ (.slice A1 po.length c1')).ownsRow w2.heap.size 3 1 y m ys → w4.ownsRow w2.heap.size 3 1 y m ys := fun y m ys hy =>
        own_stay hy (fun x hx => (hg2.block x (by have := (hy.lt x hx).2; rw [World.size_alloc]; omega) (fun e => own_types hy HROW.out (by decide) x hx e.symm)).trans (Below.heap_alloc _ _ x (hy.lt x hx).2))
      have hD4 : DeO w4 w2.heap.size (.slice A4 (k + 1) c4) (c.ds.take (k + 1)) := by
        refine ⟨L ++ [(⟨pt, po⟩, .slice A1 po.length c1')], ?_, ?_, fun x hx => ?_⟩
        · rw [List.map_append, HLM.out, HTK.out]; rfl
        · rw [dcl_append, dcl_one, List.length_append, HLL.out]; first | exact ho2 | (rw [HLL.out] at ho2; exact ho2)
        · rcases List.mem_append.1 hx with hx | hx
          · exact keep _ _ _ (HFS.out x hx)
          · simp only [List.mem_cons, List.not_mem_nil, or_false] at hx
            subst hx
            exact keep _ _ _ HO1.out
      have HN9 : Hid (CpG c w w2 w.heap.size (.slice Au np cu) vw vg (k + 1) (w4.setCell ⟨w.heap.size, 2, none⟩ (.slice A4 (k + 1) c4))) := Lib.hid
        ⟨_, hD4.fo ((Fo.refl (· = w.heap.size) w4).set (p := ⟨w.heap.size, 2, none⟩) (.inl rfl) (.slice A4 (k + 1) c4)) (fun b hb => by omega), hgb4.set 2 (.slice A4 (k + 1) c4), hW4.setCell (p := ⟨w.heap.size, 2, none⟩) (Nat.le_refl _) _, hF4.set (p := ⟨w.heap.size, 2, none⟩) (.inl rfl) _⟩
      have k2 := hgb4.cell 2
      have e2 : (cfc c (.slice Au np cu) v vw vg)[2]? = some v := rfl
      rw [e2] at k2
      have z2 := hgb4.frozen 2
      clear hB4 hrb hF4 hW4 hgb4 keep hD4 ho2 hg2 e2
      go_wp2_with fail
      go_roundw
      case rel => exact ⟨k + 1, by omega, by go_num, HN9⟩
      case measure => simp [intOf]; omega
    · obtain rfl : k = n := by omega
      rw [show c.ds.take k = c.ds by rw [← HDN.out, List.take_length]] at hO
      obtain ⟨Aw, cw, hvw⟩ := HW.out.ws.form
      subst hvw
      obtain ⟨Ag, cg, hvg, -⟩ := HW.out.gs
      subst hvg
      obtain ⟨p0, hp, hp0, hp1, hp2⟩ := info_parts infoWinH
      have HP := Lib.hid hp; have HP0 := Lib.hid hp0; have HP1 := Lib.hid hp1; have HP2 := Lib.hid hp2
      obtain ⟨g0, hg, hg0, hg1, hg2⟩ := info_parts infoGrH
      have HGI := Lib.hid hg; have HGI0 := Lib.hid hg0; have HGI1 := Lib.hid hg1; have HGI2 := Lib.hid hg2
      clear hp hp0 hp1 hp2 hg hg0 hg1 hg2
      have hws := hbel.size
      have hws2 := hfo.size
      have hgl := hgb.lt
      have hbA : Below wr.heap.size wr (wr.alloc (.cells #[] 82)) := (Below.refl _ _).alloc (Nat.le_refl _) _
      have HM1 := Lib.hid (own_lit0 wr w2.heap.size hws2 82 4)
      have HS1 := Lib.hid ((HW.out.ws.sl.below hbel).below hbA)
      have HN1 := Lib.hid HW.out.wn
      have hwz := HW.out.wz
      have hgz := HW.out.gz
      have hgbA := hgb.alloc (.cells #[] 82)
      obtain ⟨f0, f1, f2, f3, f4, f5, f6, f7, f8⟩ := cf_at hgb
      obtain ⟨d0, d1, d2, d3, d4, d5, d6, d7, d8⟩ := cf_at hgbA
      have HO := Lib.hid hO; have HGB := Lib.hid hgbA; have HBL := Lib.hid (hbel.alloc hws (.cells #[] 82)); have HFO := Lib.hid (hfo.alloc (.cells #[] 82))
      have HOA := Lib.hid (hO.fo (Fo.of hbA nos) (fun b hb => hb.elim))
      have hszA : wr.heap.size + 1 = (wr.alloc (.cells #[] 82)).heap.size := by simp
      have H1w := Lib.hid (ints_oneH (wins c.ws))
      clear hO hgb hbel hfo H hbA hgbA
      generalize hnw : c.ws.length = nw at *
      have HNW := Lib.hid hnw
      clear hnw
      go_wp2_with (at_builtin; refine wpList_append_sl rfl _ _ 24 rfl w2.heap.size 82 p0 _ 4 32 Tryz.underlying24 HP.out HP0.out HP1.out HP2.out rfl (by decide) _ 0 [] rfl HM1.out _ nw (ints (wins c.ws)) rfl HS1.out HN1.out H1w.out (by unfold maxLen; omega) (by omega) (by simp; omega) ?_)
      intro v3 w5 ho5 hg5
      obtain ⟨A5, c5, e5, hn5⟩ := own_nilcap ho5
      subst e5
      rw [show (Value.slice (some ⟨wr.heap.size, 0, none⟩) 0 0).ownBlock = some wr.heap.size from rfl] at hg5
      have hb5 : Below wr.heap.size wr w5 := ((Below.refl _ wr).alloc (Nat.le_refl _) _).grown hg5 (by simp) (fun x hx => by injection hx with hx; omega)
      have hg5b := HGB.out.grown hg5 (by intro e; injection e with e; omega)
      have hF5 : Fo (· = w.heap.size) w2 w5 := HFO.out.grown hg5 (fun x hx => .inr (by injection hx with hx; omega))
      have hW5 : Below w.heap.size w w5 := HBL.out.grown hg5 (by simp; omega) (fun x hx => by injection hx with hx; omega)
      have hst : Fo (· = w.heap.size) w5 (w5.setCell ⟨w.heap.size, 4, none⟩ (.slice A5 nw c5)) := (Fo.refl (· = w.heap.size) w5).set (p := ⟨w.heap.size, 4, none⟩) (.inl rfl) _
      have hD5 := (HO.out.fo (Fo.of hb5 nos) (fun b hb => hb.elim)).fo hst (fun b hb => by have := HB1.out.size; omega)
      have k4 := hg5b.cell 4
      have k4e : (cfc c (.slice Au np cu) v (.slice Aw nw cw) (.slice Ag c.gs.length cg))[4]? = some (.slice Aw nw cw) := rfl
      rw [k4e] at k4
      have z4 := hg5b.frozen 4
      have hg6 := hg5b.set 4 (.slice A5 nw c5)
      have hF6 := hF5.set (p := ⟨w.heap.size, 4, none⟩) (.inl rfl) (.slice A5 nw c5)
      have hW6 := hW5.setCell (p := ⟨w.heap.size, 4, none⟩) (Nat.le_refl _) (.slice A5 nw c5)
      have ho6 : (w5.setCell ⟨w.heap.size, 4, none⟩ (.slice A5 nw c5)).ownsRow w2.heap.size 82 4 (.slice A5 nw c5) nw (ints (wins c.ws)) := own_stay ho5 (fun b hb => hst.block b (ho5.lt b hb).2 (fun e => by have := (ho5.lt b hb).1; omega))
      change Blk _ _ _ (cfc c (.slice Au np cu) v (.slice A5 nw c5) (.slice Ag c.gs.length cg)) at hg6
      have hs6 : w5.heap.size = (w5.setCell ⟨w.heap.size, 4, none⟩ (.slice A5 nw c5)).heap.size := by simp [World.setCell]
      have hs5 := hb5.size
      clear hst ho5 hg5 hb5 hg5b hF5 hW5 k4e d0 d1 d2 d3 d4 d5 d6 d7 d8 f0 f1 f2 f3 f4 f5 f6 f7 f8
      have HD6 := Lib.hid hD5; have HG6 := Lib.hid hg6; have HF6 := Lib.hid hF6; have HW6 := Lib.hid hW6; have HO6 := Lib.hid ho6
      clear hD5 hg6 hF6 hW6 ho6
      obtain ⟨f0, f1, f2, f3, f4, f5, f6, f7, f8⟩ := cf_at HG6.out
      have hn63 : c.gs.length ≤ 9223372036854775807 := by omega
      generalize hng : c.gs.length = ng at *
      have HNG := Lib.hid hng
      clear hng
      have hbB : Below (w5.setCell ⟨w.heap.size, 4, none⟩ (.slice A5 nw c5)).heap.size (w5.setCell ⟨w.heap.size, 4, none⟩ (.slice A5 nw c5)) ((w5.setCell ⟨w.heap.size, 4, none⟩ (.slice A5 nw c5)).alloc (.cells #[] 65)) := (Below.refl _ _).alloc (Nat.le_refl _) _
      have hm2 := own_lit0 (w5.setCell ⟨w.heap.size, 4, none⟩ (.slice A5 nw c5)) w2.heap.size (by omega) 65 3
      rw [← hs6] at hm2
      have HM2 := Lib.hid hm2
      have HS2 := Lib.hid ((HW.out.gs.below HW6.out).below hbB)
      have HN2 := Lib.hid HW.out.gn
      have H1g := Lib.hid (grs_oneH c.gs)
      have HBB' := Lib.hid hbB
      obtain ⟨d0, d1, d2, d3, d4, d5, d6, d7, d8⟩ := cf_at (HG6.out.alloc (.cells #[] 65))
      rw [HNG.out] at HS2
      have HS66 := Lib.hid hs6
      clear hm2 hbB hs6 hszA
      go_wp2_with (at_builtin; refine wpList_append_sl rfl _ _ 25 rfl w2.heap.size 65 g0 _ 3 24 Tryz.underlying25 HGI.out HGI0.out HGI1.out HGI2.out rfl (by decide) _ 0 [] rfl HM2.out _ ng (grs c.gs) rfl HS2.out HN2.out H1g.out (by unfold maxLen; omega) (by omega) (by simp; omega) ?_)
      intro v6 w7 ho7 hg7
      have hs6 := HS66.out
      obtain ⟨A7, c7, e7, hn7⟩ := own_nilcap ho7
      subst e7
      rw [show (Value.slice (some ⟨w5.heap.size, 0, none⟩) 0 0).ownBlock = some w5.heap.size from rfl] at hg7
      have hb7 : Below w5.heap.size (w5.setCell ⟨w.heap.size, 4, none⟩ (.slice A5 nw c5)) w7 := (((Below.refl _ _).alloc (by omega) _).grown hg7 (by simp [World.setCell]) (fun x hx => by injection hx with hx; omega))
      have hg7b := (HG6.out.alloc (.cells #[] 65)).grown hg7 (by intro e; injection e with e; omega)
      have hr7 : Blk w7 (w.heap.size + 1) 27 [.int .i64 0, .slice none 0 0, .slice none 0 0, .int .i64 0, .slice none 0 0, .slice none 0 0, .int .i64 0, .int .i64 0, .int .i64 0] :=
        ((HF6.out.blk HR2.out (fun e => by omega)).alloc _).grown hg7 (by intro e; injection e with e; omega)
      have hb7' : Below (w5.setCell ⟨w.heap.size, 4, none⟩ (.slice A5 nw c5)).heap.size (w5.setCell ⟨w.heap.size, 4, none⟩ (.slice A5 nw c5)) w7 := by rw [← hs6]; exact hb7
      have hF7 : Fo (· = w.heap.size) w2 w7 := (HF6.out.alloc _).grown hg7 (fun x hx => .inr (by injection hx with hx; omega))
      have hW7 : Below w.heap.size w w7 := Below.down HW6.out hb7' (by omega)
      have hD7 := HD6.out.fo (Fo.of hb7' nos) (fun b hb => hb.elim)
      have ho8 := own_stay HO6.out (fun b hb => hb7'.block b (HO6.out.lt b hb).2)
      have HFIN : Hid (∀ Wf, Fo (fun b => b = w.heap.size ∨ b = w.heap.size + 1) w7 Wf → CfAt Wf (.slice Au np cu) v (.slice A5 nw c5) (.slice A7 ng c7) c ∧ Below w.heap.size w Wf) := Lib.hid (by
        intro Wf hf
        have hlo := HB1.out.size
        have hnb : ∀ b, w2.heap.size ≤ b → ¬ (b = w.heap.size ∨ b = w.heap.size + 1) := fun b h1 h2 => by omega
        have st : ∀ {e' : TypeId} {s n : Nat} {x : Value} {xs : List Value}, w7.ownsRow w2.heap.size e' s x n xs → Wf.ownsRow w2.heap.size e' s x n xs := fun h =>
          own_stay h (fun b hb => hf.block b (h.lt b hb).2 (hnb b (h.lt b hb).1))
        have hpa : PaO Wf w1.heap.size (.slice Au np cu) c.ps := (HPO.out.fo hF7 (fun b hb => by omega)).fo hf (fun b hb => by omega)
        have hde : DeO Wf w2.heap.size v c.ds := hD7.fo hf (fun b hb => by omega)
        have hw := st ho8
        have hg := st ho7
        refine ⟨⟨hpa.pas, HW.out.pz, hde.des, HW.out.dz, ?_, ?_, ?_, ?_, ?_, ?_⟩, hf.below hW7 hW7.size (fun i e => by omega)⟩
        · exact ⟨by rw [HNW.out]; exact Sl.own hw, rfl, HW.out.ws.big, HW.out.ws.in64⟩
        · exact HW.out.wz
        · intro m k e; simp only [Value.slice.injEq] at e; rw [← e.2.2]; exact hn5 e.1
        · rw [HNG.out]; exact Sl.own hg
        · exact HW.out.gz
        · intro m k e; simp only [Value.slice.injEq] at e; rw [← e.2.2]; exact hn7 e.1)
      obtain ⟨e0, e1, e2, e3, e4, e5, e6, e7, e8⟩ := cf_at hg7b
      have z5 := hg7b.frozen 5
      have t0 := hr7.cell 0
      have t1 := hr7.cell 1
      have t2 := hr7.cell 2
      have t3 := hr7.cell 3
      have t4 := hr7.cell 4
      have t5 := hr7.cell 5
      have t6 := hr7.cell 6
      have t7 := hr7.cell 7
      have t8 := hr7.cell 8
      simp only [List.getElem?_cons_zero, List.getElem?_cons_succ] at t0 t1 t2 t3 t4 t5 t6 t7 t8
      have s0 := hr7.frozen 0
      have s1 := hr7.frozen 1
      have s2 := hr7.frozen 2
      have s3 := hr7.frozen 3
      have s4 := hr7.frozen 4
      have s5 := hr7.frozen 5
      have s6 := hr7.frozen 6
      have s7 := hr7.frozen 7
      have s8 := hr7.frozen 8
      obtain ⟨Av, nv, cv, hv⟩ : ∃ Av nv cv, v = .slice Av nv cv := by obtain ⟨L, -, ho, -⟩ := hD7; obtain ⟨A, c, e, -⟩ := own_nilcap ho; exact ⟨A, _, c, e⟩
      subst hv
      have hrF : Blk ((((((((((w7.setCell ⟨w.heap.size, 5, none⟩ (.slice A7 ng c7)).setCell ⟨w.heap.size + 1, 0, none⟩ (.int .i64 c.fr)).setCell ⟨w.heap.size + 1, 1, none⟩ (.slice Au np cu)).setCell ⟨w.heap.size + 1, 2, none⟩ (.slice Av nv cv)).setCell ⟨w.heap.size + 1, 3, none⟩ (.int .i64 c.mj)).setCell ⟨w.heap.size + 1, 4, none⟩ (.slice A5 nw c5)).setCell ⟨w.heap.size + 1, 5, none⟩ (.slice A7 ng c7)).setCell ⟨w.heap.size + 1, 6, none⟩ (.int .i64 c.se)).setCell ⟨w.heap.size + 1, 7, none⟩ (.int .i64 c.qu)).setCell ⟨w.heap.size + 1, 8, none⟩ (.int .i64 c.qt)) (w.heap.size + 1) 27 (cfc c (.slice Au np cu) (.slice Av nv cv) (.slice A5 nw c5) (.slice A7 ng c7)) := ((((((((((hr7.far (p := ⟨w.heap.size, 5, none⟩) (show w.heap.size + 1 ≠ w.heap.size by omega) (.slice A7 ng c7)).set 0 (.int .i64 c.fr)).set 1 (.slice Au np cu)).set 2 (.slice Av nv cv)).set 3 (.int .i64 c.mj)).set 4 (.slice A5 nw c5)).set 5 (.slice A7 ng c7)).set 6 (.int .i64 c.se)).set 7 (.int .i64 c.qu)).set 8 (.int .i64 c.qt))
      have HFF := Lib.hid (HFIN.out _ (((((((((((Fo.refl (fun b => b = w.heap.size ∨ b = w.heap.size + 1) w7).set (p := ⟨w.heap.size, 5, none⟩) (.inl (.inl rfl)) (.slice A7 ng c7)).set (p := ⟨w.heap.size + 1, 0, none⟩) (.inl (.inr rfl)) (.int .i64 c.fr)).set (p := ⟨w.heap.size + 1, 1, none⟩) (.inl (.inr rfl)) (.slice Au np cu)).set (p := ⟨w.heap.size + 1, 2, none⟩) (.inl (.inr rfl)) (.slice Av nv cv)).set (p := ⟨w.heap.size + 1, 3, none⟩) (.inl (.inr rfl)) (.int .i64 c.mj)).set (p := ⟨w.heap.size + 1, 4, none⟩) (.inl (.inr rfl)) (.slice A5 nw c5)).set (p := ⟨w.heap.size + 1, 5, none⟩) (.inl (.inr rfl)) (.slice A7 ng c7)).set (p := ⟨w.heap.size + 1, 6, none⟩) (.inl (.inr rfl)) (.int .i64 c.se)).set (p := ⟨w.heap.size + 1, 7, none⟩) (.inl (.inr rfl)) (.int .i64 c.qu)).set (p := ⟨w.heap.size + 1, 8, none⟩) (.inl (.inr rfl)) (.int .i64 c.qt)))
      have HRF := Lib.hid hrF
      clear hrF
      clear hs6 ho7 hg7 hb7 hb7' hg7b hr7 hF7 hW7 hD7 ho8 f0 f1 f2 f3 f4 f5 f6 f7 f8 d0 d1 d2 d3 d4 d5 d6 d7 d8 k4 z4
      go_wp2_with fail
      generalize (((((((((w7.setCell ⟨w.heap.size, 5, none⟩ (.slice A7 ng c7)).setCell ⟨w.heap.size + 1, 0, none⟩ (.int .i64 c.fr)).setCell ⟨w.heap.size + 1, 1, none⟩ (.slice Au np cu)).setCell ⟨w.heap.size + 1, 2, none⟩ (.slice Av nv cv)).setCell ⟨w.heap.size + 1, 3, none⟩ (.int .i64 c.mj)).setCell ⟨w.heap.size + 1, 4, none⟩ (.slice A5 nw c5)).setCell ⟨w.heap.size + 1, 5, none⟩ (.slice A7 ng c7)).setCell ⟨w.heap.size + 1, 6, none⟩ (.int .i64 c.se)).setCell ⟨w.heap.size + 1, 7, none⟩ (.int .i64 c.qu)).setCell ⟨w.heap.size + 1, 8, none⟩ (.int .i64 c.qt) = Wf at *
      obtain ⟨x0, x1, x2, x3, x4, x5, x6, x7, x8⟩ := cf_at HRF.out
      refine bodyPost_ret (v := .agg #[.int .i64 c.fr, .slice Au np cu, .slice Av nv cv, .int .i64 c.mj, .slice A5 nw c5, .slice A7 ng c7, .int .i64 c.se, .int .i64 c.qu, .int .i64 c.qt]) (by simp [results, Tryz.results4, go_sem, x0, x1, x2, x3, x4, x5, x6, x7, x8]) rfl ⟨_, _, _, _, rfl, HFF.out⟩
end
end Go.Proofs.YtkaalinoiilmoaaGreat
namespace Go.Proofs.YtkaalinoiilmoaaGreat
open Go.RowKit
set_option linter.unusedVariables false
set_option linter.unusedSimpArgs false
set_option maxRecDepth 100000
structure P9 (w : World) (b1 b2 b3 b4 b5 b6 b7 b8 b9 : Nat) (x1 x2 x3 x4 x5 x6 x7 x8 x9 : List Value) : Prop where
  k1 : Blk w b1 3 x1
  k2 : Blk w b2 3 x2
  k3 : Blk w b3 3 x3
  k4 : Blk w b4 70 x4
  k5 : Blk w b5 3 x5
  k6 : Blk w b6 3 x6
  k7 : Blk w b7 46 x7
  k8 : Blk w b8 82 x8
  k9 : Blk w b9 65 x9
  ord : b1 < b2 ∧ b2 < b3 ∧ b3 < b4 ∧ b4 < b5 ∧ b5 < b6 ∧ b6 < b7 ∧ b7 < b8 ∧ b8 < b9
section
variable {w w' : World} {b1 b2 b3 b4 b5 b6 b7 b8 b9 : Nat} {x1 x2 x3 x4 x5 x6 x7 x8 x9 : List Value}
theorem P9.below (h : P9 w b1 b2 b3 b4 b5 b6 b7 b8 b9 x1 x2 x3 x4 x5 x6 x7 x8 x9) (hb : Below w.heap.size w w') : P9 w' b1 b2 b3 b4 b5 b6 b7 b8 b9 x1 x2 x3 x4 x5 x6 x7 x8 x9 :=
  ⟨h.k1.below hb h.k1.lt, h.k2.below hb h.k2.lt, h.k3.below hb h.k3.lt, h.k4.below hb h.k4.lt, h.k5.below hb h.k5.lt, h.k6.below hb h.k6.lt, h.k7.below hb h.k7.lt, h.k8.below hb h.k8.lt, h.k9.below hb h.k9.lt, h.ord⟩
theorem P9.far (h : P9 w b1 b2 b3 b4 b5 b6 b7 b8 b9 x1 x2 x3 x4 x5 x6 x7 x8 x9) {p : Addr} (hp : p.block < b1 ∨ b9 < p.block) (u : Value) : P9 (w.setCell p u) b1 b2 b3 b4 b5 b6 b7 b8 b9 x1 x2 x3 x4 x5 x6 x7 x8 x9 := by
  obtain ⟨o1, o2, o3, o4, o5, o6, o7, o8⟩ := h.ord
  exact ⟨h.k1.far (show b1 ≠ p.block by omega) u, h.k2.far (show b2 ≠ p.block by omega) u, h.k3.far (show b3 ≠ p.block by omega) u, h.k4.far (show b4 ≠ p.block by omega) u, h.k5.far (show b5 ≠ p.block by omega) u, h.k6.far (show b6 ≠ p.block by omega) u, h.k7.far (show b7 ≠ p.block by omega) u, h.k8.far (show b8 ≠ p.block by omega) u, h.k9.far (show b9 ≠ p.block by omega) u, h.ord⟩
theorem P9.s1 (h : P9 w b1 b2 b3 b4 b5 b6 b7 b8 b9 x1 x2 x3 x4 x5 x6 x7 x8 x9) (k : Nat) (u : Value) : P9 (w.setCell ⟨b1, k, none⟩ u) b1 b2 b3 b4 b5 b6 b7 b8 b9 (x1.set k u) x2 x3 x4 x5 x6 x7 x8 x9 := by
  obtain ⟨o1, o2, o3, o4, o5, o6, o7, o8⟩ := h.ord
  exact ⟨h.k1.set k u, h.k2.far (show b2 ≠ b1 by omega) u, h.k3.far (show b3 ≠ b1 by omega) u, h.k4.far (show b4 ≠ b1 by omega) u, h.k5.far (show b5 ≠ b1 by omega) u, h.k6.far (show b6 ≠ b1 by omega) u, h.k7.far (show b7 ≠ b1 by omega) u, h.k8.far (show b8 ≠ b1 by omega) u, h.k9.far (show b9 ≠ b1 by omega) u, h.ord⟩
theorem P9.s2 (h : P9 w b1 b2 b3 b4 b5 b6 b7 b8 b9 x1 x2 x3 x4 x5 x6 x7 x8 x9) (k : Nat) (u : Value) : P9 (w.setCell ⟨b2, k, none⟩ u) b1 b2 b3 b4 b5 b6 b7 b8 b9 x1 (x2.set k u) x3 x4 x5 x6 x7 x8 x9 := by
  obtain ⟨o1, o2, o3, o4, o5, o6, o7, o8⟩ := h.ord
  exact ⟨h.k1.far (show b1 ≠ b2 by omega) u, h.k2.set k u, h.k3.far (show b3 ≠ b2 by omega) u, h.k4.far (show b4 ≠ b2 by omega) u, h.k5.far (show b5 ≠ b2 by omega) u, h.k6.far (show b6 ≠ b2 by omega) u, h.k7.far (show b7 ≠ b2 by omega) u, h.k8.far (show b8 ≠ b2 by omega) u, h.k9.far (show b9 ≠ b2 by omega) u, h.ord⟩
theorem P9.s3 (h : P9 w b1 b2 b3 b4 b5 b6 b7 b8 b9 x1 x2 x3 x4 x5 x6 x7 x8 x9) (k : Nat) (u : Value) : P9 (w.setCell ⟨b3, k, none⟩ u) b1 b2 b3 b4 b5 b6 b7 b8 b9 x1 x2 (x3.set k u) x4 x5 x6 x7 x8 x9 := by
  obtain ⟨o1, o2, o3, o4, o5, o6, o7, o8⟩ := h.ord
  exact ⟨h.k1.far (show b1 ≠ b3 by omega) u, h.k2.far (show b2 ≠ b3 by omega) u, h.k3.set k u, h.k4.far (show b4 ≠ b3 by omega) u, h.k5.far (show b5 ≠ b3 by omega) u, h.k6.far (show b6 ≠ b3 by omega) u, h.k7.far (show b7 ≠ b3 by omega) u, h.k8.far (show b8 ≠ b3 by omega) u, h.k9.far (show b9 ≠ b3 by omega) u, h.ord⟩
theorem P9.s4 (h : P9 w b1 b2 b3 b4 b5 b6 b7 b8 b9 x1 x2 x3 x4 x5 x6 x7 x8 x9) (k : Nat) (u : Value) : P9 (w.setCell ⟨b4, k, none⟩ u) b1 b2 b3 b4 b5 b6 b7 b8 b9 x1 x2 x3 (x4.set k u) x5 x6 x7 x8 x9 := by
  obtain ⟨o1, o2, o3, o4, o5, o6, o7, o8⟩ := h.ord
  exact ⟨h.k1.far (show b1 ≠ b4 by omega) u, h.k2.far (show b2 ≠ b4 by omega) u, h.k3.far (show b3 ≠ b4 by omega) u, h.k4.set k u, h.k5.far (show b5 ≠ b4 by omega) u, h.k6.far (show b6 ≠ b4 by omega) u, h.k7.far (show b7 ≠ b4 by omega) u, h.k8.far (show b8 ≠ b4 by omega) u, h.k9.far (show b9 ≠ b4 by omega) u, h.ord⟩
theorem P9.s5 (h : P9 w b1 b2 b3 b4 b5 b6 b7 b8 b9 x1 x2 x3 x4 x5 x6 x7 x8 x9) (k : Nat) (u : Value) : P9 (w.setCell ⟨b5, k, none⟩ u) b1 b2 b3 b4 b5 b6 b7 b8 b9 x1 x2 x3 x4 (x5.set k u) x6 x7 x8 x9 := by
  obtain ⟨o1, o2, o3, o4, o5, o6, o7, o8⟩ := h.ord
  exact ⟨h.k1.far (show b1 ≠ b5 by omega) u, h.k2.far (show b2 ≠ b5 by omega) u, h.k3.far (show b3 ≠ b5 by omega) u, h.k4.far (show b4 ≠ b5 by omega) u, h.k5.set k u, h.k6.far (show b6 ≠ b5 by omega) u, h.k7.far (show b7 ≠ b5 by omega) u, h.k8.far (show b8 ≠ b5 by omega) u, h.k9.far (show b9 ≠ b5 by omega) u, h.ord⟩
theorem P9.s6 (h : P9 w b1 b2 b3 b4 b5 b6 b7 b8 b9 x1 x2 x3 x4 x5 x6 x7 x8 x9) (k : Nat) (u : Value) : P9 (w.setCell ⟨b6, k, none⟩ u) b1 b2 b3 b4 b5 b6 b7 b8 b9 x1 x2 x3 x4 x5 (x6.set k u) x7 x8 x9 := by
  obtain ⟨o1, o2, o3, o4, o5, o6, o7, o8⟩ := h.ord
  exact ⟨h.k1.far (show b1 ≠ b6 by omega) u, h.k2.far (show b2 ≠ b6 by omega) u, h.k3.far (show b3 ≠ b6 by omega) u, h.k4.far (show b4 ≠ b6 by omega) u, h.k5.far (show b5 ≠ b6 by omega) u, h.k6.set k u, h.k7.far (show b7 ≠ b6 by omega) u, h.k8.far (show b8 ≠ b6 by omega) u, h.k9.far (show b9 ≠ b6 by omega) u, h.ord⟩
theorem P9.s7 (h : P9 w b1 b2 b3 b4 b5 b6 b7 b8 b9 x1 x2 x3 x4 x5 x6 x7 x8 x9) (k : Nat) (u : Value) : P9 (w.setCell ⟨b7, k, none⟩ u) b1 b2 b3 b4 b5 b6 b7 b8 b9 x1 x2 x3 x4 x5 x6 (x7.set k u) x8 x9 := by
  obtain ⟨o1, o2, o3, o4, o5, o6, o7, o8⟩ := h.ord
  exact ⟨h.k1.far (show b1 ≠ b7 by omega) u, h.k2.far (show b2 ≠ b7 by omega) u, h.k3.far (show b3 ≠ b7 by omega) u, h.k4.far (show b4 ≠ b7 by omega) u, h.k5.far (show b5 ≠ b7 by omega) u, h.k6.far (show b6 ≠ b7 by omega) u, h.k7.set k u, h.k8.far (show b8 ≠ b7 by omega) u, h.k9.far (show b9 ≠ b7 by omega) u, h.ord⟩
theorem P9.s8 (h : P9 w b1 b2 b3 b4 b5 b6 b7 b8 b9 x1 x2 x3 x4 x5 x6 x7 x8 x9) (k : Nat) (u : Value) : P9 (w.setCell ⟨b8, k, none⟩ u) b1 b2 b3 b4 b5 b6 b7 b8 b9 x1 x2 x3 x4 x5 x6 x7 (x8.set k u) x9 := by
  obtain ⟨o1, o2, o3, o4, o5, o6, o7, o8⟩ := h.ord
  exact ⟨h.k1.far (show b1 ≠ b8 by omega) u, h.k2.far (show b2 ≠ b8 by omega) u, h.k3.far (show b3 ≠ b8 by omega) u, h.k4.far (show b4 ≠ b8 by omega) u, h.k5.far (show b5 ≠ b8 by omega) u, h.k6.far (show b6 ≠ b8 by omega) u, h.k7.far (show b7 ≠ b8 by omega) u, h.k8.set k u, h.k9.far (show b9 ≠ b8 by omega) u, h.ord⟩
theorem P9.s9 (h : P9 w b1 b2 b3 b4 b5 b6 b7 b8 b9 x1 x2 x3 x4 x5 x6 x7 x8 x9) (k : Nat) (u : Value) : P9 (w.setCell ⟨b9, k, none⟩ u) b1 b2 b3 b4 b5 b6 b7 b8 b9 x1 x2 x3 x4 x5 x6 x7 x8 (x9.set k u) := by
  obtain ⟨o1, o2, o3, o4, o5, o6, o7, o8⟩ := h.ord
  exact ⟨h.k1.far (show b1 ≠ b9 by omega) u, h.k2.far (show b2 ≠ b9 by omega) u, h.k3.far (show b3 ≠ b9 by omega) u, h.k4.far (show b4 ≠ b9 by omega) u, h.k5.far (show b5 ≠ b9 by omega) u, h.k6.far (show b6 ≠ b9 by omega) u, h.k7.far (show b7 ≠ b9 by omega) u, h.k8.far (show b8 ≠ b9 by omega) u, h.k9.set k u, h.ord⟩
end
def Rw (w : World) (v : Value) (l : List Int) : Prop := ∃ A c, v = .slice A l.length c ∧ Sl w v l.length 1 (ints l) ∧ (A = none → c = 0)
theorem Sl.blk {w : World} {b n cap size : Nat} {T : TypeId} {xs ys : List Value} (h : Blk w b T (xs ++ ys)) (hc : n ≤ cap) (hl : xs.length = n * size) : Sl w (.slice (some ⟨b, 0, none⟩) n cap) n size xs :=
  ⟨_, cap, rfl, hc, hl, fun h0 => ⟨b, 0, rfl, h.lt, fun j u hu => by
    rw [Nat.zero_add, h.cell, List.getElem?_append_left (by have := (List.getElem?_eq_some_iff.1 hu).1; exact this)]
    exact hu⟩⟩
theorem Sl.blk0 {w : World} {b n cap size : Nat} {T : TypeId} {xs : List Value} (h : Blk w b T xs) (hc : n ≤ cap) (hl : xs.length = n * size) : Sl w (.slice (some ⟨b, 0, none⟩) n cap) n size xs :=
  Sl.blk (ys := []) (by rw [List.append_nil]; exact h) hc hl
theorem Rw.blk {w : World} {b cap : Nat} {T : TypeId} {l : List Int} (h : Blk w b T (ints l)) (hc : l.length ≤ cap) : Rw w (.slice (some ⟨b, 0, none⟩) l.length cap) l :=
  ⟨_, cap, rfl, Sl.blk0 h hc (by rw [ints_len]; omega), fun e => by cases e⟩
theorem Rw.nil (w : World) : Rw w (.slice none 0 0) [] := ⟨_, _, rfl, ⟨none, 0, rfl, Nat.le_refl _, rfl, fun h => absurd h (by simp)⟩, fun _ => rfl⟩
theorem all3 {α : Type} {p : α → Prop} {a b c : α} (h1 : p a) (h2 : p b) (h3 : p c) : ∀ x ∈ [a, b, c], p x := by
  intro x hx
  simp only [List.mem_cons, List.not_mem_nil, or_false] at hx
  rcases hx with rfl | rfl | rfl
  · exact h1
  · exact h2
  · exact h3
theorem all2 {α : Type} {p : α → Prop} {a b : α} (h1 : p a) (h2 : p b) : ∀ x ∈ [a, b], p x := by
  intro x hx
  simp only [List.mem_cons, List.not_mem_nil, or_false] at hx
  rcases hx with rfl | rfl
  · exact h1
  · exact h2
theorem PaS.blk {w : World} {b n cap : Nat} {L : List (Pa × Value)} {l : List Pa} (e : L.map (·.1) = l) (hn : n = l.length) (h : Blk w b 70 (pcl L)) (hf : ∀ x ∈ L, Rw w x.2 x.1.fr) : PaS w (.slice (some ⟨b, 0, none⟩) n cap) l := by
  subst hn
  have hl : l.length = L.length := by rw [← e, List.length_map]
  refine ⟨_, cap, rfl, fun h0 => ⟨b, 0, rfl, h.lt, fun i hi => ?_⟩⟩
  have hi' : i < L.length := by omega
  obtain ⟨h0, h1, h2, h3, h4⟩ := pcl_get L i hi'
  have hg : l.getD i paD = L[i].1 := by
    subst e
    simp [List.getD, List.getElem?_map, List.getElem?_eq_getElem hi']
  obtain ⟨A2, c2, e2, hs, hnl⟩ := hf _ (List.getElem_mem hi')
  rw [hg]
  rw [e2] at h2 hs
  simp only [Nat.zero_add]
  exact ⟨A2, c2, (h.cell _).trans h0, (h.cell _).trans h1, (h.cell _).trans h2, (h.cell _).trans h3, (h.cell _).trans h4, hs, hnl⟩
theorem PaS.nil (w : World) : PaS w (.slice none 0 0) [] := ⟨none, 0, rfl, fun h => absurd h (by simp)⟩
theorem DeS.blk {w : World} {b n cap : Nat} {L : List (De × Value)} {l : List De} (e : L.map (·.1) = l) (hn : n = l.length) (h : Blk w b 46 (dcl L)) (hf : ∀ x ∈ L, Rw w x.2 x.1.po) : DeS w (.slice (some ⟨b, 0, none⟩) n cap) l := by
  subst hn
  have hl : l.length = L.length := by rw [← e, List.length_map]
  refine ⟨_, cap, rfl, fun h0 => ⟨b, 0, rfl, h.lt, fun i hi => ?_⟩⟩
  have hi' : i < L.length := by omega
  obtain ⟨h0, h1⟩ := dcl_get L i hi'
  have hg : l.getD i deD = L[i].1 := by
    subst e
    simp [List.getD, List.getElem?_map, List.getElem?_eq_getElem hi']
  obtain ⟨A2, c2, e2, hs, hnl⟩ := hf _ (List.getElem_mem hi')
  rw [hg]
  rw [e2] at h1 hs
  simp only [Nat.zero_add]
  exact ⟨A2, c2, (h.cell _).trans h0, (h.cell _).trans h1, hs, hnl⟩
theorem DeS.nil (w : World) : DeS w (.slice none 0 0) [] := ⟨none, 0, rfl, fun h => absurd h (by simp)⟩
theorem Ws.nil (w : World) : Ws w (.slice none 0 0) 0 [] := ⟨⟨none, 0, rfl, Nat.le_refl _, rfl, fun h => absurd h (by simp)⟩, rfl, by unfold maxLen; omega, fun x hx => by cases hx⟩
theorem paz_of {l : List Pa} (hl : l.length ≤ 1000) (h : ∀ x ∈ l, x.fr.length ≤ 1000) : PaZ l := by
  refine ⟨by omega, fun i => ?_⟩
  by_cases hi : i < l.length
  · have := h _ (List.getElem_mem hi)
    simp only [List.getD, List.getElem?_eq_getElem hi, Option.getD_some]; omega
  · simp [List.getD, List.getElem?_eq_none (show l.length ≤ i by omega), paD]
theorem dez_of {l : List De} (hl : l.length ≤ 1000) (h : ∀ x ∈ l, x.po.length ≤ 1000) : DeZ l := by
  refine ⟨by omega, fun i => ?_⟩
  by_cases hi : i < l.length
  · have := h _ (List.getElem_mem hi)
    simp only [List.getD, List.getElem?_eq_getElem hi, Option.getD_some]; omega
  · simp [List.getD, List.getElem?_eq_none (show l.length ≤ i by omega), deD]
theorem some_nil {a : Addr} {n c : Nat} : ∀ m k, Value.slice (some a) n c = .slice none m k → k = 0 := fun m k e => by cases e
def plL (b1 b2 b3 : Nat) : List (Pa × Value) := [(⟨0, 0, [0, 1, 2], 0, 4⟩, .slice (some ⟨b1, 0, none⟩) 3 3), (⟨2, 0, [3, 4], 4, 4⟩, .slice (some ⟨b2, 0, none⟩) 2 2), (⟨1, 2, [5, 6], 8, 2⟩, .slice (some ⟨b3, 0, none⟩) 2 2)]
def plM (b5 b6 : Nat) : List (De × Value) := [(⟨0, [8, 9, 10]⟩, .slice (some ⟨b5, 0, none⟩) 3 3), (⟨2, [11, 12]⟩, .slice (some ⟨b6, 0, none⟩) 2 2)]
def plW : List Win := [⟨0, 0, 2, 1⟩, ⟨1, 2, 2, 2⟩, ⟨2, 4, 2, 5⟩]
def plG : List Gr := [⟨2, 2, false⟩]
def plP : List Pa := [⟨0, 0, [0, 1, 2], 0, 4⟩, ⟨2, 0, [3, 4], 4, 4⟩, ⟨1, 2, [5, 6], 8, 2⟩]
def plD_Ch3 : List De := [⟨0, [8, 9, 10]⟩, ⟨2, [11, 12]⟩]
def plC : Cf := ⟨16, plP, plD_Ch3, 6, plW, plG, 10, 6, 2⟩
theorem plW64 : ∀ x ∈ plW, W64 x := all3 (by unfold W64; simp) (by unfold W64; simp) (by unfold W64; simp)
abbrev Pl9 (w : World) (b1 b2 b3 b4 b5 b6 b7 b8 b9 : Nat) : Prop := P9 w b1 b2 b3 b4 b5 b6 b7 b8 b9 (ints [0, 1, 2]) (ints [3, 4]) (ints [5, 6]) (pcl (plL b1 b2 b3)) (ints [8, 9, 10]) (ints [11, 12]) (dcl (plM b5 b6)) (ints (wins plW)) (grs plG)
theorem paz_pl : PaZ plP := paz_of (by decide) (all3 (by decide) (by decide) (by decide))
theorem dez_pl : DeZ plD_Ch3 := dez_of (by decide) (all2 (by decide) (by decide))
section
variable {w : World} {b1 b2 b3 b4 b5 b6 b7 b8 b9 : Nat} {x1 x2 x3 x4 x5 x6 x7 x8 x9 : List Value}
theorem P9.ps (h : P9 w b1 b2 b3 b4 b5 b6 b7 b8 b9 (ints [0, 1, 2]) (ints [3, 4]) (ints [5, 6]) (pcl (plL b1 b2 b3)) x5 x6 x7 x8 x9) : PaS w (.slice (some ⟨b4, 0, none⟩) 3 3) plP := PaS.blk rfl rfl h.k4 (all3 (Rw.blk h.k1 (by decide)) (Rw.blk h.k2 (by decide)) (Rw.blk h.k3 (by decide)))
theorem P9.ds (h : P9 w b1 b2 b3 b4 b5 b6 b7 b8 b9 x1 x2 x3 x4 (ints [8, 9, 10]) (ints [11, 12]) (dcl (plM b5 b6)) x8 x9) : DeS w (.slice (some ⟨b7, 0, none⟩) 2 2) plD_Ch3 := DeS.blk rfl rfl h.k7 (all2 (Rw.blk h.k5 (by decide)) (Rw.blk h.k6 (by decide)))
theorem P9.ws (h : P9 w b1 b2 b3 b4 b5 b6 b7 b8 b9 x1 x2 x3 x4 x5 x6 x7 (ints (wins plW)) x9) : Ws w (.slice (some ⟨b8, 0, none⟩) 3 3) 3 plW := ⟨Sl.blk0 h.k8 (by decide) rfl, rfl, by unfold maxLen; omega, plW64⟩
theorem P9.gs (h : P9 w b1 b2 b3 b4 b5 b6 b7 b8 b9 x1 x2 x3 x4 x5 x6 x7 x8 (grs plG)) : Sl w (.slice (some ⟨b9, 0, none⟩) 1 1) 1 3 (grs plG) := Sl.blk0 h.k9 (by decide) rfl
theorem Pl9.cf (h : Pl9 w b1 b2 b3 b4 b5 b6 b7 b8 b9) : CfAt w (.slice (some ⟨b4, 0, none⟩) 3 3) (.slice (some ⟨b7, 0, none⟩) 2 2) (.slice (some ⟨b8, 0, none⟩) 3 3) (.slice (some ⟨b9, 0, none⟩) 1 1) plC :=
  ⟨P9.ps h, paz_pl, P9.ds h, dez_pl, P9.ws h, by decide, some_nil, P9.gs h, by decide, some_nil⟩
end
def PlainIs (w : World) (e : Ending) (w' : World) : Prop := ∃ b1 b2 b3 b4 b5 b6 b7 b8 b9, e = .returned (.agg #[.int .i64 16, .slice (some ⟨b4, 0, none⟩) 3 3, .slice (some ⟨b7, 0, none⟩) 2 2, .int .i64 6, .slice (some ⟨b8, 0, none⟩) 3 3, .slice (some ⟨b9, 0, none⟩) 1 1, .int .i64 10, .int .i64 6, .int .i64 2]) ∧ Pl9 w' b1 b2 b3 b4 b5 b6 b7 b8 b9 ∧ w.heap.size ≤ b1 ∧ b9 < w'.heap.size ∧ Below w.heap.size w w'
end Go.Proofs.YtkaalinoiilmoaaGreat
