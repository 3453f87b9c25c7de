/-
  Slices of parts, whole: read, and copied (caissonlaw0.CopyParts).
-/
import Derived.Test.YtamhnnkmjhapmaaEx0
import Derived.Test.YtamhnnkmjhapmaaApn
import Derived.Test.YtamhnnkmjhapmaaOb
import Derived.Test.YtamhnnkmjhapmaaChecked
namespace Go.Proofs.Ytamhnnkmjhapmaa
open Go.RowKit
set_option linter.unusedVariables false
set_option linter.unusedSimpArgs false
set_option maxRecDepth 100000

/-- A part: its label, its frames, its sectors. -/
structure Pa where
  lv : Int
  ct : Int
  fr : List Int
  fi : Int
  co : Int
def paD : Pa := ⟨0, 0, [], 0, 0⟩
def Pa.fc (p : Pa) : Int × Int := (p.fi, p.co)
theorem fc_getD (l : List Pa) (i : Nat) : (l.map Pa.fc).getD i (0, 0) = (l.getD i paD).fc := by
  simp only [List.getD, List.getElem?_map]
  cases l[i]? <;> rfl

/-- A part at a place in memory. -/
def PaAt (w : World) (b a : Nat) (p : Pa) : Prop := ∃ A2 c2, w.cell? ⟨b, a, none⟩ = some (.int .i64 p.lv) ∧ w.cell? ⟨b, a + 1, none⟩ = some (.int .i64 p.ct) ∧ w.cell? ⟨b, a + 2, none⟩ = some (.slice A2 p.fr.length c2) ∧
  w.cell? ⟨b, a + 3, none⟩ = some (.int .i64 p.fi) ∧ w.cell? ⟨b, a + 4, none⟩ = some (.int .i64 p.co) ∧ Sl w (.slice A2 p.fr.length c2) p.fr.length 1 (ints p.fr) ∧ (A2 = none → c2 = 0)
theorem PaAt.below {w w' : World} {b a : Nat} {p : Pa} (h : PaAt w b a p) (hb : Below w.heap.size w w') (hlt : b < w.heap.size) : PaAt w' b a p := by
  have g := fun x => hb.cell (p := ⟨b, x, none⟩) hlt
  obtain ⟨A2, c2, h0, h1, h2, h3, h4, h5, h6⟩ := h
  exact ⟨A2, c2, (g _).trans h0, (g _).trans h1, (g _).trans h2, (g _).trans h3, (g _).trans h4, h5.below hb, h6⟩
/-- A slice of parts. -/
def PaS (w : World) (v : Value) (l : List Pa) : Prop :=
  ∃ A cap, v = .slice A l.length cap ∧ (0 < l.length → ∃ b o, A = some ⟨b, o, none⟩ ∧ b < w.heap.size ∧ ∀ i, i < l.length → PaAt w b (o + i * 5) (l.getD i paD))
/-- .. no larger than any that comes in. -/
def PaZ (l : List Pa) : Prop := l.length * 56 ≤ 140737488351232 ∧ ∀ i, (l.getD i paD).fr.length * 8 ≤ 140737488351232
theorem PaS.below {w w' : World} {v : Value} {l : List Pa} (h : PaS w v l) (hb : Below w.heap.size w w') : PaS w' v l := by
  obtain ⟨A, cap, hv, hA⟩ := h
  refine ⟨A, cap, hv, fun h0 => ?_⟩
  obtain ⟨b, o, e, hlt, hi⟩ := hA h0
  exact ⟨b, o, e, Nat.lt_of_lt_of_le hlt hb.size, fun i hi' => (hi i hi').below hb hlt⟩
theorem PaS.pts {w : World} {v : Value} {l : List Pa} (h : PaS w v l) (hz : PaZ l) : PtS w v (l.map Pa.fc) := by
  obtain ⟨A, cap, hv, hA⟩ := h
  have hz1 := hz.1
  refine ⟨A, cap, by rw [hv, List.length_map], by rw [List.length_map]; unfold maxLen; omega, fun h0 => ?_⟩
  rw [List.length_map] at h0
  obtain ⟨b, o, e, hlt, hi⟩ := hA h0
  refine ⟨b, o, e, hlt, fun i hi' => ?_⟩
  rw [List.length_map] at hi'
  rw [fc_getD]
  obtain ⟨A2, c2, h0, h1, h2, h3, h4, _⟩ := hi i hi'
  exact ⟨_, _, A2, _, c2, h0, h1, h2, h3, h4⟩

/-- A part's cells, its frames' slice given. -/
def pac (x : Pa × Value) : List Value := [.int .i64 x.1.lv, .int .i64 x.1.ct, x.2, .int .i64 x.1.fi, .int .i64 x.1.co]
def pcl (L : List (Pa × Value)) : List Value := L.flatMap pac
theorem pcl_len (L : List (Pa × Value)) : (pcl L).length = L.length * 5 := by
  induction L with
  | nil => rfl
  | cons x L ih => simp only [pcl, List.flatMap_cons, List.length_append, List.length_cons] at ih ⊢; rw [ih]; simp [pac]; omega
theorem pcl_append (L M : List (Pa × Value)) : pcl (L ++ M) = pcl L ++ pcl M := by simp [pcl, List.flatMap_append]
theorem pcl_one (x : Pa × Value) : pcl [x] = pac x := by simp [pcl]
theorem pcl_get (L : List (Pa × Value)) : ∀ i (h : i < L.length), (pcl L)[i * 5]? = some (.int .i64 L[i].1.lv) ∧ (pcl L)[i * 5 + 1]? = some (.int .i64 L[i].1.ct) ∧ (pcl L)[i * 5 + 2]? = some L[i].2 ∧ (pcl L)[i * 5 + 3]? = some (.int .i64 L[i].1.fi) ∧ (pcl L)[i * 5 + 4]? = some (.int .i64 L[i].1.co) := by
  induction L with
  | nil => intro i h; simp at h
  | cons p L ih =>
    intro i h
    have e : pcl (p :: L) = pac p ++ pcl L := by simp [pcl]
    match i with
    | 0 => rw [e]; simp [pac]
    | i + 1 =>
      have := ih i (by simpa using h)
      have hp : (pac p).length = 5 := rfl
      rw [e, List.getElem?_append_right (by omega), List.getElem?_append_right (by omega), List.getElem?_append_right (by omega), List.getElem?_append_right (by omega), List.getElem?_append_right (by omega), hp]
      rw [show (i + 1) * 5 - 5 = i * 5 by omega, show (i + 1) * 5 + 1 - 5 = i * 5 + 1 by omega, show (i + 1) * 5 + 2 - 5 = i * 5 + 2 by omega, show (i + 1) * 5 + 3 - 5 = i * 5 + 3 by omega, show (i + 1) * 5 + 4 - 5 = i * 5 + 4 by omega]
      simpa using this

/-- A slice of parts whose memory is its own, the frames' too. -/
def PaO (w : World) (B : Nat) (v : Value) (l : List Pa) : Prop :=
  ∃ L : List (Pa × Value), L.map (·.1) = l ∧ w.ownsRow B 40 5 v L.length (pcl L) ∧ ∀ x ∈ L, w.ownsRow B 3 1 x.2 x.1.fr.length (ints x.1.fr)
theorem PaO.below {w w' : World} {B : Nat} {v : Value} {l : List Pa} (h : PaO w B v l) (hb : Below w.heap.size w w') : PaO w' B v l := by
  obtain ⟨L, e, ho, hf⟩ := h
  exact ⟨L, e, own_below ho hb, fun x hx => own_below (hf x hx) hb⟩
theorem own_nilcap {w : World} {B n : Nat} {e : TypeId} {size : Nat} {v : Value} {xs : List Value} (h : w.ownsRow B e size v n xs) : ∃ A c, v = .slice A n c ∧ (A = none → c = 0) := by
  rcases h.2 with ⟨rfl, rfl⟩ | ⟨g, cap, cur, rfl, _⟩
  · exact ⟨none, 0, rfl, fun _ => rfl⟩
  · exact ⟨_, cap, rfl, fun e => by cases e⟩
theorem PaO.pas {w : World} {B : Nat} {v : Value} {l : List Pa} (h : PaO w B v l) : PaS w v l := by
  obtain ⟨L, e, ho, hf⟩ := h
  have hl : l.length = L.length := by rw [← e, List.length_map]
  obtain ⟨A, cap, hv, hc, hxl, hA⟩ := Sl.own ho
  refine ⟨A, cap, by rw [hl]; exact hv, fun h0 => ?_⟩
  obtain ⟨b, o, e', hlt, hcell⟩ := hA (by omega)
  refine ⟨b, o, e', hlt, fun i hi => ?_⟩
  have hi' : i < L.length := by omega
  obtain ⟨h0, h1, h2, h3, h4⟩ := pcl_get L i hi'
  have hg : l.getD i paD = L[i].1 := by
    subst e
    simp [List.getD, List.getElem?_map, List.getElem?_eq_getElem hi']
  have hr := hf _ (List.getElem_mem hi')
  obtain ⟨A2, c2, e2, hn⟩ := own_nilcap hr
  rw [hg]
  rw [e2] at h2
  refine ⟨A2, c2, hcell _ _ h0, ?_, ?_, ?_, ?_, by rw [← e2]; exact Sl.own hr, hn⟩
  · have := hcell _ _ h1; simpa [Nat.add_assoc] using this
  · have := hcell _ _ h2; simpa [Nat.add_assoc] using this
  · have := hcell _ _ h3; simpa [Nat.add_assoc] using this
  · have := hcell _ _ h4; simpa [Nat.add_assoc] using this

theorem infoPart : (Try.prog.info? 40).map (fun i => (i.zero, i.size, i.bytes)) = some (some (.agg #[.int .i64 0, .int .i64 0, .slice none 0 0, .int .i64 0, .int .i64 0]), 5, 56) := by kernel_rfl
theorem infoInP : (Try.prog.info? 3).map (fun i => (i.zero, i.size, i.bytes)) = some (some (.int .i64 0), 1, 8) := by kernel_rfl
theorem ints_oneP (fs : List Int) : ∀ u ∈ ints fs, u.oneCell' = true := by intro u hu; obtain ⟨x, _, rfl⟩ := List.mem_map.1 hu; rfl

/-- What the copying loop keeps. -/
def CpP (w : World) (l : List Pa) (k : Nat) (v : Value) (wr : World) : Prop := PaO wr w.heap.size v (l.take k) ∧ Below w.heap.size w wr

set_option maxHeartbeats 4000000 in
theorem copy_parts (u : Value) (l : List Pa) (w : World) (h : PaS w u l) (hz : PaZ l) :
    Calls Try.prog 19 #[u] w fun e w' => ∃ u', e = .returned u' ∧ PaO w' w.heap.size u' l ∧ Below w.heap.size w w' := by
  obtain ⟨A, cap, rfl, hA⟩ := h
  obtain ⟨n, hl⟩ : ∃ n, l.length = n := ⟨_, rfl⟩
  have HL := Lib.hid hl
  obtain ⟨hz1, hz2⟩ := hz
  rw [hl] at hA hz1 ⊢
  have HA := Lib.hid hA; have HZ := Lib.hid hz2
  obtain ⟨i0, hi, hy0, hy1, hy2⟩ := info_parts infoPart
  have HI := Lib.hid hi; have HY0 := Lib.hid hy0; have HY1 := Lib.hid hy1; have HY2 := Lib.hid hy2
  obtain ⟨j0, hj, hj0, hj1, hj2⟩ := info_parts infoInP
  have HJ := Lib.hid hj; have HJ0 := Lib.hid hj0; have HJ1 := Lib.hid hj1; have HJ2 := Lib.hid hj2
  clear hi hy0 hy1 hy2 hj hj0 hj1 hj2 hA hz2 hl
  go_enter Try.func19, Try.ntmps19
  go_wp2_with fail
  go_loopw [3, 4] (fun x i wr => ∃ (k : Nat) (v : Value), k ≤ n ∧ v = x ∧ i = .int .i64 k ∧ Hid (CpP w l k v wr)) (fun _ i _ => n - (intOf i).toNat)
  case atStart => exact ⟨0, _, by omega, rfl, rfl, Lib.hid ⟨⟨[], by simp, World.ownsRow_nil _ _ _ _, fun x hx => by cases hx⟩, Below.refl _ _⟩⟩
  case round =>
    obtain ⟨k, v, hk, rfl, rfl, H⟩ := hrel
    by_cases hlt : k < n
    · obtain ⟨b, o, rfl, hb, hat⟩ := HA.out (by omega)
      have hp := hat k hlt
      obtain ⟨hO, hB⟩ := H.out
      have hf8 := HZ.out k
      have htk : l.take (k + 1) = l.take k ++ [l.getD k paD] := by
        rw [List.take_add_one, List.getElem?_eq_getElem (by rw [HL.out]; exact hlt)]
        simp [List.getD, List.getElem?_eq_getElem (show k < l.length by rw [HL.out]; exact hlt)]
      have HTK := Lib.hid htk
      clear htk hat
      generalize l.getD k paD = p at *
      obtain ⟨lv, ct, fr, fi, co⟩ := p
      obtain ⟨A2, c2, q0, q1, q2, q3, q4, hsl, hnil⟩ := hp
      simp only at q0 q1 q2 q3 q4 hsl hf8
      have g := fun x => hB.cell (p := ⟨b, x, none⟩) hb
      rw [← g] at q0 q1 q2 q3 q4
      have hsl := hsl.below hB
      have hws := hB.size
      have HO := Lib.hid hO; have HB := Lib.hid hB
      have hmade : ((wr.alloc (.cells #[.int .i64 lv, .int .i64 ct, .slice A2 fr.length c2, .int .i64 fi, .int .i64 co] 40)).alloc (.cells #[] 3)).ownsRow w.heap.size 3 1 (.slice (some ⟨wr.heap.size + 1, 0, none⟩) 0 0) 0 [] := by
        have := World.ownsRow_made (wr.alloc (.cells #[.int .i64 lv, .int .i64 ct, .slice A2 fr.length c2, .int .i64 fi, .int .i64 co] 40)) (e := 3) (size := 1) #[] 0 (Nat.le_refl _) (Nat.zero_le _) rfl
        rw [show (wr.alloc (.cells #[.int .i64 lv, .int .i64 ct, .slice A2 fr.length c2, .int .i64 fi, .int .i64 co] 40)).heap.size = wr.heap.size + 1 by simp] at this
        exact own_floor this (fun x hx => by simp [Value.ownBlock] at hx; omega)
      have HM := Lib.hid hmade
      have HS := Lib.hid ((hsl.below ((Below.refl _ wr).alloc (Nat.le_refl _) (.cells #[.int .i64 lv, .int .i64 ct, .slice A2 fr.length c2, .int .i64 fi, .int .i64 co] 40))).below ((Below.refl _ (wr.alloc (.cells #[.int .i64 lv, .int .i64 ct, .slice A2 fr.length c2, .int .i64 fi, .int .i64 co] 40))).alloc (Nat.le_refl _) (.cells #[] 3)))
      have HN : Hid (∀ k c, Value.slice A2 fr.length c2 = .slice none k c → c = 0) := Lib.hid (by
        intro k c e; simp only [Value.slice.injEq] at e; rw [← e.2.2]; exact hnil e.1)
      have H1 := Lib.hid (ints_oneP fr)
      have hBlk := ((Blk.new wr 40 [.int .i64 lv, .int .i64 ct, .slice A2 fr.length c2, .int .i64 fi, .int .i64 co]).alloc (.cells #[] 3))
      have HBK := Lib.hid hBlk
      clear hmade hsl hnil hO hB g H hBlk
      go_wp2_with (at_builtin; refine wpList_append_sl rfl _ _ 38 rfl w.heap.size 3 j0 _ 1 8 Try.underlying38 HJ.out HJ0.out HJ1.out HJ2.out rfl (by decide) _ 0 [] rfl HM.out _ fr.length (ints fr) rfl HS.out HN.out H1.out (by unfold maxLen; omega) (by omega) (by simp; omega) ?_)
      intro v1 w1 ho hg
      rw [show (Value.slice (some ⟨wr.heap.size + 1, 0, none⟩) 0 0).ownBlock = some (wr.heap.size + 1) from rfl] at hg
      have hb1 := HBK.out.grown hg (by intro e; injection e with e; omega)
      have bW1 : Below wr.heap.size wr w1 := (((Below.refl _ wr).alloc (Nat.le_refl _) _).alloc (by simp) _).grown hg (by simp; omega) (fun x hx => by injection hx with hx; omega)
      have bW : Below wr.heap.size wr (w1.setCell ⟨wr.heap.size, 2, none⟩ v1) := bW1.setCell (p := ⟨wr.heap.size, 2, none⟩) (Nat.le_refl _) _
      have hne := own_apart_blk ho hb1 (by decide)
      have ho' : (w1.setCell ⟨wr.heap.size, 2, none⟩ v1).ownsRow w.heap.size 3 1 v1 fr.length (ints fr) :=
        own_stay ho (fun x hx => Below.heap_setCell w1 ⟨wr.heap.size, 2, none⟩ v1 x (by intro e; subst e; exact hne hx))
      have hb2 : Blk (w1.setCell ⟨wr.heap.size, 2, none⟩ v1) wr.heap.size 40 [.int .i64 lv, .int .i64 ct, v1, .int .i64 fi, .int .i64 co] := hb1.set 2 v1
      have hfz := hb1.frozen 2
      have c0 := hb2.cell 0
      have c1 := hb2.cell 1
      have c2' := hb2.cell 2
      have c3 := hb2.cell 3
      have c4 := hb2.cell 4
      have cx := hb1.cell 2
      simp only [List.getElem?_cons_zero, List.getElem?_cons_succ] at c0 c1 c2' c3 c4 cx
      obtain ⟨L, hL, hrow, hfs⟩ := HO.out.below bW
      have hLl : L.length = k := by
        have := congrArg List.length hL
        rw [List.length_map, List.length_take, HL.out] at this
        omega
      have HNW : Hid (∀ j u, (pac (⟨lv, ct, fr, fi, co⟩, v1))[j]? = some u → ((w1.setCell ⟨wr.heap.size, 2, none⟩ v1).alloc (.cells (pac (⟨lv, ct, fr, fi, co⟩, v1)).toArray 40)).cell? ((⟨w1.heap.size, 0, none⟩ : Addr).add j) = some u) := Lib.hid (by
        have := row_new (w1.setCell ⟨wr.heap.size, 2, none⟩ v1) (pac (⟨lv, ct, fr, fi, co⟩, v1)) 40
        rw [show (w1.setCell ⟨wr.heap.size, 2, none⟩ v1).heap.size = w1.heap.size by simp [World.setCell]] at this
        exact this)
      obtain ⟨A1, c1', rfl, _⟩ := own_nilcap ho
      have HLL := Lib.hid hLl
      have HO1 := Lib.hid ho'; have HROW := Lib.hid hrow; have HFS := Lib.hid hfs; have HLM := Lib.hid hL
      have BW := Lib.hid bW
      have hws1 := bW1.size
      have hws2 := bW.size
      clear ho ho' hrow hfs hL bW bW1 hb1 hb2 hne hg HBK HM HS HN H1 HO
      go_wp2_with (at_builtin; refine wpList_append_own _ rfl _ _ 22 rfl w.heap.size 40 i0 _ 5 56 Try.underlying22 HI.out HY0.out HY1.out HY2.out rfl (by decide) _ L.length (pcl L) rfl (HROW.out.alloc _) ⟨w1.heap.size, 0, none⟩ 1 1 (pac (⟨lv, ct, fr, fi, co⟩, .slice A1 fr.length c1')) rfl rfl (by exact HNW.out) ?h1 (by unfold maxLen; omega) (by omega) (by simp; omega) ?_)
      case h1 =>
        intro u hu
        simp only [pac, List.mem_cons, List.not_mem_nil, or_false] at hu
        rcases hu with rfl | rfl | rfl | rfl | rfl <;> rfl
      intro v2 w2 ho2 hg2 _
      have hB2 : Below w.heap.size w w2 := (((HB.out.trans (BW.out.mono hws)).alloc (by omega) _).grown hg2 (by simp; omega) (fun x hx => (HROW.out.lt x hx).1))
      have keep : ∀ (y : Value) (m : Nat) (ys : List Value), (w1.setCell ⟨wr.heap.size, 2, none⟩ (.slice A1 fr.length c1')).ownsRow w.heap.size 3 1 y m ys → w2.ownsRow w.heap.size 3 1 y m ys := fun y m ys hy =>
        own_stay hy (fun x hx => (hg2.block x (by have := (hy.lt x hx).2; rw [World.size_alloc]; omega) (fun e => own_types hy HROW.out (by decide) x hx e.symm)).trans (Below.heap_alloc _ _ x (hy.lt x hx).2))
      have hfin : PaO w2 w.heap.size v2 (l.take (k + 1)) := by
        refine ⟨L ++ [(⟨lv, ct, fr, fi, co⟩, .slice A1 fr.length c1')], ?_, ?_, fun x hx => ?_⟩
        · rw [List.map_append, HLM.out, HTK.out]; rfl
        · rw [pcl_append, pcl_one, List.length_append, HLL.out]; exact ho2
        · rcases List.mem_append.1 hx with hx | hx
          · exact keep _ _ _ (HFS.out x hx)
          · simp only [List.mem_cons, List.not_mem_nil, or_false] at hx
            subst hx
            exact keep _ _ _ HO1.out
      have HFIN := Lib.hid (show CpP w l (k + 1) v2 w2 from ⟨hfin, hB2⟩)
      clear hB2 keep hfin ho2 hg2
      go_wp2_with fail
      go_roundw
      case rel => exact ⟨k + 1, _, by omega, rfl, by go_num, HFIN⟩
      case measure => simp [intOf]; omega
    · obtain rfl : k = n := by omega
      go_wp2_with fail
      go_ret
      have h1 := H.out.1
      rw [show l.take k = l by rw [← HL.out, List.take_length]] at h1
      exact ⟨_, rfl, h1, H.out.2⟩

end Go.Proofs.Ytamhnnkmjhapmaa
