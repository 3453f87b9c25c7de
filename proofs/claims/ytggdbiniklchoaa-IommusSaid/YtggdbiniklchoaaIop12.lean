/-
  Contracts of package iommu: New.
-/
import Derived.Test.YtggdbiniklchoaaIop11
import Derived.Test.YtggdbiniklchoaaCopy
import Derived.Deep.AppendLies
import Derived.Deep.RegionLaw
import Derived.Deep.CutBlock
import Derived.Deep.DeepCutAuto
namespace Go.Proofs.Ytggdbiniklchoaa
open Go.RowKit
set_option linter.unusedVariables false
set_option maxRecDepth 100000

/-- A slice of slices, its cells by name. -/
def PLv (w : World) (B : Nat) (v : Value) (vs : List Value) (ps : List (List Int)) : Prop :=
  w.ownsRow B 35 1 v ps.length vs ∧ ∀ i, i < ps.length → ∃ u, vs[i]? = some u ∧ w.ownsRow B 3 1 u (ps.getD i []).length (ints (ps.getD i []))
theorem PLv.pl {w : World} {B : Nat} {v : Value} {vs : List Value} {ps : List (List Int)} (h : PLv w B v vs ps) : PL w B v ps := ⟨vs, h⟩
theorem PLv.stay {w w' : World} {B : Nat} {v : Value} {vs : List Value} {ps : List (List Int)} (h : PLv w B v vs ps) (hk : ∀ k T cs, (T = 35 ∨ T = 3) → Blk w k T cs → w'.heap[k]? = w.heap[k]?) : PLv w' B v vs ps := by
  refine ⟨own_stay h.1 (fun k cs => hk k _ cs (.inl rfl)), fun i hi => ?_⟩
  obtain ⟨u, e, hu⟩ := h.2 i hi
  exact ⟨u, e, own_stay hu (fun k cs => hk k _ cs (.inr rfl))⟩
theorem own_blk {w : World} {B : Nat} {T : TypeId} {size : Nat} {v : Value} {n : Nat} {xs : List Value} (h : w.ownsRow B T size v n xs) {k : Nat} (hk : v.ownBlock = some k) : ∃ cs, Blk w k T cs := by
  rcases h.2 with ⟨rfl, _⟩ | ⟨g, cap, cur, rfl, _, hg, _⟩
  · cases hk
  · have e : g = k := by simpa [Value.ownBlock] using hk
    subst e
    exact ⟨cur.toList, hg⟩
/-- A row of int slices is appended to: what it was and the new one. -/
theorem PLv.snoc {w w2 : World} {B : Nat} {v v' u : Value} {vs : List Value} {ps : List (List Int)} {p : List Int} (h : PLv w B v vs ps) (hu : w.ownsRow B 3 1 u p.length (ints p)) (h2 : w2.ownsRow B 35 1 v' (ps.length + 1) (vs ++ [u])) (gr : w.grownBy w2 v.ownBlock) : PLv w2 B v' (vs ++ [u]) (ps ++ [p]) := by
  have hs : ∀ k cs, Blk w k 3 cs → w2.heap[k]? = w.heap[k]? := by
    intro k cs hk
    refine gr.block k hk.lt (fun e => ?_)
    obtain ⟨cs', hb⟩ := own_blk h.1 e.symm
    exact hk.apart hb (by decide) rfl
  have hl : vs.length = ps.length := by have := h.1.1; omega
  refine ⟨by rw [List.length_append]; exact h2, fun i hi => ?_⟩
  rw [List.length_append, List.length_singleton] at hi
  by_cases hlt : i < ps.length
  · obtain ⟨y, e, hy⟩ := h.2 i hlt
    have e1 : (ps ++ [p]).getD i [] = ps.getD i [] := by simp only [List.getD]; rw [List.getElem?_append_left hlt]
    rw [e1]
    exact ⟨y, by rw [List.getElem?_append_left (by omega)]; exact e, own_stay hy hs⟩
  · obtain rfl : i = ps.length := by omega
    have e1 : (ps ++ [p]).getD ps.length [] = p := by simp [List.getD]
    rw [e1]
    exact ⟨u, by rw [List.getElem?_append_right (by omega), hl, Nat.sub_self]; rfl, own_stay hu hs⟩
theorem PL.nil (w : World) (B : Nat) : PLv w B (.slice none 0 0) [] [] := ⟨World.ownsRow_nil _ _ _ _, fun i hi => by simp at hi⟩
theorem own_slice {w : World} {B : Nat} {T : TypeId} {size : Nat} {v : Value} {n : Nat} {xs : List Value} (h : w.ownsRow B T size v n xs) : ∃ A cap, v = .slice A n cap ∧ n ≤ cap ∧ v.oneCell' = true ∧ (∀ m c, v = .slice none m c → c = 0) := by
  rcases h.2 with ⟨rfl, hn⟩ | ⟨g, cap, cur, rfl, _, _, hnc, _⟩
  · exact ⟨none, 0, by rw [hn], by omega, rfl, fun m c e => by injection e with _ _ e; exact e.symm⟩
  · exact ⟨_, cap, rfl, hnc, rfl, fun m c e => by cases e⟩
theorem infoSl : (Try.prog.info? 35).map (fun i => (i.zero, i.size, i.bytes)) = some (some (.slice none 0 0), 1, 24) := by kernel_rfl

theorem new_nil (v : Value) (w : World) :
    Calls Try.prog 11 #[.pointer none, v] w fun e w' => e = .returned (.tuple #[.pointer none, .int .i64 1]) ∧ Below w.heap.size w w' := by
  go_enter Try.func11, Try.ntmps11
  go_wp2_with fail
  go_ret2
  exact ⟨rfl, Below.refl _ _⟩

theorem framesOf_still {w : World} {g : Nat} {l : List UInt8} (m : Nat) (h : PM w g l) (hm : frs l = m) :
    Calls Try.prog 24 #[.pointer (some ⟨g, 0, none⟩)] w fun e w' => e = .returned (.int .i64 m) ∧ w = w' := by
  have := framesOf_any (l := l) w h
  rw [hm] at this
  exact this

theorem new_no7 (g Bp : Nat) (v : Value) (ps : List (List Int)) (l : List UInt8) (w : World) (h : PM w g l) (hp : PL w Bp v ps) (hno : okP (frs l) ps = false) :
    Calls Try.prog 11 #[.pointer (some ⟨g, 0, none⟩), v] w fun e w' => e = .returned (.tuple #[.pointer none, .int .i64 700]) ∧ Below w.heap.size w w' := by
  obtain ⟨m, h1, h2, h3, _⟩ := h.size
  have e1 : frs l = m := by unfold frs; omega
  have HF := Lib.hid (framesOf_still m h e1)
  have HM := Lib.hid (mayBe_any Bp v ps m w hp h2)
  rw [e1] at hno
  have HNO := Lib.hid hno
  obtain ⟨vs, hp1, _⟩ := hp
  obtain ⟨A, cap, rfl, hcap, _, _⟩ := own_slice hp1
  clear h hno e1 hp1
  go_enter Try.func11, Try.ntmps11
  go_wp2_with fail
  refine HF.out.mono ?_
  rintro e w1 ⟨rfl, rfl⟩
  go_wp2_with fail
  refine HM.out.mono ?_
  rintro e w1 ⟨rfl, b1⟩
  rw [HNO.out]
  go_wp2_with fail
  go_ret2
  exact ⟨rfl, b1⟩

/-- While New copies its pools: k are copied, j zeroed. -/
structure Nw (w0 : World) (x g t Bp : Nat) (v0 : Value) (ps : List (List Int)) (l : List UInt8) (k j : Nat) (w : World) : Prop where
  sx : ∃ v vs, Blk w x 74 [.pointer (some ⟨g, 0, none⟩), v, .pointer (some ⟨t, 0, none⟩)] ∧ PLv w w0.heap.size v vs (ps.take k)
  pm : PM w g ((ps.take j).flatten.foldl zeL l)
  pt : PT w t 16 0 []
  arg0 : PL w0 Bp v0 ps
  pm0 : PM w0 g l
  gr : w0.grownBy w (some g)
  wx : w0.heap.size ≤ x
  wt : w0.heap.size ≤ t
  gw : g < w0.heap.size
section
variable {w0 w w' : World} {x g t Bp k j : Nat} {v0 : Value} {ps : List (List Int)} {l : List UInt8}
theorem Nw.arg (h : Nw w0 x g t Bp v0 ps l k j w) : PL w Bp v0 ps := by
  obtain ⟨m, r, _, _, _, _, hg⟩ := h.pm0
  exact h.arg0.grown h.gr hg (by decide)
theorem Nw.drewN (h : Nw w0 x g t Bp v0 ps l k j w) (n : Nat) : Nw w0 x g t Bp v0 ps l k j (w.drewN n) := ⟨h.sx, h.pm.drewN n, h.pt.drewN n, h.arg0, h.pm0, gdrewN h.gr n, h.wx, h.wt, h.gw⟩
end

theorem own_base {w : World} {B B' : Nat} {T : TypeId} {size : Nat} {v : Value} {n : Nat} {xs : List Value} (h : w.ownsRow B T size v n xs) (hB : B' ≤ B) : w.ownsRow B' T size v n xs := by
  refine ⟨h.1, ?_⟩
  rcases h.2 with h2 | ⟨g, cap, cur, hv, hb, h3⟩
  · exact .inl h2
  · exact .inr ⟨g, cap, cur, hv, Nat.le_trans hB hb, h3⟩
theorem own_one {w : World} {B : Nat} {T : TypeId} {size : Nat} {v : Value} {n : Nat} {xs : List Value} (h : w.ownsRow B T size v n xs) : v.oneCell' = true := (own_slice h).choose_spec.choose_spec.2.2.1
theorem gmore {a b c : World} {g : Nat} {row : Option Nat} (h : a.grownBy b (some g)) (k : b.grownBy c row) (hr : ∀ i, row = some i → a.heap.size ≤ i) : a.grownBy c (some g) :=
  ⟨k.os.trans h.os, k.tape.trans h.tape, k.output.trans h.output, Nat.le_trans h.size k.size, fun i hi hne => (k.block i (Nat.lt_of_lt_of_le hi h.size) (fun e => by have := hr i e.symm; omega)).trans (h.block i hi hne)⟩
theorem own_ge {w : World} {B : Nat} {T : TypeId} {size : Nat} {v : Value} {n : Nat} {xs : List Value} (h : w.ownsRow B T size v n xs) {k : Nat} (hk : v.ownBlock = some k) : B ≤ k := by
  rcases h.2 with ⟨rfl, _⟩ | ⟨g, cap, cur, rfl, hb, _⟩
  · cases hk
  · have e : g = k := by simpa [Value.ownBlock] using hk
    omega

section
variable {w0 wr w4 w5 w6 : World} {x g t Bp i n g2 cap2 : Nat} {v0 v1 u' : Value} {vs1 : List Value} {ps : List (List Int)} {l : List UInt8} {fs : List Int}
theorem Nw.more (h : Nw w0 x g t Bp v0 ps l i i wr) (hx : Blk wr x 74 [.pointer (some ⟨g, 0, none⟩), v1, .pointer (some ⟨t, 0, none⟩)]) (hpl : PLv wr w0.heap.size v1 vs1 (ps.take i)) (hi : i < ps.length) (hfs : ps.getD i [] = fs)
    (ho4 : w4.ownsRow wr.drew.heap.size 3 1 u' fs.length (ints fs)) (b4 : Below wr.drew.heap.size wr.drew w4)
    (own5 : w5.ownsRow w0.heap.size 35 1 (.slice (some ⟨g2, 0, none⟩) (i + 1) cap2) (i + 1) (vs1 ++ [u'])) (gr5 : (w4.alloc (.cells #[u'] 35)).grownBy w5 v1.ownBlock) :
    Nw w0 x g t Bp v0 ps l (i + 1) i (w5.setCell ⟨x, 1, none⟩ (.slice (some ⟨g2, 0, none⟩) (i + 1) cap2)) := by
  have hs : w0.heap.size ≤ wr.heap.size := h.gr.size
  have hx4 := ((hx.drewN 1).below b4 (hx.drewN 1).lt).alloc (.cells #[u'] 35)
  have pl4 : PLv (w4.alloc (.cells #[u'] 35)) w0.heap.size v1 vs1 (ps.take i) := hpl.stay (fun k T cs _ hk => (Below.heap_alloc _ _ k (Nat.lt_of_lt_of_le hk.lt b4.size)).trans (b4.block k hk.lt))
  have hnx : v1.ownBlock ≠ some x := own_apart_blk pl4.1 hx4 (by decide)
  have hx5 := hx4.grown gr5 (fun e => hnx e.symm)
  have ho4' : (w4.alloc (.cells #[u'] 35)).ownsRow w0.heap.size 3 1 u' fs.length (ints fs) := own_base (own_stay ho4 (fun k cs hk => Below.heap_alloc _ _ k hk.lt)) hs
  have hlen : (ps.take i).length = i := by rw [List.length_take]; omega
  have pl5 := pl4.snoc ho4' (by rw [hlen]; exact own5) gr5
  have htk : ps.take i ++ [fs] = ps.take (i + 1) := by
    rw [List.take_add_one, List.getElem?_eq_getElem hi, ← hfs, List.getD, List.getElem?_eq_getElem hi]; rfl
  rw [htk] at pl5
  have gx : w5.grownBy (w5.setCell ⟨x, 1, none⟩ (.slice (some ⟨g2, 0, none⟩) (i + 1) cap2)) (some x) := gone _
  have hpm4 := (((h.pm.drewN 1).below b4 (h.pm.drewN 1).lt).alloc (.cells #[u'] 35))
  have hpt4 := (((h.pt.drewN 1).below b4 (h.pt.drewN 1).lt).alloc (.cells #[u'] 35))
  have hng : some g ≠ v1.ownBlock := fun e => by
    have := own_ge hpl.1 e.symm
    have := h.gw
    omega
  have hnt : some t ≠ v1.ownBlock := fun e => by
    obtain ⟨z, _, hb⟩ := hpt4
    exact own_apart_blk pl4.1 hb (by decide) e.symm
  have nxg : g ≠ x := by obtain ⟨m, r, _, _, _, _, hg⟩ := h.pm; exact hg.apart hx (by decide)
  have nxt : t ≠ x := by obtain ⟨z, _, hb⟩ := h.pt; exact hb.apart hx (by decide)
  have hgr4 : w0.grownBy (w4.alloc (.cells #[u'] 35)) (some g) := galloc (gtrans (gdrewN h.gr 1) (gof b4 _)) _
  have hgr5 := gmore hgr4 gr5 (fun k e => own_ge hpl.1 e)
  refine ⟨⟨_, _, hx5.set 1 _, pl5.stay (fun k T cs hT hk => gx.block k hk.lt (by
    have : k ≠ x := hk.apart hx5 (by rcases hT with rfl | rfl <;> decide)
    simpa using this))⟩, (hpm4.grown gr5 hng).far nxg _, (hpt4.grown gr5 hnt).far nxt _, h.arg0, h.pm0, gset hgr5 (.inr h.wx) _, h.wx, h.wt, h.gw⟩
theorem nw_store {B m : Nat} (hx : Blk wr x 74 [.pointer (some ⟨g, 0, none⟩), v1, .pointer (some ⟨t, 0, none⟩)]) (ho : wr.ownsRow B 35 1 v1 m vs1) (b4 : Below wr.drew.heap.size wr.drew w4)
    (gr5 : (w4.alloc (.cells #[u'] 35)).grownBy w5 v1.ownBlock) : w5.cell? ⟨x, 1, none⟩ = some v1 ∧ w5.frozen? ⟨x, 1, none⟩ = false := by
  have hx4 := ((hx.drewN 1).below b4 (hx.drewN 1).lt).alloc (.cells #[u'] 35)
  have hnx : v1.ownBlock ≠ some x := own_apart_blk ho hx (by decide)
  have hx5 := hx4.grown gr5 (fun e => hnx e.symm)
  exact ⟨(hx5.cell 1).trans rfl, hx5.frozen 1⟩
theorem keep_int {B m n' : Nat} {u z : Value} {xs : List Value} (hu : wr.ownsRow Bp 3 1 u n' xs) (hx : Blk wr x 74 [.pointer (some ⟨g, 0, none⟩), v1, .pointer (some ⟨t, 0, none⟩)]) (ho : wr.ownsRow B 35 1 v1 m vs1) (b4 : Below wr.drew.heap.size wr.drew w4)
    (gr5 : (w4.alloc (.cells #[u'] 35)).grownBy w5 v1.ownBlock) : (w5.setCell ⟨x, 1, none⟩ z).ownsRow Bp 3 1 u n' xs := by
  refine own_stay hu (fun k cs hk => ?_)
  have h1 : k ≠ x := hk.apart hx (by decide)
  have h2 : some k ≠ v1.ownBlock := fun e => by
    obtain ⟨cs', hb⟩ := own_blk ho e.symm
    exact hk.apart hb (by decide) rfl
  have h3 : k < w4.heap.size := Nat.lt_of_lt_of_le hk.lt b4.size
  exact (Below.heap_setCell w5 ⟨x, 1, none⟩ z k h1).trans ((gr5.block k (by simp; omega) h2).trans ((Below.heap_alloc w4 _ k h3).trans (b4.block k hk.lt)))
/-- Its frames are zeroed. -/
theorem Nw.zeroed {w w' : World} (h : Nw w0 x g t Bp v0 ps l (i + 1) i w) (hi : i < ps.length) (hp : PM w' g ((ps.getD i []).foldl zeL ((ps.take i).flatten.foldl zeL l))) (gr : w.grownBy w' (some g)) : Nw w0 x g t Bp v0 ps l (i + 1) (i + 1) w' := by
  obtain ⟨v, vs, hx, hpl⟩ := h.sx
  obtain ⟨m, r, _, _, _, _, hg⟩ := h.pm
  have e : (ps.take (i + 1)).flatten = (ps.take i).flatten ++ ps.getD i [] := by
    have := preL_next ps i hi
    unfold preL at this
    simpa using this
  refine ⟨⟨v, vs, hx.grown gr (by simpa using hx.apart hg (by decide)), hpl.stay (fun k T cs hT hk => gr.block k hk.lt (by
    have : k ≠ g := hk.apart hg (by rcases hT with rfl | rfl <;> decide)
    simpa using this))⟩, by rw [e, List.foldl_append]; exact hp, ?_, h.arg0, h.pm0, gtrans h.gr gr, h.wx, h.wt, h.gw⟩
  have hpt := h.pt
  obtain ⟨z, _, hb⟩ := h.pt
  exact hpt.grown gr (by simpa using hb.apart hg (by decide))
end

set_option maxHeartbeats 4000000 in
theorem new_yes7 (g Bp : Nat) (v : Value) (ps : List (List Int)) (l : List UInt8) (w : World) (h : PM w g l) (hp : PL w Bp v ps) (hok : okP (frs l) ps = true) :
    Calls Try.prog 11 #[.pointer (some ⟨g, 0, none⟩), v] w fun e w' => ∃ x t v', e = .returned (.tuple #[.pointer (some ⟨x, 0, none⟩), .int .i64 0]) ∧ Ix w.heap.size w' x g t v' ps (ps.flatten.foldl zeL l) ∧ Cw w' t ∧ w.grownBy w' (some g) ∧ w.heap.size ≤ x ∧ w.heap.size ≤ t := by
  obtain ⟨m, h1, h2, h3, _⟩ := h.size
  have e1 : frs l = m := by unfold frs; omega
  have HF := Lib.hid (framesOf_still m h e1)
  have HM := Lib.hid (mayBe_any Bp v ps m w hp h2)
  rw [e1] at hok
  have hpo : PoolsOk m ps := of_decide_eq_true hok
  have HNO := Lib.hid hok
  obtain ⟨A, cap, hv, hcap⟩ : ∃ A cap, v = .slice A ps.length cap ∧ ps.length ≤ cap := by
    obtain ⟨vs, hp1, _⟩ := hp
    obtain ⟨A, cap, e, hcap, _, _⟩ := own_slice hp1
    exact ⟨A, cap, e, hcap⟩
  subst hv
  have hgl := h.lt
  have HP := Lib.hid hp; have HH := Lib.hid h; have HOK := Lib.hid hpo; have HL := Lib.hid e1
  have hn1 := hpo.1.1; have hn4 := hpo.1.2
  generalize hN : ps.length = N at *
  have HN := Lib.hid hN
  clear h hp hok hpo e1 hN
  go_enter Try.func11, Try.ntmps11
  go_wp2_with fail
  refine HF.out.mono ?_
  rintro e w1 ⟨rfl, rfl⟩
  go_wp2_with fail
  refine HM.out.mono ?_
  rintro e w1 ⟨rfl, b1⟩
  rw [HNO.out]
  go_wp2_with fail
  refine (tnew_yes 16 _ (by omega) (by omega)).mono ?_
  rintro e w2 ⟨rfl, pt2, b2⟩
  have hs1 := b1.size
  have hs2 := b2.size
  have htl := pt2.lt
  have hnw : Nw w w2.heap.size g w1.heap.size Bp (.slice A N cap) ps l 0 0 (w2.alloc (.cells #[.pointer (some ⟨g, 0, none⟩), .slice none 0 0, .pointer (some ⟨w1.heap.size, 0, none⟩)] 74)) := by
    have b12 := (Below.down b1 b2 (by omega)).alloc (by omega) (.cells #[.pointer (some ⟨g, 0, none⟩), .slice none 0 0, .pointer (some ⟨w1.heap.size, 0, none⟩)] 74)
    exact ⟨⟨_, [], Blk.new w2 _ [.pointer (some ⟨g, 0, none⟩), .slice none 0 0, .pointer (some ⟨w1.heap.size, 0, none⟩)], by rw [List.take_zero]; exact PL.nil _ _⟩, HH.out.below b12 hgl, pt2.alloc _, HP.out, HH.out, gof b12 _, by omega, by omega, hgl⟩
  clear b1 b2 pt2
  generalize w1.heap.size = t at *
  go_wp2_with fail
  generalize w2.alloc (.cells #[.pointer (some ⟨g, 0, none⟩), .slice none 0 0, .pointer (some ⟨t, 0, none⟩)] 74) = w3 at *
  generalize w2.heap.size = x at *
  go_loopw [30] (fun s wq => ∃ (i : Nat), i ≤ N ∧ s = .int .i64 i ∧ Nw w x g t Bp (.slice A N cap) ps l i i wq) (fun s _ => N - (intOf s).toNat)
  case atStart => exact ⟨0, by omega, rfl, hnw⟩
  case round =>
    clear hnw
    obtain ⟨i, hi, rfl, he⟩ := hrel
    by_cases hlt : i < N
    · obtain ⟨b1, cap1, u, hv, hcu, hown⟩ := he.arg.row i (by rw [HN.out]; exact hlt)
      have hA : A = some ⟨b1, 0, none⟩ := by injection hv
      subst hA
      have hpl5 : (ps.getD i []).length ≤ 5 := by
        have := HOK.out.2.1 (ps.getD i []) (by rw [List.getD, List.getElem?_eq_getElem (by rw [HN.out]; exact hlt)]; exact List.getElem_mem _)
        exact this.2
      obtain ⟨fs, hfs⟩ : ∃ fs, ps.getD i [] = fs := ⟨_, rfl⟩
      have HFS := Lib.hid hfs
      rw [hfs] at hown hpl5
      obtain ⟨v1, vs1, hx, hpl⟩ := he.sx
      have htl2 : (ps.take i).length = i := by rw [List.length_take, HN.out]; omega
      obtain ⟨A1, cap2, hv1, hcap2, _, _⟩ := own_slice hpl.1
      rw [htl2] at hv1 hcap2
      subst hv1
      have hxc : wr.cell? ⟨x, 1, none⟩ = some (.slice A1 i cap2) := (hx.cell 1).trans rfl
      have hsz : w.heap.size ≤ wr.heap.size := he.gr.size
      have HX := Lib.hid hx; have HPL := Lib.hid hpl; have HOWN := Lib.hid hown; have HE := Lib.hid he
      have HOW1 : Hid (wr.ownsRow w.heap.size 35 1 (.slice A1 i cap2) i vs1) := Lib.hid (by have := hpl.1; rw [htl2] at this; exact this)
      obtain ⟨A3, cap3, hu, hcap3, _, hnil⟩ := own_slice hown
      subst hu
      have HSL := Lib.hid (Sl.own hown)
      have HNIL := Lib.hid hnil
      obtain ⟨i0, hi0, hz0, hz1, hz2⟩ := info_parts infoSl
      have HI := Lib.hid hi0; have HZ0 := Lib.hid hz0; have HZ1 := Lib.hid hz1; have HZ2 := Lib.hid hz2
      clear hi0 hz0 hz1 hz2 hnil hown he hpl hx hv htl2 hfs
      go_upto_region 12 with fail
      go_cut [] from 34 to 44 (fun wx => Nw w x g t Bp (.slice (some ⟨b1, 0, none⟩) N cap) ps l (i + 1) i wx ∧ wx.ownsRow Bp 3 1 (.slice A3 fs.length cap3) fs.length (ints fs))
      case first =>
        go_region_law (first
          | (go_simp; go_at_call 26; refine (clone_any (.slice A3 fs.length cap3) fs.length fs _ (Sl.drewN HSL.out 1) (by omega) HNIL.out).mono ?_; rintro e w4 ⟨u', rfl, ho4, b4⟩; obtain ⟨A4, cap5, hu', _, _, _⟩ := own_slice ho4; subst hu'; have q1 := ((HX.out.drewN 1).below b4 (HX.out.drewN 1).lt).cell 1; have q2 := (((HX.out.drewN 1).below b4 (HX.out.drewN 1).lt).alloc (.cells #[.slice A4 fs.length cap5] 35)).cell 1; simp only [List.getElem?_cons_succ, List.getElem?_cons_zero] at q1 q2)
          | (refine step_append_lies _ (by rfl) _ _ 22 (by rfl) w.heap.size 35 i0 _ 1 24 Try.underlying22 HI.out HZ0.out HZ1.out HZ2.out (by rfl) (by decide) (.slice A1 i cap2) i vs1 (by rfl) (own_stay (own_below (own_drewN HOW1.out 1) b4) (fun k cs hk => Below.heap_alloc _ _ k hk.lt)) ⟨w4.heap.size, 0, none⟩ 1 1 [.slice A4 fs.length cap5] (by rfl) (by rfl) (by exact row_new w4 [.slice A4 fs.length cap5] _) (by intro y hy; rw [List.mem_singleton.1 hy]; exact own_one ho4) (by omega) (by unfold maxLen; omega) (by omega) (by have := b4.size; simp at this ⊢; omega) (w4.heap.size + 1) (by simp) ?_; intro g2 cap4 w5 own5 gr5 hat5 hlt5; obtain ⟨s1, s2⟩ := nw_store HX.out HOW1.out b4 gr5))
        all_goals
          go_wp2_with fail
          go_meet
          case rel => exact ⟨Nw.more HE.out HX.out HPL.out (by rw [HN.out]; exact hlt) HFS.out ho4 b4 own5 gr5, keep_int HOWN.out HX.out HOW1.out b4 gr5⟩
      case rest =>
        clear hcu hxc
        generalize wc = w6 at *
        obtain ⟨he, hown2⟩ := hcut
        obtain ⟨v2, vs2, hx2, _⟩ := he.sx
        go_wp2_with fail
        refine (zero_any _ Bp fs.length fs _ _ _ hx2 he.pm hown2 hpl5).mono ?_
        rintro e w7 ⟨rfl, hp7, gr7⟩
        have he2 := he.zeroed (by rw [HN.out]; exact hlt) (by rw [HFS.out]; exact hp7) gr7
        clear he hx2 hown2 hp7 gr7
        go_wp2_with fail
        go_roundw
        case rel => exact ⟨i + 1, by omega, by go_num, he2⟩
        case measure => simp [intOf]; omega
    · obtain rfl : i = N := by omega
      obtain ⟨v2, vs2, hx2, hpl2⟩ := he.sx
      have htk : ps.take i = ps := List.take_of_length_le (by rw [HN.out]; omega)
      have hpm := he.pm
      rw [htk] at hpl2 hpm
      have hzl : (ps.flatten.foldl zeL l).length = l.length := zes_len _ _ (by omega)
      have hix : Ix w.heap.size wr x g t v2 ps (ps.flatten.foldl zeL l) := ⟨hx2, hpl2.pl, hpm, by rw [HN.out]; omega, by rw [HN.out]; omega, HOK.out.2.1, fun p hp f hf => by
        have hz := HOK.out.2.2.2 f (List.mem_flatten.2 ⟨p, hp, hf⟩)
        unfold frs; rw [hzl]; omega⟩
      have hcw : Cw wr t := ⟨[], he.pt, Lk.nil⟩
      have hgr := he.gr; have hwx := he.wx; have hwt := he.wt
      have HIX := Lib.hid hix; have HCW := Lib.hid hcw; have HGR := Lib.hid hgr
      clear hx2 hpl2 hpm hzl hix hcw he hgr htk
      go_wp2_with fail
      go_ret2
      exact ⟨x, t, v2, rfl, HIX.out, HCW.out, HGR.out, hwx, hwt⟩

end Go.Proofs.Ytggdbiniklchoaa
