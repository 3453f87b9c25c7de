/-
  Contracts of the document's Iommu: NewIommu.
-/
import Derived.Test.YtggdbiniklchoaaIor4
import Derived.Deep.AppendLies
import Derived.Deep.RegionLaw
namespace Go.Proofs.Ytggdbiniklchoaa
open Go.RowKit
set_option linter.unusedVariables false
set_option linter.unusedSimpArgs false
set_option maxRecDepth 100000

/-- Somebody's slice of slices of ints, wherever its rows begin. -/
def AL (w : World) (v : Value) (ps : List (List Int)) : Prop :=
  ∃ A cap, v = .slice A ps.length cap ∧ (0 < ps.length → ∃ b o, A = some ⟨b, o, none⟩ ∧ b < w.heap.size ∧ ∀ i, i < ps.length → ∃ A2 cap2, w.cell? ⟨b, o + i, none⟩ = some (.slice A2 (ps.getD i []).length cap2) ∧ Sl w (.slice A2 (ps.getD i []).length cap2) (ps.getD i []).length 1 (ints (ps.getD i [])))

structure Dn (w0 : World) (y r b : Nat) (ps : List (List Int)) (l : List UInt8) (row : Option Nat) (i : Nat) (w : World) : Prop where
  sx : ∃ v vs, Blk w y 76 [.pointer (some ⟨r, 0, none⟩), v] ∧ PLv w w0.heap.size v vs (ps.take i) ∧ ∀ (j : Nat) (u : Value) (k : Nat), vs[j]? = some u → u.ownBlock = some k → row ≠ some k
  rm : RM w r b l
  bl : Below w0.heap.size w0 w
  wy : w0.heap.size ≤ y
/-- A post of which the ordinary end alone is asked, put behind a letter. -/
def onlyN (R : Act → World → Prop) : Exit → Act → World → Prop
  | .normal, a, w => R a w
  | _, _, _ => False
theorem post_hid {P : Program} {c : Code} {Q : Exit → Act → World → Prop} {a : Act} {w : World} (h : ∀ R, Hid (R = Q .normal) → Code.wp P c (onlyN R) a w) : Code.wp P c Q a w := by
  refine Code.wp_mono ?_ (h _ (Lib.hid rfl))
  intro e a w he
  cases e <;> first | exact he | exact he.elim
theorem own_keep {w w' : World} {base : Nat} {e : TypeId} {size : Nat} {v : Value} {n : Nat} {xs : List Value} (h : w.ownsRow base e size v n xs) (hk : ∀ k, v.ownBlock = some k → w'.heap[k]? = w.heap[k]?) : w'.ownsRow base e size v n xs := by
  refine ⟨h.1, ?_⟩
  rcases h.2 with h2 | ⟨g, cap, cur, hv, hb, hg, h3⟩
  · exact .inl h2
  · exact .inr ⟨g, cap, cur, hv, hb, (hk g (by rw [hv]; rfl)).trans hg, h3⟩
section
variable {w0 w w' : World} {y r b i : Nat} {ps : List (List Int)} {l : List UInt8} {row : Option Nat}
theorem Dn.below (h : Dn w0 y r b ps l row i w) (hb : Below w.heap.size w w') : Dn w0 y r b ps l row i w' := by
  obtain ⟨v, vs, hx, hpl, ha⟩ := h.sx
  exact ⟨⟨v, vs, hx.below hb hx.lt, hpl.stay (fun k T cs _ hk => hb.block k hk.lt), ha⟩, h.rm.below' hb (Nat.le_refl _), Below.down h.bl hb h.bl.size, h.wy⟩
theorem Dn.drewN (h : Dn w0 y r b ps l row i w) (n : Nat) : Dn w0 y r b ps l row i (w.drewN n) := h.below (bdrewN (Below.refl _ _) n)
theorem Dn.alloc (h : Dn w0 y r b ps l row i w) (o : Obj) : Dn w0 y r b ps l row i (w.alloc o) := h.below ((Below.refl _ _).alloc (Nat.le_refl _) o)
/-- The row of all frames is appended to. -/
theorem Dn.push {u : Value} {n g2 : Nat} {xs : List Value} (h : Dn w0 y r b ps l u.ownBlock i w) (ho : w.ownsRow w0.heap.size 3 1 u n xs) (gr : w.grownBy w' u.ownBlock) (hat : u.ownBlock = some g2 ∨ g2 = w.heap.size) : Dn w0 y r b ps l (some g2) i w' := by
  obtain ⟨v, vs, hx, hpl, ha⟩ := h.sx
  have nx : some y ≠ u.ownBlock := fun e => own_apart_blk ho hx (by decide) e.symm
  have nr : some r ≠ u.ownBlock := fun e => own_apart_blk ho h.rm.2.2.1 (by decide) e.symm
  have nb : some b ≠ u.ownBlock := fun e => own_apart_blk ho h.rm.2.2.2 (by decide) e.symm
  have k0 : w'.ownsRow w0.heap.size 35 1 v (ps.take i).length vs := own_keep hpl.1 (fun k hk => by
    obtain ⟨cs, hb⟩ := own_blk hpl.1 hk
    exact gr.block k hb.lt (fun e => own_apart_blk ho hb (by decide) e.symm))
  have k1 : ∀ j, j < (ps.take i).length → ∃ z, vs[j]? = some z ∧ w'.ownsRow w0.heap.size 3 1 z ((ps.take i).getD j []).length (ints ((ps.take i).getD j [])) := by
    intro j hj
    obtain ⟨z, e, hz⟩ := hpl.2 j hj
    refine ⟨z, e, own_keep hz (fun k hk => ?_)⟩
    obtain ⟨cs, hb⟩ := own_blk hz hk
    exact gr.block k hb.lt (fun e' => ha j z k e hk e'.symm)
  refine ⟨⟨v, vs, hx.grown gr nx, ⟨k0, k1⟩, fun j z k e hk e2 => ?_⟩, h.rm.grown gr nr nb, h.bl.grown gr h.bl.size (fun i e => own_ge ho e), h.wy⟩
  have hj : j < (ps.take i).length := by
    have := (List.getElem?_eq_some_iff.1 e).1
    have hl := hpl.1.1
    omega
  obtain ⟨z', e', hz⟩ := hpl.2 j hj
  rw [e] at e'
  have := Option.some.inj e'
  subst this
  obtain ⟨cs, hb⟩ := own_blk hz hk
  have hg : g2 = k := Option.some.inj e2
  rcases hat with hat | hat
  · exact ha j z k e hk (by rw [hat, hg])
  · have := hb.lt; omega
end

section
variable {w0 wr w4 w5 : World} {y r b i g2 cap2 : Nat} {v1 u' : Value} {vs1 : List Value} {ps : List (List Int)} {l : List UInt8} {fs : List Int} {row : Option Nat}
/-- A copied pool is appended to the pools. -/
theorem Dn.more (h : Dn w0 y r b ps l row i wr) (hx : Blk wr y 76 [.pointer (some ⟨r, 0, none⟩), v1]) (hpl : PLv wr w0.heap.size v1 vs1 (ps.take i)) (ha : ∀ (j : Nat) (u : Value) (k : Nat), vs1[j]? = some u → u.ownBlock = some k → row ≠ some k) (hi : i < ps.length) (hfs : ps.getD i [] = fs) (hrow : ∀ k, row = some k → k < wr.heap.size)
    (ho4 : w4.ownsRow wr.heap.size 3 1 u' fs.length (ints fs)) (b4 : Below wr.heap.size wr w4)
    (own5 : w5.ownsRow w0.heap.size 35 1 (.slice (some ⟨g2, 0, none⟩) (i + 1) cap2) (i + 1) (vs1 ++ [u'])) (gr5 : (w4.alloc (.cells #[u'] 35)).grownBy w5 v1.ownBlock) :
    Dn w0 y r b ps l row (i + 1) (w5.setCell ⟨y, 1, none⟩ (.slice (some ⟨g2, 0, none⟩) (i + 1) cap2)) := by
  have hs : w0.heap.size ≤ wr.heap.size := h.bl.size
  have hx4 := (hx.below b4 hx.lt).alloc (.cells #[u'] 35)
  have pl4 : PLv (w4.alloc (.cells #[u'] 35)) w0.heap.size v1 vs1 (ps.take i) := hpl.stay (fun k T cs _ hk => (Below.heap_alloc _ _ k (Nat.lt_of_lt_of_le hk.lt b4.size)).trans (b4.block k hk.lt))
  have hnx : v1.ownBlock ≠ some y := own_apart_blk pl4.1 hx4 (by decide)
  have hx5 := hx4.grown gr5 (fun e => hnx e.symm)
  have ho4' : (w4.alloc (.cells #[u'] 35)).ownsRow w0.heap.size 3 1 u' fs.length (ints fs) := own_base (own_stay ho4 (fun k cs hk => Below.heap_alloc _ _ k hk.lt)) hs
  have hlen : (ps.take i).length = i := by rw [List.length_take]; omega
  have pl5 := pl4.snoc ho4' (by rw [hlen]; exact own5) gr5
  have htk : ps.take i ++ [fs] = ps.take (i + 1) := by
    rw [List.take_add_one, List.getElem?_eq_getElem hi, ← hfs, List.getD, List.getElem?_eq_getElem hi]; rfl
  rw [htk] at pl5
  have gx : w5.grownBy (w5.setCell ⟨y, 1, none⟩ (.slice (some ⟨g2, 0, none⟩) (i + 1) cap2)) (some y) := gone _
  have hrm4 := (h.rm.below' b4 (Nat.le_refl _)).alloc' (.cells #[u'] 35)
  have nr : some r ≠ v1.ownBlock := fun e => own_apart_blk pl4.1 hrm4.2.2.1 (by decide) e.symm
  have nb : some b ≠ v1.ownBlock := fun e => own_apart_blk pl4.1 hrm4.2.2.2 (by decide) e.symm
  have hrm5 := hrm4.grown gr5 nr nb
  have nry : r ≠ y := h.rm.2.2.1.apart hx (by decide)
  have nby : b ≠ y := h.rm.2.2.2.apart hx (by decide)
  have b45 : Below w0.heap.size w0 w5 := ((Below.down h.bl b4 h.bl.size).alloc (Nat.le_trans hs b4.size) (.cells #[u'] 35)).grown gr5 (by have := b4.size; simp; omega) (fun i e => own_ge hpl.1 e)
  have hvl : vs1.length = i := by have := hpl.1.1; omega
  refine ⟨⟨_, _, hx5.set 1 _, pl5.stay (fun k T cs hT hk => gx.block k hk.lt (by
    have : k ≠ y := hk.apart hx5 (by rcases hT with rfl | rfl <;> decide)
    simpa using this)), fun j z k e hk e2 => ?_⟩, RM.far hrm5 nry nby _, b45.setCell (p := ⟨y, 1, none⟩) h.wy _, h.wy⟩
  by_cases hj : j < i
  · rw [List.getElem?_append_left (by omega)] at e
    exact ha j z k e hk e2
  · have hji : j = i := by
      have := (List.getElem?_eq_some_iff.1 e).1
      rw [List.length_append, List.length_singleton] at this
      omega
    subst hji
    rw [List.getElem?_append_right (by omega), hvl, Nat.sub_self] at e
    have : u' = z := by simpa using e
    subst this
    have h1 := own_ge ho4 hk
    have h2 := hrow k e2
    omega
end

section
variable {wr w5 w6 : World} {y r i B : Nat} {v1 : Value} {vs1 : List Value}
/-- The copy's own row is made and filled: all that was stays. -/
theorem mid_below (gr5 : (wr.alloc (.cells #[] 3)).drew.grownBy w5 (Value.slice (some ⟨wr.heap.size, 0, none⟩) 0 0).ownBlock) : Below wr.heap.size wr w5 :=
  (bdrewN ((Below.refl wr.heap.size wr).alloc (Nat.le_refl _) (.cells #[] 3)) 1).grown gr5 (bdrewN ((Below.refl wr.heap.size wr).alloc (Nat.le_refl _) (.cells #[] 3)) 1).size (fun i e => by
    have : wr.heap.size = i := by simpa [Value.ownBlock] using e
    omega)
theorem mid_y (hx : Blk wr y 76 [.pointer (some ⟨r, 0, none⟩), v1]) (b5 : Below wr.heap.size wr w5) (z : Value) : w5.cell? ⟨y, 1, none⟩ = some v1 ∧ (w5.alloc (.cells #[z] 35)).cell? ⟨y, 1, none⟩ = some v1 := by
  have h5 := hx.below b5 hx.lt
  exact ⟨(h5.cell 1).trans rfl, ((h5.alloc _).cell 1).trans rfl⟩
theorem mid_own {n : Nat} (ho : wr.ownsRow B 35 1 v1 n vs1) (b5 : Below wr.heap.size wr w5) (z : Value) : (w5.alloc (.cells #[z] 35)).ownsRow B 35 1 v1 n vs1 :=
  own_stay ho (fun k cs hk => (Below.heap_alloc w5 _ k (Nat.lt_of_lt_of_le hk.lt b5.size)).trans (b5.block k hk.lt))
theorem mid_store {n : Nat} (hx : Blk wr y 76 [.pointer (some ⟨r, 0, none⟩), v1]) (ho : wr.ownsRow B 35 1 v1 n vs1) (b5 : Below wr.heap.size wr w5) (z : Value) (gr6 : (w5.alloc (.cells #[z] 35)).grownBy w6 v1.ownBlock) : w6.cell? ⟨y, 1, none⟩ = some v1 ∧ w6.frozen? ⟨y, 1, none⟩ = false := by
  have hnx : v1.ownBlock ≠ some y := own_apart_blk ho hx (by decide)
  have h6 := ((hx.below b5 hx.lt).alloc (.cells #[z] 35)).grown gr6 (fun e => hnx e.symm)
  exact ⟨(h6.cell 1).trans rfl, h6.frozen 1⟩
theorem mid_int {n n' Bp : Nat} {u z zz : Value} {xs : List Value} (hu : wr.ownsRow Bp 3 1 u n' xs) (hx : Blk wr y 76 [.pointer (some ⟨r, 0, none⟩), v1]) (ho : wr.ownsRow B 35 1 v1 n vs1) (b5 : Below wr.heap.size wr w5) (gr6 : (w5.alloc (.cells #[z] 35)).grownBy w6 v1.ownBlock) : (w6.setCell ⟨y, 1, none⟩ zz).ownsRow Bp 3 1 u n' xs := by
  refine own_stay hu (fun k cs hk => ?_)
  have h1 : k ≠ y := hk.apart hx (by decide)
  have h2 : some k ≠ v1.ownBlock := fun e => by
    obtain ⟨cs', hb⟩ := own_blk ho e.symm
    exact hk.apart hb (by decide) rfl
  have h3 : k < w5.heap.size := Nat.lt_of_lt_of_le hk.lt b5.size
  exact (Below.heap_setCell w6 ⟨y, 1, none⟩ zz k h1).trans ((gr6.block k (by simp; omega) h2).trans ((Below.heap_alloc w5 _ k h3).trans (b5.block k hk.lt)))
end

theorem flat_pos {M : Int} {ps : List (List Int)} (h : PoolsOk M ps) : 0 < ps.flatten.length := by
  cases ps with
  | nil => have := h.1.1; simp at this
  | cons p t => have := h.2.1 p (by simp); rw [List.flatten_cons, List.length_append]; omega

/-- What NewIommu answers and leaves. -/
def NwiP (ok : Bool) (r b : Nat) (ps : List (List Int)) (l : List UInt8) (w : World) (e : Ending) (w' : World) : Prop :=
  (ok = false ∧ e = .returned (.tuple #[.pointer none, .int .i64 700]) ∧ Below w.heap.size w w') ∨
  (ok = true ∧ ∃ y v', e = .returned (.tuple #[.pointer (some ⟨y, 0, none⟩), .int .i64 0]) ∧ Rx w.heap.size w' y r b v' ps (ps.flatten.foldl zeL l) ∧ w.grownBy w' (some b) ∧ w.heap.size ≤ y)

set_option maxHeartbeats 8000000 in
theorem rnewi_any (r b : Nat) (v : Value) (ps : List (List Int)) (l : List UInt8) (w : World) (h : RM w r b l) (hp : AL w v ps) :
    Calls Try.prog 12 #[.pointer (some ⟨r, 0, none⟩), v] w (NwiP (okP (frs l) ps) r b ps l w) := by
  obtain ⟨m, hm⟩ : ∃ m : Nat, l.length = 64 * m := ⟨l.length / 64, by have := h.2.1.2; omega⟩
  have hfr : frs l = m := by unfold frs; omega
  have hm64 : m ≤ 64 := by have := h.1; omega
  rw [hfr]
  obtain ⟨A, cap, rfl, hA⟩ := hp
  have hbc := @bad_count m ps
  obtain ⟨ok, hok⟩ : ∃ ok, okP m ps = ok := ⟨_, rfl⟩
  rw [hok] at hbc ⊢
  have hno : ok = false → ∀ w', Below w.heap.size w w' → NwiP ok r b ps l w (.returned (.tuple #[.pointer none, .int .i64 700])) w' := fun e w' hb => .inl ⟨e, rfl, hb⟩
  have HNO := Lib.hid hno; have HOK := Lib.hid hok; have HRM := Lib.hid h; have HM := Lib.hid hm; have HBC := Lib.hid hbc
  obtain ⟨N, hN⟩ : ∃ N, ps.length = N := ⟨_, rfl⟩
  rw [hN] at hA hbc ⊢
  have HBC := Lib.hid hbc
  have HA := Lib.hid hA; have HN := Lib.hid hN
  clear hno hok h hm hbc hA hN hfr
  by_cases hn1 : N < 1
  · go_enter Try.func12, Try.ntmps12
    go_wp2_with fail
    go_ret2
    exact HNO.out (HBC.out (by omega)) _ (Below.refl _ _)
  · have d1 : decide ((N : Int) < 1) = false := decide_eq_false (by omega)
    by_cases hn4 : 4 < N
    · have d2 : decide ((4 : Int) < N) = true := decide_eq_true (by omega)
      go_enter Try.func12, Try.ntmps12
      go_wp2_with fail
      go_ret2
      exact HNO.out (HBC.out (by omega)) _ (Below.refl _ _)
    · have d2 : decide ((4 : Int) < N) = false := decide_eq_false (by omega)
      obtain ⟨b0, o0, rfl, hb0, hrows⟩ := HA.out (by omega)
      have HRO := Lib.hid hrows
      have bl0 := (Below.refl w.heap.size w).alloc (Nat.le_refl _) (.cells #[.pointer (some ⟨r, 0, none⟩), .slice none 0 0] 76)
      have hd : Dn w w.heap.size r b ps l none 0 (w.alloc (.cells #[.pointer (some ⟨r, 0, none⟩), .slice none 0 0] 76)) := ⟨⟨_, [], Blk.new w _ [.pointer (some ⟨r, 0, none⟩), .slice none 0 0], by rw [List.take_zero]; exact PL.nil _ _, fun j u k e => by simp at e⟩, HRM.out.alloc' _, bl0, Nat.le_refl _⟩
      have hws : w.heap.size ≤ w.heap.size := Nat.le_refl _
      obtain ⟨i0, hi0, hz0, hz1, hz2⟩ := info_parts infoInt4
      have HI := Lib.hid hi0; have HZ0 := Lib.hid hz0; have HZ1 := Lib.hid hz1; have HZ2 := Lib.hid hz2
      clear hrows bl0 hi0 hz0 hz1 hz2
      go_enter Try.func12, Try.ntmps12
      go_wp2_with fail
      generalize w.alloc (.cells #[.pointer (some ⟨r, 0, none⟩), .slice none 0 0] 76) = w1 at *
      generalize hy : w.heap.size = y at hd ⊢
      have HY := Lib.hid hy; clear hy
      go_loopw [6, 8] (fun u s wq => ∃ (i : Nat), i ≤ N ∧ s = .int .i64 i ∧ Dn w y r b ps l u.ownBlock i wq ∧ wq.ownsRow w.heap.size 3 1 u (preL ps i 0).length (ints (preL ps i 0)) ∧ (preL ps i 0).length ≤ i * 5 ∧ Hid (PreOk m ps i 0)) (fun _ s _ => N - (intOf s).toNat)
      case atStart => exact ⟨0, by omega, rfl, hd, by rw [preL_zero]; exact World.ownsRow_nil _ _ _ _, by rw [preL_zero]; simp, Lib.hid (PreOk.zero m ps)⟩
      case round =>
        clear hd
        obtain ⟨i, hi, rfl, hd, hall, hlen, HPR⟩ := hrel
        by_cases hlt : i < N
        · obtain ⟨A2, cap2, hcell, hsl⟩ := HRO.out i hlt
          have hcu := (hd.bl.cell (p := ⟨b0, o0 + i, none⟩) hb0).trans hcell
          have HSLW := Lib.hid hsl; have HRW := Lib.hid hcell
          have HBL := Lib.hid (fun hl => bad_len (M := m) (ps := ps) (i := i) (by rw [HN.out]; exact hlt) hl)
          have HBF := Lib.hid (fun j hj hl => bad_frame (M := m) (ps := ps) (i := i) (j := j) (by rw [HN.out]; exact hlt) hj hl)
          have HBT := Lib.hid (fun j hj hl => bad_twice (M := m) (ps := ps) (i := i) (j := j) (by rw [HN.out]; exact hlt) hj hl)
          have HST := Lib.hid (fun j hj => preL_step ps i j hj)
          have HNX := Lib.hid (preL_next ps i (by rw [HN.out]; exact hlt))
          have HPS := Lib.hid (fun j (h : PreOk m ps i j) hj => h.step hj)
          have HPN := Lib.hid (fun (h : PreOk m ps i (ps.getD i []).length) => h.next (by rw [HN.out]; exact hlt))
          obtain ⟨pl, hplE⟩ : ∃ pl, ps.getD i [] = pl := ⟨_, rfl⟩
          rw [hplE] at HBL HBF HBT HST HNX HPS HPN HSLW HRW hcu
          have HPE := Lib.hid hplE
          clear hsl hcell hplE
          obtain ⟨n, hn⟩ : ∃ n, pl.length = n := ⟨_, rfl⟩
          rw [hn] at HBL HBF HBT HST HNX HPS HPN HSLW HRW hcu
          have HNL := Lib.hid hn
          clear hn
          by_cases hl1 : n < 2
          · have HBX := Lib.hid (HBL.out (by omega))
            have hb := hd.bl
            go_wp2_with fail
            go_ret2
            exact HNO.out (by rw [← HOK.out, HBX.out]) _ hb
          · by_cases hl2 : 5 < n
            · have d3 : decide ((n : Int) < 2) = false := decide_eq_false (by omega)
              have HBX := Lib.hid (HBL.out (by omega))
              have hb := hd.bl
              go_wp2_with fail
              go_ret2
              exact HNO.out (by rw [← HOK.out, HBX.out]) _ hb
            · have d3 : decide ((n : Int) < 2) = false := decide_eq_false (by omega)
              have d4 : decide ((5 : Int) < n) = false := decide_eq_false (by omega)
              have hel : ∃ b2 o2, A2 = some ⟨b2, o2, none⟩ ∧ b2 < w.heap.size ∧ ∀ j z, (ints pl)[j]? = some z → w.cell? ⟨b2, o2 + j, none⟩ = some z := by
                obtain ⟨A', c', e, _, _, hh⟩ := HSLW.out
                injection e with e1 e2 e3
                subst e1
                exact hh (by omega)
              obtain ⟨b2, o2, hA2, hb2l, hel⟩ := hel
              subst hA2
              have HEL := Lib.hid hel
              clear hel
              go_wp2_with fail
              go_loopw [6, 9] (fun u s wq => ∃ (j : Nat), j ≤ n ∧ s = .int .i64 j ∧ Dn w y r b ps l u.ownBlock i wq ∧ wq.ownsRow w.heap.size 3 1 u (preL ps i j).length (ints (preL ps i j)) ∧ (preL ps i j).length ≤ i * 5 + j ∧ Hid (PreOk m ps i j)) (fun _ s _ => n - (intOf s).toNat)
              case atStart => exact ⟨0, by omega, rfl, hd, hall, by omega, HPR⟩
              case round =>
                clear hd hall hlen HPR hcu
                obtain ⟨j, hj, rfl, hd, hall, hlen, HPR⟩ := hrel
                have hcu := (hd.bl.cell (p := ⟨b0, o0 + i, none⟩) hb0).trans (HRW.out)
                by_cases hlj : j < n
                · have hlj' : (j : Int) < n := by omega
                  have hc := (hd.bl.cell (p := ⟨b2, o2 + j, none⟩) hb2l).trans (HEL.out j _ (ints_get pl j (by rw [HNL.out]; exact hlj)))
                  have HBFj := Lib.hid (HBF.out j hlj); have HBTj := Lib.hid (HBT.out j hlj); have HSTj := Lib.hid (HST.out j hlj); have HPSj := Lib.hid (HPS.out j HPR.out hlj)
                  generalize pl.getD j 0 = f at *
                  have hb := hd.bl
                  by_cases hf0 : f < 0
                  · have HBX := Lib.hid (HBFj.out (by omega))
                    go_wp2_with fail
                    go_ret2
                    exact HNO.out (by rw [← HOK.out, HBX.out]) _ hb
                  · have e1 : decide (f < 0) = false := decide_eq_false hf0
                    by_cases hfm : (m : Int) ≤ f
                    · have e2 : decide ((m : Int) ≤ f) = true := decide_eq_true hfm
                      have HBX := Lib.hid (HBFj.out (by omega))
                      go_wp2_with fail
                      refine (rframes_still r b l m HM.out _ hd.rm).mono ?_
                      rintro e w2 ⟨rfl, rfl⟩
                      go_wp2_with fail
                      go_ret2
                      exact HNO.out (by rw [← HOK.out, HBX.out]) _ hb
                    · have e2 : decide ((m : Int) ≤ f) = false := decide_eq_false hfm
                      cases hcon : (preL ps i j).contains f with
                      | true =>
                        have HBX := Lib.hid (HBTj.out hcon)
                        have HCON := Lib.hid hcon
                        clear hcon
                        go_wp2_with fail
                        refine (rframes_still r b l m HM.out _ hd.rm).mono ?_
                        rintro e w2 ⟨rfl, rfl⟩
                        go_wp2_with fail
                        refine (has_any _ (preL ps i j).length (preL ps i j) f _ (Sl.own hall) (by omega)).mono ?_
                        rintro e w2 ⟨rfl, rfl⟩
                        rw [HCON.out]
                        go_wp2_with fail
                        go_ret2
                        exact HNO.out (by rw [← HOK.out, HBX.out]) _ hb
                      | false =>
                        have HP2 := Lib.hid (HPSj.out (by omega) (by omega) hcon)
                        have HCON := Lib.hid hcon
                        clear hcon
                        go_wp2_with fail
                        refine (rframes_still r b l m HM.out _ hd.rm).mono ?_
                        rintro e w2 ⟨rfl, rfl⟩
                        go_wp2_with fail
                        refine (has_any _ (preL ps i j).length (preL ps i j) f _ (Sl.own hall) (by omega)).mono ?_
                        rintro e w2 ⟨rfl, rfl⟩
                        rw [HCON.out]
                        go_wp2_with (at_builtin; refine wpList_append_lies _ rfl _ _ 35 rfl w.heap.size 3 i0 _ 1 8 Try.underlying35 HI.out HZ0.out HZ1.out HZ2.out rfl (by decide) _ (preL ps i j).length (ints (preL ps i j)) rfl (own_stay hall (fun k cs hk => Below.heap_alloc _ _ k hk.lt)) ⟨_, 0, none⟩ 1 1 [.int .i64 f] rfl rfl (by exact row_new _ [.int .i64 f] _) (by intro z hz; rw [List.mem_singleton.1 hz]; rfl) (by omega) (by unfold maxLen; omega) (by omega) (by have := hd.bl.size; simp; omega) _ rfl ?_)
                        intro g2 cap4 w4 own4 gr4 hat4 hlt4
                        have hd4 := (hd.alloc (.cells #[.int .i64 f] 3)).push (own_stay hall (fun k cs hk => Below.heap_alloc _ _ k hk.lt)) gr4 (hat4.imp id (fun e => e.trans (by simp)))
                        clear gr4 hat4 hall hd
                        go_wp2
                        go_roundw
                        case rel => exact ⟨j + 1, by omega, by go_num, hd4, by rw [HSTj.out, ints_append, List.length_append]; exact own4, by rw [HSTj.out, List.length_append]; simp; omega, HP2⟩
                        case measure => simp [intOf]; omega
                · obtain rfl : j = n := by omega
                  have HP2 := Lib.hid (HPN.out HPR.out)
                  have hge : ¬ ((j : Int) < j) := by omega
                  clear HPR
                  obtain ⟨v1, vs1, hx, hpl, ha⟩ := hd.sx
                  have htl2 : (ps.take i).length = i := by rw [List.length_take, HN.out]; omega
                  obtain ⟨A1, cap3, hv1, hcap3, -, -⟩ := own_slice hpl.1
                  rw [htl2] at hv1 hcap3
                  subst hv1
                  have hrow : ∀ k, u6.ownBlock = some k → k < wr.heap.size := by
                    intro k e
                    obtain ⟨cs, hb⟩ := own_blk hall e
                    exact hb.lt
                  have hxc : wr.cell? ⟨y, 1, none⟩ = some (.slice A1 i cap3) := (hx.cell 1).trans rfl
                  have bm := (Below.refl wr.heap.size wr).alloc (Nat.le_refl _) (.cells #[] 3)
                  have hxc1 := (bm.cell (p := ⟨y, 1, none⟩) hx.lt).trans hxc
                  have hcu1 := (bm.cell (p := ⟨b0, o0 + i, none⟩) (Nat.lt_of_lt_of_le hb0 hd.bl.size)).trans hcu
                  have hmade : (wr.alloc (.cells #[] 3)).ownsRow wr.heap.size 3 1 (.slice (some ⟨wr.heap.size, 0, none⟩) 0 0) 0 [] := World.ownsRow_made wr #[] 0 (Nat.le_refl _) (Nat.zero_le _) rfl
                  have hsrc : ∀ q z, (ints pl)[q]? = some z → (wr.alloc (.cells #[] 3)).drew.cell? ((⟨b2, o2, none⟩ : Addr).add q) = some z := by
                    intro q z hz
                    rw [add_none]
                    exact (bm.cell (p := ⟨b2, o2 + q, none⟩) (Nat.lt_of_lt_of_le hb2l hd.bl.size)).trans ((hd.bl.cell (p := ⟨b2, o2 + q, none⟩) hb2l).trans (HEL.out q z hz))
                  have hone : ∀ z ∈ ints pl, z.oneCell' = true := by intro z hz; obtain ⟨x, _, rfl⟩ := List.mem_map.1 hz; rfl
                  have hwsz : w.heap.size ≤ wr.heap.size := hd.bl.size
                  have HOW1 : Hid (wr.ownsRow w.heap.size 35 1 (.slice A1 i cap3) i vs1) := Lib.hid (by have := hpl.1; rw [htl2] at this; exact this)
                  have HX := Lib.hid hx; have HPL := Lib.hid hpl; have HD := Lib.hid hd; have HALL := Lib.hid hall; have HAP := Lib.hid ha; have HROW := Lib.hid hrow
                  have HMADE := Lib.hid hmade; have HSRC := Lib.hid hsrc; have HONE := Lib.hid hone
                  obtain ⟨j0, hj0, hw0, hw1, hw2⟩ := info_parts infoSl
                  have HJ := Lib.hid hj0; have HY0 := Lib.hid hw0; have HY1 := Lib.hid hw1; have HY2 := Lib.hid hw2
                  clear hmade hsrc hone hj0 hw0 hw1 hw2 hx hpl hd hall ha hrow bm htl2
                  go_upto_region 17 with fail
                  refine post_hid ?_
                  intro QQ HQQ
                  clear hj hlj hge d3 d4
                  go_region_law (first
                    | (refine step_append_lies _ (by rfl) _ _ 35 (by rfl) wr.heap.size 3 i0 _ 1 8 Try.underlying35 HI.out HZ0.out HZ1.out HZ2.out (by rfl) (by decide) (.slice (some ⟨wr.heap.size, 0, none⟩) 0 0) 0 [] (by rfl) (own_drewN HMADE.out 1) ⟨b2, o2, none⟩ j cap2 (ints pl) (by rfl) (by rw [ints_len, HNL.out]; omega) (by exact HSRC.out) (by exact HONE.out) (by omega) (by unfold maxLen; omega) (by omega) (by simp) _ rfl ?_; intro g5 cap5 w5 own5 gr5 hat5 hlt5; simp only [Nat.zero_add, List.nil_append] at own5 ⊢; have b5 := mid_below gr5; obtain ⟨q1, q2⟩ := mid_y HX.out b5 (.slice (some ⟨g5, 0, none⟩) j cap5))
                    | (refine step_append_lies _ (by rfl) _ _ 22 (by rfl) w.heap.size 35 j0 _ 1 24 Try.underlying22 HJ.out HY0.out HY1.out HY2.out (by rfl) (by decide) (.slice A1 i cap3) i vs1 (by rfl) (mid_own HOW1.out b5 _) ⟨w5.heap.size, 0, none⟩ 1 1 [.slice (some ⟨g5, 0, none⟩) j cap5] (by rfl) (by rfl) (by exact row_new w5 [.slice (some ⟨g5, 0, none⟩) j cap5] _) (by intro z hz; rw [List.mem_singleton.1 hz]; rfl) (by omega) (by unfold maxLen; omega) (by omega) (by have h1 := b5.size; simp; omega) (w5.heap.size + 1) (by simp) ?_; intro g6 cap6 w6 own6 gr6 hat6 hlt6; obtain ⟨s1, s2⟩ := mid_store HX.out HOW1.out b5 _ gr6))
                  all_goals
                    change QQ _ _
                    rw [HQQ.out]; clear HQQ
                    go_wp2_with fail
                    go_roundw
                    case rel => exact ⟨i + 1, by omega, by go_num, Dn.more HD.out HX.out HPL.out HAP.out (by rw [HN.out]; exact hlt) HPE.out HROW.out (by rw [HNL.out]; exact own5) b5 own6 gr6, by rw [HNX.out]; exact mid_int HALL.out HX.out HOW1.out b5 gr6, by rw [HNX.out]; omega, Lib.hid (HP2.out ⟨by omega, by omega⟩)⟩
                    case measure => simp [intOf]; omega
        · obtain rfl : i = N := by omega
          obtain ⟨v2, vs2, hx2, hpl2, -⟩ := hd.sx
          have htk : ps.take i = ps := List.take_of_length_le (by rw [HN.out]; omega)
          rw [htk] at hpl2
          have hokt : okP m ps = true := PreOk.all (by rw [HN.out]; exact HPR.out) (by rw [HN.out]; omega) (by rw [HN.out]; omega)
          have hok2 : ok = true := HOK.out.symm.trans hokt
          have hpk : PoolsOk m ps := of_decide_eq_true hokt
          have hml := HM.out
          have hpos := flat_pos hpk
          have hrx : Rx w.heap.size wr y r b v2 ps l := ⟨hx2, hpl2.pl, hd.rm, by rw [HN.out]; omega, by rw [HN.out]; omega, hpk.2.1, fun p hp f hf => by
            have hz := hpk.2.2.2 f (List.mem_flatten.2 ⟨p, hp, hf⟩)
            unfold frs; omega⟩
          have hpa : preL ps i 0 = ps.flatten := by have := preL_all ps; rw [HN.out] at this; exact this
          rw [hpa] at hall hlen
          have HZL := Lib.hid (zes_len ps.flatten l (by omega))
          have HRX := Lib.hid hrx; have HOK2 := Lib.hid hok2; have HBL := Lib.hid hd.bl; have HWY := Lib.hid hd.wy
          have hm := hd.rm
          clear hx2 hpl2 htk hokt hok2 hpk hrx hpa HPR hd hml
          have hfin : ∀ w', RM w' r b (ps.flatten.foldl zeL l) → wr.grownBy w' (some b) → NwiP ok r b ps l w (.returned (.tuple #[.pointer (some ⟨y, 0, none⟩), .int .i64 0])) w' := fun w' hm gr => .inr ⟨HOK2.out, y, v2, rfl, HRX.out.mem hm HZL.out gr, gtrans (gof HBL.out _) gr, HWY.out⟩
          have HFIN := Lib.hid hfin
          clear hfin HRX HOK2 HBL HWY HZL
          obtain ⟨pl, hpl⟩ : ∃ pl, ps.flatten = pl := ⟨_, rfl⟩
          rw [hpl] at hall hlen HFIN hpos
          obtain ⟨np, hnp⟩ : ∃ np, pl.length = np := ⟨_, rfl⟩
          rw [hnp] at hall hlen hpos
          have HNP := Lib.hid hnp
          obtain ⟨A3, cap3, hu, hcap3, -, -⟩ := own_slice hall
          subst hu
          obtain ⟨b3, o3, hA3⟩ : ∃ b3 o3, A3 = some ⟨b3, o3, none⟩ := by
            obtain ⟨A', c', e, _, _, hh⟩ := Sl.own hall
            injection e with e1 e2 e3
            subst e1
            obtain ⟨b3, o3, hA3, _, _⟩ := hh hpos
            exact ⟨b3, o3, hA3⟩
          subst hA3
          have HALL := Lib.hid hall
          clear hpl hnp hall
          go_wp2_with fail
          go_loopw [11] (fun s wq => ∃ (q : Nat), q ≤ np ∧ s = .int .i64 q ∧ RM wq r b ((pl.take q).foldl zeL l) ∧ wr.grownBy wq (some b) ∧ Hid (wq.ownsRow w.heap.size 3 1 (.slice (some ⟨b3, o3, none⟩) np cap3) np (ints pl))) (fun s _ => np - (intOf s).toNat)
          case atStart => exact ⟨0, by omega, rfl, hm, grefl _ _, HALL⟩
          case round =>
            clear hm HALL
            obtain ⟨q, hq, rfl, hm, gr, HO⟩ := hrel
            by_cases hlq : q < np
            · have hc : wr.cell? ⟨b3, o3 + q, none⟩ = some (.int .i64 (pl.getD q 0)) := by
                obtain ⟨A', c', e, _, _, hh⟩ := Sl.own HO.out
                injection e with e1 e2 e3
                subst e1
                obtain ⟨b4, o4, hA4, _, hel⟩ := hh hpos
                injection hA4 with hA4
                injection hA4 with e4 e5
                subst e4 e5
                exact hel q _ (ints_get pl q (by rw [HNP.out]; exact hlq))
              have HSS := Lib.hid (show (pl.take (q + 1)).foldl zeL l = zeL ((pl.take q).foldl zeL l) (pl.getD q 0) by
                have hq2 : q < pl.length := by rw [HNP.out]; exact hlq
                rw [List.take_add_one, List.getElem?_eq_getElem hq2, List.foldl_append, List.getD, List.getElem?_eq_getElem hq2]
                rfl)
              have hlq' : (q : Int) < np := by omega
              generalize pl.getD q 0 = F at *
              go_wp2_with fail
              refine (rzero_any r b _ F _ hm).mono ?_
              rintro e w2 ⟨rfl, hm2, gr2⟩
              have HO2 := Lib.hid (own_stay HO.out (fun k cs hk => gr2.block k hk.lt (by intro e; injection e with e; exact hk.apart hm.2.2.2 (by decide) e)))
              go_wp2_with fail
              go_roundw
              case rel => exact ⟨q + 1, by omega, by go_num, by rw [HSS.out]; exact hm2, gtrans gr gr2, HO2⟩
              case measure => simp [intOf]; omega
            · obtain rfl : q = np := by omega
              have hge : ¬ ((q : Int) < q) := by omega
              have htk : pl.take q = pl := List.take_of_length_le (by rw [HNP.out]; omega)
              rw [htk] at hm
              go_wp2_with fail
              go_ret2
              exact HFIN.out _ hm gr

end Go.Proofs.Ytggdbiniklchoaa
