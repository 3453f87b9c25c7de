/-
  Layer 7's law Iommus: it answers true for every input.
-/
import Derived.Test.YtggdbiniklchoaaIoArgs
import Derived.Test.YtggdbiniklchoaaIoAw
import Derived.Test.YtggdbiniklchoaaWhole
namespace Go.Proofs.Ytggdbiniklchoaa
open Go.RowKit Go.ChangeShapes Go.WideShapes Go.Deep
set_option linter.unusedVariables false
set_option linter.unusedSimpArgs false
set_option maxRecDepth 100000

set_option maxHeartbeats 2000000 in
theorem iommus_no (c : Int) (v1 v2 : Value) (w : World) (hc : ¬ (1 ≤ c ∧ c ≤ 64)) :
    Calls Try.prog 3 #[.int .i64 c, v1, v2] w fun e w' => e = .returned (.bool true) ∧ Below w.heap.size w w' := by
  have HC := Lib.hid hc; clear hc
  go_enter Try.func3, Try.ntmps3
  go_wp2_with fail
  refine (new_no _ _ HC.out).mono ?_
  rintro e w' ⟨rfl, rfl⟩
  go_wp2_with fail
  refine (rnew_no _ _ HC.out).mono ?_
  rintro e w' ⟨rfl, rfl⟩
  go_wp2_with fail
  refine (num_any _ _).mono ?_
  rintro e w' ⟨rfl, rfl⟩
  go_wp2_with fail
  refine (num_any _ _).mono ?_
  rintro e w' ⟨rfl, rfl⟩
  go_wp2_with fail
  refine (aw7_any _).mono ?_
  rintro e wa ⟨rfl, ba⟩
  go_wp2_with fail
  go_ret
  exact ⟨rfl, ba⟩

theorem own_mono {w : World} {base base' : Nat} {e : TypeId} {size : Nat} {v : Value} {n : Nat} {xs : List Value} (h : w.ownsRow base e size v n xs) (hb : base' ≤ base) : w.ownsRow base' e size v n xs := by
  refine ⟨h.1, ?_⟩
  rcases h.2 with h2 | ⟨g, cap, cur, hv, hg, h3⟩
  · exact .inl h2
  · exact .inr ⟨g, cap, cur, hv, Nat.le_trans hb hg, h3⟩
/-- While the pools are copied: both memories, the copies. -/
structure Cp (w0 : World) (g r b B : Nat) (u : Value) (vs : List Value) (ps : List (List Int)) (l : List UInt8) (k : Nat) (w : World) : Prop where
  pm : PM w g l
  rm : RM w r b l
  pl : PLv w B u vs (ps.take k)
  dis : Dis vs
  hb : Below w0.heap.size w0 w
  hB : B ≤ w.heap.size
section
variable {w0 w w' : World} {g r b B k : Nat} {u : Value} {vs : List Value} {ps : List (List Int)} {l : List UInt8}
theorem Cp.below (h : Cp w0 g r b B u vs ps l k w) (hb : Below w.heap.size w w') : Cp w0 g r b B u vs ps l k w' :=
  ⟨h.pm.below hb h.pm.lt, h.rm.below' hb (Nat.le_refl _), h.pl.stay (fun k T cs _ hk => hb.block k hk.lt), h.dis, Below.down h.hb hb h.hb.size, Nat.le_trans h.hB hb.size⟩
theorem Cp.snoc {u' z : Value} {w2 : World} (h : Cp w0 g r b B u vs ps l k w) (hk : k < ps.length) (hz : w.ownsRow B 3 1 z (ps.getD k []).length (ints (ps.getD k []))) (hnew : ∀ q, z.ownBlock = some q → ∀ (i : Nat) (x : Value), vs[i]? = some x → x.ownBlock ≠ some q) (h0 : w0.heap.size ≤ B)
    (h2 : w2.ownsRow B 35 1 u' (k + 1) (vs ++ [z])) (gr : w.grownBy w2 u.ownBlock) : Cp w0 g r b B u' (vs ++ [z]) ps l (k + 1) w2 := by
  have hkl : (ps.take k).length = k := by rw [List.length_take]; omega
  have htk : ps.take (k + 1) = ps.take k ++ [ps.getD k []] := by rw [List.take_add_one, List.getElem?_eq_getElem hk, List.getD, List.getElem?_eq_getElem hk]; rfl
  have hst : ∀ {q : Nat} {T : TypeId} {cs : List Value}, Blk w q T cs → T ≠ 35 → Blk w2 q T cs := by
    intro q T cs hq hT
    refine hq.grown gr (fun e => ?_)
    obtain ⟨cs', hb⟩ := own_blk h.pl.1 e.symm
    exact hq.apart hb hT rfl
  obtain ⟨m, rs, q1, q2, q3, q4, hg⟩ := h.pm
  refine ⟨⟨m, rs, q1, q2, q3, q4, hst hg (by decide)⟩, ⟨h.rm.1, h.rm.2.1, hst h.rm.2.2.1 (by decide), hst h.rm.2.2.2 (by decide)⟩, ?_, ?_, h.hb.grown gr h.hb.size (fun q e => by have := (h.pl.1.lt q e).1; omega), Nat.le_trans h.hB gr.size⟩
  · rw [htk]
    exact h.pl.snoc hz (by rw [hkl]; exact h2) gr
  · have hl : vs.length = k := by have := h.pl.1.1; omega
    intro i j x x' q hi hj hq hq'
    have hlen : ∀ (i : Nat) (x : Value), (vs ++ [z])[i]? = some x → i < vs.length ∧ vs[i]? = some x ∨ i = vs.length ∧ x = z := by
      intro i x hx
      by_cases h1 : i < vs.length
      · exact .inl ⟨h1, by rwa [List.getElem?_append_left h1] at hx⟩
      · have h3 := (List.getElem?_eq_some_iff.1 hx).1
        rw [List.length_append, List.length_singleton] at h3
        obtain rfl : i = vs.length := by omega
        rw [List.getElem?_append_right (Nat.le_refl _), Nat.sub_self] at hx
        exact .inr ⟨rfl, (Option.some.inj hx).symm⟩
    rcases hlen i x hi with ⟨i1, i2⟩ | ⟨i1, rfl⟩
    · rcases hlen j x' hj with ⟨j1, j2⟩ | ⟨j1, rfl⟩
      · exact h.dis i j x x' q i2 j2 hq hq'
      · exact absurd hq (hnew q hq' i x i2)
    · rcases hlen j x' hj with ⟨j1, j2⟩ | ⟨j1, rfl⟩
      · exact absurd hq' (hnew q hq j x' j2)
      · omega
end

/-- Both made: what stands ahead of the copies' being written over. -/
theorem Sp.start {w0 wr w5 w6 : World} {g x t y r b B : Nat} {vx vr u : Value} {vs : List Value} {ps : List (List Int)} {l : List UInt8} (ix : Ix wr.heap.size w5 x g t vx ps l) (cw : Cw w5 t) (gr : wr.grownBy w5 (some g)) (rx : Rx w5.heap.size w6 y r b vr ps l) (g6 : w5.grownBy w6 (some b)) {cs : List Value} (hbb : Blk w5 b 5 cs)
    (hpl : PLv wr B u vs ps) (hb : Below w0.heap.size w0 wr) (hg : w0.heap.size ≤ g) (hwb : w0.heap.size ≤ b) (hB : w0.heap.size ≤ B) (hgr : ∃ cs', Blk wr g 57 cs') : Sp w0 g x t y r b wr.heap.size w5.heap.size B vx vr u vs ps l 0 w6 := by
  obtain ⟨L, ⟨zz, qz, hp⟩, hL⟩ := cw
  obtain ⟨m, rs, q1, q2, q3, q4, hgm⟩ := ix.pm
  obtain ⟨cs', hgw⟩ := hgr
  have ne : ∀ {k' : Nat} {T : TypeId} {cs' : List Value}, Blk w5 k' T cs' → T ≠ 5 → some k' ≠ some b := fun hk hT e => hk.apart hbb hT (by injection e)
  have hs := gr.size
  have b5 := bone hb gr hb.size hg
  have hpl5 : PLv w5 B u vs ps := hpl.stay (fun k T cs hT hk => gr.block k hk.lt (fun e => hk.apart hgw (by rcases hT with rfl | rfl <;> decide) (by injection e)))
  have hpl6 : PLv w6 B u vs ps := hpl5.stay (fun k T cs hT hk => g6.block k hk.lt (ne hk (by rcases hT with rfl | rfl <;> decide)))
  refine ⟨⟨ix.sx.grown g6 (ne ix.sx (by decide)), ix.pl.grown g6 hbb (by decide), ⟨m, rs, q1, q2, q3, q4, hgm.grown g6 (ne hgm (by decide))⟩, ix.n1, ix.n4, ix.lens, ix.inr⟩, ⟨L, ⟨zz, qz, hp.grown g6 (ne hp (by decide))⟩, hL⟩, rx, bone b5 g6 b5.size hwb, hpl6.1, fun i _ hi => hpl6.2 i hi, fun i z q hz hq => ?_, hB, hs⟩
  have hlt := (List.getElem?_eq_some_iff.1 hz).1
  have hl := hpl.1.1
  obtain ⟨y', e, ho⟩ := hpl.2 i (by omega)
  rw [e] at hz
  obtain rfl := Option.some.inj hz
  exact (ho.lt q hq).2

/-- Nine cells of an act, read behind a world that only made memory. -/
theorem cells9 {w w' : World} {xs : List Value} {ab ao k : Nat} {K D P F M A N X : Int} {Wr : Bool} (hb : Below w.heap.size w w') (hlt : ab < w.heap.size) (hc : ∀ (j : Nat) (u : Value), xs[j]? = some u → w.cell? ⟨ab, ao + j, none⟩ = some u)
    (x0 : xs[k * 9]? = some (.int .i64 K)) (x1 : xs[k * 9 + 1]? = some (.int .i64 D)) (x2 : xs[k * 9 + 2]? = some (.int .i64 P)) (x3 : xs[k * 9 + 3]? = some (.int .i64 F)) (x4 : xs[k * 9 + 4]? = some (.int .i64 M)) (x5 : xs[k * 9 + 5]? = some (.int .i64 A)) (x6 : xs[k * 9 + 6]? = some (.int .i64 N)) (x7 : xs[k * 9 + 7]? = some (.bool Wr)) (x8 : xs[k * 9 + 8]? = some (.int .i64 X)) :
    w'.cell? ⟨ab, ao + k * 9, none⟩ = some (.int .i64 K) ∧ w'.cell? ⟨ab, ao + k * 9 + 1, none⟩ = some (.int .i64 D) ∧ w'.cell? ⟨ab, ao + k * 9 + 2, none⟩ = some (.int .i64 P) ∧ w'.cell? ⟨ab, ao + k * 9 + 3, none⟩ = some (.int .i64 F) ∧ w'.cell? ⟨ab, ao + k * 9 + 4, none⟩ = some (.int .i64 M) ∧ w'.cell? ⟨ab, ao + k * 9 + 5, none⟩ = some (.int .i64 A) ∧ w'.cell? ⟨ab, ao + k * 9 + 6, none⟩ = some (.int .i64 N) ∧ w'.cell? ⟨ab, ao + k * 9 + 7, none⟩ = some (.bool Wr) ∧ w'.cell? ⟨ab, ao + k * 9 + 8, none⟩ = some (.int .i64 X) := by
  have key : ∀ (j : Nat) (u : Value), xs[k * 9 + j]? = some u → w'.cell? ⟨ab, ao + k * 9 + j, none⟩ = some u := fun j u hu => (hb.cell (p := ⟨ab, ao + k * 9 + j, none⟩) hlt).trans (by have := hc _ _ hu; rwa [← Nat.add_assoc] at this)
  exact ⟨key 0 _ x0, key 1 _ x1, key 2 _ x2, key 3 _ x3, key 4 _ x4, key 5 _ x5, key 6 _ x6, key 7 _ x7, key 8 _ x8⟩

set_option maxHeartbeats 8000000 in
theorem iommus_yes (c : Int) (v1 v2 : Value) (ps : List (List Int)) (n : Nat) (xs : List Value) (w : World) (h1 : 1 ≤ c) (h2 : c ≤ 64) (hp : AP w v1 ps) (hp24 : ps.length * 24 ≤ 140737488351232) (hp8 : ∀ i, i < ps.length → (ps.getD i []).length * 8 ≤ 140737488351232)
    (hv : Sl w v2 n 9 xs) (hn : n ≤ maxLen) (hr : ∀ i, i < n → Act7 xs i) :
    Calls Try.prog 3 #[.int .i64 c, v1, v2] w fun e w' => e = .returned (.bool true) ∧ Below w.heap.size w w' := by
  obtain ⟨A, cap, rfl, hcap, hxl, hA⟩ := hv
  unfold maxLen at hn
  have HA := Lib.hid hA; have HR := Lib.hid hr; clear hA hr hxl
  obtain ⟨c, rfl⟩ := Int.eq_ofNat_of_zero_le (show 0 ≤ c by omega)
  obtain ⟨PA, pcap, rfl, hPA⟩ := id hp
  obtain ⟨pn, hpn⟩ : ∃ pn, pn = ps.length := ⟨_, rfl⟩
  rw [← hpn] at hPA hp24 hp8 ⊢
  have HP := Lib.hid hp; have HPA := Lib.hid hPA; have HP8 := Lib.hid hp8; have HPN := Lib.hid hpn
  clear hp hPA hp8 hpn
  obtain ⟨i0, hi, hz0, hz1, hz2⟩ := info_parts infoSl
  have HI := Lib.hid hi; have HZ0 := Lib.hid hz0; have HZ1 := Lib.hid hz1; have HZ2 := Lib.hid hz2
  clear hi hz0 hz1 hz2
  go_enter Try.func3, Try.ntmps3
  go_wp2_with fail
  refine (new_yes _ _ (by omega) (by omega)).mono ?_
  rintro e w1 ⟨rfl, t1, b1⟩
  rw [Int.toNat_natCast] at t1
  have hgl := t1.lt
  go_wp2_with fail
  refine (rnew_yes _ _ (by omega) (by omega)).mono ?_
  rintro e w2 ⟨rfl, r2, b2⟩
  rw [Int.toNat_natCast] at r2
  have t2 := t1.below b2 hgl
  have b2' := Below.down b1 b2 b1.size
  have hs1 := b1.size
  have hs2 := b2.size
  have hzl := zeros_len (64 * c)
  generalize zeros (64 * c) = l at *
  generalize hg : w.heap.size = g at *
  have hwg : w.heap.size ≤ g := by omega
  generalize hb : w1.heap.size = b at *
  have hwb : w.heap.size ≤ b := by omega
  have HG := Lib.hid hg; have HB := Lib.hid hb
  clear hg hb t1 b1 b2 hzl
  go_wp2_with fail
  refine (num_any _ _).mono ?_
  rintro e w' ⟨rfl, rfl⟩
  go_wp2_with fail
  refine (pwrite_any g l 0 ⟨#[114, 97, 119]⟩ _ t2 (by decide)).mono ?_
  rintro e w3 ⟨rfl, t3, g3⟩
  have r3 := r2.grown g3 (by intro e; injection e with e; omega) (by intro e; injection e with e; omega)
  have b3 := bone (show Below w.heap.size w w2 by rw [HG.out]; exact b2') g3 (by omega) (by omega)
  clear t2 r2 b2' g3
  go_wp2_with fail
  refine (rwrite_any (b + 1) b l 0 ⟨#[114, 97, 119]⟩ _ r3 (by decide)).mono ?_
  rintro e w4 ⟨rfl, r4, g4⟩
  have t4 := t3.grown g4 (by intro e; injection e with e; omega)
  have b4 := bone b3 g4 b3.size hwb
  clear t3 r3 b3 g4
  generalize wrL l 0 _ = l4 at *
  go_wp2_with fail
  have hs4 := b4.size
  obtain ⟨B, hB⟩ : ∃ B, B = w4.heap.size := ⟨_, rfl⟩
  have hwB : w.heap.size ≤ B := by omega
  have HWB := Lib.hid hwB
  go_loopw [11, 12] (fun u i wq => ∃ (k : Nat) (vs : List Value), k ≤ pn ∧ i = .int .i64 k ∧ Cp w g (b + 1) b B u vs ps l4 k wq) (fun _ i _ => pn - (intOf i).toNat)
  case atStart =>
    refine ⟨0, [], by omega, rfl, t4, r4, ?_, ?_, b4, by omega⟩
    · rw [List.take_zero]; exact PL.nil _ _
    · intro i j x x' q hi; simp at hi
  case round =>
    clear t4 r4 b4 hB hs4 hwB
    obtain ⟨k, vs, hk, rfl, hc⟩ := hrel
    by_cases hlt : k < pn
    · obtain ⟨pb, po, rfl, hpb, hpc⟩ := HPA.out (by omega)
      obtain ⟨A2, cap2, hcell, hsl, hnil⟩ := hpc k hlt
      have hpb' : pb < w.heap.size := by rw [HG.out]; exact hpb
      have c0 := (hc.hb.cell (p := ⟨pb, po + k, none⟩) hpb').trans hcell
      have hsl' := hsl.below (show Below w.heap.size w wr from hc.hb)
      have hp8 := HP8.out k hlt
      have hu1 : ∀ m cc, Value.slice A2 (ps.getD k []).length cap2 = .slice none m cc → cc = 0 := by
        intro m cc e
        simp only [Value.slice.injEq] at e
        rw [← e.2.2]; exact hnil e.1
      have HSL := Lib.hid hsl'; have HU1 := Lib.hid hu1
      clear hpc hcell hsl hsl' hu1 hnil
      obtain ⟨fs, hfs⟩ : ∃ fs, fs = ps.getD k [] := ⟨_, rfl⟩
      rw [← hfs] at c0 hp8 HSL HU1
      have HFS := Lib.hid hfs; clear hfs
      go_wp2_with fail
      refine (copy_sized _ fs.length fs _ HSL.out hp8 HU1.out).mono ?_
      rintro e w5 ⟨u', rfl, own5, b5⟩
      have hc5 := hc.below b5
      have hnew : ∀ q, u'.ownBlock = some q → ∀ (i : Nat) (x : Value), vs[i]? = some x → x.ownBlock ≠ some q := by
        intro q hq i x hx hxq
        have h1 := (own5.lt q hq).1
        have hi : i < (ps.take k).length := by
          have h3 := (List.getElem?_eq_some_iff.1 hx).1
          have := hc.pl.1.1
          omega
        obtain ⟨y, e, ho⟩ := hc.pl.2 i hi
        rw [e] at hx
        obtain rfl := Option.some.inj hx
        have := (ho.lt q hxq).2
        omega
      have own5' : w5.ownsRow B 3 1 u' fs.length (ints fs) := own_mono own5 hc.hB
      have HNEW := Lib.hid hnew; have HOW := Lib.hid own5'; have HC5 := Lib.hid hc5
      clear hnew own5 own5' hc5 c0 HSL HU1 hc b5
      obtain ⟨A3, cap3, hu', -, hone, -⟩ := own_slice HOW.out
      subst hu'
      have HC6 := Lib.hid (HC5.out.below ((Below.refl _ _).alloc (Nat.le_refl _) (.cells #[.slice A3 fs.length cap3] 35)))
      have HOW6 := Lib.hid (own_below HOW.out ((Below.refl _ _).alloc (Nat.le_refl _) (.cells #[.slice A3 fs.length cap3] 35)))
      have hB5 := HC5.out.hB
      have hkl : (ps.take k).length = k := by rw [List.length_take]; have := HPN.out; omega
      have HPL := Lib.hid (show (w5.alloc (.cells #[.slice A3 fs.length cap3] 35)).ownsRow B 35 1 u11 k vs by have h := HC6.out.pl.1; rwa [hkl] at h)
      go_wp2_with (at_builtin; refine wpList_append_own _ rfl _ _ 22 rfl B 35 i0 _ 1 24 Try.underlying22 HI.out HZ0.out HZ1.out HZ2.out rfl (by decide) _ k vs rfl HPL.out ⟨w5.heap.size, 0, none⟩ 1 1 [.slice A3 fs.length cap3] rfl rfl ?q2 ?q3 ?q4 ?q5 ?q6 ?_)
      case q2 => exact row_new w5 [.slice A3 fs.length cap3] 35
      case q3 => intro z hz; simp only [List.mem_cons, List.not_mem_nil, or_false] at hz; rw [hz]; rfl
      case q4 => unfold maxLen; omega
      case q5 => omega
      case q6 => simp; omega
      intro u7 w7 own7 gr7 _
      have hc7 := HC6.out.snoc (by have := HPN.out; omega) (by rw [← HFS.out]; exact HOW6.out) HNEW.out HWB.out own7 gr7
      clear own7 gr7
      go_wp2_with fail
      go_roundw
      case rel => exact ⟨k + 1, _, by omega, by go_num, hc7⟩
      case measure => simp [intOf]; omega
    · obtain rfl : k = pn := by omega
      have htk : ps.take k = ps := by rw [HPN.out, List.take_length]
      have hpl := hc.pl
      rw [htk] at hpl
      have hpm := hc.pm; have hrm := hc.rm; have hdis := hc.dis; have hbl := hc.hb
      have hwr := HG.out
      clear hc
      cases hok : okP (frs l4) ps with
      | false =>
        have HRM := Lib.hid hrm; have HBL := Lib.hid hbl
        clear hdis hbl hrm
        have HN7 := Lib.hid (new_no7 g B u11 ps l4 wr hpm hpl.pl hok)
        have HOK := Lib.hid hok
        clear hpm hpl hok htk
        go_wp2_with fail
        refine HN7.out.mono ?_
        rintro e w5 ⟨rfl, b5⟩
        have rm5 := HRM.out.below' b5 (Nat.le_refl _)
        have bl5 := Below.down HBL.out b5 HBL.out.size
        have al5 := (HP.out.below bl5).al
        rw [← HPN.out] at al5
        go_wp2_with fail
        refine (rnewi_any (b + 1) b _ ps l4 _ rm5 al5).mono ?_
        rintro e w6 (⟨_, rfl, b6⟩ | ⟨hf, _⟩)
        · have bl6 := Below.down bl5 b6 bl5.size
          go_wp2_with fail
          refine (num_any _ _).mono ?_
          rintro e w' ⟨rfl, rfl⟩
          go_wp2_with fail
          refine (aw7_any _).mono ?_
          rintro e wa ⟨rfl, ba⟩
          go_wp2_with fail
          go_ret
          rw [← HG.out]
          exact ⟨rfl, Below.down bl6 ba bl6.size⟩
        · rw [HOK.out] at hf; cases hf
      | true =>
        have hpo : PoolsOk (frs l4) ps := of_decide_eq_true hok
        have hk1 : 1 ≤ k := by rw [HPN.out]; exact hpo.1.1
        have hk4 : k ≤ 4 := by rw [HPN.out]; exact hpo.1.2
        obtain ⟨b0, cap0, hu0, _, _⟩ := hpl.1.form (by rw [← HPN.out]; omega)
        have HN7 := Lib.hid (new_yes7 g B u11 ps l4 wr hpm hpl.pl hok)
        have hgm : ∃ cs', Blk wr g 57 cs' := by obtain ⟨m, rs, _, _, _, _, hg⟩ := hpm; exact ⟨_, hg⟩
        have hlen5 : ∀ i, i < ps.length → (ps.getD i []).length ≤ 5 := fun i hi => (hpo.2.1 _ (by rw [List.getD, List.getElem?_eq_getElem hi]; exact List.getElem_mem _)).2
        have HGM := Lib.hid hgm; have HPL := Lib.hid hpl; have HRM := Lib.hid hrm; have HBL := Lib.hid hbl; have HOK := Lib.hid hok; have HDIS := Lib.hid hdis; have HL5 := Lib.hid hlen5
        clear hgm hpl hrm hbl hok hpm hdis hlen5 htk hpo
        rw [← HPN.out] at hu0
        subst hu0
        go_wp2_with fail
        refine HN7.out.mono ?_
        rintro e w5 ⟨x, t, vx, rfl, ix5, cw5, g5, hx5, ht5⟩
        have rm5 := HRM.out.grown g5 (by intro e; injection e with e; omega) (by intro e; injection e with e; omega)
        have bl5 := bone HBL.out g5 HBL.out.size hwg
        have al5 := (HP.out.below bl5).al
        rw [← HPN.out] at al5
        have HIX := Lib.hid ix5; have HCW := Lib.hid cw5; have HG5 := Lib.hid g5
        clear ix5 cw5 g5
        go_wp2_with fail
        refine (rnewi_any (b + 1) b _ ps l4 _ rm5 al5).mono ?_
        rintro e w6 (⟨hf, _⟩ | ⟨_, y, vr, rfl, rx6, g6, hy6⟩)
        · rw [HOK.out] at hf; cases hf
        have sp := Sp.start HIX.out HCW.out HG5.out rx6 g6 rm5.2.2.2 HPL.out HBL.out hwg hwb HWB.out HGM.out
        have htw : w.heap.size ≤ t := by have := HBL.out.size; omega
        clear rm5 bl5 al5 rx6 g6 HIX HCW HG5 HN7 HRM HGM
        generalize ps.flatten.foldl zeL l4 = l6 at *
        go_wp2_with fail
        refine (num_any _ _).mono ?_
        rintro e w' ⟨rfl, rfl⟩
        go_wp2_with fail
        rw [HPN.out] at hk1 hk4
        generalize wr.heap.size = Bi at *
        generalize w5.heap.size = Br at *
        go_loopw [17] (fun i wq => ∃ (j : Nat), j ≤ k ∧ i = .int .i64 j ∧ Sp w g x t y (b + 1) b Bi Br B vx vr (.slice (some ⟨b0, 0, none⟩) k cap0) vs ps l6 j wq) (fun i _ => k - (intOf i).toNat)
        case atStart => exact ⟨0, by omega, rfl, sp⟩
        case round =>
          clear sp
          obtain ⟨j, hj, rfl, sp⟩ := hrel
          by_cases hjl : j < k
          · obtain ⟨z, hz, hoz⟩ := sp.rows j (Nat.le_refl _) (by have := HPN.out; omega)
            obtain ⟨b0', cap', hu, hcell⟩ := sp.cell (by have := HPN.out; omega) hz
            have hb0 : b0' = b0 := by
              simp only [Value.slice.injEq, Option.some.injEq, Addr.mk.injEq] at hu
              exact hu.1.1.symm
            subst hb0
            have hl5 := HL5.out j (by have := HPN.out; omega)
            have HSP := Lib.hid sp; have HZ := Lib.hid hz; have HOZ := Lib.hid hoz
            clear sp hz hoz hu
            go_wp2_with fail
            refine (spoil_ints z B _ _ _ HOZ.out (AllInts.ints _) (by omega)).mono ?_
            rintro e w7 ⟨rfl, g7⟩
            have sp7 := HSP.out.next HDIS.out (by have := HPN.out; omega) HZ.out HOZ.out g7
            clear g7 HSP HZ HOZ hcell hl5
            go_wp2_with fail
            go_roundw
            case rel => exact ⟨j + 1, by omega, by go_num, sp7⟩
            case measure => simp [intOf]; omega
          · have bo : Bo w g x t y (b + 1) b Br vr ps l6 wr := ⟨⟨⟨Bi, vx, sp.ix⟩, sp.cw, sp.hb, hwg, htw⟩, sp.rx, hwb⟩
            clear sp
            go_wp2_with fail
            clear HP HP8 HPA HBL HOK HDIS HL5 HPL HI HZ0 HZ1 HZ2 hj hjl
            go_loopw [18] (fun i wq => ∃ (j : Nat), j ≤ n ∧ i = .int .i64 j ∧ ∃ lq, Bo w g x t y (b + 1) b Br vr ps lq wq) (fun i _ => n - (intOf i).toNat)
            case atStart => exact ⟨0, by omega, rfl, _, bo⟩
            case round =>
              clear bo
              obtain ⟨j, hj, rfl, lq, bo⟩ := hrel
              by_cases hgo : j < n ∧ j < 60
              · obtain ⟨hjn, hj60⟩ := hgo
                have hd : decide ((j : Int) < 60) = true := by simp; omega
                obtain ⟨ab, ao, rfl, hblt, hcell⟩ := HA.out (by omega)
                replace hblt : ab < w.heap.size := by rw [HG.out]; exact hblt
                obtain ⟨aK, aD, aP, aF, aM, aA, aN, aW, aX, x0, x1, x2, x3, x4, x5, x6, x7, x8⟩ := HR.out j hjn
                obtain ⟨c0, c1, c2, c3, c4, c5, c6, c7, c8⟩ := cells9 bo.wd.b hblt hcell x0 x1 x2 x3 x4 x5 x6 x7 x8
                clear hcell x0 x1 x2 x3 x4 x5 x6 x7 x8
                have HBO := Lib.hid bo
                clear bo
                go_wp2_with fail
                refine (step7_any aK aD aP aF aM aA aN aW aX _ HBO.out).mono ?_
                rintro e w7 ⟨rfl, l7, bo7⟩
                have hrow := bo7.rx.rm.row
                have hwh := bo7.rx.rm.whole
                have HPR := Lib.hid (pread_is g l7 _ _ 0 (str l7) _ bo7.wd.pm (rd_whole l7).1 (rd_whole l7).2)
                have HB7 := Lib.hid bo7
                clear c0 c1 c2 c3 c4 c5 c6 c7 c8 bo7 HBO
                generalize str l7 = S0 at *
                go_wp2_with fail
                refine HPR.out.mono ?_
                rintro e w' ⟨rfl, rfl⟩
                go_wp2_with fail
                refine (num_any 0 _).mono ?_
                rintro e w' ⟨rfl, rfl⟩
                go_wp2_with fail
                go_roundw
                case rel => exact ⟨j + 1, by omega, by go_num, l7, HB7.out⟩
                case measure => simp [intOf]; omega
              · have hx : (j : Int) ≥ n ∨ ((j : Int) < n ∧ decide ((j : Int) < 60) = false) := by
                  by_cases h1 : j < n
                  · exact .inr ⟨by omega, by simp; omega⟩
                  · exact .inl (by omega)
                have hbl := bo.wd.b
                clear hgo bo
                rcases hx with hx | ⟨hx, hx2⟩
                all_goals
                  go_wp2_with fail
                  refine (aw7_any _).mono ?_
                  rintro e wa ⟨rfl, ba⟩
                  go_wp2_with fail
                  go_ret
                  rw [← HG.out]
                  exact ⟨rfl, Below.down hbl ba hbl.size⟩

theorem law_Iommus (c : Int) (v1 v2 : Value) (ps : List (List Int)) (n : Nat) (xs : List Value) (w : World) (hp : AP w v1 ps) (hp24 : ps.length * 24 ≤ 140737488351232) (hp8 : ∀ i, i < ps.length → (ps.getD i []).length * 8 ≤ 140737488351232)
    (hv : Sl w v2 n 9 xs) (hn : n ≤ maxLen) (hr : ∀ i, i < n → Act7 xs i) :
    Calls Try.prog 3 #[.int .i64 c, v1, v2] w fun e w' => e = .returned (.bool true) ∧ Below w.heap.size w w' := by
  by_cases hc : 1 ≤ c ∧ c ≤ 64
  · exact iommus_yes c v1 v2 ps n xs w hc.1 hc.2 hp hp24 hp8 hv hn hr
  · exact iommus_no c v1 v2 w hc

end Go.Proofs.Ytggdbiniklchoaa
