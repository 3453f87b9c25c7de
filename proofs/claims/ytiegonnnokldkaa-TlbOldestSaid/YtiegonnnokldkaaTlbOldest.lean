/-
  Layer 6's law TlbOldest: it answers true for every input.
-/
import Derived.Test.YtiegonnnokldkaaTlbAwake
import Derived.Test.YtiegonnnokldkaaTlbOld0
import Derived.Test.YtiegonnnokldkaaArgs
namespace Go.Proofs.Ytiegonnnokldkaa
open Go.RowKit Go.Deep
set_option linter.unusedVariables false

theorem infoInt6 : (Try.prog.info? 3).map (fun i => (i.zero, i.size, i.bytes)) = some (some (.int .i64 0), 1, 8) := by kernel_rfl

/-- The slice's own spelling, and a cell. -/
theorem own_form {w : World} {B n size : Nat} {e : TypeId} {v : Value} {xs : List Value} (h : w.ownsRow B e size v n xs) : ∃ A cap, v = .slice A n cap ∧ n ≤ cap := by
  obtain ⟨A, cap, e, hc, _⟩ := Sl.own h
  exact ⟨A, cap, e, hc⟩
theorem own_at {w : World} {B : Nat} {t : TypeId} {A : Option Addr} {n cap : Nat} {L : List Int} (h : w.ownsRow B t 1 (.slice A n cap) n (ints L)) (k : Nat) (hk : k < n) : ∃ b, A = some ⟨b, 0, none⟩ ∧ w.cell? ⟨b, k, none⟩ = some (.int .i64 (L.getD k 0)) := by
  have hl : L.length = n := by have := h.1; rw [ints_len] at this; omega
  rcases h.2 with ⟨e, e0⟩ | ⟨g, cap', cur, e, _⟩
  · omega
  · simp only [Value.slice.injEq] at e
    obtain ⟨rfl, -, rfl⟩ := e
    refine ⟨g, rfl, ?_⟩
    rw [h.cellAt k (by omega), ints_get L k (by omega)]

/-- The k-th number of a slice of ints. -/
theorem rec1 {w : World} {A : Option Addr} {n c : Nat} {zs : List Int} (h : Sl w (.slice A n c) n 1 (ints zs)) (k : Nat) (hk : k < n) :
    ∃ b o, A = some ⟨b, o, none⟩ ∧ b < w.heap.size ∧ w.cell? ⟨b, o + k, none⟩ = some (.int .i64 (zs.getD k 0)) := by
  obtain ⟨A', c', e, _, hl, hA⟩ := h
  simp only [Value.slice.injEq] at e
  obtain ⟨rfl, _, rfl⟩ := e
  obtain ⟨b, o, rfl, hb, hc⟩ := hA (by omega)
  rw [ints_len] at hl
  exact ⟨b, o, rfl, hb, hc _ _ (ints_get zs _ (by omega))⟩
/-- A row of ints from the k-th on. -/
theorem isl_from (b len cap k : Nat) (hk : k ≤ len) (hc : len ≤ cap) (h17 : len ≤ 64) : ∃ o, (len - k = 0 ∨ o = k) ∧ ∀ w, (Instr.slice 44 (.slice (some ⟨b, 0, none⟩) len cap) (some (.int .i64 (k : Int))) none none).run Try.prog w = .ok (.slice (some ⟨b, o, none⟩) (len - k) (cap - k)) w := by
  obtain ⟨i0, hi, _, hz1, _⟩ := info_parts infoInt6
  have he : Try.prog.elem 44 = 3 := by kernel_rfl
  have hz : ∀ w, (Go.sizeOf 3).run Try.prog w = .ok 1 w := by intro w; simp [Go.sizeOf, typeInfo, hi, hz1]
  have key := fun w => run_slice_l w 44 (some ⟨b, 0, none⟩) len cap (by rw [he]; exact Try.underlying44) .i64 (k : Int) (by omega) (by omega)
  by_cases h : cap = k
  · exact ⟨0, .inl (by omega), fun w => by rw [key, he, hz]; simp [Result.andThen, sliced, h]⟩
  · exact ⟨k, .inr rfl, fun w => by rw [key, he, hz]; simp [Result.andThen, sliced, h, add_none]⟩
/-- The cells of such a row, in a world that has one block more. -/
theorem own_news {w : World} {B b n cap o : Nat} {t : TypeId} {L : List Int} (h : w.ownsRow B t 1 (.slice (some ⟨b, 0, none⟩) n cap) n (ints L)) {ob : Obj} (ho : n - 1 = 0 ∨ o = 1) :
    ∀ j u, (ints (L.drop 1))[j]? = some u → (w.alloc ob).cell? ((⟨b, o, none⟩ : Addr).add j) = some u := by
  intro j u hu
  have hl : L.length = n := by have := h.1; rw [ints_len] at this; omega
  have hj : j < (ints (L.drop 1)).length := (List.getElem?_eq_some_iff.1 hu).1
  rw [ints_len, List.length_drop] at hj
  obtain rfl : o = 1 := by omega
  have hh := (h.alloc ob).cells (g := b) rfl (1 + j) u (by
    rw [← hu]; simp only [ints, List.map_drop, List.getElem?_drop])
  rw [add_none] at hh ⊢
  rw [Nat.zero_add] at hh
  exact hh

/-- The program's cache and the law's own row say the same. -/
structure Od (w : World) (g c : Nat) (l : List Ln) (v : Value) (R : List Int) (w' : World) : Prop where
  pt : PT w' g c l.length l
  own : w'.ownsRow w.heap.size 3 1 v R.length (ints R)
  b : Below w.heap.size w w'
  hg : w.heap.size ≤ g

section
variable {w w1 w2 : World} {g c : Nat} {l l' : List Ln} {v : Value} {R : List Int}
theorem Od.gv (h : Od w g c l v R w1) : v.ownBlock ≠ some g := by obtain ⟨z, _, hb⟩ := h.pt; exact own_apart_blk h.own hb (by decide)
theorem Od.below (h : Od w g c l v R w1) (b : Below w1.heap.size w1 w2) : Od w g c l v R w2 := ⟨h.pt.below b h.pt.lt, own_below h.own b, Below.down h.b b h.b.size, h.hg⟩
theorem Od.drewN (h : Od w g c l v R w1) (n : Nat) : Od w g c l v R (w1.drewN n) := ⟨h.pt.drewN n, own_drewN h.own n, bdrewN h.b n, h.hg⟩
theorem Od.put (h : Od w g c l v R w1) (hp : PT w2 g c l'.length l') (gr : w1.grownBy w2 (some g)) : Od w g c l' v R w2 :=
  ⟨hp, h.own.kept gr (.inr h.gv), bone h.b gr h.b.size h.hg, h.hg⟩
end

/-- An append to the row, behind a block of its own. -/
theorem Od.app {w w1 w2 : World} {g c : Nat} {l : List Ln} {v v2 : Value} {R : List Int} {p : Int} {o : Obj} (h : Od w g c l v R w1) (own : w2.ownsRow w.heap.size 3 1 v2 (R.length + 1) (ints R ++ ints [p])) (gr : (w1.alloc o).grownBy w2 v.ownBlock) : Od w g c l v2 (R ++ [p]) w2 := by
  obtain ⟨z, hz, hb⟩ := h.pt
  refine ⟨⟨z, hz, (hb.alloc o).grown gr (fun e => h.gv e.symm)⟩, ?_, ?_, h.hg⟩
  · rw [List.length_append, List.length_singleton, ints_append]; exact own
  · exact (h.b.alloc h.b.size o).grown gr (by have := h.b.size; simp <;> omega) (fun k hk => (h.own.lt k hk).1)

theorem Od.new {w w1 w2 : World} {g c : Nat} {l : List Ln} {v v2 : Value} {R R2 : List Int} {o : Obj} (h : Od w g c l v R w1) (own : w2.ownsRow w.heap.size 3 1 v2 R2.length (ints R2)) (gr : (w1.alloc o).grownBy w2 (some w1.heap.size)) : Od w g c l v2 R2 w2 := by
  obtain ⟨z, hz, hb⟩ := h.pt
  have hlt := h.pt.lt
  refine ⟨⟨z, hz, (hb.alloc o).grown gr (fun e => by injection e with e; omega)⟩, own, ?_, h.hg⟩
  exact (h.b.alloc h.b.size o).grown gr (by have := h.b.size; simp <;> omega) (fun k hk => by injection hk with hk; have := h.b.size; omega)

def Olds (w : World) (g c : Nat) (v : Value) (w' : World) : Prop := ∃ l : List Ln, Od w g c l v (pgs l) w' ∧ Hid (l.length ≤ c) ∧ Hid (Uq l) ∧ Hid (Ones l)

set_option maxRecDepth 100000 in
set_option maxHeartbeats 8000000 in
theorem law_TlbOldest (a : Int) (v : Value) (n : Nat) (zs : List Int) (w : World) (hv : Sl w v n 1 (ints zs)) (hn : n ≤ maxLen) (w0 : (Lit.int .i64 a).wf = true) :
    Calls Try.prog 4 #[.int .i64 a, v] w fun e w' => e = .returned (.bool true) ∧ Below w.heap.size w w' := by
  obtain ⟨A, cap, rfl⟩ : ∃ A cap, v = .slice A n cap := by obtain ⟨A, c, e, _⟩ := hv; exact ⟨A, c, e⟩
  unfold maxLen at hn
  have HV := Lib.hid hv; clear hv
  have hU := u64b a
  generalize hU' : IntKind.u64.wrap a = U at hU
  obtain ⟨hU0, hU1⟩ := hU
  have hI0 : 0 ≤ U % 16 := by omega
  have hI1 : U % 16 < 16 := by omega
  generalize hI' : U % 16 = I at hI0 hI1
  clear w0
  obtain ⟨i0, hi, hz0, hz1, hz2⟩ := info_parts infoInt6
  have HI := Lib.hid hi; have HZ0 := Lib.hid hz0; have HZ1 := Lib.hid hz1; have HZ2 := Lib.hid hz2; clear hi hz0 hz1 hz2
  go_enter Try.func4, Try.ntmps4
  go_wp2_with fail
  refine (tawake_any _).mono ?_
  rintro e wa ⟨rfl, ba⟩
  have hsa := ba.size
  go_wp2_with fail
  obtain ⟨K, hK⟩ : ∃ K : Nat, 1 + I = (K : Int) := ⟨(1 + I).toNat, by omega⟩
  have hK1 : 1 ≤ K := by omega
  have hK2 : K ≤ 16 := by omega
  rw [hK]
  clear hK hI0 hI1 hI' hU' hU0 hU1
  refine (tnew_yes K _ hK1 hK2).mono ?_
  rintro e w1 ⟨rfl, t1, b1⟩
  have b1' := Below.down ba b1 hsa
  have hst : Olds w wa.heap.size K (.slice none 0 0) w1 := ⟨[], ⟨t1, World.ownsRow_nil _ _ _ _, b1', hsa⟩, Lib.hid (by simp), Lib.hid List.Pairwise.nil, Lib.hid (by intro x hx; cases hx)⟩
  generalize wa.heap.size = g at *
  clear t1 b1 b1' ba
  go_wp2_with fail
  refine (num_any _ _).mono ?_
  rintro e w' ⟨rfl, rfl⟩
  go_wp2_with fail
  go_loopw [8, 9] (fun vr i wq => ∃ (k : Nat), k ≤ n ∧ i = .int .i64 k ∧ Olds w g K vr wq) (fun _ i _ => n - (intOf i).toNat)
  case atStart => exact ⟨0, by omega, rfl, hst⟩
  case round =>
    clear hst
    obtain ⟨k, hk, rfl, l, hod, HL, HU, HO⟩ := hrel
    obtain ⟨A2, c2, rfl, hc2⟩ := own_form hod.own
    by_cases hgo : k < n ∧ k < 60
    · obtain ⟨hkn, hk60⟩ := hgo
      have hd : decide ((k : Int) < 60) = true := by simp; omega
      obtain ⟨b, o, rfl, hblt, c0⟩ := rec1 HV.out k hkn
      replace c0 := (hod.b.cell (p := ⟨b, o + k, none⟩) hblt).trans c0
      generalize zs.getD k 0 = z at c0
      have hP := band z 31 (by omega) (by omega)
      have hQ := band (k : Int) 63 (by omega) (by omega)
      generalize hP' : bits BinOp.and IntKind.i64 z 31 = p at hP
      generalize hZ' : bits BinOp.and IntKind.i64 (k : Int) 63 = Z at hQ
      obtain ⟨hP0, hP1⟩ := hP
      obtain ⟨hQ0, hQ1⟩ := hQ
      have hmay : mayB 1 p Z 1 = true := decide_eq_true (by omega)
      go_wp2_with fail
      refine (pput_is g K l (putL K l ⟨1, p, Z, 1⟩) 1 p Z 1 0 _ hod.pt hK1 hK2 HL.out (by simp [putA, hmay]) (by simp [putC, hmay])).mono ?_
      rintro e w3 ⟨rfl, t3, g3⟩
      replace hod := hod.put t3 g3
      have hpl0 : (pgs l).length ≤ 16 := by rw [pgs_len]; have := HL.out; omega
      have HLL0 := Lib.hid (putL_len K l ⟨1, p, Z, 1⟩ HL.out).1
      have HUU0 := Lib.hid (HU.out.put K ⟨1, p, Z, 1⟩)
      have HOO0 := Lib.hid (ones_put K l ⟨1, p, Z, 1⟩ HO.out rfl)
      have HX0 : Hid (getF (putL K l ⟨1, p, Z, 1⟩) 1 p = Z) := Lib.hid (get_mem _ HUU0.out ⟨1, p, Z, 1⟩ (mem_put K l _ hK1)).1
      clear t3 g3 hmay hP' c0
      go_wp2_with fail
      go_loop [12, 13] (fun va vj => ∃ (j : Nat) (at_ : Int), j ≤ (pgs l).length ∧ vj = .int .i64 j ∧ va = .int .i64 at_ ∧ AtI (l.take j) p at_) (fun _ vj => (pgs l).length - (intOf vj).toNat)
      case atStart => exact ⟨0, -1, by omega, rfl, rfl, .inl ⟨rfl, by simp [inB]⟩⟩
      case round =>
        obtain ⟨j, at_, hj, rfl, rfl, hat⟩ := hrel
        by_cases hlt : j < (pgs l).length
        · obtain ⟨b3, rfl, hc⟩ := own_at hod.own j hlt
          have hjl : j < l.length := by rw [pgs_len] at hlt; exact hlt
          rw [pgs_get l j hjl] at hc
          have HS := Lib.hid (inB_succ l p j hjl)
          have HAT := Lib.hid hat; clear hat
          by_cases hy : l[j].p = p
          · have HY := Lib.hid hy
            rw [hy] at hc
            clear hy
            go_wp2_with fail
            go_round
            case rel => exact ⟨j + 1, j, by omega, by go_num, rfl, .inr ⟨by omega, by omega, by rw [HS.out, HY.out]; simp⟩⟩
            case measure => simp [intOf]; omega
          · have hy' : (l[j].p == p) = false := by simpa using hy
            have HY := Lib.hid hy'
            generalize l[j].p = y at hc hy'
            clear hy
            go_wp2_with fail
            go_round
            case rel => exact ⟨j + 1, at_, by omega, by go_num, rfl, by
              rcases HAT.out with ⟨h1, h2⟩ | ⟨h1, h2, h3⟩
              · exact .inl ⟨h1, by rw [HS.out, h2, HY.out]; rfl⟩
              · exact .inr ⟨h1, h2, by rw [HS.out, h3]; rfl⟩⟩
            case measure => simp [intOf]; omega
        · have hjl : l.take j = l := by rw [List.take_of_length_le (by rw [pgs_len] at hlt; omega)]
          rw [hjl] at hat
          clear hjl
          rcases hat with ⟨rfl, hin⟩ | ⟨hat0, hat1, hin⟩
          · have HPN := Lib.hid (put_no K l ⟨1, p, Z, 1⟩ HO.out rfl hin)
            clear hin
            go_wp2_with (at_builtin; refine wpList_append_own _ rfl _ _ 44 rfl w.heap.size 3 i0 _ 1 8 Try.underlying44 HI.out HZ0.out HZ1.out HZ2.out rfl (by decide) _ (pgs l).length (ints (pgs l)) rfl (hod.own.alloc _) ⟨w3.heap.size, 0, none⟩ 1 1 (ints [p]) rfl rfl (by exact row_new w3 (ints [p]) _) (ints_one _) (by unfold maxLen; omega) (by omega) (by have := hod.b.size; simp <;> omega) ?_)
            intro v4 w4 own4 gr4 _
            have hod4 : Od w g K (putL K l ⟨1, p, Z, 1⟩) v4 (pgs l ++ [p]) w4 := hod.app own4 gr4
            obtain ⟨A4, c4, rfl, hc4⟩ := own_form hod4.own
            have hl4 : (pgs l ++ [p]).length = (pgs l).length + 1 := by simp
            clear own4 gr4 hod
            rw [hl4] at hc4
            by_cases hev : K < (pgs l).length + 1
            · have hpg : pgs (putL K l ⟨1, p, Z, 1⟩) = (pgs l ++ [p]).drop 1 := by
                rw [HPN.out, if_pos (by rw [pgs_len] at hev; exact hev)]
                simp [pgs, List.map_tail]
              have HPG := Lib.hid hpg
              clear hpg
              obtain ⟨b4, hA4, _⟩ := own_at hod4.own 0 (by rw [hl4]; omega)
              subst hA4
              have hbl4 : b4 < w4.heap.size := (hod4.own.lt b4 rfl).2
              rw [hl4] at hod4
              obtain ⟨o4, ho4, hsl0⟩ := isl_from b4 ((pgs l).length + 1) c4 1 (by omega) hc4 (by omega)
              have hsl : ∀ w, (Instr.slice 44 (.slice (some ⟨b4, 0, none⟩) ((pgs l).length + 1) c4) (some (.int .i64 1)) none none).run Try.prog w = .ok (.slice (some ⟨b4, o4, none⟩) (pgs l).length (c4 - 1)) w := by
                intro w; have := hsl0 w; simpa using this
              have HD4 := Lib.hid hod4
              have HL4 := Lib.hid hl4
              have HNW : Hid (∀ j u, (ints ((pgs l ++ [p]).drop 1))[j]? = some u → (w4.alloc (.cells #[] 3)).cell? ((⟨b4, o4, none⟩ : Addr).add j) = some u) := Lib.hid (own_news (by have := HD4.out.own; rwa [HL4.out] at this) (by have := ho4; omega))
              have HN4 : Hid ((ints ((pgs l ++ [p]).drop 1)).length = (pgs l).length * 1) := Lib.hid (by rw [ints_len, List.length_drop, hl4]; omega)
              clear hsl0 hod4 hl4
              go_wp2_with (at_builtin; refine wpList_append_own _ rfl _ _ 44 rfl w.heap.size 3 i0 _ 1 8 Try.underlying44 HI.out HZ0.out HZ1.out HZ2.out rfl (by decide) _ 0 [] rfl (World.ownsRow_made w4 #[] 0 HD4.out.b.size (by decide) rfl) ⟨b4, o4, none⟩ (pgs l).length _ (ints ((pgs l ++ [p]).drop 1)) rfl HN4.out HNW.out (ints_one _) (by unfold maxLen; omega) (by omega) (by have := HD4.out.b.size; simp <;> omega) ?_)
              intro v5 w5 own5 gr5 _
              rw [← List.drop_one] at own5
              have hod5 : Od w g K (putL K l ⟨1, p, Z, 1⟩) v5 ((pgs l ++ [p]).drop 1) w5 := HD4.out.new (by rw [List.length_drop, HL4.out]; exact own5) gr5
              rw [← HPG.out] at hod5
              clear own5 gr5 hsl
              have HLL := HLL0; have HUU := HUU0; have HOO := HOO0; have HX := HX0
              clear HLL0 HUU0 HOO0 HX0 HD4 HL4 HNW HN4 HPN HPG
              generalize putL K l ⟨1, p, Z, 1⟩ = L at *
              obtain ⟨A3, c3, hv3, hc3⟩ := own_form hod5.own
              subst hv3
              have hod := hod5
              clear hod5
              skip
              go_wp2_with fail
              have hpl : (pgs L).length ≤ 16 := by rw [pgs_len]; have := HLL.out; omega
              refine (num_any _ _).mono ?_
              rintro e w' ⟨rfl, rfl⟩
              go_wp2_with fail
              refine (plen_is g K L.length L ((pgs L).length : Nat) _ hod.pt hod.pt.len (by rw [pgs_len])).mono ?_
              rintro e wg ⟨rfl, q0, rfl⟩
              replace hod := hod.drewN q0
              generalize World.drewN _ q0 = wg at *
              have hln : ((((pgs L).length : Nat) : Int) != (((pgs L).length : Nat) : Int)) = false := by simp
              go_wp2_with fail
              clear hln
              go_loopw [14] (fun vq wq => ∃ (q : Nat), q ≤ 32 ∧ vq = .int .i64 q ∧ Od w g K L (.slice A3 (pgs L).length c3) (pgs L) wq) (fun vq _ => 32 - (intOf vq).toNat)
              case atStart => exact ⟨0, by omega, rfl, hod⟩
              case round =>
                clear hod
                obtain ⟨q, hq, rfl, hod⟩ := hrel
                by_cases hq32 : q < 32
                · go_wp2_with fail
                  go_loop [15, 16] (fun vi vj => ∃ (j : Nat), j ≤ (pgs L).length ∧ vj = .int .i64 j ∧ vi = .bool (inB (L.take j) q)) (fun _ vj => (pgs L).length - (intOf vj).toNat)
                  case atStart => exact ⟨0, by omega, rfl, by simp [inB]⟩
                  case round =>
                    obtain ⟨j, hj, rfl, rfl⟩ := hrel
                    by_cases hlt : j < (pgs L).length
                    · obtain ⟨b3, rfl, hc⟩ := own_at hod.own j hlt
                      have hjl : j < L.length := by rw [pgs_len] at hlt; exact hlt
                      rw [pgs_get L j hjl] at hc
                      have HS := Lib.hid (inB_succ L q j hjl)
                      generalize L[j].p = y at hc HS
                      cases hin : inB (L.take j) q with
                      | true =>
                        rw [hin] at HS
                        clear hin
                        go_wp2_with fail
                        go_round
                        case rel => exact ⟨j + 1, by omega, by go_num, by rw [HS.out]; rfl⟩
                        case measure => simp [intOf]; omega
                      | false =>
                        rw [hin] at HS
                        clear hin
                        go_wp2_with fail
                        go_round
                        case rel => exact ⟨j + 1, by omega, by go_num, by rw [HS.out]; rfl⟩
                        case measure => simp [intOf]; omega
                    · have hjl : L.take j = L := by rw [List.take_of_length_le (by rw [pgs_len] at hlt; omega)]
                      rw [hjl]
                      have HB := Lib.hid (getB_any L 1 q HOO.out)
                      generalize inB L q = bb at *
                      clear hjl
                      have hbb : (bb != bb) = false := by simp
                      generalize hF : getF L 1 q = F'
                      generalize hM : getM L 1 q = M'
                      have HF := Lib.hid hF; have HM := Lib.hid hM; clear hF hM
                      go_wp2_with fail
                      refine (pget_is g K L 1 q F' M' bb _ hod.pt HF.out HM.out HB.out).mono ?_
                      rintro e wh ⟨rfl, bh⟩
                      replace hod := hod.below bh
                      clear bh
                      have hod2 := hod.below ((Below.refl _ _).alloc (Nat.le_refl wh.heap.size) (.cells #[Value.int .i64 F', .int .i64 M'] 33))
                      clear hod
                      by_cases hqp : (q : Int) = p
                      · have hFZ : F' = Z := by rw [← HF.out, hqp]; exact HX.out
                        subst hFZ
                        have hZZ : (F' != F') = false := by simp
                        subst hqp
                        go_wp2_with fail
                        go_roundw
                        case rel => exact ⟨q + 1, by omega, by go_num, hod2⟩
                        case measure => simp [intOf]; omega
                      · have hqp' : ((q : Int) == p) = false := by simpa using hqp
                        clear hqp
                        go_wp2_with fail
                        go_roundw
                        case rel => exact ⟨q + 1, by omega, by go_num, hod2⟩
                        case measure => simp [intOf]; omega
                · go_wp2_with fail
                  go_roundw
                  case rel => exact ⟨k + 1, by omega, by go_num, L, hod, HLL, HUU, HOO⟩
                  case measure => simp [intOf]; omega
            · have hpg : pgs (putL K l ⟨1, p, Z, 1⟩) = pgs l ++ [p] := by
                rw [HPN.out, if_neg (by rw [pgs_len] at hev; exact hev)]
                simp [pgs]
              rw [← hpg] at hod4 hl4 ⊢
              rw [← hl4] at hev
              have HLL := HLL0; have HUU := HUU0; have HOO := HOO0; have HX := HX0
              clear HLL0 HUU0 HOO0 HX0 HPN hpg
              generalize putL K l ⟨1, p, Z, 1⟩ = L at *
              have hod := hod4
              clear hod4 hl4
              obtain ⟨A3, hA3⟩ : ∃ A3, A3 = A4 := ⟨_, rfl⟩
              obtain ⟨c3, hc3⟩ : ∃ c3, c3 = c4 := ⟨_, rfl⟩
              subst hA3 hc3
              go_wp2_with fail
              have hpl : (pgs L).length ≤ 16 := by rw [pgs_len]; have := HLL.out; omega
              refine (num_any _ _).mono ?_
              rintro e w' ⟨rfl, rfl⟩
              go_wp2_with fail
              refine (plen_is g K L.length L ((pgs L).length : Nat) _ hod.pt hod.pt.len (by rw [pgs_len])).mono ?_
              rintro e wg ⟨rfl, q0, rfl⟩
              replace hod := hod.drewN q0
              generalize World.drewN _ q0 = wg at *
              have hln : ((((pgs L).length : Nat) : Int) != (((pgs L).length : Nat) : Int)) = false := by simp
              go_wp2_with fail
              clear hln
              go_loopw [14] (fun vq wq => ∃ (q : Nat), q ≤ 32 ∧ vq = .int .i64 q ∧ Od w g K L (.slice A3 (pgs L).length c3) (pgs L) wq) (fun vq _ => 32 - (intOf vq).toNat)
              case atStart => exact ⟨0, by omega, rfl, hod⟩
              case round =>
                clear hod
                obtain ⟨q, hq, rfl, hod⟩ := hrel
                by_cases hq32 : q < 32
                · go_wp2_with fail
                  go_loop [15, 16] (fun vi vj => ∃ (j : Nat), j ≤ (pgs L).length ∧ vj = .int .i64 j ∧ vi = .bool (inB (L.take j) q)) (fun _ vj => (pgs L).length - (intOf vj).toNat)
                  case atStart => exact ⟨0, by omega, rfl, by simp [inB]⟩
                  case round =>
                    obtain ⟨j, hj, rfl, rfl⟩ := hrel
                    by_cases hlt : j < (pgs L).length
                    · obtain ⟨b3, rfl, hc⟩ := own_at hod.own j hlt
                      have hjl : j < L.length := by rw [pgs_len] at hlt; exact hlt
                      rw [pgs_get L j hjl] at hc
                      have HS := Lib.hid (inB_succ L q j hjl)
                      generalize L[j].p = y at hc HS
                      cases hin : inB (L.take j) q with
                      | true =>
                        rw [hin] at HS
                        clear hin
                        go_wp2_with fail
                        go_round
                        case rel => exact ⟨j + 1, by omega, by go_num, by rw [HS.out]; rfl⟩
                        case measure => simp [intOf]; omega
                      | false =>
                        rw [hin] at HS
                        clear hin
                        go_wp2_with fail
                        go_round
                        case rel => exact ⟨j + 1, by omega, by go_num, by rw [HS.out]; rfl⟩
                        case measure => simp [intOf]; omega
                    · have hjl : L.take j = L := by rw [List.take_of_length_le (by rw [pgs_len] at hlt; omega)]
                      rw [hjl]
                      have HB := Lib.hid (getB_any L 1 q HOO.out)
                      generalize inB L q = bb at *
                      clear hjl
                      have hbb : (bb != bb) = false := by simp
                      generalize hF : getF L 1 q = F'
                      generalize hM : getM L 1 q = M'
                      have HF := Lib.hid hF; have HM := Lib.hid hM; clear hF hM
                      go_wp2_with fail
                      refine (pget_is g K L 1 q F' M' bb _ hod.pt HF.out HM.out HB.out).mono ?_
                      rintro e wh ⟨rfl, bh⟩
                      replace hod := hod.below bh
                      clear bh
                      have hod2 := hod.below ((Below.refl _ _).alloc (Nat.le_refl wh.heap.size) (.cells #[Value.int .i64 F', .int .i64 M'] 33))
                      clear hod
                      by_cases hqp : (q : Int) = p
                      · have hFZ : F' = Z := by rw [← HF.out, hqp]; exact HX.out
                        subst hFZ
                        have hZZ : (F' != F') = false := by simp
                        subst hqp
                        go_wp2_with fail
                        go_roundw
                        case rel => exact ⟨q + 1, by omega, by go_num, hod2⟩
                        case measure => simp [intOf]; omega
                      · have hqp' : ((q : Int) == p) = false := by simpa using hqp
                        clear hqp
                        go_wp2_with fail
                        go_roundw
                        case rel => exact ⟨q + 1, by omega, by go_num, hod2⟩
                        case measure => simp [intOf]; omega
                · go_wp2_with fail
                  go_roundw
                  case rel => exact ⟨k + 1, by omega, by go_num, L, hod, HLL, HUU, HOO⟩
                  case measure => simp [intOf]; omega
          · have hpg := pgs_put_yes K l ⟨1, p, Z, 1⟩ HO.out rfl hin
            have HLL := HLL0; have HUU := HUU0; have HOO := HOO0; have HX := HX0
            clear HLL0 HUU0 HOO0 HX0
            have hle : ¬ K < (pgs l).length := by rw [pgs_len]; have := HL.out; omega
            rw [← hpg.1] at hle hlt hj ⊢
            have HP1 := Lib.hid hpg.1
            have hod : Od w g K (putL K l ⟨1, p, Z, 1⟩) (.slice A2 (pgs (putL K l ⟨1, p, Z, 1⟩)).length c2) (pgs (putL K l ⟨1, p, Z, 1⟩)) w3 := by rw [hpg.1]; exact hod
            clear hpg hin
            generalize putL K l ⟨1, p, Z, 1⟩ = L at *
            obtain ⟨A3, hA3⟩ : ∃ A3, A3 = A2 := ⟨_, rfl⟩
            obtain ⟨c3, hc3⟩ : ∃ c3, c3 = c2 := ⟨_, rfl⟩
            subst hA3 hc3
            have hat0' : decide (at_ < 0) = false := by simp; omega
            go_wp2_with fail
            have hpl : (pgs L).length ≤ 16 := by rw [pgs_len]; have := HLL.out; omega
            refine (num_any _ _).mono ?_
            rintro e w' ⟨rfl, rfl⟩
            go_wp2_with fail
            refine (plen_is g K L.length L ((pgs L).length : Nat) _ hod.pt hod.pt.len (by rw [pgs_len])).mono ?_
            rintro e wg ⟨rfl, q0, rfl⟩
            replace hod := hod.drewN q0
            generalize World.drewN _ q0 = wg at *
            have hln : ((((pgs L).length : Nat) : Int) != (((pgs L).length : Nat) : Int)) = false := by simp
            go_wp2_with fail
            clear hln
            go_loopw [14] (fun vq wq => ∃ (q : Nat), q ≤ 32 ∧ vq = .int .i64 q ∧ Od w g K L (.slice A3 (pgs L).length c3) (pgs L) wq) (fun vq _ => 32 - (intOf vq).toNat)
            case atStart => exact ⟨0, by omega, rfl, hod⟩
            case round =>
              clear hod
              obtain ⟨q, hq, rfl, hod⟩ := hrel
              by_cases hq32 : q < 32
              · go_wp2_with fail
                go_loop [15, 16] (fun vi vj => ∃ (j : Nat), j ≤ (pgs L).length ∧ vj = .int .i64 j ∧ vi = .bool (inB (L.take j) q)) (fun _ vj => (pgs L).length - (intOf vj).toNat)
                case atStart => exact ⟨0, by omega, rfl, by simp [inB]⟩
                case round =>
                  obtain ⟨j, hj, rfl, rfl⟩ := hrel
                  by_cases hlt : j < (pgs L).length
                  · obtain ⟨b3, rfl, hc⟩ := own_at hod.own j hlt
                    have hjl : j < L.length := by rw [pgs_len] at hlt; exact hlt
                    rw [pgs_get L j hjl] at hc
                    have HS := Lib.hid (inB_succ L q j hjl)
                    generalize L[j].p = y at hc HS
                    cases hin : inB (L.take j) q with
                    | true =>
                      rw [hin] at HS
                      clear hin
                      go_wp2_with fail
                      go_round
                      case rel => exact ⟨j + 1, by omega, by go_num, by rw [HS.out]; rfl⟩
                      case measure => simp [intOf]; omega
                    | false =>
                      rw [hin] at HS
                      clear hin
                      go_wp2_with fail
                      go_round
                      case rel => exact ⟨j + 1, by omega, by go_num, by rw [HS.out]; rfl⟩
                      case measure => simp [intOf]; omega
                  · have hjl : L.take j = L := by rw [List.take_of_length_le (by rw [pgs_len] at hlt; omega)]
                    rw [hjl]
                    have HB := Lib.hid (getB_any L 1 q HOO.out)
                    generalize inB L q = bb at *
                    clear hjl
                    have hbb : (bb != bb) = false := by simp
                    generalize hF : getF L 1 q = F'
                    generalize hM : getM L 1 q = M'
                    have HF := Lib.hid hF; have HM := Lib.hid hM; clear hF hM
                    go_wp2_with fail
                    refine (pget_is g K L 1 q F' M' bb _ hod.pt HF.out HM.out HB.out).mono ?_
                    rintro e wh ⟨rfl, bh⟩
                    replace hod := hod.below bh
                    clear bh
                    have hod2 := hod.below ((Below.refl _ _).alloc (Nat.le_refl wh.heap.size) (.cells #[Value.int .i64 F', .int .i64 M'] 33))
                    clear hod
                    by_cases hqp : (q : Int) = p
                    · have hFZ : F' = Z := by rw [← HF.out, hqp]; exact HX.out
                      subst hFZ
                      have hZZ : (F' != F') = false := by simp
                      subst hqp
                      go_wp2_with fail
                      go_roundw
                      case rel => exact ⟨q + 1, by omega, by go_num, hod2⟩
                      case measure => simp [intOf]; omega
                    · have hqp' : ((q : Int) == p) = false := by simpa using hqp
                      clear hqp
                      go_wp2_with fail
                      go_roundw
                      case rel => exact ⟨q + 1, by omega, by go_num, hod2⟩
                      case measure => simp [intOf]; omega
              · go_wp2_with fail
                go_roundw
                case rel => exact ⟨k + 1, by omega, by go_num, L, hod, HLL, HUU, HOO⟩
                case measure => simp [intOf]; omega
    · have hx : (k : Int) ≥ n ∨ ((k : Int) < n ∧ decide ((k : Int) < 60) = false) := by
        by_cases h1 : k < n
        · exact .inr ⟨by omega, by simp; omega⟩
        · exact .inl (by omega)
      have hbel := hod.b
      clear hgo hod
      rcases hx with hx | ⟨hx, hx2⟩
      all_goals
        go_wp2_with fail
        go_ret
        exact ⟨rfl, hbel⟩

end Go.Proofs.Ytiegonnnokldkaa
