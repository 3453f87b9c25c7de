/-
  What the proofs lean on: contracts of the program's functions, plain facts.
-/
import Derived.Deep.AppendLies
import Derived.Test.YtkaalinoiilmoaaT6
namespace Go.Proofs.Ytkaalinoiilmoaa
open Go.RowKit Go.ChangeMaps
set_option linter.unusedVariables false
set_option linter.unusedSimpArgs false
set_option maxRecDepth 100000
theorem one_stc (x : Stp) : ∀ u ∈ stc x, u.oneCell' = true := by
  intro u hu
  simp only [stc, List.mem_cons, List.not_mem_nil, or_false] at hu
  rcases hu with rfl | rfl | rfl | rfl | rfl | rfl | rfl <;> rfl
theorem one_bit (b : Bool) : ∀ u ∈ [Value.bool b], u.oneCell' = true := by
  intro u hu
  rw [List.mem_singleton.1 hu]; rfl
theorem infoBoolV : (Try.prog.info? 4).map (fun i => (i.zero, i.size, i.bytes)) = some (some (.bool false), 1, 1) := by kernel_rfl
def bls (l : List Bool) : List Value := l.map .bool
def obS (v : Value) (L : List Stp) : Ob := obR 39 7 v L.length (stcs L)
def obK (v : Value) (B : List Bool) : Ob := obR 4 1 v B.length (bls B)
theorem obS_app (v : Value) (L : List Stp) (x : Stp) : obR 39 7 v (L.length + 1) (stcs L ++ stc x) = obS v (L ++ [x]) := by
  unfold obS; rw [stcs_append, List.length_append]; simp [stcs]
theorem obK_app (v : Value) (B : List Bool) (b : Bool) : obR 4 1 v (B.length + 1) (bls B ++ [.bool b]) = obK v (B ++ [b]) := by
  unfold obK bls; rw [List.map_append, List.length_append]; rfl
theorem Tk.grow {S : Nat → Prop} {W0 w w1 w6 : World} {os : List Ob} {i : Nat} {t : TypeId} {size n m g cap : Nat} {v : Value} {xs news : List Value} (h : Tk S W0 os w) (hi : os[i]? = some (obR t size v n xs)) (BL : Below w.heap.size w w1)
    (own6 : w6.ownsRow 0 t size (.slice (some ⟨g, 0, none⟩) m cap) m (xs ++ news)) (gr6 : w1.grownBy w6 v.ownBlock) (hat6 : v.ownBlock = some g ∨ w1.heap.size ≤ g) : Tk S W0 (os.set i (obR t size (.slice (some ⟨g, 0, none⟩) m cap) m (xs ++ news))) w6 := by
  refine (h.next BL).turnR hi gr6 own6 (fun x hx => ?_)
  have e : g = x := by simpa [Value.ownBlock] using hx
  subst e
  rcases hat6 with h | h
  · exact .inl h
  · exact .inr (by omega)
theorem bls_at {w : World} {A : Option Addr} {n c : Nat} {l : List Bool} (h : Sl w (.slice A n c) n 1 (bls l)) (hl : l.length = n) (k : Nat) (hk : k < n) :
    ∃ b o, A = some ⟨b, o, none⟩ ∧ w.cell? ⟨b, o + k, none⟩ = some (.bool (l.getD k false)) := by
  obtain ⟨A', c', e, _, hxl, hA⟩ := h
  simp only [Value.slice.injEq] at e
  obtain ⟨rfl, _, rfl⟩ := e
  obtain ⟨b, o, rfl, hb, hc⟩ := hA (by omega)
  refine ⟨b, o, rfl, hc k _ ?_⟩
  unfold bls
  rw [List.getElem?_map, List.getElem?_eq_getElem (by omega)]
  simp [List.getD, List.getElem?_eq_getElem (show k < l.length by omega)]
def hbL : Hs → List Stp → List Bool
  | _, [] => []
  | h, s :: l => hdC 2 h s :: hbL (hdS plC h s) l
theorem hbL_app (s : Stp) : ∀ (l : List Stp) (h : Hs), hbL h (l ++ [s]) = hbL h l ++ [hdC 2 (hdW plC h l) s] := by
  intro l
  induction l with
  | nil => intro h; rfl
  | cons x l ih => intro h; simp only [List.cons_append, hbL, ih]; rfl
theorem hbL_at : ∀ (l : List Stp) (h : Hs) (i : Nat), i < l.length → (pgC 2 h l).getD i stD = if (hbL h l).getD i false then l.getD i stD else stD := by
  intro l
  induction l with
  | nil => intro h i hi; simp at hi
  | cons s l ih =>
    intro h i hi
    match i with
    | 0 => rfl
    | i + 1 =>
      have := ih (hdS plC h s) i (by simpa using hi)
      simpa [pgC, hbL] using this
structure OwS (L : List Stp) (B : List Bool) (ow nx left : Int) : Prop where
  bits : B = hbL (hsNew plC) L
  t : (hdW plC (hsNew plC) L).t ≤ L.length
  l2 : (hdW plC (hsNew plC) L).L 1 ≤ 2
  left : left = ((hdW plC (hsNew plC) L).L 1 : Int)
  o : (hdW plC (hsNew plC) L).O 1 = 0 ∨ (hdW plC (hsNew plC) L).O 1 = 1 ∨ (hdW plC (hsNew plC) L).O 1 = 2
  here : (hdW plC (hsNew plC) L).L 1 = 0 → ow = (hdW plC (hsNew plC) L).O 1
  away : (hdW plC (hsNew plC) L).L 1 ≠ 0 → ow = -1 ∧ nx = (hdW plC (hsNew plC) L).O 1
theorem hdW_app (c : Cf) (h : Hs) (L : List Stp) (s : Stp) : hdW c h (L ++ [s]) = hdS c (hdW c h L) s := by unfold hdW; rw [List.foldl_append]; rfl
theorem OwS.start : OwS [] [] 2 0 0 := ⟨rfl, Nat.le_refl _, by decide, rfl, .inr (.inr rfl), fun _ => rfl, fun h => absurd rfl h⟩
section
variable {L : List Stp} {B : List Bool} {ow nx left : Int}
theorem OwS.tick (h : OwS L B ow nx left) (h40 : L.length ≤ 40) (ow' left' : Int) (hl : left' = if 0 < left then left - 1 else left) (ho : ow' = if left = 1 then nx else ow) : OwS (L ++ [⟨1, 0, 0, 0, 0, 0, ⟨#[]⟩⟩]) (B ++ [true]) ow' nx left' := by
  have e : hdW plC (hsNew plC) (L ++ [⟨1, 0, 0, 0, 0, 0, ⟨#[]⟩⟩]) = ⟨(hdW plC (hsNew plC) L).t + 1, (hdW plC (hsNew plC) L).O, atL (hdW plC (hsNew plC) L).L 2⟩ := by
    rw [hdW_app]; unfold hdS; rw [if_pos rfl, if_pos (by have := h.t; omega)]; rfl
  have e1 : atL (hdW plC (hsNew plC) L).L 2 1 = (hdW plC (hsNew plC) L).L 1 - 1 := by unfold atL; rw [if_pos (by omega)]
  have hb := h.bits; have h1 := h.t; have h2 := h.l2; have h3 := h.left; have h4 := h.o; have h5 := h.here; have h6 := h.away
  refine ⟨by rw [hbL_app, hb]; rfl, ?_, ?_, ?_, ?_, ?_, ?_⟩ <;> rw [e] <;> dsimp only
  · rw [List.length_append]; simpa using h1
  · rw [e1]; omega
  · rw [e1, hl]; split <;> omega
  · exact h4
  · rw [e1]
    intro hz
    rw [ho]
    split
    · exact (h6 (by omega)).2
    · exact h5 (by omega)
  · rw [e1]
    intro hz
    rw [ho, if_neg (by omega)]
    exact h6 (by omega)
theorem OwS.move {p : Nat} (h : OwS L B ow nx left) (hp : p < 3) (ow' nx' left' : Int) (h0 : left = 0 → ow' = -1 ∧ nx' = p ∧ left' = 2) (h1 : left ≠ 0 → ow' = ow ∧ nx' = nx ∧ left' = left) : OwS (L ++ [⟨2, 0, 1, (p : Int), 0, 0, ⟨#[]⟩⟩]) (B ++ [true]) ow' nx' left' := by
  have hb := h.bits; have g1 := h.t; have g2 := h.l2; have g3 := h.left; have g4 := h.o; have g5 := h.here; have g6 := h.away
  have e : hdW plC (hsNew plC) (L ++ [⟨2, 0, 1, (p : Int), 0, 0, ⟨#[]⟩⟩]) = ⟨(hdW plC (hsNew plC) L).t, amO 2 3 (hdW plC (hsNew plC) L).O (hdW plC (hsNew plC) L).L 1 p, amL 2 3 2 (hdW plC (hsNew plC) L).L 1 p⟩ := by rw [hdW_app]; rfl
  have hB : amB 2 3 1 (p : Int) = true := by unfold amB adB; simp; omega
  by_cases hl : left = 0
  · obtain ⟨rfl, rfl, rfl⟩ := h0 hl
    have hg : amG 2 3 (hdW plC (hsNew plC) L).L 1 p = true := by unfold amG; rw [hB]; simp; omega
    have eO : amO 2 3 (hdW plC (hsNew plC) L).O (hdW plC (hsNew plC) L).L 1 p 1 = p := by unfold amO; rw [hg]; rfl
    have eL : amL 2 3 2 (hdW plC (hsNew plC) L).L 1 p 1 = 2 := by unfold amL; rw [hg]; rfl
    refine ⟨by rw [hbL_app, hb]; rfl, ?_, ?_, ?_, ?_, ?_, ?_⟩ <;> rw [e] <;> dsimp only
    · rw [List.length_append]; omega
    · rw [eL]; omega
    · rw [eL]; rfl
    · rw [eO]; omega
    · rw [eL]; intro hz; omega
    · rw [eO]; exact fun _ => ⟨rfl, rfl⟩
  · obtain ⟨rfl, rfl, rfl⟩ := h1 hl
    have hg : amG 2 3 (hdW plC (hsNew plC) L).L 1 p = false := by unfold amG; rw [hB, decide_eq_false (by show ¬ (hdW plC (hsNew plC) L).L 1 = 0; omega)]; rfl
    have eO : amO 2 3 (hdW plC (hsNew plC) L).O (hdW plC (hsNew plC) L).L 1 p = (hdW plC (hsNew plC) L).O := by unfold amO; rw [hg]; rfl
    have eL : amL 2 3 2 (hdW plC (hsNew plC) L).L 1 p = (hdW plC (hsNew plC) L).L := by unfold amL; rw [hg]; rfl
    refine ⟨by rw [hbL_app, hb]; rfl, ?_, ?_, ?_, ?_, ?_, ?_⟩ <;> rw [e] <;> dsimp only
    · rw [List.length_append]; omega
    · rw [eL]; exact g2
    · rw [eL]; exact g3
    · rw [eO]; exact g4
    · rw [eL, eO]; exact g5
    · rw [eL, eO]; exact g6
theorem OwS.ways (h : OwS L B ow nx left) : (left = 0 ∨ left = 1 ∨ left = 2) ∧ (ow = -1 ∨ ow = 0 ∨ ow = 1 ∨ ow = 2) := by
  have g2 := h.l2; have g3 := h.left; have g4 := h.o; have g5 := h.here; have g6 := h.away
  refine ⟨by omega, ?_⟩
  by_cases hl : (hdW plC (hsNew plC) L).L 1 = 0
  · have := g5 hl; omega
  · have := (g6 hl).1; omega
theorem OwS.dma {b : Int} (h : OwS L B ow nx left) (hb0 : 0 ≤ b) (hb1 : b ≤ 1) (q : Bool) (hq : q = (decide (ow = 2) || decide (ow = 0))) : OwS (L ++ [⟨3 + b, 0, 1, 5, 0, 0, ⟨#[]⟩⟩]) (B ++ [q]) ow nx left := by
  have hb := h.bits; have g1 := h.t; have g2 := h.l2; have g3 := h.left; have g4 := h.o; have g5 := h.here; have g6 := h.away
  have e : hdW plC (hsNew plC) (L ++ [⟨3 + b, 0, 1, 5, 0, 0, ⟨#[]⟩⟩]) = hdW plC (hsNew plC) L := by rw [hdW_app]; unfold hdS; rw [if_neg (by dsimp only; omega), if_neg (by dsimp only; omega)]
  have eq : hdC 2 (hdW plC (hsNew plC) L) ⟨3 + b, 0, 1, 5, 0, 0, ⟨#[]⟩⟩ = q := by
    unfold hdC
    rw [if_pos (by dsimp only; omega), hq]
    have ea : aoX 2 (hdW plC (hsNew plC) L).O (hdW plC (hsNew plC) L).L 1 = ow := by
      unfold aoX adB
      rw [decide_eq_true (by omega), if_pos rfl]
      show (if (hdW plC (hsNew plC) L).L 1 = 0 then (hdW plC (hsNew plC) L).O 1 else -1) = ow
      split
      · exact (g5 (by assumption)).symm
      · exact (g6 (by assumption)).1.symm
    rw [ea]
    rcases h.ways.2 with rfl | rfl | rfl | rfl <;> rfl
  refine ⟨by rw [hbL_app, hb, eq], ?_, ?_, ?_, ?_, ?_, ?_⟩ <;> rw [e]
  · rw [List.length_append]; omega
  · exact g2
  · exact g3
  · exact g4
  · exact g5
  · exact g6
end
end Go.Proofs.Ytkaalinoiilmoaa
namespace Go.Proofs.Ytkaalinoiilmoaa
open Go.RowKit Go.ChangeMaps
set_option linter.unusedVariables false
set_option linter.unusedSimpArgs false
set_option maxRecDepth 100000
set_option maxHeartbeats 8000000 in
theorem law_PurgeOwners (v0 : Value) (n : Nat) (z0 : List Int) (w : World) (hs0 : Sl w v0 n 1 (ints z0)) (hn : n ≤ maxLen) (hl : z0.length = n) :
    Calls Try.prog 7 #[v0] w fun e w' => e = .returned (.bool true) ∧ Below w.heap.size w w' := by
  obtain ⟨i7, hi7, h70, h71, h72⟩ := info_parts infoStep
  have H70 := Lib.hid hi7; have H71 := Lib.hid h70; have H72 := Lib.hid h71; have H73 := Lib.hid h72
  clear hi7 h70 h71 h72
  obtain ⟨i1, hi1, h10, h11, h12⟩ := info_parts infoBoolV
  have H10 := Lib.hid hi1; have H11 := Lib.hid h10; have H12 := Lib.hid h11; have H13 := Lib.hid h12
  clear hi1 h10 h11 h12
  have HS := Lib.hid hs0; have HL := Lib.hid hl
  obtain ⟨A, cap, rfl, hcap, -, -⟩ := hs0
  unfold maxLen at hn
  clear hl
  go_enter Try.func7, Try.ntmps7
  go_wp2_with fail
  refine (vawake_any _).mono ?_
  rintro e wa ⟨rfl, ba⟩
  have HB0 := Lib.hid ba
  clear ba
  go_wp2_with fail
  refine (pl_plain _).mono ?_
  rintro e w1 ⟨b4, b7, b8, b9, rfl, hc, hbel⟩
  have HB := Lib.hid (Below.down HB0.out hbel HB0.out.size); have HC := Lib.hid hc
  have T1 : Hid (Tk nos w1 [obS (.slice none 0 0) [], obK (.slice none 0 0) [], obB w1.heap.size 27 (plV b4 b7 b8 b9)] (w1.alloc (.cells #[.int .i64 16, .slice (some ⟨b4, 0, none⟩) 3 3, .slice (some ⟨b7, 0, none⟩) 2 2, .int .i64 6, .slice (some ⟨b8, 0, none⟩) 3 3, .slice (some ⟨b9, 0, none⟩) 1 1, .int .i64 10, .int .i64 6, .int .i64 2] 27))) := Lib.hid
    ((((Tk.empty w1).alloc 27 (plV b4 b7 b8 b9)).addR (v := .slice none 0 0) (n := 0) (xs := []) (Below.refl _ _) (World.ownsRow_nil _ _ _ _)).addR (v := .slice none 0 0) (n := 0) (xs := []) (Below.refl _ _) (World.ownsRow_nil _ _ _ _))
  clear hc hbel HB0
  go_wp2_with fail
  generalize w1.alloc (.cells #[.int .i64 16, .slice (some ⟨b4, 0, none⟩) 3 3, .slice (some ⟨b7, 0, none⟩) 2 2, .int .i64 6, .slice (some ⟨b8, 0, none⟩) 3 3, .slice (some ⟨b9, 0, none⟩) 1 1, .int .i64 10, .int .i64 6, .int .i64 2] 27) = w2 at *
  generalize w1.heap.size = y at *
  go_loopw [4, 5, 6, 7, 8, 9, 10] (fun v4 v5 ow nx le i pv wr => ∃ (k : Nat) (L : List Stp) (B : List Bool), k ≤ n ∧ k ≤ 40 ∧ i = .int .i64 k ∧ pv = pv ∧ v4 = v4 ∧ (∃ o : Int, ow = .int .i64 o) ∧ (∃ o : Int, nx = .int .i64 o) ∧ (∃ o : Int, le = .int .i64 o) ∧ Hid (Tk nos w1 [obS v4 L, obK v5 B, obB y 27 (plV b4 b7 b8 b9)] wr ∧ (L.length = k ∧ B.length = k) ∧ OwS L B (intOf ow) (intOf nx) (intOf le))) (fun _ _ _ _ _ i _ _ => 40 - (intOf i).toNat)
  case atStart => exact ⟨0, [], [], by omega, by omega, rfl, rfl, rfl, ⟨_, rfl⟩, ⟨_, rfl⟩, ⟨_, rfl⟩, Lib.hid ⟨T1.out, ⟨rfl, rfl⟩, OwS.start⟩⟩
  case round =>
    clear T1
    obtain ⟨k, L, B, hkn, hk40, rfl, -, -, ⟨ow, rfl⟩, ⟨nx, rfl⟩, ⟨le, rfl⟩, HX⟩ := hrel
    have HT := Lib.hid HX.out.1
    have HI : Hid ((L.length = k ∧ B.length = k) ∧ OwS L B ow nx le) := Lib.hid ⟨HX.out.2.1, HX.out.2.2⟩
    clear HX
    by_cases hlt : k < n ∧ k < 40
    · obtain ⟨hlt, hlt40⟩ := hlt
      have hltI : (k : Int) < n := by omega
      have hLk : L.length < 40 := by have := HI.out.1.1; omega
      have hBk : B.length < 40 := by have := HI.out.1.2; omega
      have hways := HI.out.2.ways
      obtain ⟨b, o, rfl, hb, hcell⟩ := (show ∃ b o, A = some ⟨b, o, none⟩ ∧ b < w.heap.size ∧ w.cell? ⟨b, o + k, none⟩ = some (.int .i64 (z0.getD k 0)) by
        obtain ⟨A', c', e, _, _, hA⟩ := HS.out
        simp only [Value.slice.injEq] at e
        obtain ⟨rfl, _, rfl⟩ := e
        obtain ⟨b, o, rfl, hb, hc⟩ := hA (by omega)
        exact ⟨b, o, rfl, hb, hc k _ (ints_get z0 k (by rw [HL.out]; exact hlt))⟩)
      have hk40b : decide ((k : Int) < 40) = true := by simp; omega
      have c0 := ((Below.down HB.out HT.out.below HB.out.size).cell (p := ⟨b, o + k, none⟩) hb).trans hcell
      clear hcell hb
      generalize z0.getD k 0 = z at *
      have hK := band z 3 (by omega) (by omega)
      have hM := band (z / 4) 1023 (by omega) (by omega)
      have hb := band (z / 4) 1 (by omega) (by omega)
      generalize hK' : bits BinOp.and IntKind.i64 z 3 = K at hK
      generalize hM' : bits BinOp.and IntKind.i64 (z / 4) 1023 = M at hM
      generalize hb' : bits BinOp.and IntKind.i64 (z / 4) 1 = bb at hb
      obtain ⟨p, ep, hp3⟩ : ∃ p : Nat, M % 3 = p ∧ p < 3 := ⟨(M % 3).toNat, by omega, by omega⟩
      obtain ⟨hb0, hb1⟩ := hb
      have h40' : L.length ≤ 40 := by omega
      rcases (show K = 0 ∨ K = 1 ∨ (2 ≤ K ∧ K ≤ 3) by omega) with rfl | rfl | hK2
      · clear hM' hb' ep
        rcases hways.1 with rfl | rfl | rfl
        · have HNX := Lib.hid (HI.out.2.tick h40' ow 0 (by simp) (by simp))
          have BL := Lib.hid (show Below wr.heap.size wr (wr.alloc (.cells #[.int .i64 1, .int .i64 0, .int .i64 0, .int .i64 0, .int .i64 0, .int .i64 0, .string ⟨#[]⟩] 39)) from (Below.refl _ _).alloc (Nat.le_refl _) _)
          go_wp2_with (at_builtin; refine wpList_append_lies _ rfl _ _ 32 rfl 0 39 i7 _ 7 64 Try.underlying32 H70.out H71.out H72.out H73.out rfl (by decide) u4 L.length (stcs L) rfl (own_below (HT.out.row (i := 0) rfl) BL.out) ⟨wr.heap.size, 0, none⟩ 1 1 [.int .i64 1, .int .i64 0, .int .i64 0, .int .i64 0, .int .i64 0, .int .i64 0, .string ⟨#[]⟩] rfl rfl (row_new wr [.int .i64 1, .int .i64 0, .int .i64 0, .int .i64 0, .int .i64 0, .int .i64 0, .string ⟨#[]⟩] 39) (one_stc ⟨1, 0, 0, 0, 0, 0, ⟨#[]⟩⟩) (by omega) (by unfold maxLen; omega) (by omega) (by omega) _ rfl ?_)
          intro g4 cap4 w6 own6 gr6 hat6 hlt6
          have T6 : Hid (Tk nos w1 [obS (.slice (some ⟨g4, 0, none⟩) (L.length + 1) cap4) (L ++ [⟨1, 0, 0, 0, 0, 0, ⟨#[]⟩⟩]), obK u5 B, obB y 27 (plV b4 b7 b8 b9)] w6) := Lib.hid (by rw [← obS_app]; exact HT.out.grow (i := 0) rfl BL.out own6 gr6 (hat6.imp id (fun h => by simp only [World.size_alloc]; omega)))
          clear own6 gr6 hat6 hlt6 BL
          have BL := Lib.hid (show Below w6.heap.size w6 (w6.alloc (.cells #[.bool true] 4)) from (Below.refl _ _).alloc (Nat.le_refl _) _)
          go_wp2_with (at_builtin; refine wpList_append_lies _ rfl _ _ 53 rfl 0 4 i1 _ 1 1 Try.underlying53 H10.out H11.out H12.out H13.out rfl (by decide) u5 B.length (bls B) rfl (own_below (T6.out.row (i := 1) rfl) BL.out) ⟨w6.heap.size, 0, none⟩ 1 1 [.bool true] rfl rfl (row_new w6 [.bool true] 4) (one_bit true) (by omega) (by unfold maxLen; omega) (by omega) (by omega) _ rfl ?_)
          intro g5 cap5 w7 own6 gr6 hat6 hlt6
          have T7 : Hid (Tk nos w1 [obS (.slice (some ⟨g4, 0, none⟩) (L.length + 1) cap4) (L ++ [⟨1, 0, 0, 0, 0, 0, ⟨#[]⟩⟩]), obK (.slice (some ⟨g5, 0, none⟩) (B.length + 1) cap5) (B ++ [true]), obB y 27 (plV b4 b7 b8 b9)] w7) := Lib.hid (by rw [← obK_app]; exact T6.out.grow (i := 1) rfl BL.out own6 gr6 (hat6.imp id (fun h => by simp only [World.size_alloc]; omega)))
          clear own6 gr6 hat6 hlt6 BL
          go_wp2_with fail
          go_roundw
          case rel => exact ⟨k + 1, L ++ [⟨1, 0, 0, 0, 0, 0, ⟨#[]⟩⟩], B ++ [true], by omega, by omega, by go_num, trivial, trivial, ⟨_, rfl⟩, ⟨_, rfl⟩, ⟨_, rfl⟩, Lib.hid ⟨T7.out, by rw [List.length_append, List.length_append, HI.out.1.1, HI.out.1.2]; exact ⟨rfl, rfl⟩, HNX.out⟩⟩
          case measure => simp [intOf]; omega
        · have HNX := Lib.hid (HI.out.2.tick h40' nx 0 (by simp) (by simp))
          have BL := Lib.hid (show Below wr.heap.size wr (wr.alloc (.cells #[.int .i64 1, .int .i64 0, .int .i64 0, .int .i64 0, .int .i64 0, .int .i64 0, .string ⟨#[]⟩] 39)) from (Below.refl _ _).alloc (Nat.le_refl _) _)
          go_wp2_with (at_builtin; refine wpList_append_lies _ rfl _ _ 32 rfl 0 39 i7 _ 7 64 Try.underlying32 H70.out H71.out H72.out H73.out rfl (by decide) u4 L.length (stcs L) rfl (own_below (HT.out.row (i := 0) rfl) BL.out) ⟨wr.heap.size, 0, none⟩ 1 1 [.int .i64 1, .int .i64 0, .int .i64 0, .int .i64 0, .int .i64 0, .int .i64 0, .string ⟨#[]⟩] rfl rfl (row_new wr [.int .i64 1, .int .i64 0, .int .i64 0, .int .i64 0, .int .i64 0, .int .i64 0, .string ⟨#[]⟩] 39) (one_stc ⟨1, 0, 0, 0, 0, 0, ⟨#[]⟩⟩) (by omega) (by unfold maxLen; omega) (by omega) (by omega) _ rfl ?_)
          intro g4 cap4 w6 own6 gr6 hat6 hlt6
          have T6 : Hid (Tk nos w1 [obS (.slice (some ⟨g4, 0, none⟩) (L.length + 1) cap4) (L ++ [⟨1, 0, 0, 0, 0, 0, ⟨#[]⟩⟩]), obK u5 B, obB y 27 (plV b4 b7 b8 b9)] w6) := Lib.hid (by rw [← obS_app]; exact HT.out.grow (i := 0) rfl BL.out own6 gr6 (hat6.imp id (fun h => by simp only [World.size_alloc]; omega)))
          clear own6 gr6 hat6 hlt6 BL
          have BL := Lib.hid (show Below w6.heap.size w6 (w6.alloc (.cells #[.bool true] 4)) from (Below.refl _ _).alloc (Nat.le_refl _) _)
          go_wp2_with (at_builtin; refine wpList_append_lies _ rfl _ _ 53 rfl 0 4 i1 _ 1 1 Try.underlying53 H10.out H11.out H12.out H13.out rfl (by decide) u5 B.length (bls B) rfl (own_below (T6.out.row (i := 1) rfl) BL.out) ⟨w6.heap.size, 0, none⟩ 1 1 [.bool true] rfl rfl (row_new w6 [.bool true] 4) (one_bit true) (by omega) (by unfold maxLen; omega) (by omega) (by omega) _ rfl ?_)
          intro g5 cap5 w7 own6 gr6 hat6 hlt6
          have T7 : Hid (Tk nos w1 [obS (.slice (some ⟨g4, 0, none⟩) (L.length + 1) cap4) (L ++ [⟨1, 0, 0, 0, 0, 0, ⟨#[]⟩⟩]), obK (.slice (some ⟨g5, 0, none⟩) (B.length + 1) cap5) (B ++ [true]), obB y 27 (plV b4 b7 b8 b9)] w7) := Lib.hid (by rw [← obK_app]; exact T6.out.grow (i := 1) rfl BL.out own6 gr6 (hat6.imp id (fun h => by simp only [World.size_alloc]; omega)))
          clear own6 gr6 hat6 hlt6 BL
          go_wp2_with fail
          go_roundw
          case rel => exact ⟨k + 1, L ++ [⟨1, 0, 0, 0, 0, 0, ⟨#[]⟩⟩], B ++ [true], by omega, by omega, by go_num, trivial, trivial, ⟨_, rfl⟩, ⟨_, rfl⟩, ⟨_, rfl⟩, Lib.hid ⟨T7.out, by rw [List.length_append, List.length_append, HI.out.1.1, HI.out.1.2]; exact ⟨rfl, rfl⟩, HNX.out⟩⟩
          case measure => simp [intOf]; omega
        · have HNX := Lib.hid (HI.out.2.tick h40' ow 1 (by simp) (by simp))
          have BL := Lib.hid (show Below wr.heap.size wr (wr.alloc (.cells #[.int .i64 1, .int .i64 0, .int .i64 0, .int .i64 0, .int .i64 0, .int .i64 0, .string ⟨#[]⟩] 39)) from (Below.refl _ _).alloc (Nat.le_refl _) _)
          go_wp2_with (at_builtin; refine wpList_append_lies _ rfl _ _ 32 rfl 0 39 i7 _ 7 64 Try.underlying32 H70.out H71.out H72.out H73.out rfl (by decide) u4 L.length (stcs L) rfl (own_below (HT.out.row (i := 0) rfl) BL.out) ⟨wr.heap.size, 0, none⟩ 1 1 [.int .i64 1, .int .i64 0, .int .i64 0, .int .i64 0, .int .i64 0, .int .i64 0, .string ⟨#[]⟩] rfl rfl (row_new wr [.int .i64 1, .int .i64 0, .int .i64 0, .int .i64 0, .int .i64 0, .int .i64 0, .string ⟨#[]⟩] 39) (one_stc ⟨1, 0, 0, 0, 0, 0, ⟨#[]⟩⟩) (by omega) (by unfold maxLen; omega) (by omega) (by omega) _ rfl ?_)
          intro g4 cap4 w6 own6 gr6 hat6 hlt6
          have T6 : Hid (Tk nos w1 [obS (.slice (some ⟨g4, 0, none⟩) (L.length + 1) cap4) (L ++ [⟨1, 0, 0, 0, 0, 0, ⟨#[]⟩⟩]), obK u5 B, obB y 27 (plV b4 b7 b8 b9)] w6) := Lib.hid (by rw [← obS_app]; exact HT.out.grow (i := 0) rfl BL.out own6 gr6 (hat6.imp id (fun h => by simp only [World.size_alloc]; omega)))
          clear own6 gr6 hat6 hlt6 BL
          have BL := Lib.hid (show Below w6.heap.size w6 (w6.alloc (.cells #[.bool true] 4)) from (Below.refl _ _).alloc (Nat.le_refl _) _)
          go_wp2_with (at_builtin; refine wpList_append_lies _ rfl _ _ 53 rfl 0 4 i1 _ 1 1 Try.underlying53 H10.out H11.out H12.out H13.out rfl (by decide) u5 B.length (bls B) rfl (own_below (T6.out.row (i := 1) rfl) BL.out) ⟨w6.heap.size, 0, none⟩ 1 1 [.bool true] rfl rfl (row_new w6 [.bool true] 4) (one_bit true) (by omega) (by unfold maxLen; omega) (by omega) (by omega) _ rfl ?_)
          intro g5 cap5 w7 own6 gr6 hat6 hlt6
          have T7 : Hid (Tk nos w1 [obS (.slice (some ⟨g4, 0, none⟩) (L.length + 1) cap4) (L ++ [⟨1, 0, 0, 0, 0, 0, ⟨#[]⟩⟩]), obK (.slice (some ⟨g5, 0, none⟩) (B.length + 1) cap5) (B ++ [true]), obB y 27 (plV b4 b7 b8 b9)] w7) := Lib.hid (by rw [← obK_app]; exact T6.out.grow (i := 1) rfl BL.out own6 gr6 (hat6.imp id (fun h => by simp only [World.size_alloc]; omega)))
          clear own6 gr6 hat6 hlt6 BL
          go_wp2_with fail
          go_roundw
          case rel => exact ⟨k + 1, L ++ [⟨1, 0, 0, 0, 0, 0, ⟨#[]⟩⟩], B ++ [true], by omega, by omega, by go_num, trivial, trivial, ⟨_, rfl⟩, ⟨_, rfl⟩, ⟨_, rfl⟩, Lib.hid ⟨T7.out, by rw [List.length_append, List.length_append, HI.out.1.1, HI.out.1.2]; exact ⟨rfl, rfl⟩, HNX.out⟩⟩
          case measure => simp [intOf]; omega
      · clear hb'
        rcases hways.1 with rfl | rfl | rfl
        · have HNX := Lib.hid (OwS.move HI.out.2 hp3 (-1) p 2 (fun _ => ⟨rfl, rfl, rfl⟩) (fun h => absurd rfl h))
          have BL := Lib.hid (show Below wr.heap.size wr (wr.alloc (.cells #[.int .i64 2, .int .i64 0, .int .i64 1, .int .i64 (p : Int), .int .i64 0, .int .i64 0, .string ⟨#[]⟩] 39)) from (Below.refl _ _).alloc (Nat.le_refl _) _)
          go_wp2_with (at_builtin; refine wpList_append_lies _ rfl _ _ 32 rfl 0 39 i7 _ 7 64 Try.underlying32 H70.out H71.out H72.out H73.out rfl (by decide) u4 L.length (stcs L) rfl (own_below (HT.out.row (i := 0) rfl) BL.out) ⟨wr.heap.size, 0, none⟩ 1 1 [.int .i64 2, .int .i64 0, .int .i64 1, .int .i64 (p : Int), .int .i64 0, .int .i64 0, .string ⟨#[]⟩] rfl rfl (row_new wr [.int .i64 2, .int .i64 0, .int .i64 1, .int .i64 (p : Int), .int .i64 0, .int .i64 0, .string ⟨#[]⟩] 39) (one_stc ⟨2, 0, 1, (p : Int), 0, 0, ⟨#[]⟩⟩) (by omega) (by unfold maxLen; omega) (by omega) (by omega) _ rfl ?_)
          intro g4 cap4 w6 own6 gr6 hat6 hlt6
          have T6 : Hid (Tk nos w1 [obS (.slice (some ⟨g4, 0, none⟩) (L.length + 1) cap4) (L ++ [⟨2, 0, 1, (p : Int), 0, 0, ⟨#[]⟩⟩]), obK u5 B, obB y 27 (plV b4 b7 b8 b9)] w6) := Lib.hid (by rw [← obS_app]; exact HT.out.grow (i := 0) rfl BL.out own6 gr6 (hat6.imp id (fun h => by simp only [World.size_alloc]; omega)))
          clear own6 gr6 hat6 hlt6 BL
          have BL := Lib.hid (show Below w6.heap.size w6 (w6.alloc (.cells #[.bool true] 4)) from (Below.refl _ _).alloc (Nat.le_refl _) _)
          go_wp2_with (at_builtin; refine wpList_append_lies _ rfl _ _ 53 rfl 0 4 i1 _ 1 1 Try.underlying53 H10.out H11.out H12.out H13.out rfl (by decide) u5 B.length (bls B) rfl (own_below (T6.out.row (i := 1) rfl) BL.out) ⟨w6.heap.size, 0, none⟩ 1 1 [.bool true] rfl rfl (row_new w6 [.bool true] 4) (one_bit true) (by omega) (by unfold maxLen; omega) (by omega) (by omega) _ rfl ?_)
          intro g5 cap5 w7 own6 gr6 hat6 hlt6
          have T7 : Hid (Tk nos w1 [obS (.slice (some ⟨g4, 0, none⟩) (L.length + 1) cap4) (L ++ [⟨2, 0, 1, (p : Int), 0, 0, ⟨#[]⟩⟩]), obK (.slice (some ⟨g5, 0, none⟩) (B.length + 1) cap5) (B ++ [true]), obB y 27 (plV b4 b7 b8 b9)] w7) := Lib.hid (by rw [← obK_app]; exact T6.out.grow (i := 1) rfl BL.out own6 gr6 (hat6.imp id (fun h => by simp only [World.size_alloc]; omega)))
          clear own6 gr6 hat6 hlt6 BL
          go_wp2_with fail
          go_roundw
          case rel => exact ⟨k + 1, L ++ [⟨2, 0, 1, (p : Int), 0, 0, ⟨#[]⟩⟩], B ++ [true], by omega, by omega, by go_num, trivial, trivial, ⟨_, rfl⟩, ⟨_, rfl⟩, ⟨_, rfl⟩, Lib.hid ⟨T7.out, by rw [List.length_append, List.length_append, HI.out.1.1, HI.out.1.2]; exact ⟨rfl, rfl⟩, HNX.out⟩⟩
          case measure => simp [intOf]; omega
        · have HNX := Lib.hid (OwS.move HI.out.2 hp3 ow nx 1 (fun h => by omega) (fun _ => ⟨rfl, rfl, rfl⟩))
          have BL := Lib.hid (show Below wr.heap.size wr (wr.alloc (.cells #[.int .i64 2, .int .i64 0, .int .i64 1, .int .i64 (p : Int), .int .i64 0, .int .i64 0, .string ⟨#[]⟩] 39)) from (Below.refl _ _).alloc (Nat.le_refl _) _)
          go_wp2_with (at_builtin; refine wpList_append_lies _ rfl _ _ 32 rfl 0 39 i7 _ 7 64 Try.underlying32 H70.out H71.out H72.out H73.out rfl (by decide) u4 L.length (stcs L) rfl (own_below (HT.out.row (i := 0) rfl) BL.out) ⟨wr.heap.size, 0, none⟩ 1 1 [.int .i64 2, .int .i64 0, .int .i64 1, .int .i64 (p : Int), .int .i64 0, .int .i64 0, .string ⟨#[]⟩] rfl rfl (row_new wr [.int .i64 2, .int .i64 0, .int .i64 1, .int .i64 (p : Int), .int .i64 0, .int .i64 0, .string ⟨#[]⟩] 39) (one_stc ⟨2, 0, 1, (p : Int), 0, 0, ⟨#[]⟩⟩) (by omega) (by unfold maxLen; omega) (by omega) (by omega) _ rfl ?_)
          intro g4 cap4 w6 own6 gr6 hat6 hlt6
          have T6 : Hid (Tk nos w1 [obS (.slice (some ⟨g4, 0, none⟩) (L.length + 1) cap4) (L ++ [⟨2, 0, 1, (p : Int), 0, 0, ⟨#[]⟩⟩]), obK u5 B, obB y 27 (plV b4 b7 b8 b9)] w6) := Lib.hid (by rw [← obS_app]; exact HT.out.grow (i := 0) rfl BL.out own6 gr6 (hat6.imp id (fun h => by simp only [World.size_alloc]; omega)))
          clear own6 gr6 hat6 hlt6 BL
          have BL := Lib.hid (show Below w6.heap.size w6 (w6.alloc (.cells #[.bool true] 4)) from (Below.refl _ _).alloc (Nat.le_refl _) _)
          go_wp2_with (at_builtin; refine wpList_append_lies _ rfl _ _ 53 rfl 0 4 i1 _ 1 1 Try.underlying53 H10.out H11.out H12.out H13.out rfl (by decide) u5 B.length (bls B) rfl (own_below (T6.out.row (i := 1) rfl) BL.out) ⟨w6.heap.size, 0, none⟩ 1 1 [.bool true] rfl rfl (row_new w6 [.bool true] 4) (one_bit true) (by omega) (by unfold maxLen; omega) (by omega) (by omega) _ rfl ?_)
          intro g5 cap5 w7 own6 gr6 hat6 hlt6
          have T7 : Hid (Tk nos w1 [obS (.slice (some ⟨g4, 0, none⟩) (L.length + 1) cap4) (L ++ [⟨2, 0, 1, (p : Int), 0, 0, ⟨#[]⟩⟩]), obK (.slice (some ⟨g5, 0, none⟩) (B.length + 1) cap5) (B ++ [true]), obB y 27 (plV b4 b7 b8 b9)] w7) := Lib.hid (by rw [← obK_app]; exact T6.out.grow (i := 1) rfl BL.out own6 gr6 (hat6.imp id (fun h => by simp only [World.size_alloc]; omega)))
          clear own6 gr6 hat6 hlt6 BL
          go_wp2_with fail
          go_roundw
          case rel => exact ⟨k + 1, L ++ [⟨2, 0, 1, (p : Int), 0, 0, ⟨#[]⟩⟩], B ++ [true], by omega, by omega, by go_num, trivial, trivial, ⟨_, rfl⟩, ⟨_, rfl⟩, ⟨_, rfl⟩, Lib.hid ⟨T7.out, by rw [List.length_append, List.length_append, HI.out.1.1, HI.out.1.2]; exact ⟨rfl, rfl⟩, HNX.out⟩⟩
          case measure => simp [intOf]; omega
        · have HNX := Lib.hid (OwS.move HI.out.2 hp3 ow nx 2 (fun h => by omega) (fun _ => ⟨rfl, rfl, rfl⟩))
          have BL := Lib.hid (show Below wr.heap.size wr (wr.alloc (.cells #[.int .i64 2, .int .i64 0, .int .i64 1, .int .i64 (p : Int), .int .i64 0, .int .i64 0, .string ⟨#[]⟩] 39)) from (Below.refl _ _).alloc (Nat.le_refl _) _)
          go_wp2_with (at_builtin; refine wpList_append_lies _ rfl _ _ 32 rfl 0 39 i7 _ 7 64 Try.underlying32 H70.out H71.out H72.out H73.out rfl (by decide) u4 L.length (stcs L) rfl (own_below (HT.out.row (i := 0) rfl) BL.out) ⟨wr.heap.size, 0, none⟩ 1 1 [.int .i64 2, .int .i64 0, .int .i64 1, .int .i64 (p : Int), .int .i64 0, .int .i64 0, .string ⟨#[]⟩] rfl rfl (row_new wr [.int .i64 2, .int .i64 0, .int .i64 1, .int .i64 (p : Int), .int .i64 0, .int .i64 0, .string ⟨#[]⟩] 39) (one_stc ⟨2, 0, 1, (p : Int), 0, 0, ⟨#[]⟩⟩) (by omega) (by unfold maxLen; omega) (by omega) (by omega) _ rfl ?_)
          intro g4 cap4 w6 own6 gr6 hat6 hlt6
          have T6 : Hid (Tk nos w1 [obS (.slice (some ⟨g4, 0, none⟩) (L.length + 1) cap4) (L ++ [⟨2, 0, 1, (p : Int), 0, 0, ⟨#[]⟩⟩]), obK u5 B, obB y 27 (plV b4 b7 b8 b9)] w6) := Lib.hid (by rw [← obS_app]; exact HT.out.grow (i := 0) rfl BL.out own6 gr6 (hat6.imp id (fun h => by simp only [World.size_alloc]; omega)))
          clear own6 gr6 hat6 hlt6 BL
          have BL := Lib.hid (show Below w6.heap.size w6 (w6.alloc (.cells #[.bool true] 4)) from (Below.refl _ _).alloc (Nat.le_refl _) _)
          go_wp2_with (at_builtin; refine wpList_append_lies _ rfl _ _ 53 rfl 0 4 i1 _ 1 1 Try.underlying53 H10.out H11.out H12.out H13.out rfl (by decide) u5 B.length (bls B) rfl (own_below (T6.out.row (i := 1) rfl) BL.out) ⟨w6.heap.size, 0, none⟩ 1 1 [.bool true] rfl rfl (row_new w6 [.bool true] 4) (one_bit true) (by omega) (by unfold maxLen; omega) (by omega) (by omega) _ rfl ?_)
          intro g5 cap5 w7 own6 gr6 hat6 hlt6
          have T7 : Hid (Tk nos w1 [obS (.slice (some ⟨g4, 0, none⟩) (L.length + 1) cap4) (L ++ [⟨2, 0, 1, (p : Int), 0, 0, ⟨#[]⟩⟩]), obK (.slice (some ⟨g5, 0, none⟩) (B.length + 1) cap5) (B ++ [true]), obB y 27 (plV b4 b7 b8 b9)] w7) := Lib.hid (by rw [← obK_app]; exact T6.out.grow (i := 1) rfl BL.out own6 gr6 (hat6.imp id (fun h => by simp only [World.size_alloc]; omega)))
          clear own6 gr6 hat6 hlt6 BL
          go_wp2_with fail
          go_roundw
          case rel => exact ⟨k + 1, L ++ [⟨2, 0, 1, (p : Int), 0, 0, ⟨#[]⟩⟩], B ++ [true], by omega, by omega, by go_num, trivial, trivial, ⟨_, rfl⟩, ⟨_, rfl⟩, ⟨_, rfl⟩, Lib.hid ⟨T7.out, by rw [List.length_append, List.length_append, HI.out.1.1, HI.out.1.2]; exact ⟨rfl, rfl⟩, HNX.out⟩⟩
          case measure => simp [intOf]; omega
      · clear hM' ep
        have e0 : (K == 0) = false := beq_eq_false_iff_ne.2 (by omega)
        have e1 : (K == 1) = false := beq_eq_false_iff_ne.2 (by omega)
        generalize bb = b at *
        rcases hways.2 with rfl | rfl | rfl | rfl
        · have HNX := Lib.hid (HI.out.2.dma hb0 hb1 false rfl)
          have BL := Lib.hid (show Below wr.heap.size wr (wr.alloc (.cells #[.int .i64 (3 + b), .int .i64 0, .int .i64 1, .int .i64 5, .int .i64 0, .int .i64 0, .string ⟨#[]⟩] 39)) from (Below.refl _ _).alloc (Nat.le_refl _) _)
          go_wp2_with (at_builtin; refine wpList_append_lies _ rfl _ _ 32 rfl 0 39 i7 _ 7 64 Try.underlying32 H70.out H71.out H72.out H73.out rfl (by decide) u4 L.length (stcs L) rfl (own_below (HT.out.row (i := 0) rfl) BL.out) ⟨wr.heap.size, 0, none⟩ 1 1 [.int .i64 (3 + b), .int .i64 0, .int .i64 1, .int .i64 5, .int .i64 0, .int .i64 0, .string ⟨#[]⟩] rfl rfl (row_new wr [.int .i64 (3 + b), .int .i64 0, .int .i64 1, .int .i64 5, .int .i64 0, .int .i64 0, .string ⟨#[]⟩] 39) (one_stc ⟨3 + b, 0, 1, 5, 0, 0, ⟨#[]⟩⟩) (by omega) (by unfold maxLen; omega) (by omega) (by omega) _ rfl ?_)
          intro g4 cap4 w6 own6 gr6 hat6 hlt6
          have T6 : Hid (Tk nos w1 [obS (.slice (some ⟨g4, 0, none⟩) (L.length + 1) cap4) (L ++ [⟨3 + b, 0, 1, 5, 0, 0, ⟨#[]⟩⟩]), obK u5 B, obB y 27 (plV b4 b7 b8 b9)] w6) := Lib.hid (by rw [← obS_app]; exact HT.out.grow (i := 0) rfl BL.out own6 gr6 (hat6.imp id (fun h => by simp only [World.size_alloc]; omega)))
          clear own6 gr6 hat6 hlt6 BL
          have BL := Lib.hid (show Below w6.heap.size w6 (w6.alloc (.cells #[.bool false] 4)) from (Below.refl _ _).alloc (Nat.le_refl _) _)
          go_wp2_with (at_builtin; refine wpList_append_lies _ rfl _ _ 53 rfl 0 4 i1 _ 1 1 Try.underlying53 H10.out H11.out H12.out H13.out rfl (by decide) u5 B.length (bls B) rfl (own_below (T6.out.row (i := 1) rfl) BL.out) ⟨w6.heap.size, 0, none⟩ 1 1 [.bool false] rfl rfl (row_new w6 [.bool false] 4) (one_bit false) (by omega) (by unfold maxLen; omega) (by omega) (by omega) _ rfl ?_)
          intro g5 cap5 w7 own6 gr6 hat6 hlt6
          have T7 : Hid (Tk nos w1 [obS (.slice (some ⟨g4, 0, none⟩) (L.length + 1) cap4) (L ++ [⟨3 + b, 0, 1, 5, 0, 0, ⟨#[]⟩⟩]), obK (.slice (some ⟨g5, 0, none⟩) (B.length + 1) cap5) (B ++ [false]), obB y 27 (plV b4 b7 b8 b9)] w7) := Lib.hid (by rw [← obK_app]; exact T6.out.grow (i := 1) rfl BL.out own6 gr6 (hat6.imp id (fun h => by simp only [World.size_alloc]; omega)))
          clear own6 gr6 hat6 hlt6 BL
          go_wp2_with fail
          go_roundw
          case rel => exact ⟨k + 1, L ++ [⟨3 + b, 0, 1, 5, 0, 0, ⟨#[]⟩⟩], B ++ [false], by omega, by omega, by go_num, trivial, trivial, ⟨_, rfl⟩, ⟨_, rfl⟩, ⟨_, rfl⟩, Lib.hid ⟨T7.out, by rw [List.length_append, List.length_append, HI.out.1.1, HI.out.1.2]; exact ⟨rfl, rfl⟩, HNX.out⟩⟩
          case measure => simp [intOf]; omega
        · have HNX := Lib.hid (HI.out.2.dma hb0 hb1 true rfl)
          have BL := Lib.hid (show Below wr.heap.size wr (wr.alloc (.cells #[.int .i64 (3 + b), .int .i64 0, .int .i64 1, .int .i64 5, .int .i64 0, .int .i64 0, .string ⟨#[]⟩] 39)) from (Below.refl _ _).alloc (Nat.le_refl _) _)
          go_wp2_with (at_builtin; refine wpList_append_lies _ rfl _ _ 32 rfl 0 39 i7 _ 7 64 Try.underlying32 H70.out H71.out H72.out H73.out rfl (by decide) u4 L.length (stcs L) rfl (own_below (HT.out.row (i := 0) rfl) BL.out) ⟨wr.heap.size, 0, none⟩ 1 1 [.int .i64 (3 + b), .int .i64 0, .int .i64 1, .int .i64 5, .int .i64 0, .int .i64 0, .string ⟨#[]⟩] rfl rfl (row_new wr [.int .i64 (3 + b), .int .i64 0, .int .i64 1, .int .i64 5, .int .i64 0, .int .i64 0, .string ⟨#[]⟩] 39) (one_stc ⟨3 + b, 0, 1, 5, 0, 0, ⟨#[]⟩⟩) (by omega) (by unfold maxLen; omega) (by omega) (by omega) _ rfl ?_)
          intro g4 cap4 w6 own6 gr6 hat6 hlt6
          have T6 : Hid (Tk nos w1 [obS (.slice (some ⟨g4, 0, none⟩) (L.length + 1) cap4) (L ++ [⟨3 + b, 0, 1, 5, 0, 0, ⟨#[]⟩⟩]), obK u5 B, obB y 27 (plV b4 b7 b8 b9)] w6) := Lib.hid (by rw [← obS_app]; exact HT.out.grow (i := 0) rfl BL.out own6 gr6 (hat6.imp id (fun h => by simp only [World.size_alloc]; omega)))
          clear own6 gr6 hat6 hlt6 BL
          have BL := Lib.hid (show Below w6.heap.size w6 (w6.alloc (.cells #[.bool true] 4)) from (Below.refl _ _).alloc (Nat.le_refl _) _)
          go_wp2_with (at_builtin; refine wpList_append_lies _ rfl _ _ 53 rfl 0 4 i1 _ 1 1 Try.underlying53 H10.out H11.out H12.out H13.out rfl (by decide) u5 B.length (bls B) rfl (own_below (T6.out.row (i := 1) rfl) BL.out) ⟨w6.heap.size, 0, none⟩ 1 1 [.bool true] rfl rfl (row_new w6 [.bool true] 4) (one_bit true) (by omega) (by unfold maxLen; omega) (by omega) (by omega) _ rfl ?_)
          intro g5 cap5 w7 own6 gr6 hat6 hlt6
          have T7 : Hid (Tk nos w1 [obS (.slice (some ⟨g4, 0, none⟩) (L.length + 1) cap4) (L ++ [⟨3 + b, 0, 1, 5, 0, 0, ⟨#[]⟩⟩]), obK (.slice (some ⟨g5, 0, none⟩) (B.length + 1) cap5) (B ++ [true]), obB y 27 (plV b4 b7 b8 b9)] w7) := Lib.hid (by rw [← obK_app]; exact T6.out.grow (i := 1) rfl BL.out own6 gr6 (hat6.imp id (fun h => by simp only [World.size_alloc]; omega)))
          clear own6 gr6 hat6 hlt6 BL
          go_wp2_with fail
          go_roundw
          case rel => exact ⟨k + 1, L ++ [⟨3 + b, 0, 1, 5, 0, 0, ⟨#[]⟩⟩], B ++ [true], by omega, by omega, by go_num, trivial, trivial, ⟨_, rfl⟩, ⟨_, rfl⟩, ⟨_, rfl⟩, Lib.hid ⟨T7.out, by rw [List.length_append, List.length_append, HI.out.1.1, HI.out.1.2]; exact ⟨rfl, rfl⟩, HNX.out⟩⟩
          case measure => simp [intOf]; omega
        · have HNX := Lib.hid (HI.out.2.dma hb0 hb1 false rfl)
          have BL := Lib.hid (show Below wr.heap.size wr (wr.alloc (.cells #[.int .i64 (3 + b), .int .i64 0, .int .i64 1, .int .i64 5, .int .i64 0, .int .i64 0, .string ⟨#[]⟩] 39)) from (Below.refl _ _).alloc (Nat.le_refl _) _)
          go_wp2_with (at_builtin; refine wpList_append_lies _ rfl _ _ 32 rfl 0 39 i7 _ 7 64 Try.underlying32 H70.out H71.out H72.out H73.out rfl (by decide) u4 L.length (stcs L) rfl (own_below (HT.out.row (i := 0) rfl) BL.out) ⟨wr.heap.size, 0, none⟩ 1 1 [.int .i64 (3 + b), .int .i64 0, .int .i64 1, .int .i64 5, .int .i64 0, .int .i64 0, .string ⟨#[]⟩] rfl rfl (row_new wr [.int .i64 (3 + b), .int .i64 0, .int .i64 1, .int .i64 5, .int .i64 0, .int .i64 0, .string ⟨#[]⟩] 39) (one_stc ⟨3 + b, 0, 1, 5, 0, 0, ⟨#[]⟩⟩) (by omega) (by unfold maxLen; omega) (by omega) (by omega) _ rfl ?_)
          intro g4 cap4 w6 own6 gr6 hat6 hlt6
          have T6 : Hid (Tk nos w1 [obS (.slice (some ⟨g4, 0, none⟩) (L.length + 1) cap4) (L ++ [⟨3 + b, 0, 1, 5, 0, 0, ⟨#[]⟩⟩]), obK u5 B, obB y 27 (plV b4 b7 b8 b9)] w6) := Lib.hid (by rw [← obS_app]; exact HT.out.grow (i := 0) rfl BL.out own6 gr6 (hat6.imp id (fun h => by simp only [World.size_alloc]; omega)))
          clear own6 gr6 hat6 hlt6 BL
          have BL := Lib.hid (show Below w6.heap.size w6 (w6.alloc (.cells #[.bool false] 4)) from (Below.refl _ _).alloc (Nat.le_refl _) _)
          go_wp2_with (at_builtin; refine wpList_append_lies _ rfl _ _ 53 rfl 0 4 i1 _ 1 1 Try.underlying53 H10.out H11.out H12.out H13.out rfl (by decide) u5 B.length (bls B) rfl (own_below (T6.out.row (i := 1) rfl) BL.out) ⟨w6.heap.size, 0, none⟩ 1 1 [.bool false] rfl rfl (row_new w6 [.bool false] 4) (one_bit false) (by omega) (by unfold maxLen; omega) (by omega) (by omega) _ rfl ?_)
          intro g5 cap5 w7 own6 gr6 hat6 hlt6
          have T7 : Hid (Tk nos w1 [obS (.slice (some ⟨g4, 0, none⟩) (L.length + 1) cap4) (L ++ [⟨3 + b, 0, 1, 5, 0, 0, ⟨#[]⟩⟩]), obK (.slice (some ⟨g5, 0, none⟩) (B.length + 1) cap5) (B ++ [false]), obB y 27 (plV b4 b7 b8 b9)] w7) := Lib.hid (by rw [← obK_app]; exact T6.out.grow (i := 1) rfl BL.out own6 gr6 (hat6.imp id (fun h => by simp only [World.size_alloc]; omega)))
          clear own6 gr6 hat6 hlt6 BL
          go_wp2_with fail
          go_roundw
          case rel => exact ⟨k + 1, L ++ [⟨3 + b, 0, 1, 5, 0, 0, ⟨#[]⟩⟩], B ++ [false], by omega, by omega, by go_num, trivial, trivial, ⟨_, rfl⟩, ⟨_, rfl⟩, ⟨_, rfl⟩, Lib.hid ⟨T7.out, by rw [List.length_append, List.length_append, HI.out.1.1, HI.out.1.2]; exact ⟨rfl, rfl⟩, HNX.out⟩⟩
          case measure => simp [intOf]; omega
        · have HNX := Lib.hid (HI.out.2.dma hb0 hb1 true rfl)
          have BL := Lib.hid (show Below wr.heap.size wr (wr.alloc (.cells #[.int .i64 (3 + b), .int .i64 0, .int .i64 1, .int .i64 5, .int .i64 0, .int .i64 0, .string ⟨#[]⟩] 39)) from (Below.refl _ _).alloc (Nat.le_refl _) _)
          go_wp2_with (at_builtin; refine wpList_append_lies _ rfl _ _ 32 rfl 0 39 i7 _ 7 64 Try.underlying32 H70.out H71.out H72.out H73.out rfl (by decide) u4 L.length (stcs L) rfl (own_below (HT.out.row (i := 0) rfl) BL.out) ⟨wr.heap.size, 0, none⟩ 1 1 [.int .i64 (3 + b), .int .i64 0, .int .i64 1, .int .i64 5, .int .i64 0, .int .i64 0, .string ⟨#[]⟩] rfl rfl (row_new wr [.int .i64 (3 + b), .int .i64 0, .int .i64 1, .int .i64 5, .int .i64 0, .int .i64 0, .string ⟨#[]⟩] 39) (one_stc ⟨3 + b, 0, 1, 5, 0, 0, ⟨#[]⟩⟩) (by omega) (by unfold maxLen; omega) (by omega) (by omega) _ rfl ?_)
          intro g4 cap4 w6 own6 gr6 hat6 hlt6
          have T6 : Hid (Tk nos w1 [obS (.slice (some ⟨g4, 0, none⟩) (L.length + 1) cap4) (L ++ [⟨3 + b, 0, 1, 5, 0, 0, ⟨#[]⟩⟩]), obK u5 B, obB y 27 (plV b4 b7 b8 b9)] w6) := Lib.hid (by rw [← obS_app]; exact HT.out.grow (i := 0) rfl BL.out own6 gr6 (hat6.imp id (fun h => by simp only [World.size_alloc]; omega)))
          clear own6 gr6 hat6 hlt6 BL
          have BL := Lib.hid (show Below w6.heap.size w6 (w6.alloc (.cells #[.bool true] 4)) from (Below.refl _ _).alloc (Nat.le_refl _) _)
          go_wp2_with (at_builtin; refine wpList_append_lies _ rfl _ _ 53 rfl 0 4 i1 _ 1 1 Try.underlying53 H10.out H11.out H12.out H13.out rfl (by decide) u5 B.length (bls B) rfl (own_below (T6.out.row (i := 1) rfl) BL.out) ⟨w6.heap.size, 0, none⟩ 1 1 [.bool true] rfl rfl (row_new w6 [.bool true] 4) (one_bit true) (by omega) (by unfold maxLen; omega) (by omega) (by omega) _ rfl ?_)
          intro g5 cap5 w7 own6 gr6 hat6 hlt6
          have T7 : Hid (Tk nos w1 [obS (.slice (some ⟨g4, 0, none⟩) (L.length + 1) cap4) (L ++ [⟨3 + b, 0, 1, 5, 0, 0, ⟨#[]⟩⟩]), obK (.slice (some ⟨g5, 0, none⟩) (B.length + 1) cap5) (B ++ [true]), obB y 27 (plV b4 b7 b8 b9)] w7) := Lib.hid (by rw [← obK_app]; exact T6.out.grow (i := 1) rfl BL.out own6 gr6 (hat6.imp id (fun h => by simp only [World.size_alloc]; omega)))
          clear own6 gr6 hat6 hlt6 BL
          go_wp2_with fail
          go_roundw
          case rel => exact ⟨k + 1, L ++ [⟨3 + b, 0, 1, 5, 0, 0, ⟨#[]⟩⟩], B ++ [true], by omega, by omega, by go_num, trivial, trivial, ⟨_, rfl⟩, ⟨_, rfl⟩, ⟨_, rfl⟩, Lib.hid ⟨T7.out, by rw [List.length_append, List.length_append, HI.out.1.1, HI.out.1.2]; exact ⟨rfl, rfl⟩, HNX.out⟩⟩
          case measure => simp [intOf]; omega
    · rcases (show (k = n) ∨ (k < n ∧ k = 40) by omega) with hend | ⟨hend, hend2⟩
      · obtain rfl : k = n := hend
        clear hlt
        obtain ⟨A4, c4, e4, -⟩ := HT.out.sl (i := 0) rfl
        obtain ⟨A5, c5, e5, -⟩ := HT.out.sl (i := 1) rfl
        rw [HI.out.1.1] at e4
        rw [HI.out.1.2] at e5
        subst e4 e5
        obtain ⟨P, hP⟩ : ∃ P, pgC 2 (hsNew plC) L = P := ⟨_, rfl⟩
        have HPE := Lib.hid hP
        have HPL := Lib.hid (show P.length = k by rw [← hP, pgC_len, HI.out.1.1])
        have HPB := Lib.hid (fun j (hj : j < k) => (show P.getD j stD = if B.getD j false then L.getD j stD else stD by rw [← hP, HI.out.2.bits]; exact hbL_at L _ j (by rw [HI.out.1.1]; exact hj)))
        clear hP
        obtain ⟨q0, q1, q2, q3, q4, q5, q6, q7, q8⟩ := plV_at (HT.out.blk (i := 2) rfl)
        go_wp2_with fail
        refine (pl_purge (HC.out.below (HT.out.below)) _ k 2 L (by have := HT.out.sl (i := 0) rfl; rwa [HI.out.1.1] at this) HI.out.1.1 (by omega) (by decide) P HPE.out).mono ?_
        rintro e w3 ⟨ga, rfl, t3⟩
        have T3 := Lib.hid (show Tk nos w1 [obB ga 39 (stcs P), obS (.slice A4 k c4) L, obK (.slice A5 k c5) B, obB y 27 (plV b4 b7 b8 b9)] w3 from HT.out.add t3)
        have en : ((k : Int) == k) = true := by simp
        clear t3 HT q0 q1 q2 q3 q4 q5 q6 q7 q8
        go_wp2_with fail
        refine (num_any _ _).mono ?_
        rintro e we ⟨rfl, rfl⟩
        go_wp2_with fail
        go_loopw [13] (fun i wr => ∃ (j : Nat), j ≤ k ∧ i = .int .i64 j ∧ Hid (Tk nos w1 [obB ga 39 (stcs P), obS (.slice A4 k c4) L, obK (.slice A5 k c5) B, obB y 27 (plV b4 b7 b8 b9)] wr)) (fun i _ => k - (intOf i).toNat)
        case atStart => exact ⟨0, by omega, rfl, T3⟩
        case round =>
          clear T3
          obtain ⟨j, hjk, rfl, HT⟩ := hrel
          by_cases hlt : j < k
          · have hltI : (j : Int) < k := by omega
            obtain ⟨sb, so, rfl, -, c0, c1, c2, c3, c4', c5', c6⟩ := stcs_at (A := A4) (n := k) (by have := HT.out.sl (i := 1) rfl; rwa [HI.out.1.1] at this) HI.out.1.1 j hlt
            obtain ⟨sb2, so2, e2, -, d0, d1, d2, d3, d4, d5, d6⟩ := stcs_at (sl_whole (HT.out.blk (i := 0) rfl) k 7 (by rw [stcs_len, HPL.out])) HPL.out j hlt
            simp only [Option.some.injEq, Addr.mk.injEq, and_true] at e2
            obtain ⟨rfl, rfl⟩ := e2
            simp only [Nat.zero_add] at d0 d1 d2 d3 d4 d5 d6
            obtain ⟨kb, ko, rfl, hkc⟩ := bls_at (A := A5) (n := k) (by have := HT.out.sl (i := 2) rfl; rwa [HI.out.1.2] at this) HI.out.1.2 j hlt
            have hway := HPB.out j hlt
            generalize P.getD j stD = y at *
            generalize L.getD j stD = x at *
            cases hq : B.getD j false with
            | true =>
              rw [hq] at hway hkc
              simp only [if_true] at hway
              obtain rfl := hway
              obtain ⟨x0, x1, x2, x3, x4, x5, s⟩ := y
              simp only at c0 c1 c2 c3 c4' c5' c6 d0 d1 d2 d3 d4 d5 d6
              have g0 : (x0 == x0) = true := by simp
              have g1 : (x1 == x1) = true := by simp
              have g2 : (x2 == x2) = true := by simp
              have g3 : (x3 == x3) = true := by simp
              have g4 : (x4 == x4) = true := by simp
              have g5 : (x5 == x5) = true := by simp
              have g6 : (s.toList == s.toList) = true := by simp
              clear hq
              go_wp2_with fail
              go_quiet (fail)
              go_wp2_with fail
              go_roundw
              case rel => exact ⟨j + 1, by omega, by go_num, Lib.hid (HT.out.drewN _)⟩
              case measure => simp [intOf]; omega
            | false =>
              rw [hq] at hway hkc
              simp only [Bool.false_eq_true, if_false] at hway
              obtain rfl := hway
              simp only [stD] at d0 d1 d2 d3 d4 d5 d6
              clear hq
              go_wp2_with fail
              go_quiet (fail)
              go_wp2_with fail
              go_roundw
              case rel => exact ⟨j + 1, by omega, by go_num, Lib.hid (HT.out.drewN _)⟩
              case measure => simp [intOf]; omega
          · obtain rfl : j = k := by omega
            go_wp2_with fail
            go_ret
            exact ⟨rfl, Below.down HB.out HT.out.below HB.out.size⟩
      · have hnk : (k : Int) < (n : Int) := by omega
        have hk40b : decide ((k : Int) < 40) = false := by simp; omega
        clear hlt hend hend2
        obtain ⟨A4, c4, e4, -⟩ := HT.out.sl (i := 0) rfl
        obtain ⟨A5, c5, e5, -⟩ := HT.out.sl (i := 1) rfl
        rw [HI.out.1.1] at e4
        rw [HI.out.1.2] at e5
        subst e4 e5
        obtain ⟨P, hP⟩ : ∃ P, pgC 2 (hsNew plC) L = P := ⟨_, rfl⟩
        have HPE := Lib.hid hP
        have HPL := Lib.hid (show P.length = k by rw [← hP, pgC_len, HI.out.1.1])
        have HPB := Lib.hid (fun j (hj : j < k) => (show P.getD j stD = if B.getD j false then L.getD j stD else stD by rw [← hP, HI.out.2.bits]; exact hbL_at L _ j (by rw [HI.out.1.1]; exact hj)))
        clear hP
        obtain ⟨q0, q1, q2, q3, q4, q5, q6, q7, q8⟩ := plV_at (HT.out.blk (i := 2) rfl)
        go_wp2_with fail
        refine (pl_purge (HC.out.below (HT.out.below)) _ k 2 L (by have := HT.out.sl (i := 0) rfl; rwa [HI.out.1.1] at this) HI.out.1.1 (by omega) (by decide) P HPE.out).mono ?_
        rintro e w3 ⟨ga, rfl, t3⟩
        have T3 := Lib.hid (show Tk nos w1 [obB ga 39 (stcs P), obS (.slice A4 k c4) L, obK (.slice A5 k c5) B, obB y 27 (plV b4 b7 b8 b9)] w3 from HT.out.add t3)
        have en : ((k : Int) == k) = true := by simp
        clear t3 HT q0 q1 q2 q3 q4 q5 q6 q7 q8
        go_wp2_with fail
        refine (num_any _ _).mono ?_
        rintro e we ⟨rfl, rfl⟩
        go_wp2_with fail
        go_loopw [13] (fun i wr => ∃ (j : Nat), j ≤ k ∧ i = .int .i64 j ∧ Hid (Tk nos w1 [obB ga 39 (stcs P), obS (.slice A4 k c4) L, obK (.slice A5 k c5) B, obB y 27 (plV b4 b7 b8 b9)] wr)) (fun i _ => k - (intOf i).toNat)
        case atStart => exact ⟨0, by omega, rfl, T3⟩
        case round =>
          clear T3
          obtain ⟨j, hjk, rfl, HT⟩ := hrel
          by_cases hlt : j < k
          · have hltI : (j : Int) < k := by omega
            obtain ⟨sb, so, rfl, -, c0, c1, c2, c3, c4', c5', c6⟩ := stcs_at (A := A4) (n := k) (by have := HT.out.sl (i := 1) rfl; rwa [HI.out.1.1] at this) HI.out.1.1 j hlt
            obtain ⟨sb2, so2, e2, -, d0, d1, d2, d3, d4, d5, d6⟩ := stcs_at (sl_whole (HT.out.blk (i := 0) rfl) k 7 (by rw [stcs_len, HPL.out])) HPL.out j hlt
            simp only [Option.some.injEq, Addr.mk.injEq, and_true] at e2
            obtain ⟨rfl, rfl⟩ := e2
            simp only [Nat.zero_add] at d0 d1 d2 d3 d4 d5 d6
            obtain ⟨kb, ko, rfl, hkc⟩ := bls_at (A := A5) (n := k) (by have := HT.out.sl (i := 2) rfl; rwa [HI.out.1.2] at this) HI.out.1.2 j hlt
            have hway := HPB.out j hlt
            generalize P.getD j stD = y at *
            generalize L.getD j stD = x at *
            cases hq : B.getD j false with
            | true =>
              rw [hq] at hway hkc
              simp only [if_true] at hway
              obtain rfl := hway
              obtain ⟨x0, x1, x2, x3, x4, x5, s⟩ := y
              simp only at c0 c1 c2 c3 c4' c5' c6 d0 d1 d2 d3 d4 d5 d6
              have g0 : (x0 == x0) = true := by simp
              have g1 : (x1 == x1) = true := by simp
              have g2 : (x2 == x2) = true := by simp
              have g3 : (x3 == x3) = true := by simp
              have g4 : (x4 == x4) = true := by simp
              have g5 : (x5 == x5) = true := by simp
              have g6 : (s.toList == s.toList) = true := by simp
              clear hq
              go_wp2_with fail
              go_quiet (fail)
              go_wp2_with fail
              go_roundw
              case rel => exact ⟨j + 1, by omega, by go_num, Lib.hid (HT.out.drewN _)⟩
              case measure => simp [intOf]; omega
            | false =>
              rw [hq] at hway hkc
              simp only [Bool.false_eq_true, if_false] at hway
              obtain rfl := hway
              simp only [stD] at d0 d1 d2 d3 d4 d5 d6
              clear hq
              go_wp2_with fail
              go_quiet (fail)
              go_wp2_with fail
              go_roundw
              case rel => exact ⟨j + 1, by omega, by go_num, Lib.hid (HT.out.drewN _)⟩
              case measure => simp [intOf]; omega
          · obtain rfl : j = k := by omega
            go_wp2_with fail
            go_ret
            exact ⟨rfl, Below.down HB.out HT.out.below HB.out.size⟩
end Go.Proofs.Ytkaalinoiilmoaa
