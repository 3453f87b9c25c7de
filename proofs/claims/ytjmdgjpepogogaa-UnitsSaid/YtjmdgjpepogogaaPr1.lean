/-
  Contracts of the document's Pending: NewPending, among, Raise.
-/
import Derived.Test.YtjmdgjpepogogaaPnb
import Derived.Lib.SliceRun
namespace Go.Proofs.Ytjmdgjpepogogaa
open Go.RowKit Go.ChangeMaps
set_option linter.unusedVariables false
set_option maxRecDepth 100000

/-- Bits as cells. -/
def bitc (F : Nat → Bool) (N : Nat) : List Value := (List.range N).map (fun i => .bool (F i))
theorem bitc_len (F : Nat → Bool) (N : Nat) : (bitc F N).length = N := by simp [bitc]
theorem bitc_get (F : Nat → Bool) (N i : Nat) (h : i < N) : (bitc F N)[i]? = some (.bool (F i)) := by
  simp [bitc, List.getElem?_map, List.getElem?_range h]
theorem bitc_congr {F G : Nat → Bool} {N : Nat} (h : ∀ i, i < N → F i = G i) : bitc F N = bitc G N := by
  unfold bitc
  exact List.map_congr_left (fun i hi => by rw [h i (List.mem_range.1 hi)])
/-- One bit given. -/
def bitF (F : Nat → Bool) (k : Nat) (b : Bool) : Nat → Bool := fun i => if i = k then b else F i
theorem bitc_set (F : Nat → Bool) (N k : Nat) (b : Bool) : (bitc F N).set k (.bool b) = bitc (bitF F k b) N := by
  apply List.ext_getElem?
  intro i
  rw [List.getElem?_set]
  by_cases h : i < N
  · rw [bitc_get _ _ _ h, bitc_get _ _ _ h, bitc_len]
    unfold bitF
    by_cases e : k = i
    · subst e; simp [h]
    · rw [if_neg e, if_neg (fun e' => e e'.symm)]
  · rw [List.getElem?_eq_none (by rw [bitc_len]; omega), List.getElem?_eq_none (by rw [bitc_len]; omega), bitc_len]
    by_cases e : k = i
    · subst e; simp [h]
    · rw [if_neg e]

/-- The document's Pending at block r: n parts, its bitc at block b. -/
structure RP (w : World) (r n b : Nat) (F : Nat → Bool) : Prop where
  blk : Blk w r 104 [.slice (some ⟨b, 0, none⟩) n n]
  row : Blk w b 116 (bitc F (n * 32))
  n4 : n ≤ 4

section
variable {w w' : World} {r n b : Nat} {F G : Nat → Bool}
theorem RP.at0 (h : RP w r n b F) : w.cell? ⟨r, 0, none⟩ = some (.slice (some ⟨b, 0, none⟩) n n) := by rw [h.blk.cell]; rfl
theorem RP.cell (h : RP w r n b F) (p d v : Nat) (hp : p < n) (hd : d < 4) (hv : v < 8) : w.cell? ⟨b, p * 32 + d * 8 + v, none⟩ = some (.bool (F (p * 32 + d * 8 + v))) := by
  rw [h.row.cell, bitc_get _ _ _ (by omega)]
theorem RP.frozen (h : RP w r n b F) (i : Nat) : w.frozen? ⟨b, i, none⟩ = false := h.row.frozen i
theorem RP.drewN (h : RP w r n b F) (q : Nat) : RP (w.drewN q) r n b F := ⟨h.blk, h.row, h.n4⟩
theorem RP.stay (h : RP w r n b F) (h1 : w'.heap[r]? = w.heap[r]?) (h2 : w'.heap[b]? = w.heap[b]?) : RP w' r n b F := ⟨h1.trans h.blk, h2.trans h.row, h.n4⟩
theorem RP.below {B : Nat} (h : RP w r n b F) (hb : Below B w w') (h1 : r < B) (h2 : b < B) : RP w' r n b F := h.stay (hb.block r h1) (hb.block b h2)
theorem RP.ne (h : RP w r n b F) : b ≠ r := h.row.apart h.blk (by decide)
theorem RP.fn (h : RP w r n b F) (e : ∀ i, i < n * 32 → F i = G i) : RP w r n b G := ⟨h.blk, by rw [← bitc_congr e]; exact h.row, h.n4⟩
theorem RP.set (h : RP w r n b F) (k : Nat) (x : Bool) : RP (w.setCell ⟨b, k, none⟩ (.bool x)) r n b (bitF F k x) :=
  ⟨h.blk.far (by show r ≠ b; exact fun e => h.ne e.symm) _, by rw [← bitc_set]; exact h.row.set k _, h.n4⟩
theorem RP.grown {row : Option Nat} (h : RP w r n b F) (hg : w.grownBy w' row) (h1 : some r ≠ row) (h2 : some b ≠ row) : RP w' r n b F := ⟨h.blk.grown hg h1, h.row.grown hg h2, h.n4⟩
end

def zRow : Array Value := (bitc (fun _ => false) 32).toArray
theorem make_pend (w : World) (n : Nat) (hn : n ≤ 4) : (Instr.makeSlice 102 (.int .i64 (n : Int)) (.int .i64 (n : Int))).run Try.prog w = .ok (.slice (some ⟨w.heap.size, 0, none⟩) n n) (w.alloc (.cells (bitc (fun _ => false) (n * 32)).toArray 116)) := by
  have hi : (Try.prog.info? 116).map (fun i => (i.zero, i.size, i.bytes)) = some (some (.agg zRow), 32, 32) := by kernel_rfl
  obtain ⟨i0, hi, hz0, hz1, hz2⟩ := info_parts hi
  have := run_makeSlice (P := Try.prog) w 102 116 i0 (.agg zRow) Try.underlying102 hi hz0 .i64 .i64 n n (by omega) (by omega) (by rw [hz1]; omega) (by rw [hz2]; omega) (by omega)
  rw [this, Int.toNat_natCast, hz1]
  have e : madeCells (Value.agg zRow).cells (n * 32) = (bitc (fun _ => false) (n * 32)).toArray := by
    rcases (show n = 0 ∨ n = 1 ∨ n = 2 ∨ n = 3 ∨ n = 4 by omega) with rfl | rfl | rfl | rfl | rfl <;> kernel_rfl
  rw [e]

theorem rpnew_no (n : Int) (w : World) (h : ¬ (1 ≤ n ∧ n ≤ 4)) :
    Calls Try.prog 24 #[.int .i64 n] w fun e w' => e = .returned (.tuple #[.pointer none, .int .i64 1200]) ∧ w = w' := by
  by_cases h1 : n < 1
  · clear h
    go_enter Try.func24, Try.ntmps24
    go_wp2_with fail
    go_ret2
    exact ⟨rfl, rfl⟩
  · have h2 : 4 < n := by omega
    clear h
    go_enter Try.func24, Try.ntmps24
    go_wp2_with fail
    go_ret2
    exact ⟨rfl, rfl⟩
theorem rpnew_yes (c : Nat) (w : World) (h1 : 1 ≤ c) (h2 : c ≤ 4) :
    Calls Try.prog 24 #[.int .i64 c] w fun e w' => e = .returned (.tuple #[.pointer (some ⟨w.heap.size + 1, 0, none⟩), .int .i64 0]) ∧ RP w' (w.heap.size + 1) c w.heap.size (fun _ => false) ∧ Below w.heap.size w w' := by
  have hm := fun w => make_pend w c h2
  have h3 : decide ((c : Int) < 1) = false := by simp; omega
  have h4 : decide ((4 : Int) < c) = false := by simp; omega
  go_enter Try.func24, Try.ntmps24
  go_wp2
  go_ret2
  have hb := Blk.new w 116 (bitc (fun _ => false) (c * 32))
  have hB : Below w.heap.size w (w.alloc (.cells (bitc (fun _ => false) (c * 32)).toArray 116)) := (Below.refl _ _).alloc (Nat.le_refl _) _
  have e : (w.alloc (.cells (bitc (fun _ => false) (c * 32)).toArray 116)).heap.size = w.heap.size + 1 := by simp
  generalize w.alloc (.cells (bitc (fun _ => false) (c * 32)).toArray 116) = w1 at *
  have hr := Blk.new w1 104 [.slice (some ⟨w.heap.size, 0, none⟩) c c]
  rw [e] at hr
  exact ⟨rfl, ⟨hr, hb.alloc _, h2⟩, hB.alloc (by omega) _⟩

/-- Does one of the first j of M name the place? -/
theorem mk_take {M : List Iq} {k j : Nat} (hj : j < M.length) : mkB (M.take (j + 1)) k = (mkB (M.take j) k || decide ((M[j].d, M[j].v) = pz k)) := by
  unfold mkB
  rw [← Bool.decide_or, decide_eq_decide, List.take_succ_eq_append_getElem hj]
  constructor
  · rintro ⟨q, hq, e⟩
    rcases List.mem_append.1 hq with hq | hq
    · exact .inl ⟨q, hq, e⟩
    · simp at hq; subst hq; exact .inr e
  · rintro (⟨q, hq, e⟩ | e)
    · exact ⟨q, List.mem_append_left _ hq, e⟩
    · exact ⟨M[j], List.mem_append_right _ (List.mem_singleton.2 rfl), e⟩

theorem ramong_any (mv : Value) (M : List Iq) (n d v : Nat) (w : World) (hM : Sl w mv n 3 (iqs M)) (hl : M.length = n) (hn : n ≤ 140737488355328) (hv : v < 8) :
    Calls Try.prog 59 #[mv, .int .i64 d, .int .i64 v] w fun e w' => e = .returned (.bool (mkB M (d * 8 + v))) ∧ w = w' := by
  obtain ⟨A, cap, rfl, hcap, hxl, hA⟩ := hM
  have HSL : Hid (Sl w (.slice A n cap) n 3 (iqs M)) := Lib.hid ⟨A, cap, rfl, hcap, hxl, hA⟩
  have HL := Lib.hid hl
  have HPZ : Hid (pz (d * 8 + v) = ((d : Int), (v : Int))) := Lib.hid (by unfold pz; rw [show (d * 8 + v) / 8 = d by omega, show (d * 8 + v) % 8 = v by omega])
  clear hl hxl hA hv
  generalize (d : Int) = di at *
  generalize (v : Int) = vi at *
  go_enter Try.func59, Try.ntmps59
  go_wp2_with fail
  go_loop [7] (fun i => ∃ k : Nat, k ≤ n ∧ i = .int .i64 k ∧ Hid (mkB (M.take k) (d * 8 + v) = false)) (fun i => n - (intOf i).toNat)
  case atStart => exact ⟨0, by omega, rfl, Lib.hid (by simp [mkB])⟩
  case round =>
    obtain ⟨k, hk, rfl, HR_⟩ := hrel
    by_cases hlt : k < n
    · have hkl : k < M.length := by rw [HL.out]; exact hlt
      obtain ⟨b, o, cap', e, _, _, c1, c2, c3⟩ := iq_at HSL.out HL.out k hkl
      simp only [Value.slice.injEq] at e
      obtain ⟨rfl, -, -⟩ := e
      have hmk := mk_take (M := M) (k := d * 8 + v) hkl
      rw [HR_.out, HPZ.out, Bool.false_or] at hmk
      have HMK := Lib.hid hmk
      clear hmk c1
      generalize M[k].d = qd at *
      generalize M[k].v = qv at *
      by_cases h1 : qd = di
      · subst h1
        have t1 : (qd == qd) = true := by simp
        by_cases h2 : qv = vi
        · subst h2
          have t2 : (qv == qv) = true := by simp
          go_wp2_with fail
          go_ret
          refine ⟨?_, rfl⟩
          have h3 := HMK.out
          simp only [decide_true] at h3
          unfold mkB at h3
          simp only [decide_eq_true_eq] at h3
          obtain ⟨q, hq, e⟩ := h3
          rw [show mkB M (d * 8 + v) = true by unfold mkB; exact decide_eq_true ⟨q, List.mem_of_mem_take hq, e⟩]
          rfl
        · have t2 : (qv == vi) = false := by simpa using h2
          have H2 := Lib.hid h2
          clear h2
          go_wp2_with fail
          go_round
          case rel => exact ⟨k + 1, by omega, by go_num, Lib.hid (by rw [HMK.out]; simp; exact H2.out)⟩
          case measure => simp [intOf]; omega
      · have t1 : (qd == di) = false := by simpa using h1
        have H1 := Lib.hid h1
        clear h1
        go_wp2_with fail
        go_round
        case rel => exact ⟨k + 1, by omega, by go_num, Lib.hid (by rw [HMK.out]; simp; intro e; exact absurd e H1.out)⟩
        case measure => simp [intOf]; omega
    · go_wp2_with fail
      go_ret
      refine ⟨?_, rfl⟩
      have h3 := HR_.out
      rw [List.take_of_length_le (by rw [HL.out]; omega)] at h3
      rw [show mkB M (d * 8 + v) = false from h3]
      rfl
end Go.Proofs.Ytjmdgjpepogogaa
