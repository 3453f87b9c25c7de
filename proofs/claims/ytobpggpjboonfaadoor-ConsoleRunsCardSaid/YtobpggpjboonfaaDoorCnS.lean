/-
  The library's calls that the console makes, by the library's own contracts: in the words of XCn0, XCn1.
-/
import Derived.Test.YtobpggpjboonfaaDoorCn1
import Derived.Test.YtobpggpjboonfaaDoorCnL
import Derived.Test.YtobpggpjboonfaaDoorPhys0
import Derived.Test.YtobpggpjboonfaaDoorOb
import Derived.Shelf.Strings.BuilderK
namespace Go.Proofs.YtobpggpjboonfaaDoor
open Go.RowKit Go.Lib
set_option linter.unusedVariables false
set_option linter.unusedSimpArgs false
set_option maxRecDepth 100000

/-! ### lines by Split -/
theorem splitK_lines : ∀ (k : Nat) (t : List UInt8), count t [10] = k → splitK [10] 0 k t = lns10 [] t := by
  intro k
  induction k with
  | zero =>
    intro t h
    rw [count_one] at h
    have hn : (10 : UInt8) ∉ t := List.count_eq_zero.1 h
    rw [lns10_one t (fun c hc e => hn (e ▸ hc))]
    rfl
  | succ k ih =>
    intro t h
    rw [count_one] at h
    have hm : (10 : UInt8) ∈ t := List.count_pos_iff.1 (by omega)
    obtain ⟨a, b, rfl, ha⟩ := List.eq_append_cons_of_mem hm
    have hi : index (a ++ 10 :: b) [10] = (a.length : Nat) := by
      refine index_first (by simp) ?_ ?_
      · simp [occAt, List.isPrefixOf]
      · intro j hj
        have : (a ++ 10 :: b).drop j = a[j] :: (a.drop (j + 1) ++ 10 :: b) := by
          rw [List.drop_append_of_le_length (by omega), List.drop_eq_getElem_cons hj]; rfl
        rw [occAt, this]
        have hne : (10 : UInt8) ≠ a[j] := fun e => ha (e ▸ List.getElem_mem hj)
        simp [List.isPrefixOf, hne]
    have hc : count b [10] = k := by
      rw [count_one]
      rw [List.count_append, List.count_cons_self, List.count_eq_zero.2 ha] at h
      omega
    rw [splitK, hi, if_neg (by intro h9; have := beq_iff_eq.1 h9; omega), lns10_app, lns10_one a (fun c hc e => ha (e ▸ hc))]
    have e1 : ((a.length : Nat) : Int).toNat = a.length := by simp
    rw [e1, Nat.add_zero, List.take_left, show a.length + ([10] : List UInt8).length = (a ++ [10]).length by simp, show a ++ 10 :: b = (a ++ [10]) ++ b by simp, List.drop_left, ih b hc]
    rfl

/-- Texts as cells. -/
def txs (ts : List (List UInt8)) : List Value := ts.map fun t => Value.string (str t)
theorem txs_len (ts : List (List UInt8)) : (txs ts).length = ts.length := by simp [txs]
theorem txs_of (bs : List ByteArray) : bs.map Value.string = txs (bs.map (·.data.toList)) := by
  simp only [txs, List.map_map]
  exact List.map_congr_left fun b _ => by rw [Function.comp_apply, str_of]
theorem txs_get (ts : List (List UInt8)) (k : Nat) (h : k < ts.length) : (txs ts)[k]? = some (.string (str (ts.getD k []))) := by
  simp [txs, List.getD, List.getElem?_eq_getElem h]
theorem txs_app (a b : List (List UInt8)) : txs (a ++ b) = txs a ++ txs b := by simp [txs]
theorem split_lines (t : List UInt8) : (splitB (str [10]) 0 (countB (str t) (str [10])) (str t)).map Value.string = txs (lns10 [] t) := by
  have e2 : ((str [10]).data.toList : List UInt8) = [10] := by rw [str_list]
  have hc : countB (str t) (str [10]) = count t [10] := by show count (str t).data.toList (str [10]).data.toList = _; rw [str_list, e2]
  rw [txs_of, splitB_data, hc, str_list, str_list, splitK_lines _ t rfl]

/-! ### what calls of the library read -/
structure Env (w : World) : Prop where
  tab : TabIs Tryd.prog w "internal/strconv.uint64pow10" .u64 pow10Tab
  max : ∃ m, w.cell? ⟨0, 0, none⟩ = some (.int .i64 m)
theorem Env.lt {w : World} (h : Env w) : 0 < w.heap.size ∧ 3 < w.heap.size := by
  obtain ⟨m, hm⟩ := h.max
  refine ⟨World.block_lt_of_cell? _ _ hm, ?_⟩
  have h1 := h.tab
  unfold TabIs World.var? at h1
  rw [show Tryd.prog.globalNamed "internal/strconv.uint64pow10" = some 3 by kernel_rfl] at h1
  simp only [Option.bind_some] at h1
  rcases Nat.lt_or_ge 3 w.heap.size with h' | h'
  · exact h'
  · rw [Array.getElem?_eq_none h'] at h1; cases h1
theorem Env.low {w w' : World} {B : Nat} (h : Env w) (hb : Below B w w') (hB : B ≤ w.heap.size) (hm : 0 < B) (ht : 3 < B) : Env w' := by
  obtain ⟨m, hm'⟩ := h.max
  refine ⟨?_, m, (hb.cell (p := ⟨0, 0, none⟩) hm).trans hm'⟩
  have h1 := h.tab
  unfold TabIs World.var? at h1 ⊢
  rw [show Tryd.prog.globalNamed "internal/strconv.uint64pow10" = some 3 by kernel_rfl] at h1 ⊢
  simp only [Option.bind_some] at h1 ⊢
  rw [hb.block _ ht]
  exact h1
theorem Env.below {w w' : World} (h : Env w) (hb : Below w.heap.size w w') : Env w' := h.low hb (Nat.le_refl _) h.lt.1 h.lt.2
theorem Env.since {W w w' : World} (h : Env W) (hb : Below W.heap.size W w) : Env w := h.below hb

/-! ### the calls -/
theorem itoa_any (n : Int) (w : World) (he : Env w) (h0 : -9223372036854775808 ≤ n) (h1 : n ≤ 9223372036854775807) :
    Calls Tryd.prog 42 #[.int .i64 n] w fun e w' => e = .returned (.string (str (dcm n))) ∧ Below w.heap.size w w' := by
  refine (Any.strconv_Itoa layM171 n h0 h1 w he.tab).mono ?_
  rintro e w' ⟨rfl, k, os, rfl⟩
  rw [dcm_eq n h0 h1]
  refine ⟨rfl, ?_⟩
  exact ⟨rfl, rfl, rfl, by show w.heap.size ≤ (w.heap ++ os).size; rw [Array.size_append]; omega, fun j hj => Sort.heap_grow_old (w.drewN k) os hj⟩
theorem cut_any (t : List UInt8) (w : World) :
    Calls Tryd.prog 82 #[.string (str t), .string ⟨#[45]⟩] w fun e w' => e = .returned (.tuple #[.string (str (trimPrefix t [45])), .bool (hasPrefix t [45])]) ∧ w = w' := by
  refine (Any.strings_CutPrefix lay103 (str t) ⟨#[45]⟩ w).mono ?_
  rintro e w' ⟨rfl, rfl⟩
  rw [str_list]
  exact ⟨rfl, rfl⟩
theorem pre_any (t : List UInt8) (w : World) :
    Calls Tryd.prog 39 #[.string (str t), .string ⟨#[35]⟩] w fun e w' => e = .returned (.bool (hasPrefix t [35])) ∧ w = w' := by
  refine (Any.strings_HasPrefix lay99 (str t) ⟨#[35]⟩ w).mono ?_
  rintro e w' ⟨rfl, rfl⟩
  rw [str_list]
  exact ⟨rfl, rfl⟩
theorem join_any (v : Value) (n : Nat) (ts : List (List UInt8)) (w : World) (hs : Sl w v n 1 (txs ts)) (hb : n ≤ 4000) (hl : (jnS ts).length ≤ 140737488355328) :
    Calls Tryd.prog 64 #[v, .string ⟨#[32]⟩] w fun e w' => e = .returned (.string (str (jnS ts))) ∧ Below w.heap.size w w' := by
  obtain ⟨A, cap, rfl, hc, hlen, hA⟩ := hs
  rw [txs_len, Nat.mul_one] at hlen
  subst hlen
  have e1 : (ts.map str).map (·.data.toList) = ts := by
    rw [List.map_map]
    exact (List.map_congr_left fun t _ => str_list t).trans (List.map_id ts)
  rcases Nat.eq_zero_or_pos ts.length with h0 | h0
  · have : ts = [] := List.eq_nil_of_length_eq_zero h0
    subst this
    refine (Any.strings_Join_none lay156 extra156 A cap ⟨#[32]⟩ w).mono ?_
    rintro e w' ⟨rfl, rfl⟩
    exact ⟨rfl, Below.refl _ _⟩
  · obtain ⟨b, o, rfl, hlt, hcell⟩ := hA h0
    have hj : join ((ts.map str).map (·.data.toList)) [32] = jnS ts := by rw [e1, jnS_eq]
    have c := Any.strings_Join lay156 extra156 b o cap (ts.map str) ⟨#[32]⟩ w (fun j x hx => hcell j _ (by
        rw [List.getElem?_map] at hx
        obtain ⟨t, ht, rfl⟩ := Option.map_eq_some_iff.1 hx
        simp [txs, ht])) hlt (by simp; omega) (by simpa using hc) (by rw [show (⟨#[32]⟩ : ByteArray).data.toList = [32] from rfl, hj]; exact hl)
    rw [List.length_map] at c
    refine c.mono ?_
    rintro e w' ⟨rfl, hb⟩
    refine ⟨?_, hb⟩
    rw [show (⟨#[32]⟩ : ByteArray).data.toList = [32] from rfl, hj]; rfl
theorem infoStr : (Tryd.prog.info? 9).map (fun i => (i.zero, i.size, i.bytes)) = some (some (.string ⟨#[]⟩), 1, 16) := by kernel_rfl
theorem split_any (t : List UInt8) (w : World) (he : Env w) (ht : t.length ≤ 65536) :
    Calls Tryd.prog 18 #[.string (str t), .string ⟨#[10]⟩] w fun e w' => e = .returned (.slice (some ⟨w.heap.size, 0, none⟩) (lns10 [] t).length (lns10 [] t).length) ∧ w' = w.alloc (.cells (txs (lns10 [] t)).toArray 9) := by
  obtain ⟨m, hm⟩ := he.max
  refine (Any.strings_Split lay146 infoStr (str t) ⟨#[10]⟩ m w (by rw [str_size]; omega) hm (by decide)).mono ?_
  rintro e w' ⟨rfl, rfl⟩
  have h := split_lines t
  have hl := congrArg List.length h
  rw [List.length_map, splitB_all _ (by decide) _ _ _ rfl, txs_len] at hl
  have e0 : (⟨#[10]⟩ : ByteArray) = str [10] := rfl
  rw [e0, hl, h]
  exact ⟨rfl, rfl⟩

theorem isblank_any (x : Nat) (w : World) (hx : x ≤ 1114111) :
    Calls Tryd.prog 20 #[.int .i32 (x : Int)] w fun e w' => e = .returned (.bool (isR x)) ∧ w' = w := by
  by_cases h1 : x = 32
  · subst h1
    go_enter Tryd.func20, Tryd.ntmps20
    go_wp2
    go_ret
    exact ⟨rfl, rfl⟩
  · by_cases h2 : x = 9
    · subst h2
      go_enter Tryd.func20, Tryd.ntmps20
      go_wp2
      go_ret
      exact ⟨rfl, rfl⟩
    · have e1 : ((x : Int) == 32) = false := by simp; omega
      have e2 : ((x : Int) == 9) = false := by simp; omega
      have e3 : isR x = false := by simp [isR, h1, h2]
      rw [e3]
      go_enter Tryd.func20, Tryd.ntmps20
      go_wp2
      go_ret
      exact ⟨rfl, rfl⟩
theorem wflds_any (t : List UInt8) (w : World) (ht : t.length ≤ 65536) :
    Calls Tryd.prog 19 #[.string (str t), .func (.func 20) #[] #[]] w fun e w' => ∃ b, e = .returned (.slice (some ⟨b, 0, none⟩) (fld [] t).length (fld [] t).length) ∧
      w'.ownsRow w.heap.size 9 1 (.slice (some ⟨b, 0, none⟩) (fld [] t).length (fld [] t).length) (fld [] t).length (txs (fld [] t)) ∧ Below w.heap.size w w' := by
  refine (Any.strings_FieldsFunc_runes lay229 20 #[] (enters_of Tryd.func20 (by kernel_rfl) rfl) isR (str t) w (by rw [str_size]; omega) (fun W x hx _ => by
    refine (isblank_any x W hx).mono ?_
    rintro e w' ⟨rfl, rfl⟩
    exact ⟨rfl, 0, rfl⟩) (by kernel_rfl) (by kernel_rfl)).mono ?_
  rintro e w' ⟨b, rfl, _, hown, hb⟩
  have hf := fields_eq (str t)
  rw [str_list] at hf
  have hl := congrArg List.length hf
  rw [List.length_map] at hl
  rw [txs_of, hf, hl] at hown
  rw [hl]
  exact ⟨b, rfl, hown, hb⟩

/-! ### the Builder -/
/-- A Builder in a block of one's own that holds these bytes. -/
def Bd (W : World) (g : Nat) (l : List UInt8) (w : World) : Prop := IsBuilderF 44 5 W.heap.size g (byteCells l) w ∧ Below W.heap.size W w
/-- What stands but the Builder's own blocks. -/
def Ok8 (g : Nat) (w w' : World) : Prop := OthersKept 5 (some g) w w'
theorem Ok8.blk {g k : Nat} {w w' : World} {T : TypeId} {cs : List Value} (h : Ok8 g w w') (hb : Blk w k T cs) (hk : k ≠ g) (hT : T ≠ 5) : Blk w' k T cs :=
  h k _ hb (fun e => hk (by injection e)) (fun c fz e => by injection e with _ e2; exact hT e2)
theorem bc_app (a b : List UInt8) : byteCells a ++ strCells (str b) = byteCells (a ++ b) := by simp [byteCells, strCells, str]
theorem bc_len (a : List UInt8) : (byteCells a).length = a.length := by simp [byteCells]
theorem bd_new (w : World) : Bd w w.heap.size [] (w.alloc (.cells #[.pointer none, .slice none 0 0] 44)) :=
  ⟨IsBuilderF.of (.inl ⟨Nat.le_refl _, .slice none 0 0, heap_alloc_new w _, World.ownsRow_nil _ _ _ _, by simp [Value.ownBlock]⟩), (Below.refl _ w).alloc (Nat.le_refl _) _⟩
theorem Bd.lt {W w : World} {g : Nat} {l : List UInt8} (h : Bd W g l w) : g < w.heap.size := by
  rcases h.1 with ⟨_, v, hg, _⟩ | ⟨_, v, hg, _⟩ <;>
  · rcases Nat.lt_or_ge g w.heap.size with h' | h'
    · exact h'
    · rw [Array.getElem?_eq_none h'] at hg; cases hg
theorem bd_next {W w w' : World} {g : Nat} {l : List UInt8} (h : Bd W g l w) (hb : Below w.heap.size w w') : Bd W g l w' := by
  have hlt := h.lt
  refine ⟨?_, h.2.trans (hb.mono h.2.size)⟩
  rcases h.1 with ⟨a, v, hg, ho, hn⟩ | ⟨a, v, hg, ho, hn⟩
  · exact .inl ⟨a, v, (hb.block g hlt).trans hg, ho.kept (gof hb none) (by cases hv : v.ownBlock <;> simp), hn⟩
  · exact .inr ⟨a, v, (hb.block g hlt).trans hg, ho.kept (gof hb none) (by cases hv : v.ownBlock <;> simp), hn⟩
theorem bd_write {W w : World} {g : Nat} {l : List UInt8} (h : Bd W g l w) (s : List UInt8) (hl : l.length + s.length ≤ 140737488355328) :
    Calls Tryd.prog 22 #[.pointer (some ⟨g, 0, none⟩), .string (str s)] w fun e w' => e = .returned (.tuple #[.int .i64 (s.length : Nat), .nilIface]) ∧ Bd W g (l ++ s) w' ∧ Ok8 g w w' := by
  refine (Any.Builder_WriteString_k lay166 extra166 W.heap.size g (byteCells l) (str s) w h.1 (by rw [bc_len, str_size]; exact hl) h.2.size).mono ?_
  rintro e w' ⟨rfl, h1, h2, h3⟩
  rw [str_size]
  refine ⟨rfl, ⟨.inr ?_, h.2.trans h2⟩, h3⟩
  rw [bc_app] at h1
  exact h1
theorem bd_byte {W w : World} {g : Nat} {l : List UInt8} (h : Bd W g l w) (hl : l.length + 1 ≤ 140737488355328) :
    Calls Tryd.prog 24 #[.pointer (some ⟨g, 0, none⟩), .int .u8 10] w fun e w' => e = .returned .nilIface ∧ Bd W g (l ++ [10]) w' ∧ Ok8 g w w' := by
  refine (Any.Builder_WriteByte_k lay167 extra167 W.heap.size g (byteCells l) 10 w h.1 (by rw [bc_len]; exact hl) h.2.size).mono ?_
  rintro e w' ⟨rfl, h1, h2, h3⟩
  refine ⟨rfl, ⟨.inr ?_, h.2.trans h2⟩, h3⟩
  have e1 : byteCells l ++ [Value.int .u8 10] = byteCells (l ++ [10]) := by simp [byteCells]
  rw [e1] at h1
  exact h1
theorem bd_text {W w : World} {g : Nat} {l : List UInt8} (h : Bd W g l w) :
    Calls Tryd.prog 25 #[.pointer (some ⟨g, 0, none⟩)] w fun e w' => e = .returned (.string (str l)) ∧ Below W.heap.size W w' := by
  refine (Any.Builder_String_any_k lay169 extra169 W.heap.size g l w h.1 h.2.size).mono ?_
  rintro e w' ⟨rfl, _, h2, _⟩
  exact ⟨rfl, h.2.trans h2⟩
end Go.Proofs.YtobpggpjboonfaaDoor
