/-
  The map of places: what it holds, what a look, a store, a delete do. No Go function here.
-/
import Derived.Test.YtjmdgjpepogogaaPn0
import Derived.Test.YtjmdgjpepogogaaChecked
import Derived.ChangeMaps5
namespace Go.Proofs.Ytjmdgjpepogogaa
open Go.RowKit Go.ChangeMaps
set_option linter.unusedVariables false
set_option maxRecDepth 100000

/-- A place's value. -/
def pv2 (k : Int × Int) : Value := .agg #[.int .i64 k.1, .int .i64 k.2]
/-- Block m is a map with just the keys ks, no two alike. -/
def MapO (es : Array MapEntry) (ks : List (Int × Int)) : Prop := es.toList.map (·.key) = ks.map pv2 ∧ (∀ e ∈ es.toList, e.val = .agg #[]) ∧ ks.Nodup
def MapB (w : World) (m : Nat) (ks : List (Int × Int)) : Prop := ∃ es clock, w.heap[m]? = some (.map es clock) ∧ MapO es ks

theorem fields70 : ∃ f g : Field, (Try.prog.fieldsOf 111).toList = [f, g] ∧ f.name ≠ "_" ∧ f.type = 3 ∧ f.offset = 0 ∧ g.name ≠ "_" ∧ g.type = 3 ∧ g.offset = 1 := by
  have hf : (Try.prog.fieldsOf 111).toList.map (fun f => (f.name == "_", f.type, f.offset)) = [(false, 3, 0), (false, 3, 1)] := by kernel_rfl
  generalize (Try.prog.fieldsOf 111).toList = fs at hf
  rcases fs with _ | ⟨f, _ | ⟨g, _ | ⟨h, t⟩⟩⟩
  · simp at hf
  · simp at hf
  · simp only [List.map_cons, List.map_nil, List.cons.injEq, Prod.mk.injEq, and_true] at hf
    obtain ⟨⟨f1, f2, f3⟩, g1, g2, g3⟩ := hf
    exact ⟨f, g, rfl, by simpa using f1, f2, f3, by simpa using g1, g2, g3⟩
  · simp at hf
theorem under70 : Try.prog.underlying 111 = some (.struct (Try.prog.fieldsOf 111)) := by kernel_rfl
theorem underMap : Try.prog.underlying 94 = some (.map 111 125) := by kernel_rfl

theorem run_eq2 (d : Nat) (k k' : Int × Int) (w : World) : (Op.equalIn (d + 2) 111 (pv2 k) (pv2 k')).run Try.prog w = .ok (k == k') w := by
  have hs : Try.prog.stoodInHeld 111 = false := by kernel_rfl
  obtain ⟨f, g, hfs, f1, f2, f3, g1, g2, g3⟩ := fields70
  obtain ⟨a, b⟩ := k
  obtain ⟨c, e⟩ := k'
  unfold pv2
  rw [run_equalIn_struct w (d + 1) _ _ _ under70 hs, hfs]
  simp [Op.eqFields, f1, g1, f2, f3, g2, g3, part, go_sem]
  by_cases h1 : a = c
  · by_cases h2 : b = e
    · simp [h1, h2]
    · simp [h1, h2]
  · simp [h1]

theorem run_check2 (em : Bool) (d : Nat) (k : Int × Int) (w : World) : (Instr.checkKey em (d + 2) 111 (pv2 k)).run Try.prog w = .ok () w := by
  obtain ⟨f, g, hfs, f1, f2, f3, g1, g2, g3⟩ := fields70
  unfold Instr.checkKey pv2
  simp only [Sem.run_bind, run_underlying under70, Result.andThen_ok]
  rw [← Array.forIn_toList, hfs]
  simp [f1, g1, f2, f3, g2, g3, part, go_sem, Instr.checkKey]

theorem run_asking (k : Int × Int) (w : World) : ∀ (es : List MapEntry) (ks : List (Int × Int)) (i : Nat), es.map (·.key) = ks.map pv2 → (∀ e ∈ es, e.val = .agg #[]) →
    (Instr.findAsking 111 (pv2 k) es i).run Try.prog w = .ok (if k ∈ ks then some (i + ks.idxOf k, .agg #[]) else none) w := by
  intro es
  induction es with
  | nil =>
    intro ks i h _
    cases ks with
    | nil => simp [Instr.findAsking]
    | cons _ _ => simp at h
  | cons e es ih =>
    intro ks i h hv
    cases ks with
    | nil => simp at h
    | cons k' ks =>
      simp only [List.map_cons, List.cons.injEq] at h
      have h1 := run_eq2 9998 k k' w
      have h2 := ih ks (i + 1) h.2 (fun e he => hv e (List.mem_cons_of_mem _ he))
      have hv1 := hv e List.mem_cons_self
      unfold Instr.findAsking
      simp only [Sem.run_bind, h.1, Op.equal, Op.maxDepth, h1, Result.andThen_ok]
      by_cases hk : k = k'
      · subst hk
        simp [hv1]
      · have hk' : (k' == k) = false := by simp; exact fun e => hk e.symm
        simp [hk, h2, List.idxOf_cons, hk']
        by_cases hm : k ∈ ks
        · simp [hm]; omega
        · simp [hm]
theorem run_find2 (k : Int × Int) (w : World) (es : List MapEntry) (ks : List (Int × Int)) (h : es.map (·.key) = ks.map pv2) (hv : ∀ e ∈ es, e.val = .agg #[]) :
    (Instr.findKey 111 (pv2 k) es).run Try.prog w = .ok (if k ∈ ks then some (ks.idxOf k, .agg #[]) else none) w := by
  unfold Instr.findKey
  simp only [Sem.run_bind, run_underlying under70, Result.andThen_ok]
  cases es with
  | nil =>
    cases ks with
    | nil => simp [Instr.findNow]
    | cons _ _ => simp at h
  | cons e es =>
    have := run_asking k w (e :: es) ks 0 h hv
    simp only [Nat.zero_add] at this
    simp [Instr.findNow, Instr.sameNow, this]

theorem set_grown {w : World} {m : Nat} {es : Array MapEntry} {clock : Nat} (hb : w.heap[m]? = some (.map es clock)) (o : Obj) : w.grownBy (setBlock w m o) (some m) :=
  ⟨rfl, rfl, rfl, by simp [setBlock], fun i _ hne => heap_setBlock_other hb o (fun e => hne (by rw [e]))⟩

/-- A look: what it tells, the world as it was. -/
theorem MapB.look {w : World} {m : Nat} {ks : List (Int × Int)} (h : MapB w m ks) (k : Int × Int) :
    (Instr.lookup 94 (.map (some m)) (pv2 k) true).run Try.prog w = .ok (.tuple #[.agg #[], .bool (decide (k ∈ ks))]) w := by
  obtain ⟨es, clock, hb, hk, hv, hn⟩ := h
  have hf := run_find2 k w es.toList ks hk hv
  have hz : (zeroValue 125).run Try.prog w = .ok (.agg #[]) w := by simp [go_sem]
  have hc := run_check2 es.isEmpty 9998 k w
  by_cases hm : k ∈ ks
  · rw [if_pos hm] at hf
    simp [Instr.lookup, run_underlying underMap, MapKept.run_getObj_map hb, hc, hf, Result.andThen, hm]
  · rw [if_neg hm] at hf
    simp [Instr.lookup, run_underlying underMap, MapKept.run_getObj_map hb, hc, hf, hz, Result.andThen, hm]

theorem modify_map (es : List MapEntry) (ks : List (Int × Int)) (i : Nat) (k : Int × Int) (hk : es.map (·.key) = ks.map pv2) (hi : ks[i]? = some k) : (es.modify i (fun e => { e with key := pv2 k, val := .agg #[] })).map (·.key) = ks.map pv2 := by
  rw [← hk]
  apply List.ext_getElem?
  intro j
  simp only [List.getElem?_map, List.getElem?_modify]
  by_cases h : i = j
  · subst h
    have h2 : (es.map (·.key))[i]? = some (pv2 k) := by rw [hk, List.getElem?_map, hi]; rfl
    rw [List.getElem?_map] at h2
    cases he : es[i]? with
    | none => rw [he] at h2; cases h2
    | some e => rw [he] at h2; simpa using h2.symm
  · simp [h]

/-- A key put in. -/
theorem MapB.put {w : World} {m : Nat} {ks : List (Int × Int)} (h : MapB w m ks) (k : Int × Int) :
    ∃ es clock, MapO es (if k ∈ ks then ks else ks ++ [k]) ∧ ∀ W : World, W.heap[m]? = w.heap[m]? → (Instr.mapUpdate 94 (.map (some m)) (pv2 k) (.agg #[])).run Try.prog W = .ok () (setBlock W m (.map es clock)) ∧ W.grownBy (setBlock W m (.map es clock)) (some m) ∧ (setBlock W m (.map es clock)).heap[m]? = some (.map es clock) := by
  obtain ⟨es, clock, hb, hk, hv, hn⟩ := h
  by_cases hm : k ∈ ks
  · have hi : ks[ks.idxOf k]? = some k := by rw [List.getElem?_eq_getElem (List.idxOf_lt_length_iff.2 hm)]; simp
    have hei : ∃ e0, es[ks.idxOf k]? = some e0 ∧ e0.key = pv2 k := by
      have h2 : (es.toList.map (·.key))[ks.idxOf k]? = some (pv2 k) := by rw [hk, List.getElem?_map, hi]; rfl
      rw [List.getElem?_map] at h2
      cases he : es.toList[ks.idxOf k]? with
      | none => rw [he] at h2; cases h2
      | some e => rw [he] at h2; exact ⟨e, by simpa using he, by simpa using h2⟩
    obtain ⟨e0, he0, hek⟩ := hei
    refine ⟨es.modify (ks.idxOf k) (fun e => { e with key := pv2 k, val := .agg #[] }), clock, ⟨?_, ?_, ?_⟩, fun W hW => ?_⟩
    · rw [if_pos hm, Array.toList_modify]; exact modify_map _ _ _ _ hk hi
    · intro e he
      rw [Array.toList_modify] at he
      obtain ⟨j, hj⟩ := List.getElem?_of_mem he
      rw [List.getElem?_modify] at hj
      cases hes : es.toList[j]? with
      | none => rw [hes] at hj; simp at hj
      | some e1 =>
        rw [hes] at hj
        have := hv e1 (List.mem_of_getElem? hes)
        by_cases hij : ks.idxOf k = j
        · simp [hij] at hj; rw [← hj]
        · simp [hij] at hj; rw [← hj]; exact this
    · rw [if_pos hm]; exact hn
    · have hb' : W.heap[m]? = some (.map es clock) := hW.trans hb
      have hf := run_find2 k W es.toList ks hk hv
      rw [if_pos hm] at hf
      have hs : Instr.sameBits 10000 (pv2 k) (pv2 k) = true := by simp [pv2, Instr.sameBits]
      refine ⟨?_, set_grown hb' _, heap_setBlock_same hb' _⟩
      simp [Instr.mapUpdate, run_underlying underMap, MapKept.run_getObj_map hb', run_check2 false 9998 k W, hf, he0, hek, Instr.keyThatStays, hs, MapKept.run_setObj_map _ hb', Result.andThen, setBlock]
  · refine ⟨es.push { key := pv2 k, val := .agg #[], born := clock }, clock + 1, ⟨?_, ?_, ?_⟩, fun W hW => ?_⟩
    · rw [if_neg hm]; simp [hk]
    · intro e he
      simp at he
      rcases he with he | he
      · exact hv e (by simpa using he)
      · rw [he]
    · rw [if_neg hm, List.nodup_append]
      exact ⟨hn, by simp, by intro a ha b hb'; simp at hb'; subst hb'; exact fun e => hm (e ▸ ha)⟩
    · have hb' : W.heap[m]? = some (.map es clock) := hW.trans hb
      have hf := run_find2 k W es.toList ks hk hv
      rw [if_neg hm] at hf
      refine ⟨?_, set_grown hb' _, heap_setBlock_same hb' _⟩
      simp [Instr.mapUpdate, run_underlying underMap, MapKept.run_getObj_map hb', run_check2 false 9998 k W, hf, MapKept.run_setObj_map _ hb', Result.andThen, setBlock]

theorem er_map {α β : Type} (f : α → β) : ∀ (l : List α) (i : Nat), (l.eraseIdx i).map f = (l.map f).eraseIdx i
  | [], _ => rfl
  | _ :: _, 0 => rfl
  | a :: l, i + 1 => by simp [er_map f l i]

/-- A key taken out. -/
theorem MapB.del {w : World} {m : Nat} {ks : List (Int × Int)} (h : MapB w m ks) (k : Int × Int) :
    ∃ es clock, MapO es (ks.erase k) ∧ ∀ (ty : TypeId) (W : World), W.heap[m]? = w.heap[m]? → (Builtin.delete_ #[94, 111] ty #[.map (some m), pv2 k]).run Try.prog W = .ok (.tuple #[]) (setBlock W m (.map es clock)) ∧ W.grownBy (setBlock W m (.map es clock)) (some m) ∧ (setBlock W m (.map es clock)).heap[m]? = some (.map es clock) := by
  obtain ⟨es, clock, hb, hk, hv, hn⟩ := h
  by_cases hm : k ∈ ks
  · have hil := List.idxOf_lt_length_iff.2 hm
    have hlen : es.size = ks.length := by have := congrArg List.length hk; simpa using this
    have hsub : (es.eraseIdxIfInBounds (ks.idxOf k)).toList = es.toList.eraseIdx (ks.idxOf k) := by
      unfold Array.eraseIdxIfInBounds
      rw [dif_pos (by omega)]
      simp
    refine ⟨es.eraseIdxIfInBounds (ks.idxOf k), clock, ⟨?_, ?_, hn.erase _⟩, fun ty W hW => ?_⟩
    · rw [hsub, er_map, hk, ← er_map, List.erase_eq_eraseIdx_of_idxOf (i := ks.idxOf k) rfl]
    · intro e he
      rw [hsub] at he
      exact hv e ((List.eraseIdx_sublist _ _).subset he)
    · have hb' : W.heap[m]? = some (.map es clock) := hW.trans hb
      have hf := run_find2 k W es.toList ks hk hv
      rw [if_pos hm] at hf
      refine ⟨?_, set_grown hb' _, heap_setBlock_same hb' _⟩
      simp [Builtin.delete_, run_underlying underMap, MapKept.run_getObj_map hb', run_check2 es.isEmpty 9998 k W, hf, MapKept.run_setObj_map _ hb', Result.andThen, setBlock]
  · refine ⟨es, clock, ⟨?_, hv, hn.erase _⟩, fun ty W hW => ?_⟩
    · rw [List.erase_of_not_mem hm]; exact hk
    · have hb' : W.heap[m]? = some (.map es clock) := hW.trans hb
      have hf := run_find2 k W es.toList ks hk hv
      rw [if_neg hm] at hf
      refine ⟨?_, set_grown hb' _, heap_setBlock_same hb' _⟩
      simp [Builtin.delete_, run_underlying underMap, MapKept.run_getObj_map hb', run_check2 es.isEmpty 9998 k W, hf, MapKept.run_setObj_map _ hb', Result.andThen, setBlock]

theorem MapB.made (w : World) : MapB (w.alloc (.map #[] 0)) w.heap.size [] := ⟨#[], 0, heap_alloc_new w _, by simp [MapO]⟩
section
variable {w w' : World} {m : Nat} {ks : List (Int × Int)}
theorem MapB.lt (h : MapB w m ks) : m < w.heap.size := by obtain ⟨es, c, hb, _⟩ := h; exact (Array.getElem?_eq_some_iff.1 hb).1
theorem MapB.nd (h : MapB w m ks) : ks.Nodup := by obtain ⟨es, c, _, _, _, hn⟩ := h; exact hn
theorem MapB.stay (h : MapB w m ks) (e : w'.heap[m]? = w.heap[m]?) : MapB w' m ks := by obtain ⟨es, c, hb, hm⟩ := h; exact ⟨es, c, e.trans hb, hm⟩
theorem MapB.ne {g : Nat} {T : TypeId} {cs : List Value} (h : MapB w m ks) (hg : Blk w g T cs) : m ≠ g := by
  intro e; subst e
  obtain ⟨es, c, hb, _⟩ := h
  have h2 : w.heap[m]? = some (.cells cs.toArray T (0, 0)) := hg
  rw [hb] at h2; cases h2
theorem MapB.ne_own {base n size : Nat} {e : TypeId} {v : Value} {xs : List Value} (h : MapB w m ks) (hr : w.ownsRow base e size v n xs) : v.ownBlock ≠ some m := by
  rcases hr.2 with ⟨rfl, _⟩ | ⟨k, cap, cur, rfl, _, hh, _⟩
  · simp [Value.ownBlock]
  · intro he
    have hk : k = m := by simpa [Value.ownBlock] using he
    subst hk
    obtain ⟨es, c, hb, _⟩ := h
    rw [hb] at hh; cases hh
end

end Go.Proofs.Ytjmdgjpepogogaa
