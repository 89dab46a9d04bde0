/-
  Entries and signatures as values; the map from entries to their marks, as a partial function (MapIs).
-/
import Derived.Test.YthppefkamklakaaDoorTh
namespace Go.Proofs.YthppefkamklakaaDoor
open Go.RowKit Go.MapKept Go.Maps Go.WideMaps
open Go.ChangeMaps (setBlock)

/-- An entry: its key and its text. -/
abbrev Sd := Int × Txt
def sdV (e : Sd) : Value := .agg #[.int .i64 e.1, .string (S e.2)]
theorem sdV_inj {a b : Sd} (h : sdV a = sdV b) : a = b := by
  obtain ⟨a1, a2⟩ := a
  obtain ⟨b1, b2⟩ := b
  simp only [sdV, Value.agg.injEq, Array.mk.injEq, List.cons.injEq, Value.int.injEq, true_and, Value.string.injEq, and_true] at h
  rw [h.1, S_inj h.2]
def sdC (l : List Sd) : List Value := l.flatMap fun e => [.int .i64 e.1, .string (S e.2)]
theorem sdC_cons (e : Sd) (l : List Sd) : sdC (e :: l) = .int .i64 e.1 :: .string (S e.2) :: sdC l := by simp [sdC]
theorem sdC_length (l : List Sd) : (sdC l).length = l.length * 2 := by
  induction l with
  | nil => rfl
  | cons a l ih => rw [sdC_cons]; simp only [List.length_cons, ih]; omega
theorem sdC_append (l m : List Sd) : sdC (l ++ m) = sdC l ++ sdC m := by simp [sdC]
theorem sdC_get (l : List Sd) (i : Nat) (h : i < l.length) : (sdC l)[2 * i]? = some (.int .i64 l[i].1) ∧ (sdC l)[2 * i + 1]? = some (.string (S l[i].2)) := by
  induction l generalizing i with
  | nil => simp at h
  | cons a l ih =>
    rw [sdC_cons]
    cases i with
    | zero => simp
    | succ i =>
      have := ih i (by simpa using h)
      rw [show 2 * (i + 1) = 2 * i + 1 + 1 by omega, List.getElem?_cons_succ, List.getElem?_cons_succ, List.getElem?_cons_succ, List.getElem?_cons_succ]
      simpa using this
theorem sdC_one (l : List Sd) : ∀ v ∈ sdC l, v.oneCell' = true := by
  intro v hv
  simp only [sdC, List.mem_flatMap, List.mem_cons, List.not_mem_nil, or_false] at hv
  obtain ⟨_, _, rfl | rfl⟩ := hv <;> rfl

/-- A key that a map can have. -/
def KeyOk (e : Sd) : Prop := -9223372036854775808 ≤ e.1 ∧ e.1 ≤ 9223372036854775807 ∧ e.2.length ≤ maxLen
set_option maxRecDepth 100000 in
theorem laidOutT : laidOutB Tryd.prog = true := by kernel_rfl
theorem rowSd : (94 : TypeId) < Tryd.prog.types.size := of_decide_eq_true (by kernel_rfl)
theorem wideSd : (match Tryd.prog.underlying 94 with | some (.array _ _) | some (.struct _) => true | _ => false) = true := by rw [Tryd.underlying94]
set_option maxRecDepth 100000 in
theorem lawSd : Keyed Tryd.prog 94 := Keyed.of_law (deep_law_laid laidOutT (m := 2) (by omega) rowSd (by kernel_rfl) wideSd)
theorem keyTypeSd : Tryd.prog.keyType 94 = true := by kernel_rfl
theorem cellsSd : Tryd.prog.cellsOf 94 = 2 := by kernel_rfl
set_option maxRecDepth 100000 in
theorem cellsInt : Tryd.prog.cellsOf 3 = 1 := by kernel_rfl
theorem cellsStr : Tryd.prog.cellsOf 9 = 1 := by kernel_rfl
theorem key_lits (m : Nat) (e : Sd) (h : KeyOk e) : ∃ ls, Tryd.prog.keyLits (m + 2) 94 [.int .i64 e.1, .string (S e.2)] = some ls := by
  have h1 : (Lit.int .i64 e.1).wf = true := WalkArith.wf_i64 (by have := h.1; have := h.2.1; omega)
  have h2 : (S e.2).size ≤ maxLen := by rw [S_size]; exact h.2.2
  simp [Program.keyLits, Tryd.underlying94, Tryd.underlying3, Tryd.underlying9, cellsSd, cellsInt, cellsStr, h1, h2]
theorem key_sd (e : Sd) (h : KeyOk e) : ∃ l, keyOf Tryd.prog 94 (sdV e) = some l := by
  have hfm : (sdV e).formed Tryd.prog 94 = true := by simp [sdV, Value.formed, Tryd.underlying94, cellsSd]
  obtain ⟨m, hm⟩ : ∃ m, Tryd.prog.types.size + 1 = m + 2 := ⟨Tryd.prog.types.size - 1, by have h : (94 : Nat) < Tryd.prog.types.size := rowSd; omega⟩
  obtain ⟨ls, hls⟩ := key_lits m e h
  refine ⟨.string (keyBytes ls), ?_⟩
  unfold keyOf
  rw [Tryd.underlying94]
  simp only [keyTypeSd, hfm, Bool.and_self, if_true]
  rw [hm, show (sdV e).cells.toList = [.int .i64 e.1, .string (S e.2)] from rfl, hls]
  rfl

/-- Block M is a map of n entries, which has the value v at s exactly if m says so. -/
def MapIs (w : World) (M : Nat) (m : Sd → Option Value) (n : Nat) : Prop :=
  ∃ es clock, w.heap[M]? = some (.map es clock) ∧ Stamped es clock ∧ es.size = n ∧ (∀ x ∈ es.toList, ∃ s : Sd, KeyOk s ∧ x.key = sdV s) ∧
    ∀ s v, m s = some v ↔ ∃ x ∈ es.toList, x.key = sdV s ∧ x.val = v

theorem MapIs.lt {w : World} {M : Nat} {m n} (h : MapIs w M m n) : M < w.heap.size := by
  obtain ⟨es, clock, hb, _⟩ := h
  exact (Array.getElem?_eq_some_iff.1 hb).1
theorem MapIs.fr {w w' : World} {M : Nat} {m n} (h : MapIs w M m n) (hw : Fr w w') : MapIs w' M m n := by
  obtain ⟨es, clock, hb, h'⟩ := h
  exact ⟨es, clock, hw.heap hb, h'⟩
theorem MapIs.new (w : World) : MapIs (w.alloc (.map #[] 0)) w.heap.size (fun _ => none) 0 :=
  ⟨#[], 0, (MapKept.heap_alloc w _).1, stamped_empty 0, rfl, by simp, by simp⟩

theorem keys_read {es : Array MapEntry} (h : ∀ x ∈ es.toList, ∃ s : Sd, KeyOk s ∧ x.key = sdV s) : ∀ x ∈ es.toList, ∃ l, keyOf Tryd.prog 94 x.key = some l := by
  intro x hx
  obtain ⟨s, hs, e⟩ := h x hx
  rw [e]
  exact key_sd s hs

/-- No other entry has the key of one. -/
theorem key_once {es : Array MapEntry} {clock : Nat} (h : Stamped es clock) {x y : MapEntry} (hx : x ∈ es.toList) (hy : y ∈ es.toList) (e : x.key = y.key) : x = y := by
  have hp := ((stamped_iff es clock).1 h).2.2
  obtain ⟨i, hi, rfl⟩ := List.getElem_of_mem hx
  obtain ⟨j, hj, rfl⟩ := List.getElem_of_mem hy
  rw [List.pairwise_iff_getElem] at hp
  rcases Nat.lt_trichotomy i j with h' | h' | h'
  · exact absurd e (hp i j hi hj h')
  · subst h'; rfl
  · exact absurd e.symm (hp j i hj hi h')

set_option maxRecDepth 100000 in
theorem run_zeroInt (w : World) : (zeroValue 3).run Tryd.prog w = .ok (.int .i64 0) w := by kernel_rfl

theorem MapIs.look {w : World} {M : Nat} {m n} (h : MapIs w M m n) (s : Sd) (hs : KeyOk s) :
    (Instr.lookup 55 (.map (some M)) (sdV s) true).run Tryd.prog w = .ok (.tuple #[(m s).getD (.int .i64 0), .bool (m s).isSome]) w := by
  obtain ⟨es, clock, hb, hst, _, hk, hm⟩ := h
  obtain ⟨l, hl⟩ := key_sd s hs
  rcases lawSd.find w hl es.toList (keys_read hk) with ⟨h1, h2⟩ | ⟨j, e0, h1, h2, h3⟩
  · have hn : m s = none := by
      cases hc : m s with
      | none => rfl
      | some v => obtain ⟨x, hx, hxk, _⟩ := (hm s v).1 hc; exact absurd hxk (h2 x hx)
    simp [Instr.lookup, run_underlying Tryd.underlying55, MapKept.run_getObj_map hb, lawSd.check w _ hl, h1, hn, Result.andThen]
  · have hs : m s = some e0.val := (hm s _).2 ⟨e0, List.mem_of_getElem? h2, h3, rfl⟩
    simp [Instr.lookup, run_underlying Tryd.underlying55, MapKept.run_getObj_map hb, lawSd.check w _ hl, h1, hs, Result.andThen]

theorem MapIs.store {w : World} {M : Nat} {m m' : Sd → Option Value} {n n' : Nat} (h : MapIs w M m n) (s : Sd) (hs : KeyOk s) (v : Value)
    (hm' : ∀ t, m' t = if t = s then some v else m t) (hn' : n' = if m s = none then n + 1 else n) :
    ∃ w', (Instr.mapUpdate 55 (.map (some M)) (sdV s) v).run Tryd.prog w = .ok () w' ∧ MapIs w' M m' n' ∧ OnlyB M w w' := by
  have hlt := h.lt
  obtain ⟨es, clock, hb, hst, hsz, hk, hm⟩ := h
  obtain ⟨l, hl⟩ := key_sd s hs
  have hfr : ∀ o, OnlyB M w (setBlock w M o) := fun o => ⟨rfl, rfl, rfl, by simp [setBlock], fun k hk => ChangeMaps.heap_setBlock_other hb _ hk⟩
  rcases lawSd.find w hl es.toList (keys_read hk) with ⟨h1, h2⟩ | ⟨j, e0, h1, h2, h3⟩
  · have hnone : m s = none := by
      cases hc : m s with
      | none => rfl
      | some v => obtain ⟨x, hx, hxk, _⟩ := (hm s v).1 hc; exact absurd hxk (h2 x hx)
    refine ⟨setBlock w M (.map (es.push ⟨sdV s, v, clock⟩) (clock + 1)), ?_, ?_, hfr _⟩
    · simp [Instr.mapUpdate, run_underlying Tryd.underlying55, MapKept.run_getObj_map hb, lawSd.check w _ hl, h1, MapKept.run_setObj_map _ hb, Result.andThen, setBlock]
    · refine ⟨_, _, ChangeMaps.heap_setBlock_same hb _, stamped_push hst h2, by rw [hn', hnone]; simp [hsz], ?_, ?_⟩
      · intro x hx
        simp only [Array.toList_push, List.mem_append, List.mem_singleton] at hx
        rcases hx with hx | rfl
        · exact hk x hx
        · exact ⟨s, hs, rfl⟩
      · intro t v'
        simp only [Array.toList_push, List.mem_append, List.mem_singleton]
        rw [hm']
        by_cases e : t = s
        · subst e
          simp only [if_true, Option.some.injEq]
          constructor
          · rintro rfl; exact ⟨_, .inr rfl, rfl, rfl⟩
          · rintro ⟨x, hx | rfl, hxk, hxv⟩
            · exact absurd hxk (h2 x hx)
            · exact hxv
        · simp only [if_neg e]
          rw [hm]
          constructor
          · rintro ⟨x, hx, hxk, hxv⟩; exact ⟨x, .inl hx, hxk, hxv⟩
          · rintro ⟨x, hx | rfl, hxk, hxv⟩
            · exact ⟨x, hx, hxk, hxv⟩
            · exact absurd (sdV_inj hxk) (fun a => e a.symm)
  · have hj : es[j]? = some e0 := by simpa using h2
    have hm0 : e0 ∈ es.toList := List.mem_of_getElem? h2
    have hsome : m s = some e0.val := (hm s _).2 ⟨e0, hm0, h3, rfl⟩
    have hlist : (es.modify j (fun e' => { e' with key := sdV s, val := v })).toList = es.toList.set j { e0 with key := sdV s, val := v } := by rw [Array.toList_modify, ChangeMaps.modify_eq_set _ _ _ _ h2]
    have hmem : ∀ x, x ∈ es.toList.set j { e0 with key := sdV s, val := v } ↔ x = { e0 with key := sdV s, val := v } ∨ (x ∈ es.toList ∧ x.key ≠ sdV s) := by
      intro x
      have hjl : j < es.toList.length := (List.getElem?_eq_some_iff.1 h2).1
      constructor
      · intro hx
        obtain ⟨i, hi, ex⟩ := List.getElem_of_mem hx
        rw [List.getElem_set] at ex
        split at ex
        · exact Or.inl ex.symm
        · rename_i hne
          have hi' : i < es.toList.length := by simpa using hi
          have hx' : x ∈ es.toList := ex ▸ List.getElem_mem hi'
          refine Or.inr ⟨hx', fun hkk => hne ?_⟩
          have hxe : x = e0 := key_once hst hx' hm0 (hkk.trans h3.symm)
          have hp := ((stamped_iff es clock).1 hst).2.2
          rw [List.pairwise_iff_getElem] at hp
          have hje : es.toList[j] = e0 := (List.getElem?_eq_some_iff.1 h2).2
          rcases Nat.lt_trichotomy i j with h' | h' | h'
          · exact absurd (by rw [ex, hje, hxe]) (hp i j hi' hjl h')
          · exact h'.symm
          · exact absurd (by rw [ex, hje, hxe]) (hp j i hjl hi' h')
      · rintro (rfl | ⟨hx, hne⟩)
        · exact List.mem_iff_getElem.2 ⟨j, by simpa using hjl, by simp⟩
        · obtain ⟨i, hi, rfl⟩ := List.getElem_of_mem hx
          have hij : j ≠ i := by
            rintro rfl
            have hje : es.toList[j] = e0 := (List.getElem?_eq_some_iff.1 h2).2
            rw [hje] at hne; exact hne h3
          exact List.mem_iff_getElem.2 ⟨i, by simpa using hi, by rw [List.getElem_set_ne hij]⟩
    refine ⟨setBlock w M (.map (es.modify j (fun e' => { e' with key := sdV s, val := v })) clock), ?_, ?_, hfr _⟩
    · simp [Instr.mapUpdate, run_underlying Tryd.underlying55, MapKept.run_getObj_map hb, lawSd.check w _ hl, h1, hj, h3, lawSd.stays w hl, MapKept.run_setObj_map _ hb, Result.andThen, setBlock]
    · refine ⟨_, _, ChangeMaps.heap_setBlock_same hb _, stamped_modify hst _ _ (fun _ _ => rfl) (fun e' _ he' => by rw [hj] at he'; cases he'; exact h3.symm), by rw [hn', hsome]; simp [hsz], ?_, ?_⟩
      · intro x hx
        rw [hlist, hmem] at hx
        rcases hx with rfl | ⟨hx, _⟩
        · exact ⟨s, hs, rfl⟩
        · exact hk x hx
      · intro t v'
        rw [hlist]
        simp only [hmem]
        rw [hm']
        by_cases e : t = s
        · subst e
          simp only [if_true, Option.some.injEq]
          constructor
          · rintro rfl; exact ⟨_, .inl rfl, rfl, rfl⟩
          · rintro ⟨x, rfl | ⟨hx, hne⟩, hxk, hxv⟩
            · exact hxv
            · exact absurd hxk hne
        · simp only [if_neg e]
          rw [hm]
          constructor
          · rintro ⟨x, hx, hxk, hxv⟩; exact ⟨x, .inr ⟨hx, fun hh => e (sdV_inj (hxk.symm.trans hh))⟩, hxk, hxv⟩
          · rintro ⟨x, rfl | ⟨hx, _⟩, hxk, hxv⟩
            · exact absurd (sdV_inj hxk) (fun a => e a.symm)
            · exact ⟨x, hx, hxk, hxv⟩

theorem heap_alloc_new (w : World) (o : Obj) : (w.alloc o).heap[w.heap.size]? = some o := (MapKept.heap_alloc w o).1

/-- The marks of the entries of a list. -/
def pmV (l : List Sd) (s : Sd) : Option Value := (pm 0 l s).map (fun (k : Nat) => Value.int .i64 (k : Int))
theorem look_none {w : World} {M n : Nat} {l : List Sd} {s : Sd} (h : MapIs w M (pmV l) n) (hs : KeyOk s) (hp : pm 0 l s = none) :
    (Instr.lookup 55 (.map (some M)) (sdV s) true).run Tryd.prog w = .ok (.tuple #[.int .i64 0, .bool false]) w := by
  have hlk := h.look s hs
  unfold pmV at hlk
  rw [hp] at hlk
  exact hlk
theorem look_some {w : World} {M n : Nat} {l : List Sd} {s : Sd} {k : Nat} (h : MapIs w M (pmV l) n) (hs : KeyOk s) (hp : pm 0 l s = some k) :
    (Instr.lookup 55 (.map (some M)) (sdV s) true).run Tryd.prog w = .ok (.tuple #[.int .i64 k, .bool true]) w := by
  have hlk := h.look s hs
  unfold pmV at hlk
  rw [hp] at hlk
  exact hlk
set_option maxRecDepth 100000 in
theorem infoSd : (Tryd.prog.info? 94).map (fun i => (i.zero, i.size, i.bytes)) = some (some (.agg #[.int .i64 0, .string (S [])]), 2, 24) := by kernel_rfl
theorem wpList_map_store {ops : Array Oper} {rest : List Oper} {o : Oper} {a : Act} {w w' : World} {Q : Exit → Act → World → Prop} (hg : o.guard = none) (m x v : Operand) (t : TypeId) (hop : o.op = Op.mapUpdate t m x v)
    (M : Nat) (key val : Value) (hm : a.eval m = .map (some M)) (hx : a.eval x = key) (hv : a.eval v = val) (hrun : (Instr.mapUpdate t (.map (some M)) key val).run Tryd.prog w = .ok () w') (hd : o.dst = none)
    (h : wpList Tryd.prog ops Q rest a w') : wpList Tryd.prog ops Q (o :: rest) a w := by
  refine wpList_plain hg fun K hK => ?_
  have hK' := hK _ _ h
  unfold Oper.wp execOp
  simp only [hop, hm, hx, hv, Sem.run_bind, Sem.run_pure, hrun, Result.andThen_ok]
  show K (a.put o.dst undef) _
  rw [hd]; exact hK'
end Go.Proofs.YthppefkamklakaaDoor
