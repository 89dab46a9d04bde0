/-
  Maps from ints to bools (Mb): look, store, delete; the set of some numbers (SetIs).
-/
import Derived.Test.YtddeblcoglhdnaaKb
import Derived.Maps.OwnOps
import Derived.Maps.Range
namespace Go.Proofs.Ytddeblcoglhdnaa
/-- A number is an int. -/
def inI (x : Int) : Prop := -9223372036854775808 ≤ x ∧ x ≤ 9223372036854775807
end Go.Proofs.Ytddeblcoglhdnaa
namespace Go.Proofs.Ytddeblcoglhdnaa.Mb
open Go.RowKit Go.MapKept Go.Maps Go.WideMaps
open Go.ChangeMaps (setBlock)

theorem lawStr : Keyed Try.prog 3 := int_keyed Try.underlying3
theorem key_str (s : Int) (h : inI s) : ∃ l, keyOf Try.prog 3 (.int .i64 s) = some l := ⟨_, keyOf_int_mk Try.underlying3 (by
  unfold Lit.wf
  simp only [Bool.and_eq_true, decide_eq_true_eq]
  exact ⟨by show (-9223372036854775808 : Int) ≤ s; exact h.1, by show s ≤ (9223372036854775807 : Int); exact h.2⟩)⟩
theorem str_inj {s t : Int} (h : Value.int .i64 s = Value.int .i64 t) : s = t := by injection h

/-- Block M is a map of n entries, which has the value v at s exactly if m says so. -/
def MapIs (w : World) (M : Nat) (m : Int → Option Value) (n : Nat) : Prop :=
  ∃ es clock, w.heap[M]? = some (.map es clock) ∧ Stamped es clock ∧ es.size = n ∧ (∀ x ∈ es.toList, ∃ s : Int, inI s ∧ x.key = .int .i64 s) ∧
    ∀ s v, m s = some v ↔ ∃ x ∈ es.toList, x.key = .int .i64 s ∧ x.val = v

theorem MapIs.lt {w : World} {M : Nat} {m n} (h : MapIs w M m n) : M < w.heap.size := by
  obtain ⟨es, clock, hb, _⟩ := h
  exact (Array.getElem?_eq_some_iff.1 hb).1
theorem MapIs.fr {w w' : World} {M : Nat} {m n} (h : MapIs w M m n) (hw : Fr w w') : MapIs w' M m n := by
  obtain ⟨es, clock, hb, h'⟩ := h
  exact ⟨es, clock, hw.heap hb, h'⟩
theorem MapIs.new (w : World) : MapIs (w.alloc (.map #[] 0)) w.heap.size (fun _ => none) 0 :=
  ⟨#[], 0, (MapKept.heap_alloc w _).1, stamped_empty 0, rfl, by simp, by simp⟩

theorem keys_read {es : Array MapEntry} (h : ∀ x ∈ es.toList, ∃ s : Int, inI s ∧ x.key = .int .i64 s) : ∀ x ∈ es.toList, ∃ l, keyOf Try.prog 3 x.key = some l := by
  intro x hx
  obtain ⟨s, hs, e⟩ := h x hx
  rw [e]
  exact key_str s hs

/-- No other entry has the key of one. -/
theorem key_once {es : Array MapEntry} {clock : Nat} (h : Stamped es clock) {x y : MapEntry} (hx : x ∈ es.toList) (hy : y ∈ es.toList) (e : x.key = y.key) : x = y := by
  have hp := ((stamped_iff es clock).1 h).2.2
  obtain ⟨i, hi, rfl⟩ := List.getElem_of_mem hx
  obtain ⟨j, hj, rfl⟩ := List.getElem_of_mem hy
  rw [List.pairwise_iff_getElem] at hp
  rcases Nat.lt_trichotomy i j with h' | h' | h'
  · exact absurd e (hp i j hi hj h')
  · subst h'; rfl
  · exact absurd e.symm (hp j i hj hi h')

set_option maxRecDepth 100000 in
theorem run_zero (w : World) : (zeroValue 4).run Try.prog w = .ok (.bool false) w := by kernel_rfl

theorem MapIs.look1 {w : World} {M : Nat} {m n} (h : MapIs w M m n) (s : Int) (hs : inI s) :
    (Instr.lookup 68 (.map (some M)) (.int .i64 s) false).run Try.prog w = .ok ((m s).getD (.bool false)) w := by
  obtain ⟨es, clock, hb, hst, _, hk, hm⟩ := h
  obtain ⟨l, hl⟩ := key_str s hs
  rcases lawStr.find w hl es.toList (keys_read hk) with ⟨h1, h2⟩ | ⟨j, e0, h1, h2, h3⟩
  · have hn : m s = none := by
      cases hc : m s with
      | none => rfl
      | some v => obtain ⟨x, hx, hxk, _⟩ := (hm s v).1 hc; exact absurd hxk (h2 x hx)
    simp [Instr.lookup, run_underlying Try.underlying68, MapKept.run_getObj_map hb, lawStr.check w _ hl, h1, hn, Result.andThen]
  · have hs : m s = some e0.val := (hm s _).2 ⟨e0, List.mem_of_getElem? h2, h3, rfl⟩
    simp [Instr.lookup, run_underlying Try.underlying68, MapKept.run_getObj_map hb, lawStr.check w _ hl, h1, hs, Result.andThen]

theorem MapIs.store {w : World} {M : Nat} {m m' : Int → Option Value} {n n' : Nat} (h : MapIs w M m n) (s : Int) (hs : inI s) (v : Value)
    (hm' : ∀ t, m' t = if t = s then some v else m t) (hn' : n' = if m s = none then n + 1 else n) :
    ∃ w', (Instr.mapUpdate 68 (.map (some M)) (.int .i64 s) v).run Try.prog w = .ok () w' ∧ MapIs w' M m' n' ∧ OnlyB M w w' := by
  have hlt := h.lt
  obtain ⟨es, clock, hb, hst, hsz, hk, hm⟩ := h
  obtain ⟨l, hl⟩ := key_str s hs
  have hfr : ∀ o, OnlyB M w (setBlock w M o) := fun o => ⟨rfl, rfl, rfl, by simp [setBlock], fun k hk => ChangeMaps.heap_setBlock_other hb _ hk⟩
  rcases lawStr.find w hl es.toList (keys_read hk) with ⟨h1, h2⟩ | ⟨j, e0, h1, h2, h3⟩
  · have hnone : m s = none := by
      cases hc : m s with
      | none => rfl
      | some v => obtain ⟨x, hx, hxk, _⟩ := (hm s v).1 hc; exact absurd hxk (h2 x hx)
    refine ⟨setBlock w M (.map (es.push ⟨.int .i64 s, v, clock⟩) (clock + 1)), ?_, ?_, hfr _⟩
    · simp [Instr.mapUpdate, run_underlying Try.underlying68, MapKept.run_getObj_map hb, lawStr.check w _ hl, h1, MapKept.run_setObj_map _ hb, Result.andThen, setBlock]
    · refine ⟨_, _, ChangeMaps.heap_setBlock_same hb _, stamped_push hst h2, by rw [hn', hnone]; simp [hsz], ?_, ?_⟩
      · intro x hx
        simp only [Array.toList_push, List.mem_append, List.mem_singleton] at hx
        rcases hx with hx | rfl
        · exact hk x hx
        · exact ⟨s, hs, rfl⟩
      · intro t v'
        simp only [Array.toList_push, List.mem_append, List.mem_singleton]
        rw [hm']
        by_cases e : t = s
        · subst e
          simp only [if_true, Option.some.injEq]
          constructor
          · rintro rfl; exact ⟨_, .inr rfl, rfl, rfl⟩
          · rintro ⟨x, hx | rfl, hxk, hxv⟩
            · exact absurd hxk (h2 x hx)
            · exact hxv
        · simp only [if_neg e]
          rw [hm]
          constructor
          · rintro ⟨x, hx, hxk, hxv⟩; exact ⟨x, .inl hx, hxk, hxv⟩
          · rintro ⟨x, hx | rfl, hxk, hxv⟩
            · exact ⟨x, hx, hxk, hxv⟩
            · exact absurd (str_inj hxk) (fun a => e a.symm)
  · have hj : es[j]? = some e0 := by simpa using h2
    have hm0 : e0 ∈ es.toList := List.mem_of_getElem? h2
    have hsome : m s = some e0.val := (hm s _).2 ⟨e0, hm0, h3, rfl⟩
    have hlist : (es.modify j (fun e' => { e' with key := .int .i64 s, val := v })).toList = es.toList.set j { e0 with key := .int .i64 s, val := v } := by rw [Array.toList_modify, ChangeMaps.modify_eq_set _ _ _ _ h2]
    have hmem : ∀ x, x ∈ es.toList.set j { e0 with key := .int .i64 s, val := v } ↔ x = { e0 with key := .int .i64 s, val := v } ∨ (x ∈ es.toList ∧ x.key ≠ .int .i64 s) := by
      intro x
      have hjl : j < es.toList.length := (List.getElem?_eq_some_iff.1 h2).1
      constructor
      · intro hx
        obtain ⟨i, hi, ex⟩ := List.getElem_of_mem hx
        rw [List.getElem_set] at ex
        split at ex
        · exact Or.inl ex.symm
        · rename_i hne
          have hi' : i < es.toList.length := by simpa using hi
          have hx' : x ∈ es.toList := ex ▸ List.getElem_mem hi'
          refine Or.inr ⟨hx', fun hkk => hne ?_⟩
          have hxe : x = e0 := key_once hst hx' hm0 (hkk.trans h3.symm)
          have hp := ((stamped_iff es clock).1 hst).2.2
          rw [List.pairwise_iff_getElem] at hp
          have hje : es.toList[j] = e0 := (List.getElem?_eq_some_iff.1 h2).2
          rcases Nat.lt_trichotomy i j with h' | h' | h'
          · exact absurd (by rw [ex, hje, hxe]) (hp i j hi' hjl h')
          · exact h'.symm
          · exact absurd (by rw [ex, hje, hxe]) (hp j i hjl hi' h')
      · rintro (rfl | ⟨hx, hne⟩)
        · exact List.mem_iff_getElem.2 ⟨j, by simpa using hjl, by simp⟩
        · obtain ⟨i, hi, rfl⟩ := List.getElem_of_mem hx
          have hij : j ≠ i := by
            rintro rfl
            have hje : es.toList[j] = e0 := (List.getElem?_eq_some_iff.1 h2).2
            rw [hje] at hne; exact hne h3
          exact List.mem_iff_getElem.2 ⟨i, by simpa using hi, by rw [List.getElem_set_ne hij]⟩
    refine ⟨setBlock w M (.map (es.modify j (fun e' => { e' with key := .int .i64 s, val := v })) clock), ?_, ?_, hfr _⟩
    · simp [Instr.mapUpdate, run_underlying Try.underlying68, MapKept.run_getObj_map hb, lawStr.check w _ hl, h1, hj, h3, lawStr.stays w hl, MapKept.run_setObj_map _ hb, Result.andThen, setBlock]
    · refine ⟨_, _, ChangeMaps.heap_setBlock_same hb _, stamped_modify hst _ _ (fun _ _ => rfl) (fun e' _ he' => by rw [hj] at he'; cases he'; exact h3.symm), by rw [hn', hsome]; simp [hsz], ?_, ?_⟩
      · intro x hx
        rw [hlist, hmem] at hx
        rcases hx with rfl | ⟨hx, _⟩
        · exact ⟨s, hs, rfl⟩
        · exact hk x hx
      · intro t v'
        rw [hlist]
        simp only [hmem]
        rw [hm']
        by_cases e : t = s
        · subst e
          simp only [if_true, Option.some.injEq]
          constructor
          · rintro rfl; exact ⟨_, .inl rfl, rfl, rfl⟩
          · rintro ⟨x, rfl | ⟨hx, hne⟩, hxk, hxv⟩
            · exact hxv
            · exact absurd hxk hne
        · simp only [if_neg e]
          rw [hm]
          constructor
          · rintro ⟨x, hx, hxk, hxv⟩; exact ⟨x, .inr ⟨hx, fun hh => e (str_inj (hxk.symm.trans hh))⟩, hxk, hxv⟩
          · rintro ⟨x, rfl | ⟨hx, _⟩, hxk, hxv⟩
            · exact absurd (str_inj hxk) (fun a => e a.symm)
            · exact ⟨x, hx, hxk, hxv⟩

theorem MapIs.heap {w w' : World} {M : Nat} {m n} (h : MapIs w M m n) (hw : w'.heap[M]? = w.heap[M]?) : MapIs w' M m n := by
  obtain ⟨es, clock, hb, h'⟩ := h
  exact ⟨es, clock, hw.trans hb, h'⟩
theorem MapIs.del {w : World} {M : Nat} {m m' : Int → Option Value} {n : Nat} (h : MapIs w M m n) (s : Int) (hs : inI s) (ty : TypeId)
    (hm' : ∀ t, m' t = if t = s then none else m t) :
    ∃ w' n', (Builtin.delete_ #[68, 3] ty #[.map (some M), .int .i64 s]).run Try.prog w = .ok (.tuple #[]) w' ∧ MapIs w' M m' n' ∧ OnlyB M w w' := by
  obtain ⟨es, clock, hb, hst, hsz, hk, hm⟩ := h
  obtain ⟨l, hl⟩ := key_str s hs
  have hfr : ∀ o, OnlyB M w (setBlock w M o) := fun o => ⟨rfl, rfl, rfl, by simp [setBlock], fun k hk => ChangeMaps.heap_setBlock_other hb _ hk⟩
  rcases lawStr.find w hl es.toList (keys_read hk) with ⟨h1, h2⟩ | ⟨j, e0, h1, h2, h3⟩
  · refine ⟨setBlock w M (.map es clock), es.size, ?_, ⟨es, clock, ChangeMaps.heap_setBlock_same hb _, hst, rfl, hk, fun t v => ?_⟩, hfr _⟩
    · simp [Builtin.delete_, run_underlying Try.underlying68, MapKept.run_getObj_map hb, lawStr.check w _ hl, h1, MapKept.run_setObj_map _ hb, Result.andThen, setBlock]
    · rw [hm']
      by_cases e : t = s
      · subst e
        rw [if_pos rfl]
        exact ⟨fun h => by simp at h, fun ⟨x, hx, hxk, _⟩ => absurd hxk (h2 x hx)⟩
      · rw [if_neg e]; exact hm t v
  · have hjl : j < es.toList.length := (List.getElem?_eq_some_iff.1 h2).1
    have hjs : j < es.size := by simpa using hjl
    have hm0 : e0 ∈ es.toList := List.mem_of_getElem? h2
    have hsub : (es.eraseIdxIfInBounds j).toList = es.toList.eraseIdx j := by
      unfold Array.eraseIdxIfInBounds
      rw [dif_pos hjs]
      simp
    have hmem : ∀ x, x ∈ es.toList.eraseIdx j ↔ (x ∈ es.toList ∧ x.key ≠ .int .i64 s) := by
      intro x
      rw [List.mem_eraseIdx_iff_getElem?]
      constructor
      · rintro ⟨i, hne, hi⟩
        refine ⟨List.mem_of_getElem? hi, fun hxk => hne ?_⟩
        have hx : x ∈ es.toList := List.mem_of_getElem? hi
        have hp := ((stamped_iff es clock).1 hst).2.2
        rw [List.pairwise_iff_getElem] at hp
        obtain ⟨hil, hie⟩ := List.getElem?_eq_some_iff.1 hi
        obtain ⟨_, hje⟩ := List.getElem?_eq_some_iff.1 h2
        rcases Nat.lt_trichotomy i j with h' | h' | h'
        · exact absurd (by rw [hie, hje, hxk, h3]) (hp i j hil hjl h')
        · exact h'
        · exact absurd (by rw [hie, hje, hxk, h3]) (hp j i hjl hil h')
      · rintro ⟨hx, hne⟩
        obtain ⟨i, hi⟩ := List.getElem?_of_mem hx
        refine ⟨i, fun e1 => hne ?_, hi⟩
        subst e1
        rw [h2] at hi
        cases hi
        exact h3
    refine ⟨setBlock w M (.map (es.eraseIdxIfInBounds j) clock), _, ?_, ⟨_, clock, ChangeMaps.heap_setBlock_same hb _, stamped_erase hst j, rfl, ?_, fun t v => ?_⟩, hfr _⟩
    · simp [Builtin.delete_, run_underlying Try.underlying68, MapKept.run_getObj_map hb, lawStr.check w _ hl, h1, MapKept.run_setObj_map _ hb, Result.andThen, setBlock]
    · intro x hx
      rw [hsub, hmem] at hx
      exact hk x hx.1
    · rw [hsub, hm']
      simp only [hmem]
      by_cases e : t = s
      · subst e
        rw [if_pos rfl]
        exact ⟨fun h => by simp at h, fun ⟨x, hx, hxk, _⟩ => absurd hxk hx.2⟩
      · rw [if_neg e, hm]
        exact ⟨fun ⟨x, hx, hxk, hxv⟩ => ⟨x, ⟨hx, fun hh => e (str_inj (hxk.symm.trans hh))⟩, hxk, hxv⟩, fun ⟨x, hx, hxk, hxv⟩ => ⟨x, hx.1, hxk, hxv⟩⟩

/-- Block M is the set of those numbers for which D is true. -/
def SetIs (w : World) (M : Nat) (D : Int → Bool) : Prop := ∃ m n, MapIs w M m n ∧ ∀ t, m t = if D t = true then some (.bool true) else none
theorem SetIs.fr {w w' : World} {M : Nat} {D : Int → Bool} (h : SetIs w M D) (hf : Fr w w') : SetIs w' M D := let ⟨m, n, h1, h2⟩ := h; ⟨m, n, h1.fr hf, h2⟩
theorem SetIs.lt {w : World} {M : Nat} {D : Int → Bool} (h : SetIs w M D) : M < w.heap.size := let ⟨_, _, h1, _⟩ := h; h1.lt
theorem SetIs.heap {w w' : World} {M : Nat} {D : Int → Bool} (h : SetIs w M D) (hw : w'.heap[M]? = w.heap[M]?) : SetIs w' M D := let ⟨m, n, h1, h2⟩ := h; ⟨m, n, h1.heap hw, h2⟩
theorem SetIs.new (w : World) : SetIs (w.alloc (.map #[] 0)) w.heap.size (fun _ => false) := ⟨_, _, MapIs.new w, fun t => by simp⟩
theorem SetIs.look {w : World} {M : Nat} {D : Int → Bool} (h : SetIs w M D) (s : Int) (hs : inI s) :
    (Instr.lookup 68 (.map (some M)) (.int .i64 s) false).run Try.prog w = .ok (.bool (D s)) w := by
  obtain ⟨m, n, h1, h2⟩ := h
  have h3 := h1.look1 s hs
  rw [h2] at h3
  rw [h3]
  cases D s <;> rfl
theorem SetIs.put {w : World} {M : Nat} {D : Int → Bool} (h : SetIs w M D) (s : Int) (hs : inI s) :
    ∃ w', (Instr.mapUpdate 68 (.map (some M)) (.int .i64 s) (.bool true)).run Try.prog w = .ok () w' ∧ SetIs w' M (fun t => decide (t = s) || D t) ∧ OnlyB M w w' := by
  obtain ⟨m, n, h1, h2⟩ := h
  obtain ⟨w', hr, hm, ho⟩ := h1.store (m' := fun t => if t = s then some (.bool true) else m t) (n' := if m s = none then n + 1 else n) s hs (.bool true) (fun _ => rfl) rfl
  refine ⟨w', hr, ⟨_, _, hm, fun t => ?_⟩, ho⟩
  by_cases e : t = s
  · simp [e]
  · simp [e, h2]
theorem SetIs.del {w : World} {M : Nat} {D : Int → Bool} (h : SetIs w M D) (s : Int) (hs : inI s) :
    ∃ w', (∀ ty, (Builtin.delete_ #[68, 3] ty #[.map (some M), .int .i64 s]).run Try.prog w = .ok (.tuple #[]) w') ∧ SetIs w' M (fun t => !decide (t = s) && D t) ∧ OnlyB M w w' := by
  obtain ⟨m, n, h1, h2⟩ := h
  obtain ⟨w', n', hr, hm, ho⟩ := h1.del (m' := fun t => if t = s then none else m t) s hs 0 (fun _ => rfl)
  refine ⟨w', fun ty => hr, ⟨_, _, hm, fun t => ?_⟩, ho⟩
  by_cases e : t = s
  · simp [e]
  · simp [e, h2]
theorem SetIs.congr {w : World} {M : Nat} {D D' : Int → Bool} (h : SetIs w M D) (hD : ∀ t, D' t = D t) : SetIs w M D' := let ⟨m, n, h1, h2⟩ := h; ⟨m, n, h1, fun t => by rw [hD]; exact h2 t⟩
end Go.Proofs.Ytddeblcoglhdnaa.Mb
