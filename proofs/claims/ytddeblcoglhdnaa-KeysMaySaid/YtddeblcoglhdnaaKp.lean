/-
  Maps from strings to standings (Ms): look, store.
-/
import Derived.Test.YtddeblcoglhdnaaKl
namespace Go.Proofs.Ytddeblcoglhdnaa
end Go.Proofs.Ytddeblcoglhdnaa
namespace Go.Proofs.Ytddeblcoglhdnaa.Ms
open Go.RowKit Go.MapKept Go.Maps Go.WideMaps
open Go.ChangeMaps (setBlock)

theorem lawStr : Keyed Try.prog 9 := string_keyed Try.underlying9
theorem key_str (s : Txt) (h : s.length ≤ maxLen) : ∃ l, keyOf Try.prog 9 (.string (S s)) = some l := ⟨_, keyOf_string_mk Try.underlying9 (s := S s) (by rw [S_size]; exact h)⟩
theorem str_inj {s t : Txt} (h : Value.string (S s) = Value.string (S t)) : s = t := by
  have := congrArg (fun v => match v with | Value.string b => b.data.toList | _ => []) h
  simpa [S_data] using this

/-- Block M is a map of n entries, which has the value v at s exactly if m says so. -/
def MapIs (w : World) (M : Nat) (m : Txt → Option Value) (n : Nat) : Prop :=
  ∃ es clock, w.heap[M]? = some (.map es clock) ∧ Stamped es clock ∧ es.size = n ∧ (∀ x ∈ es.toList, ∃ s : Txt, s.length ≤ maxLen ∧ x.key = .string (S s)) ∧
    ∀ s v, m s = some v ↔ ∃ x ∈ es.toList, x.key = .string (S s) ∧ x.val = v

theorem MapIs.lt {w : World} {M : Nat} {m n} (h : MapIs w M m n) : M < w.heap.size := by
  obtain ⟨es, clock, hb, _⟩ := h
  exact (Array.getElem?_eq_some_iff.1 hb).1
theorem MapIs.fr {w w' : World} {M : Nat} {m n} (h : MapIs w M m n) (hw : Fr w w') : MapIs w' M m n := by
  obtain ⟨es, clock, hb, h'⟩ := h
  exact ⟨es, clock, hw.heap hb, h'⟩
theorem MapIs.new (w : World) : MapIs (w.alloc (.map #[] 0)) w.heap.size (fun _ => none) 0 :=
  ⟨#[], 0, (MapKept.heap_alloc w _).1, stamped_empty 0, rfl, by simp, by simp⟩

theorem keys_read {es : Array MapEntry} (h : ∀ x ∈ es.toList, ∃ s : Txt, s.length ≤ maxLen ∧ x.key = .string (S s)) : ∀ x ∈ es.toList, ∃ l, keyOf Try.prog 9 x.key = some l := by
  intro x hx
  obtain ⟨s, hs, e⟩ := h x hx
  rw [e]
  exact key_str s hs

/-- No other entry has the key of one. -/
theorem key_once {es : Array MapEntry} {clock : Nat} (h : Stamped es clock) {x y : MapEntry} (hx : x ∈ es.toList) (hy : y ∈ es.toList) (e : x.key = y.key) : x = y := by
  have hp := ((stamped_iff es clock).1 h).2.2
  obtain ⟨i, hi, rfl⟩ := List.getElem_of_mem hx
  obtain ⟨j, hj, rfl⟩ := List.getElem_of_mem hy
  rw [List.pairwise_iff_getElem] at hp
  rcases Nat.lt_trichotomy i j with h' | h' | h'
  · exact absurd e (hp i j hi hj h')
  · subst h'; rfl
  · exact absurd e.symm (hp j i hj hi h')

set_option maxRecDepth 100000 in
theorem run_zero (w : World) : (zeroValue 64).run Try.prog w = .ok (.agg #[.pointer none, .pointer none]) w := by kernel_rfl

theorem MapIs.look1 {w : World} {M : Nat} {m n} (h : MapIs w M m n) (s : Txt) (hs : s.length ≤ maxLen) :
    (Instr.lookup 67 (.map (some M)) (.string (S s)) false).run Try.prog w = .ok ((m s).getD (.agg #[.pointer none, .pointer none])) w := by
  obtain ⟨es, clock, hb, hst, _, hk, hm⟩ := h
  obtain ⟨l, hl⟩ := key_str s hs
  rcases lawStr.find w hl es.toList (keys_read hk) with ⟨h1, h2⟩ | ⟨j, e0, h1, h2, h3⟩
  · have hn : m s = none := by
      cases hc : m s with
      | none => rfl
      | some v => obtain ⟨x, hx, hxk, _⟩ := (hm s v).1 hc; exact absurd hxk (h2 x hx)
    simp [Instr.lookup, run_underlying Try.underlying67, MapKept.run_getObj_map hb, lawStr.check w _ hl, h1, hn, Result.andThen]
  · have hs : m s = some e0.val := (hm s _).2 ⟨e0, List.mem_of_getElem? h2, h3, rfl⟩
    simp [Instr.lookup, run_underlying Try.underlying67, MapKept.run_getObj_map hb, lawStr.check w _ hl, h1, hs, Result.andThen]

theorem MapIs.store {w : World} {M : Nat} {m m' : Txt → Option Value} {n n' : Nat} (h : MapIs w M m n) (s : Txt) (hs : s.length ≤ maxLen) (v : Value)
    (hm' : ∀ t, m' t = if t = s then some v else m t) (hn' : n' = if m s = none then n + 1 else n) :
    ∃ w', (Instr.mapUpdate 67 (.map (some M)) (.string (S s)) v).run Try.prog w = .ok () w' ∧ MapIs w' M m' n' ∧ OnlyB M w w' := by
  have hlt := h.lt
  obtain ⟨es, clock, hb, hst, hsz, hk, hm⟩ := h
  obtain ⟨l, hl⟩ := key_str s hs
  have hfr : ∀ o, OnlyB M w (setBlock w M o) := fun o => ⟨rfl, rfl, rfl, by simp [setBlock], fun k hk => ChangeMaps.heap_setBlock_other hb _ hk⟩
  rcases lawStr.find w hl es.toList (keys_read hk) with ⟨h1, h2⟩ | ⟨j, e0, h1, h2, h3⟩
  · have hnone : m s = none := by
      cases hc : m s with
      | none => rfl
      | some v => obtain ⟨x, hx, hxk, _⟩ := (hm s v).1 hc; exact absurd hxk (h2 x hx)
    refine ⟨setBlock w M (.map (es.push ⟨.string (S s), v, clock⟩) (clock + 1)), ?_, ?_, hfr _⟩
    · simp [Instr.mapUpdate, run_underlying Try.underlying67, MapKept.run_getObj_map hb, lawStr.check w _ hl, h1, MapKept.run_setObj_map _ hb, Result.andThen, setBlock]
    · refine ⟨_, _, ChangeMaps.heap_setBlock_same hb _, stamped_push hst h2, by rw [hn', hnone]; simp [hsz], ?_, ?_⟩
      · intro x hx
        simp only [Array.toList_push, List.mem_append, List.mem_singleton] at hx
        rcases hx with hx | rfl
        · exact hk x hx
        · exact ⟨s, hs, rfl⟩
      · intro t v'
        simp only [Array.toList_push, List.mem_append, List.mem_singleton]
        rw [hm']
        by_cases e : t = s
        · subst e
          simp only [if_true, Option.some.injEq]
          constructor
          · rintro rfl; exact ⟨_, .inr rfl, rfl, rfl⟩
          · rintro ⟨x, hx | rfl, hxk, hxv⟩
            · exact absurd hxk (h2 x hx)
            · exact hxv
        · simp only [if_neg e]
          rw [hm]
          constructor
          · rintro ⟨x, hx, hxk, hxv⟩; exact ⟨x, .inl hx, hxk, hxv⟩
          · rintro ⟨x, hx | rfl, hxk, hxv⟩
            · exact ⟨x, hx, hxk, hxv⟩
            · exact absurd (str_inj hxk) (fun a => e a.symm)
  · have hj : es[j]? = some e0 := by simpa using h2
    have hm0 : e0 ∈ es.toList := List.mem_of_getElem? h2
    have hsome : m s = some e0.val := (hm s _).2 ⟨e0, hm0, h3, rfl⟩
    have hlist : (es.modify j (fun e' => { e' with key := .string (S s), val := v })).toList = es.toList.set j { e0 with key := .string (S s), val := v } := by rw [Array.toList_modify, ChangeMaps.modify_eq_set _ _ _ _ h2]
    have hmem : ∀ x, x ∈ es.toList.set j { e0 with key := .string (S s), val := v } ↔ x = { e0 with key := .string (S s), val := v } ∨ (x ∈ es.toList ∧ x.key ≠ .string (S s)) := by
      intro x
      have hjl : j < es.toList.length := (List.getElem?_eq_some_iff.1 h2).1
      constructor
      · intro hx
        obtain ⟨i, hi, ex⟩ := List.getElem_of_mem hx
        rw [List.getElem_set] at ex
        split at ex
        · exact Or.inl ex.symm
        · rename_i hne
          have hi' : i < es.toList.length := by simpa using hi
          have hx' : x ∈ es.toList := ex ▸ List.getElem_mem hi'
          refine Or.inr ⟨hx', fun hkk => hne ?_⟩
          have hxe : x = e0 := key_once hst hx' hm0 (hkk.trans h3.symm)
          have hp := ((stamped_iff es clock).1 hst).2.2
          rw [List.pairwise_iff_getElem] at hp
          have hje : es.toList[j] = e0 := (List.getElem?_eq_some_iff.1 h2).2
          rcases Nat.lt_trichotomy i j with h' | h' | h'
          · exact absurd (by rw [ex, hje, hxe]) (hp i j hi' hjl h')
          · exact h'.symm
          · exact absurd (by rw [ex, hje, hxe]) (hp j i hjl hi' h')
      · rintro (rfl | ⟨hx, hne⟩)
        · exact List.mem_iff_getElem.2 ⟨j, by simpa using hjl, by simp⟩
        · obtain ⟨i, hi, rfl⟩ := List.getElem_of_mem hx
          have hij : j ≠ i := by
            rintro rfl
            have hje : es.toList[j] = e0 := (List.getElem?_eq_some_iff.1 h2).2
            rw [hje] at hne; exact hne h3
          exact List.mem_iff_getElem.2 ⟨i, by simpa using hi, by rw [List.getElem_set_ne hij]⟩
    refine ⟨setBlock w M (.map (es.modify j (fun e' => { e' with key := .string (S s), val := v })) clock), ?_, ?_, hfr _⟩
    · simp [Instr.mapUpdate, run_underlying Try.underlying67, MapKept.run_getObj_map hb, lawStr.check w _ hl, h1, hj, h3, lawStr.stays w hl, MapKept.run_setObj_map _ hb, Result.andThen, setBlock]
    · refine ⟨_, _, ChangeMaps.heap_setBlock_same hb _, stamped_modify hst _ _ (fun _ _ => rfl) (fun e' _ he' => by rw [hj] at he'; cases he'; exact h3.symm), by rw [hn', hsome]; simp [hsz], ?_, ?_⟩
      · intro x hx
        rw [hlist, hmem] at hx
        rcases hx with rfl | ⟨hx, _⟩
        · exact ⟨s, hs, rfl⟩
        · exact hk x hx
      · intro t v'
        rw [hlist]
        simp only [hmem]
        rw [hm']
        by_cases e : t = s
        · subst e
          simp only [if_true, Option.some.injEq]
          constructor
          · rintro rfl; exact ⟨_, .inl rfl, rfl, rfl⟩
          · rintro ⟨x, rfl | ⟨hx, hne⟩, hxk, hxv⟩
            · exact hxv
            · exact absurd hxk hne
        · simp only [if_neg e]
          rw [hm]
          constructor
          · rintro ⟨x, hx, hxk, hxv⟩; exact ⟨x, .inr ⟨hx, fun hh => e (str_inj (hxk.symm.trans hh))⟩, hxk, hxv⟩
          · rintro ⟨x, rfl | ⟨hx, _⟩, hxk, hxv⟩
            · exact absurd (str_inj hxk) (fun a => e a.symm)
            · exact ⟨x, hx, hxk, hxv⟩

theorem MapIs.heap {w w' : World} {M : Nat} {m n} (h : MapIs w M m n) (hw : w'.heap[M]? = w.heap[M]?) : MapIs w' M m n := by
  obtain ⟨es, clock, hb, h'⟩ := h
  exact ⟨es, clock, hw.trans hb, h'⟩
end Go.Proofs.Ytddeblcoglhdnaa.Ms
