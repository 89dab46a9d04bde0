/-
  The map from places to sectors, as a partial function: looking up, storing, deleting.
-/
import Derived.Test.YtjcajgcfkidbkaaDoorProg
import Derived.WalkKit
import Derived.Maps.Keyed
import Derived.DeepKeys4
namespace Go.Proofs.YtjcajgcfkidbkaaDoor
open Go.RowKit Go.MapKept Go.Maps Go.WideMaps
open Go.ChangeMaps (setBlock)

set_option maxRecDepth 100000 in
theorem laidOutT : laidOutB Tryd.prog = true := by kernel_rfl
theorem rowPlace : (87 : TypeId) < Tryd.prog.types.size := of_decide_eq_true (by kernel_rfl)
theorem widePlace : (match Tryd.prog.underlying 87 with | some (.array _ _) | some (.struct _) => true | _ => false) = true := by rw [Tryd.underlying87]
set_option maxRecDepth 100000 in
theorem lawPlace : Keyed Tryd.prog 87 := Keyed.of_law (deep_law_laid laidOutT (m := 2) (by omega) rowPlace (by kernel_rfl) widePlace)
theorem keyTypePlace : Tryd.prog.keyType 87 = true := by kernel_rfl
theorem cellsPlace : Tryd.prog.cellsOf 87 = 2 := by kernel_rfl
set_option maxRecDepth 100000 in
theorem cellsInt : Tryd.prog.cellsOf 3 = 1 := by kernel_rfl

/-- A place. -/
def plc (f n : Nat) : Value := .agg #[.int .i64 f, .int .i64 n]
theorem plc_inj {f n f' n' : Nat} (h : plc f n = plc f' n') : f = f' ∧ n = n' := by
  simp [plc] at h; omega
theorem plc_ne {f n f' n' : Nat} (h : ¬ (f = f' ∧ n = n')) : plc f n ≠ plc f' n' := fun e => h (plc_inj e)

theorem key_lits (m : Nat) (f n : Nat) (hf : f < 1000000000000) (hn : n < 1000000000000) : ∃ ls, Tryd.prog.keyLits (m + 2) 87 [.int .i64 f, .int .i64 n] = some ls := by
  have h1 : (Lit.int .i64 (f : Int)).wf = true := WalkArith.wf_i64 (by omega)
  have h2 : (Lit.int .i64 (n : Int)).wf = true := WalkArith.wf_i64 (by omega)
  simp [Program.keyLits, Tryd.underlying87, Tryd.underlying3, cellsPlace, cellsInt, h1, h2]

theorem key_plc (f n : Nat) (hf : f < 1000000000000) (hn : n < 1000000000000) : ∃ l, keyOf Tryd.prog 87 (plc f n) = some l := by
  have hfm : (plc f n).formed Tryd.prog 87 = true := by simp [plc, Value.formed, Tryd.underlying87, cellsPlace]
  obtain ⟨m, hm⟩ : ∃ m, Tryd.prog.types.size + 1 = m + 2 := ⟨Tryd.prog.types.size - 1, by have h : (87 : Nat) < Tryd.prog.types.size := rowPlace; omega⟩
  obtain ⟨ls, hls⟩ := key_lits m f n hf hn
  refine ⟨.string (keyBytes ls), ?_⟩
  unfold keyOf
  rw [Tryd.underlying87]
  simp only [keyTypePlace, hfm, Bool.and_self, if_true]
  rw [hm, show (plc f n).cells.toList = [.int .i64 f, .int .i64 n] from rfl, hls]
  rfl

/-- Block M is a map whose keys are places below the bounds, and which has the value v at (f, n) exactly if m says so. -/
def MapIs (w : World) (M : Nat) (m : Nat → Nat → Option Value) : Prop :=
  ∃ es clock, w.heap[M]? = some (.map es clock) ∧ Stamped es clock ∧ (∀ x ∈ es.toList, ∃ f n, f < 1000000000000 ∧ n < 1000000000000 ∧ x.key = plc f n) ∧
    ∀ f n v, m f n = some v ↔ ∃ x ∈ es.toList, x.key = plc f n ∧ x.val = v

theorem MapIs.lt {w : World} {M : Nat} {m} (h : MapIs w M m) : M < w.heap.size := by
  obtain ⟨es, clock, hb, _⟩ := h
  exact (Array.getElem?_eq_some_iff.1 hb).1
theorem MapIs.heap {w w' : World} {M : Nat} {m} (h : MapIs w M m) (hw : w'.heap[M]? = w.heap[M]?) : MapIs w' M m := by
  obtain ⟨es, clock, hb, h'⟩ := h
  exact ⟨es, clock, hw.trans hb, h'⟩

theorem keys_read {es : Array MapEntry} (h : ∀ x ∈ es.toList, ∃ f n, f < 1000000000000 ∧ n < 1000000000000 ∧ x.key = plc f n) : ∀ x ∈ es.toList, ∃ l, keyOf Tryd.prog 87 x.key = some l := by
  intro x hx
  obtain ⟨f, n, hf, hn, e⟩ := h x hx
  rw [e]
  exact key_plc f n hf hn

/-- No other entry has the key of one. -/
theorem key_once {es : Array MapEntry} {clock : Nat} (h : Stamped es clock) {x y : MapEntry} (hx : x ∈ es.toList) (hy : y ∈ es.toList) (e : x.key = y.key) : x = y := by
  have hp := ((stamped_iff es clock).1 h).2.2
  obtain ⟨i, hi, rfl⟩ := List.getElem_of_mem hx
  obtain ⟨j, hj, rfl⟩ := List.getElem_of_mem hy
  rw [List.pairwise_iff_getElem] at hp
  rcases Nat.lt_trichotomy i j with h' | h' | h'
  · exact absurd e (hp i j hi hj h')
  · subst h'; rfl
  · exact absurd e.symm (hp j i hj hi h')

def zeroL : List Value := List.replicate 128 (Value.int .u8 0) ++ [.bool false]
theorem zeroL_length : zeroL.length = 129 := by simp [zeroL]
theorem zeroL_one : ∀ v ∈ zeroL, v.oneCell' = true := by
  intro v hv
  simp only [zeroL, List.mem_append, List.mem_replicate, List.mem_singleton] at hv
  rcases hv with ⟨_, rfl⟩ | rfl <;> rfl
def zeroSec : Value := .agg zeroL.toArray
set_option maxRecDepth 100000 in
theorem run_zeroSec (w : World) : (zeroValue 90).run Tryd.prog w = .ok zeroSec w := by kernel_rfl

theorem MapIs.lookup {w : World} {M : Nat} {m} (h : MapIs w M m) (f n : Nat) (hf : f < 1000000000000) (hn : n < 1000000000000) :
    (Instr.lookup 67 (.map (some M)) (plc f n) false).run Tryd.prog w = .ok ((m f n).getD zeroSec) w := by
  obtain ⟨es, clock, hb, hst, hk, hm⟩ := h
  obtain ⟨l, hl⟩ := key_plc f n hf hn
  rcases lawPlace.find w hl es.toList (keys_read hk) with ⟨h1, h2⟩ | ⟨j, e0, h1, h2, h3⟩
  · have hn : m f n = none := by
      cases hc : m f n with
      | none => rfl
      | some v => obtain ⟨x, hx, hxk, _⟩ := (hm f n v).1 hc; exact absurd hxk (h2 x hx)
    simp [Instr.lookup, run_underlying Tryd.underlying67, MapKept.run_getObj_map hb, lawPlace.check w _ hl, h1, hn, Result.andThen] <;> exact congrArg Value.agg (by kernel_rfl)
  · have hs : m f n = some e0.val := (hm f n _).2 ⟨e0, List.mem_of_getElem? h2, h3, rfl⟩
    simp [Instr.lookup, run_underlying Tryd.underlying67, MapKept.run_getObj_map hb, lawPlace.check w _ hl, h1, hs, Result.andThen]

def upd (m : Nat → Nat → Option Value) (f n : Nat) (v : Option Value) : Nat → Nat → Option Value := fun f' n' => if f' = f ∧ n' = n then v else m f' n'

/-- Only block M has changed. -/
def OnlyB (M : Nat) (w w' : World) : Prop := w'.os = w.os ∧ w'.tape = w.tape ∧ w'.output = w.output ∧ w'.heap.size = w.heap.size ∧ ∀ k, k ≠ M → w'.heap[k]? = w.heap[k]?

theorem MapIs.store {w : World} {M : Nat} {m} (h : MapIs w M m) (f n : Nat) (hf : f < 1000000000000) (hn : n < 1000000000000) (v : Value) :
    ∃ w', (Instr.mapUpdate 67 (.map (some M)) (plc f n) v).run Tryd.prog w = .ok () w' ∧ MapIs w' M (upd m f n (some v)) ∧ OnlyB M w w' := by
  have hlt := h.lt
  obtain ⟨es, clock, hb, hst, hk, hm⟩ := h
  obtain ⟨l, hl⟩ := key_plc f n hf hn
  have hfr : ∀ o, OnlyB M w (setBlock w M o) := fun o => ⟨rfl, rfl, rfl, by simp [setBlock], fun k hk => ChangeMaps.heap_setBlock_other hb _ hk⟩
  rcases lawPlace.find w hl es.toList (keys_read hk) with ⟨h1, h2⟩ | ⟨j, e0, h1, h2, h3⟩
  · refine ⟨setBlock w M (.map (es.push ⟨plc f n, v, clock⟩) (clock + 1)), ?_, ?_, hfr _⟩
    · simp [Instr.mapUpdate, run_underlying Tryd.underlying67, MapKept.run_getObj_map hb, lawPlace.check w _ hl, h1, MapKept.run_setObj_map _ hb, Result.andThen, setBlock]
    · refine ⟨_, _, ChangeMaps.heap_setBlock_same hb _, stamped_push hst h2, ?_, ?_⟩
      · intro x hx
        simp only [Array.toList_push, List.mem_append, List.mem_singleton] at hx
        rcases hx with hx | rfl
        · exact hk x hx
        · exact ⟨f, n, hf, hn, rfl⟩
      · intro f' n' v'
        simp only [Array.toList_push, List.mem_append, List.mem_singleton]
        unfold upd
        by_cases e : f' = f ∧ n' = n
        · obtain ⟨rfl, rfl⟩ := e
          simp only [and_self, if_true, Option.some.injEq]
          constructor
          · rintro rfl; exact ⟨_, .inr rfl, rfl, rfl⟩
          · rintro ⟨x, hx | rfl, hxk, hxv⟩
            · exact absurd hxk (h2 x hx)
            · exact hxv
        · simp only [if_neg e]
          rw [hm]
          constructor
          · rintro ⟨x, hx, hxk, hxv⟩; exact ⟨x, .inl hx, hxk, hxv⟩
          · rintro ⟨x, hx | rfl, hxk, hxv⟩
            · exact ⟨x, hx, hxk, hxv⟩
            · exact absurd (plc_inj hxk) (fun ⟨a, b⟩ => e ⟨a.symm, b.symm⟩)
  · have hj : es[j]? = some e0 := by simpa using h2
    have hm0 : e0 ∈ es.toList := List.mem_of_getElem? h2
    have hlist : (es.modify j (fun e' => { e' with key := plc f n, val := v })).toList = es.toList.set j { e0 with key := plc f n, val := v } := by rw [Array.toList_modify, ChangeMaps.modify_eq_set _ _ _ _ h2]
    have hmem : ∀ x, x ∈ es.toList.set j { e0 with key := plc f n, val := v } ↔ x = { e0 with key := plc f n, val := v } ∨ (x ∈ es.toList ∧ x.key ≠ plc f n) := by
      intro x
      have hjl : j < es.toList.length := (List.getElem?_eq_some_iff.1 h2).1
      constructor
      · intro hx
        obtain ⟨i, hi, ex⟩ := List.getElem_of_mem hx
        rw [List.getElem_set] at ex
        split at ex
        · exact Or.inl ex.symm
        · rename_i hne
          have hi' : i < es.toList.length := by simpa using hi
          have hx' : x ∈ es.toList := ex ▸ List.getElem_mem hi'
          refine Or.inr ⟨hx', fun hkk => hne ?_⟩
          have hxe : x = e0 := key_once hst hx' hm0 (hkk.trans h3.symm)
          have hp := ((stamped_iff es clock).1 hst).2.2
          rw [List.pairwise_iff_getElem] at hp
          have hje : es.toList[j] = e0 := (List.getElem?_eq_some_iff.1 h2).2
          rcases Nat.lt_trichotomy i j with h' | h' | h'
          · exact absurd (by rw [ex, hje, hxe]) (hp i j hi' hjl h')
          · exact h'.symm
          · exact absurd (by rw [ex, hje, hxe]) (hp j i hjl hi' h')
      · rintro (rfl | ⟨hx, hne⟩)
        · exact List.mem_iff_getElem.2 ⟨j, by simpa using hjl, by simp⟩
        · obtain ⟨i, hi, rfl⟩ := List.getElem_of_mem hx
          have hij : j ≠ i := by
            rintro rfl
            have hje : es.toList[j] = e0 := (List.getElem?_eq_some_iff.1 h2).2
            rw [hje] at hne; exact hne h3
          exact List.mem_iff_getElem.2 ⟨i, by simpa using hi, by rw [List.getElem_set_ne hij]⟩
    refine ⟨setBlock w M (.map (es.modify j (fun e' => { e' with key := plc f n, val := v })) clock), ?_, ?_, hfr _⟩
    · simp [Instr.mapUpdate, run_underlying Tryd.underlying67, MapKept.run_getObj_map hb, lawPlace.check w _ hl, h1, hj, h3, lawPlace.stays w hl, MapKept.run_setObj_map _ hb, Result.andThen, setBlock]
    · refine ⟨_, _, ChangeMaps.heap_setBlock_same hb _, stamped_modify hst _ _ (fun _ _ => rfl) (fun e' _ he' => by rw [hj] at he'; cases he'; exact h3.symm), ?_, ?_⟩
      · intro x hx
        rw [hlist, hmem] at hx
        rcases hx with rfl | ⟨hx, _⟩
        · exact ⟨f, n, hf, hn, rfl⟩
        · exact hk x hx
      · intro f' n' v'
        rw [hlist]
        simp only [hmem]
        unfold upd
        by_cases e : f' = f ∧ n' = n
        · obtain ⟨rfl, rfl⟩ := e
          simp only [and_self, if_true, Option.some.injEq]
          constructor
          · rintro rfl; exact ⟨_, .inl rfl, rfl, rfl⟩
          · rintro ⟨x, rfl | ⟨hx, hne⟩, hxk, hxv⟩
            · exact hxv
            · exact absurd hxk hne
        · simp only [if_neg e]
          rw [hm]
          constructor
          · rintro ⟨x, hx, hxk, hxv⟩; exact ⟨x, .inr ⟨hx, fun hh => e (plc_inj (hxk.symm.trans hh))⟩, hxk, hxv⟩
          · rintro ⟨x, rfl | ⟨hx, _⟩, hxk, hxv⟩
            · exact absurd (plc_inj hxk) (fun ⟨a, b⟩ => e ⟨a.symm, b.symm⟩)
            · exact ⟨x, hx, hxk, hxv⟩

theorem MapIs.delete {w : World} {M : Nat} {m} (h : MapIs w M m) (f n : Nat) (hf : f < 1000000000000) (hn : n < 1000000000000) (ty : TypeId) :
    ∃ w', (Builtin.delete_ #[67, 87] ty #[.map (some M), plc f n]).run Tryd.prog w = .ok (.tuple #[]) w' ∧ MapIs w' M (upd m f n none) ∧ OnlyB M w w' := by
  obtain ⟨es, clock, hb, hst, hk, hm⟩ := h
  obtain ⟨l, hl⟩ := key_plc f n hf hn
  have hfr : ∀ o, OnlyB M w (setBlock w M o) := fun o => ⟨rfl, rfl, rfl, by simp [setBlock], fun k hk => ChangeMaps.heap_setBlock_other hb _ hk⟩
  rcases lawPlace.find w hl es.toList (keys_read hk) with ⟨h1, h2⟩ | ⟨j, e0, h1, h2, h3⟩
  · refine ⟨setBlock w M (.map es clock), ?_, ⟨_, _, ChangeMaps.heap_setBlock_same hb _, hst, hk, ?_⟩, hfr _⟩
    · simp [Builtin.delete_, run_underlying Tryd.underlying67, MapKept.run_getObj_map hb, lawPlace.check w _ hl, h1, MapKept.run_setObj_map _ hb, Result.andThen, setBlock]
    · intro f' n' v'
      unfold upd
      by_cases e : f' = f ∧ n' = n
      · obtain ⟨rfl, rfl⟩ := e
        simp only [and_self, if_true]
        exact ⟨fun h => by (cases h), fun ⟨x, hx, hxk, _⟩ => absurd hxk (h2 x hx)⟩
      · simp only [if_neg e]; exact hm f' n' v'
  · have hj : es[j]? = some e0 := by simpa using h2
    have hm0 : e0 ∈ es.toList := List.mem_of_getElem? h2
    have hjl : j < es.toList.length := (List.getElem?_eq_some_iff.1 h2).1
    have hjs : j < es.size := by simpa using hjl
    have hsub : (es.eraseIdxIfInBounds j).toList = es.toList.eraseIdx j := by
      unfold Array.eraseIdxIfInBounds
      rw [dif_pos hjs]
      simp
    have hmem : ∀ x, x ∈ es.toList.eraseIdx j ↔ x ∈ es.toList ∧ x.key ≠ plc f n := by
      intro x
      rw [List.mem_eraseIdx_iff_getElem?]
      constructor
      · rintro ⟨i, hij, hi⟩
        refine ⟨List.mem_of_getElem? hi, fun hkk => hij ?_⟩
        have hxe : x = e0 := key_once hst (List.mem_of_getElem? hi) hm0 (hkk.trans h3.symm)
        subst hxe
        have hp := ((stamped_iff es clock).1 hst).2.2
        rw [List.pairwise_iff_getElem] at hp
        obtain ⟨hil, hie⟩ := List.getElem?_eq_some_iff.1 hi
        obtain ⟨_, hje⟩ := List.getElem?_eq_some_iff.1 h2
        rcases Nat.lt_trichotomy i j with h' | h' | h'
        · exact absurd (by rw [hie, hje]) (hp i j hil hjl h')
        · exact h'
        · exact absurd (by rw [hie, hje]) (hp j i hjl hil h')
      · rintro ⟨hx, hne⟩
        obtain ⟨i, hi, rfl⟩ := List.getElem_of_mem hx
        refine ⟨i, ?_, List.getElem?_eq_getElem hi⟩
        rintro rfl
        obtain ⟨_, hje⟩ := List.getElem?_eq_some_iff.1 h2
        rw [hje] at hne; exact hne h3
    refine ⟨setBlock w M (.map (es.eraseIdxIfInBounds j) clock), ?_, ⟨_, _, ChangeMaps.heap_setBlock_same hb _, stamped_erase hst j, ?_, ?_⟩, hfr _⟩
    · simp [Builtin.delete_, run_underlying Tryd.underlying67, MapKept.run_getObj_map hb, lawPlace.check w _ hl, h1, MapKept.run_setObj_map _ hb, Result.andThen, setBlock]
    · intro x hx
      rw [hsub, hmem] at hx
      exact hk x hx.1
    · intro f' n' v'
      rw [hsub]
      simp only [hmem]
      unfold upd
      by_cases e : f' = f ∧ n' = n
      · obtain ⟨rfl, rfl⟩ := e
        simp only [and_self, if_true]
        exact ⟨fun h => by (cases h), fun ⟨x, ⟨_, hne⟩, hxk, _⟩ => absurd hxk hne⟩
      · simp only [if_neg e]
        rw [hm]
        constructor
        · rintro ⟨x, hx, hxk, hxv⟩; exact ⟨x, ⟨hx, fun hh => e (plc_inj (hxk.symm.trans hh))⟩, hxk, hxv⟩
        · rintro ⟨x, ⟨hx, _⟩, hxk, hxv⟩; exact ⟨x, hx, hxk, hxv⟩
end Go.Proofs.YtjcajgcfkidbkaaDoor
