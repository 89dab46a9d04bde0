/-
  Book: New, Len, Text, Append.
-/
import Derived.Test.YtapdabebiinnnaaGreatDoorBa
import Derived.Test.YtapdabebiinnnaaGreatDoorCa
namespace Go.Proofs.YtapdabebiinnnaaGreatDoor
open Go.RowKit Go.MapKept Go.Maps Go.WideMaps

theorem infoStr : (Tryz.prog.info? 9).map (fun i => (i.zero, i.size, i.bytes)) = some (some (.string (S [])), 1, 16) := by kernel_rfl

/-! ### New -/
theorem notKey {k : Int} (h : ¬ IsKey k) : k < 0 ∨ (¬ k < 0 ∧ 200 ≤ k) := by unfold IsKey at h; omega
/-! ### Len, Text -/
/-- What Text returns. -/
def txtO (s : BS) (i : Int) : Option Txt := if 0 ≤ i then s.es[i.toNat]? else none
def txtV : Option Txt → Value
  | none => .tuple #[.string ⟨#[]⟩, .bool false]
  | some t => .tuple #[.string (S t), .bool true]
theorem txtO_no {s : BS} {i : Int} (h : txtO s i = none) : i < 0 ∨ (¬ i < 0 ∧ (s.es.length : Int) ≤ i) := by
  unfold txtO at h
  split at h
  · rw [List.getElem?_eq_none_iff] at h; omega
  · omega
theorem txtO_yes {s : BS} {i : Int} {t : Txt} (h : txtO s i = some t) : 0 ≤ i ∧ ∃ hi : i.toNat < s.es.length, s.es[i.toNat] = t := by
  unfold txtO at h
  split at h
  · obtain ⟨h1, h2⟩ := List.getElem?_eq_some_iff.1 h
    exact ⟨by omega, h1, h2⟩
  · cases h
/-- A row of strings, element by element. -/
theorem str_row {w : World} {base n : Nat} {v : Value} {l : List Txt} (h : w.ownsRow base 9 1 v n (strs l)) (hl : n = l.length) (h0 : 0 < l.length) :
    ∃ g cap, v = .slice (some ⟨g, 0, none⟩) n cap ∧ ∀ (i : Nat) (hi : i < l.length), w.cell? ⟨g, i, none⟩ = some (.string (S l[i])) := by
  rcases h.2 with ⟨_, h1⟩ | ⟨g, cap, cur, h1, h2, h3, h4, h5, h6, h7⟩
  · omega
  · refine ⟨g, cap, h1, fun i hi => ?_⟩
    rw [Lib.cell_of_heap h3]
    have hs := strs_get l i hi
    rw [← h7, List.getElem?_take] at hs
    split at hs
    · simpa using hs
    · cases hs
/-! ### Append -/
/-- Whether a text is appended; what Append returns; the book then. -/
noncomputable def apB (t : Txt) : Bool := (key t).isSome && decide (t.length ≤ 20000)
noncomputable def apS (s : BS) (t : Txt) : BS := if apB t then { s with es := s.es ++ [t] } else s
noncomputable def apN (s : BS) (t : Txt) : Int := if apB t then s.es.length else 0
noncomputable def apE (t : Txt) : Int := if (key t).isSome then (if t.length ≤ 20000 then 0 else 3) else 2
theorem ap_none {s : BS} {t : Txt} (h : key t = none) : apS s t = s ∧ apN s t = 0 ∧ apE t = 2 := by
  unfold apS apN apE apB; rw [h]; exact ⟨rfl, rfl, rfl⟩
theorem ap_long {s : BS} {t k : Txt} (h : key t = some k) (hl : ¬ t.length ≤ 20000) : apS s t = s ∧ apN s t = 0 ∧ apE t = 3 := by
  unfold apS apN apE apB; rw [h, decide_eq_false hl]; simp [hl]
theorem ap_yes {s : BS} {t k : Txt} (h : key t = some k) (hl : t.length ≤ 20000) : apS s t = { s with es := s.es ++ [t] } ∧ apN s t = s.es.length ∧ apE t = 0 := by
  unfold apS apN apE apB; rw [h, decide_eq_true hl]; simp [hl]
theorem keyT_of {t k : Txt} (h : key t = some k) : keyT t = k := by unfold keyT; rw [h]; rfl
theorem keyCall_none {t : Txt} (h : key t = none) (w : World) (ht : t.length ≤ 9223372036854775807) :
    Calls Tryz.prog 101 #[.string (S t)] w fun e w' => e = .returned (.tuple #[.string ⟨#[]⟩, .bool false]) ∧ Fr w w' :=
  (key_any t w ht).mono fun _ _ ⟨he, hf⟩ => ⟨by rw [he, h]; rfl, hf⟩
theorem keyCall_some {t k : Txt} (h : key t = some k) (w : World) (ht : t.length ≤ 9223372036854775807) :
    Calls Tryz.prog 101 #[.string (S t)] w fun e w' => e = .returned (.tuple #[.string (S k), .bool true]) ∧ Fr w w' :=
  (key_any t w ht).mono fun _ _ ⟨he, hf⟩ => ⟨by rw [he, h]; rfl, hf⟩
theorem pmK_none {l : List Txt} {s : Txt} (h : s ∉ l) : pmK l s = none := by unfold pmK; rw [pm_none.2 h]; rfl
theorem pmK_some {l : List Txt} {s : Txt} {k : Nat} (h : pm 0 l s = some k) : pmK l s = some (.int .i64 k) := by unfold pmK; rw [h]; rfl
theorem pmK_push {l : List Txt} {s : Txt} (h : s ∉ l) (t : Txt) : pmK (l ++ [s]) t = if t = s then some (.int .i64 (l.length : Nat)) else pmK l t := by
  unfold pmK; rw [pm_push h]; split <;> rfl
theorem pmK_old {l : List Txt} {s : Txt} (h : s ∈ l) : pmK (l ++ [s]) = pmK l := by
  funext t
  unfold pmK
  rw [pm_append]
  split
  · rfl
  · next hn =>
    rw [pm_cons, if_neg (fun e : t = s => hn (e ▸ h)), pm_none.2 hn]; rfl
theorem lookK_none {w : World} {M n : Nat} {l : List Txt} {s : Txt} (h : Ms.MapIs w M (pmK l) n) (hs : s.length ≤ maxLen) (hp : s ∉ l) :
    (Instr.lookup 82 (.map (some M)) (.string (S s)) true).run Tryz.prog w = .ok (.tuple #[.int .i64 0, .bool false]) w := by
  rw [h.look s hs, pmK_none hp]; rfl
theorem lookK_some {w : World} {M n : Nat} {l : List Txt} {s : Txt} {k : Nat} (h : Ms.MapIs w M (pmK l) n) (hs : s.length ≤ maxLen) (hp : pm 0 l s = some k) :
    (Instr.lookup 82 (.map (some M)) (.string (S s)) true).run Tryz.prog w = .ok (.tuple #[.int .i64 k, .bool true]) w := by
  rw [h.look s hs, pmK_some hp]; rfl
end Go.Proofs.YtapdabebiinnnaaGreatDoor
