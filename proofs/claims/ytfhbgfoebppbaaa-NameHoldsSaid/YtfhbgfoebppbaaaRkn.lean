/-
  What the proofs of the rows share: the arguments opened.
-/
import Derived.Test.YtfhbgfoebppbaaaRows
import Derived.Test.YtfhbgfoebppbaaaNn
import Derived.ProofKit
import Derived.OpenShut
import Derived.Deep.DeepHandedRow
import Derived.Deep.Slices
import Derived.Deep.Fields
import Derived.ChangeSame
import Derived.Lib.SmallJoins
namespace Go.Proofs.Ytfhbgfoebppbaaa
open Go.ChangeShapes Go.WideShapes Go.ChangeAt Go.RowKit Go.Joins Go.Deep
open Go.ChangeMaps (open_string)

theorem ownKnobNone : ownKnob Try.prog.godebug = none := by kernel_rfl
theorem laidOut : laidOutB Try.prog = true := by kernel_rfl
theorem cellsStr : Try.prog.cellsOf 9 = 1 := by kernel_rfl
theorem cellsHd : Try.prog.cellsOf 43 = 2 := by kernel_rfl

section
variable {H : Type} {enc : TypeId × Value → H} {P : Program} {w : World} {base : Nat} {spare : Nat → Bool} {held : Bool}
theorem open_slice_fields {t e : TypeId} {fs : Array Field} {fuel : Nat} {cs : List Value} {x : DataW H × List MemPlace} (ht : P.underlying t = some (.slice e)) (he : P.underlying e = some (.struct fs))
    (hone : oneCellFields P fs = true) (hC : P.cellsOf e = fs.size) (h : DataW.trod enc P w base spare held fuel t cs = some x) :
    (cs = [.slice none 0 0] ∧ x = (.nil, [])) ∨
    ∃ (a : Addr) (len cap m : Nat), cs = [.slice (some a) len cap] ∧ len ≤ cap ∧ cap ≤ maxLen ∧ len ≤ m ∧
      ∀ i, i < m → ∃ (n : Nat), ∀ (j : Nat) (f : Field), fs[j]? = some f → ∃ (v : Value) (y : DataW H × List MemPlace), w.cell? (a.add (i * fs.size + j)) = some v ∧ DataW.trod enc P w base spare held n f.type [v] = some y := by
  rcases open_slice ht h with h0 | ⟨a, len, cap, m, n, D, Pl, hcs, _, hl, hm, hmm, _, hi⟩
  · exact .inl h0
  · refine .inr ⟨a, len, cap, m, hcs, hl, hm, by rw [hmm]; split <;> omega, fun i him => ?_⟩
    obtain ⟨cs', hc, ht'⟩ := hi i him
    rw [hC] at hc
    obtain ⟨ys, n', _, _, hlen, _, hf⟩ := DataW.trod_struct he ht'
    obtain ⟨_, hcl, hat⟩ := World.cells?_some hc
    refine ⟨n', fun j f hj => ?_⟩
    obtain ⟨ho, hk⟩ := hone_of hone j f hj
    have hjl : j < fs.size := (Array.getElem?_eq_some_iff.1 hj).1
    have hcell := hat j hjl
    have hv : cs'[j]? = some (cs'[j]'(by omega)) := List.getElem?_eq_getElem (by omega)
    have h1 := hf j f hj
    rw [ho, hk] at h1
    have hone' : (cs'.drop j).take 1 = [cs'[j]'(by omega)] := by
      rw [List.drop_eq_getElem_cons (by omega)]
      rfl
    rw [hone'] at h1
    have hys : ys[j]? = some (ys[j]'(by omega)) := List.getElem?_eq_getElem (by omega)
    refine ⟨_, _, ?_, h1.trans hys⟩
    rw [← Go.Deep.add_add, hcell, hv]
end

/-- A slice of strings that was read. -/
theorem strs_sl {H : Type} {enc : TypeId × Value → H} {W : World} {base fuel : Nat} {spare : Nat → Bool} {held : Bool} {v : Value} {x : DataW H × List MemPlace}
    (h : DataW.trod enc Try.prog W base spare held fuel 22 [v] = some x) : ∃ l : List Txt, Sl W v l ∧ l.length ≤ maxLen ∧ ∀ n c, v = .slice none n c → n = 0 ∧ c = 0 := by
  rcases open_strings Try.underlying22 Try.underlying9 cellsStr h with ⟨hcs, _⟩ | ⟨a, len, cap, ss, hcs, _, hl, hm, hz, _, hcell, hsz⟩
  · obtain rfl : v = .slice none 0 0 := by simpa using hcs
    exact ⟨[], .inl ⟨rfl, _, _, rfl⟩, by simp, fun n c h => by simp at h; omega⟩
  · obtain rfl : v = .slice (some a) len cap := by simpa using hcs
    have hlen : len ≤ ss.length := by rw [hz]; split <;> omega
    have hll : ((ss.take len).map fun s => s.data.toList).length = len := by rw [List.length_map, List.length_take]; omega
    refine ⟨(ss.take len).map fun s => s.data.toList, ?_, by rw [hll]; omega, fun n c h => by simp at h⟩
    rcases Nat.eq_zero_or_pos len with h0 | h0
    · subst h0; exact .inl ⟨by simp, _, _, rfl⟩
    · obtain ⟨b, o, spot⟩ := a
      have hspot : spot = none := by simpa [Addr.add] using World.cell?_spot (hcell 0 (by omega))
      subst hspot
      refine .inr ⟨b, o, cap, by rw [hll], fun i hi => ?_, by rw [hll]; exact hl⟩
      have hi' : i < len := by rw [hll] at hi; exact hi
      have hc := hcell i (by omega)
      have ha : (⟨b, o, none⟩ : Addr).add i = ⟨b, o + i, none⟩ := by unfold Addr.add; split <;> simp_all
      rw [ha] at hc
      rw [hc]
      simp only [List.getElem_map, List.getElem_take]
      simp [List.getD, List.getElem?_eq_getElem (show i < ss.length by omega)]
      exact S_eta _

/-- Element i of a slice of holds that was read. -/
theorem hd_at {H : Type} {enc : TypeId × Value → H} {W : World} {base n : Nat} {spare : Nat → Bool} {held : Bool} {b o : Nat} {i : Nat} {f0 f1 : Field}
    (hs : Try.prog.underlying 43 = some (.struct #[f0, f1]))
    (h : ∀ (j : Nat) (f : Field), #[f0, f1][j]? = some f → ∃ (v : Value) (y : DataW H × List MemPlace), W.cell? ((⟨b, o, none⟩ : Addr).add (i * 2 + j)) = some v ∧ DataW.trod enc Try.prog W base spare held n f.type [v] = some y) :
    ∃ u : Hd, W.cell? ⟨b, o + i * 2, none⟩ = some (.string (S u.1)) ∧ W.cell? ⟨b, o + i * 2 + 1, none⟩ = some (.int .i64 u.2) := by
  have ha : ∀ j, (⟨b, o, none⟩ : Addr).add (i * 2 + j) = ⟨b, o + i * 2 + j, none⟩ := fun j => by unfold Addr.add; split <;> simp_all [Nat.add_assoc]
  have hu := Try.underlying43
  rw [hs] at hu
  simp only [Option.some.injEq, TypeDesc.struct.injEq, Array.mk.injEq, List.cons.injEq, and_true] at hu
  obtain ⟨rfl, rfl⟩ := hu
  obtain ⟨v0, y0, c0, h0⟩ := h 0 _ rfl
  obtain ⟨v1, y1, c1, h1⟩ := h 1 _ rfl
  rw [ha] at c0 c1
  obtain ⟨s, e0, _, hz⟩ := DataW.trod_string Try.underlying9 h0
  obtain ⟨a, e1, _, wa⟩ := DataW.trod_int Try.underlying3 h1
  simp at e0 e1
  subst e0 e1
  exact ⟨(s.data.toList, a), by rw [← S_eta]; exact c0, c1⟩
theorem hds_sl {H : Type} {enc : TypeId × Value → H} {W : World} {base fuel : Nat} {spare : Nat → Bool} {held : Bool} {v : Value} {x : DataW H × List MemPlace}
    (h : DataW.trod enc Try.prog W base spare held fuel 23 [v] = some x) : ∃ l : List Hd, Hl W v l ∧ l.length ≤ maxLen := by
  rcases open_slice_fields Try.underlying23 Try.underlying43 (by kernel_rfl) cellsHd h with ⟨hcs, _⟩ | ⟨a, len, cap, m, hcs, hl, hm, hlm, hi⟩
  · obtain rfl : v = .slice none 0 0 := by simpa using hcs
    exact ⟨[], .inl ⟨rfl, _, _, rfl⟩, by simp⟩
  · obtain rfl : v = .slice (some a) len cap := by simpa using hcs
    rcases Nat.eq_zero_or_pos len with h0 | h0
    · subst h0; exact ⟨[], .inl ⟨rfl, _, _, rfl⟩, by simp⟩
    · obtain ⟨b, o, spot⟩ := a
      obtain ⟨n0, hn0⟩ := hi 0 (by omega)
      obtain ⟨_, _, hc0, _⟩ := hn0 0 _ rfl
      have hspot : spot = none := by simpa [Addr.add] using World.cell?_spot hc0
      subst hspot
      have hex : ∀ k : Fin len, ∃ u : Hd, W.cell? ⟨b, o + k.val * 2, none⟩ = some (.string (S u.1)) ∧ W.cell? ⟨b, o + k.val * 2 + 1, none⟩ = some (.int .i64 u.2) := fun k => by
        obtain ⟨n, hn⟩ := hi k.val (by omega)
        exact hd_at Try.underlying43 hn
      have hch : ∃ f : Fin len → Hd, ∀ k : Fin len, W.cell? ⟨b, o + k.val * 2, none⟩ = some (.string (S (f k).1)) ∧ W.cell? ⟨b, o + k.val * 2 + 1, none⟩ = some (.int .i64 (f k).2) := ⟨fun k => (hex k).choose, fun k => (hex k).choose_spec⟩
      obtain ⟨f, hf⟩ := hch
      refine ⟨List.ofFn f, .inr ⟨b, o, cap, by simp, fun k hk => ?_⟩, by simp; omega⟩
      rw [List.getElem_ofFn]
      exact hf ⟨k, by simpa using hk⟩
end Go.Proofs.Ytfhbgfoebppbaaa
