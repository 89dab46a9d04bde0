/-
  What the proofs of the Disk rows share: the arguments opened, a world for the witness.
-/
import Derived.Test.YtpjoekjakjajcaaRows
import Derived.Test.YtpjoekjakjajcaaFw
import Derived.ProofKit
import Derived.OpenShut
import Derived.Deep.DeepHandedRow
import Derived.Deep.Slices
import Derived.Deep.Fields
import Derived.ChangeSame
import Derived.Lib.SmallJoins
namespace Go.Proofs.Ytpjoekjakjajcaa
open Go.ChangeShapes Go.WideShapes Go.ChangeAt Go.RowKit Go.Joins Go.Deep
open Go.ChangeMaps (open_string)

theorem ownKnobNone : ownKnob Try.prog.godebug = none := by kernel_rfl
theorem laidOut : laidOutB Try.prog = true := by kernel_rfl
theorem cellsStr : Try.prog.cellsOf 9 = 1 := by kernel_rfl
theorem cellsAct : Try.prog.cellsOf 33 = 5 := by kernel_rfl

/-- A slice of ints that was read. -/
theorem ints_sl {H : Type} {enc : TypeId × Value → H} {W : World} {base fuel : Nat} {spare : Nat → Bool} {held : Bool} {v : Value} {x : DataW H × List MemPlace}
    (h : DataW.trod enc Try.prog W base spare held fuel 31 [v] = some x) : ∃ l : List Int, Ints W v l ∧ l.length ≤ maxLen := by
  rcases open_ints Try.underlying31 Try.underlying3 cellsInt h with ⟨hcs, _⟩ | ⟨a, len, cap, zs, hcs, _, hl, hm, hz, _, hcell, hw⟩
  · obtain rfl : v = .slice none 0 0 := by simpa using hcs
    exact ⟨[], .inl ⟨rfl, _, _, rfl⟩, by simp⟩
  · obtain rfl : v = .slice (some a) len cap := by simpa using hcs
    have hlen : len ≤ zs.length := by rw [hz]; split <;> omega
    refine ⟨zs.take len, ?_, by rw [List.length_take]; omega⟩
    rcases Nat.eq_zero_or_pos len with h0 | h0
    · subst h0; exact .inl ⟨by simp, _, _, rfl⟩
    · obtain ⟨b, o, rfl, hc⟩ := ints_at hcell (by omega)
      refine .inr ⟨b, o, cap, by rw [List.length_take, Nat.min_eq_left hlen], fun i hi => ?_⟩
      have hi' : i < len := by rw [List.length_take] at hi; omega
      rw [hc i (by omega), List.getElem_take]
      simp [List.getD, List.getElem?_eq_getElem (show i < zs.length by omega)]

section
variable {H : Type} {enc : TypeId × Value → H} {P : Program} {w : World} {base : Nat} {spare : Nat → Bool} {held : Bool}
theorem open_slice_fields {t e : TypeId} {fs : Array Field} {fuel : Nat} {cs : List Value} {x : DataW H × List MemPlace} (ht : P.underlying t = some (.slice e)) (he : P.underlying e = some (.struct fs))
    (hone : oneCellFields P fs = true) (hC : P.cellsOf e = fs.size) (h : DataW.trod enc P w base spare held fuel t cs = some x) :
    (cs = [.slice none 0 0] ∧ x = (.nil, [])) ∨
    ∃ (a : Addr) (len cap m : Nat), cs = [.slice (some a) len cap] ∧ len ≤ cap ∧ cap ≤ maxLen ∧ len ≤ m ∧
      ∀ i, i < m → ∃ (n : Nat), ∀ (j : Nat) (f : Field), fs[j]? = some f → ∃ (v : Value) (y : DataW H × List MemPlace), w.cell? (a.add (i * fs.size + j)) = some v ∧ DataW.trod enc P w base spare held n f.type [v] = some y := by
  rcases open_slice ht h with h0 | ⟨a, len, cap, m, n, D, Pl, hcs, _, hl, hm, hmm, _, hi⟩
  · exact .inl h0
  · refine .inr ⟨a, len, cap, m, hcs, hl, hm, by rw [hmm]; split <;> omega, fun i him => ?_⟩
    obtain ⟨cs', hc, ht'⟩ := hi i him
    rw [hC] at hc
    obtain ⟨ys, n', _, _, hlen, _, hf⟩ := DataW.trod_struct he ht'
    obtain ⟨_, hcl, hat⟩ := World.cells?_some hc
    refine ⟨n', fun j f hj => ?_⟩
    obtain ⟨ho, hk⟩ := hone_of hone j f hj
    have hjl : j < fs.size := (Array.getElem?_eq_some_iff.1 hj).1
    have hcell := hat j hjl
    have hv : cs'[j]? = some (cs'[j]'(by omega)) := List.getElem?_eq_getElem (by omega)
    have h1 := hf j f hj
    rw [ho, hk] at h1
    have hone' : (cs'.drop j).take 1 = [cs'[j]'(by omega)] := by
      rw [List.drop_eq_getElem_cons (by omega)]
      rfl
    rw [hone'] at h1
    have hys : ys[j]? = some (ys[j]'(by omega)) := List.getElem?_eq_getElem (by omega)
    refine ⟨_, _, ?_, h1.trans hys⟩
    rw [← Go.Deep.add_add, hcell, hv]
end

/-- Element i of a slice of acts that was read. -/
theorem act_at {H : Type} {enc : TypeId × Value → H} {W : World} {base n : Nat} {spare : Nat → Bool} {held : Bool} {b o : Nat} {i : Nat} {f0 f1 f2 f3 f4 : Field}
    (hs : Try.prog.underlying 33 = some (.struct #[f0, f1, f2, f3, f4]))
    (h : ∀ (j : Nat) (f : Field), #[f0, f1, f2, f3, f4][j]? = some f → ∃ (v : Value) (y : DataW H × List MemPlace), W.cell? ((⟨b, o, none⟩ : Addr).add (i * 5 + j)) = some v ∧ DataW.trod enc Try.prog W base spare held n f.type [v] = some y) :
    ∃ u : AC, At W b (o + i * 5) u := by
  have ha : ∀ j, (⟨b, o, none⟩ : Addr).add (i * 5 + j) = ⟨b, o + i * 5 + j, none⟩ := fun j => by unfold Addr.add; split <;> simp_all [Nat.add_assoc]
  have hu := Try.underlying33
  rw [hs] at hu
  simp only [Option.some.injEq, TypeDesc.struct.injEq, Array.mk.injEq, List.cons.injEq, and_true] at hu
  obtain ⟨rfl, rfl, rfl, rfl, rfl⟩ := hu
  obtain ⟨v0, y0, c0, h0⟩ := h 0 _ rfl
  obtain ⟨v1, y1, c1, h1⟩ := h 1 _ rfl
  obtain ⟨v2, y2, c2, h2⟩ := h 2 _ rfl
  obtain ⟨v3, y3, c3, h3⟩ := h 3 _ rfl
  obtain ⟨v4, y4, c4, h4⟩ := h 4 _ rfl
  rw [ha] at c0 c1 c2 c3 c4
  obtain ⟨a, e0, _, wa⟩ := DataW.trod_int Try.underlying3 h0
  obtain ⟨d, e1, _, wd⟩ := DataW.trod_int Try.underlying3 h1
  obtain ⟨m, e2, _, wm⟩ := DataW.trod_int Try.underlying3 h2
  obtain ⟨s, e3, _, _⟩ := DataW.trod_string Try.underlying9 h3
  obtain ⟨l, hl, hl2⟩ := ints_sl h4
  simp at e0 e1 e2 e3
  subst e0 e1 e2 e3
  exact ⟨⟨a, d, m, s, v4, l⟩, c0, c1, c2, c3, c4, hl, (bounds_i64 wm).1, by have := (bounds_i64 wm).2; omega, (bounds_i64 wd).1, by have := (bounds_i64 wd).2; omega⟩
theorem acts_sl {H : Type} {enc : TypeId × Value → H} {W : World} {base fuel : Nat} {spare : Nat → Bool} {held : Bool} {v : Value} {x : DataW H × List MemPlace}
    (h : DataW.trod enc Try.prog W base spare held fuel 22 [v] = some x) : ∃ vs : List AC, Acts W v vs ∧ vs.length ≤ maxLen := by
  rcases open_slice_fields Try.underlying22 Try.underlying33 (by kernel_rfl) cellsAct h with ⟨hcs, _⟩ | ⟨a, len, cap, m, hcs, hl, hm, hlm, hi⟩
  · obtain rfl : v = .slice none 0 0 := by simpa using hcs
    exact ⟨[], .inl ⟨rfl, _, _, rfl⟩, by simp⟩
  · obtain rfl : v = .slice (some a) len cap := by simpa using hcs
    rcases Nat.eq_zero_or_pos len with h0 | h0
    · subst h0; exact ⟨[], .inl ⟨rfl, _, _, rfl⟩, by simp⟩
    · obtain ⟨b, o, spot⟩ := a
      obtain ⟨n0, hn0⟩ := hi 0 (by omega)
      obtain ⟨_, _, hc0, _⟩ := hn0 0 _ rfl
      have hspot : spot = none := by simpa [Addr.add] using World.cell?_spot hc0
      subst hspot
      have hex : ∀ k : Fin len, ∃ u : AC, At W b (o + k.val * 5) u := fun k => by
        obtain ⟨n, hn⟩ := hi k.val (by omega)
        exact act_at Try.underlying33 hn
      have hch : ∃ f : Fin len → AC, ∀ k, At W b (o + k.val * 5) (f k) := ⟨fun k => (hex k).choose, fun k => (hex k).choose_spec⟩
      obtain ⟨f, hf⟩ := hch
      refine ⟨List.ofFn f, .inr ⟨b, o, cap, by simp, fun k hk => ?_⟩, by simp; omega⟩
      rw [List.getElem_ofFn]
      exact hf ⟨k, by simpa using hk⟩
end Go.Proofs.Ytpjoekjakjajcaa
