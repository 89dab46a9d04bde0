/-
  What the proofs of the Seal rows share: the arguments opened.
-/
import Derived.Test.YtifbenjjjghgoaaRows
import Derived.Test.YtifbenjjjghgoaaSk
import Derived.ProofKit
import Derived.OpenShut
import Derived.Deep.DeepHandedRow
import Derived.Deep.Slices
import Derived.Deep.Fields
import Derived.ChangeSame
import Derived.Lib.SmallJoins
namespace Go.Proofs.Ytifbenjjjghgoaa
open Go.ChangeShapes Go.WideShapes Go.ChangeAt Go.RowKit Go.Joins Go.Deep
open Go.ChangeMaps (open_string)

theorem ownKnobNone : ownKnob Try.prog.godebug = none := by kernel_rfl
theorem laidOut : laidOutB Try.prog = true := by kernel_rfl
theorem cellsSg : Try.prog.cellsOf 24 = 3 := by kernel_rfl

section
variable {H : Type} {enc : TypeId × Value → H} {P : Program} {w : World} {base : Nat} {spare : Nat → Bool} {held : Bool}
theorem open_slice_fields {t e : TypeId} {fs : Array Field} {fuel : Nat} {cs : List Value} {x : DataW H × List MemPlace} (ht : P.underlying t = some (.slice e)) (he : P.underlying e = some (.struct fs))
    (hone : oneCellFields P fs = true) (hC : P.cellsOf e = fs.size) (h : DataW.trod enc P w base spare held fuel t cs = some x) :
    (cs = [.slice none 0 0] ∧ x = (.nil, [])) ∨
    ∃ (a : Addr) (len cap m : Nat), cs = [.slice (some a) len cap] ∧ len ≤ cap ∧ cap ≤ maxLen ∧ len ≤ m ∧
      ∀ i, i < m → ∃ (n : Nat), ∀ (j : Nat) (f : Field), fs[j]? = some f → ∃ (v : Value) (y : DataW H × List MemPlace), w.cell? (a.add (i * fs.size + j)) = some v ∧ DataW.trod enc P w base spare held n f.type [v] = some y := by
  rcases open_slice ht h with h0 | ⟨a, len, cap, m, n, D, Pl, hcs, _, hl, hm, hmm, _, hi⟩
  · exact .inl h0
  · refine .inr ⟨a, len, cap, m, hcs, hl, hm, by rw [hmm]; split <;> omega, fun i him => ?_⟩
    obtain ⟨cs', hc, ht'⟩ := hi i him
    rw [hC] at hc
    obtain ⟨ys, n', _, _, hlen, _, hf⟩ := DataW.trod_struct he ht'
    obtain ⟨_, hcl, hat⟩ := World.cells?_some hc
    refine ⟨n', fun j f hj => ?_⟩
    obtain ⟨ho, hk⟩ := hone_of hone j f hj
    have hjl : j < fs.size := (Array.getElem?_eq_some_iff.1 hj).1
    have hcell := hat j hjl
    have hv : cs'[j]? = some (cs'[j]'(by omega)) := List.getElem?_eq_getElem (by omega)
    have h1 := hf j f hj
    rw [ho, hk] at h1
    have hone' : (cs'.drop j).take 1 = [cs'[j]'(by omega)] := by
      rw [List.drop_eq_getElem_cons (by omega)]
      rfl
    rw [hone'] at h1
    have hys : ys[j]? = some (ys[j]'(by omega)) := List.getElem?_eq_getElem (by omega)
    refine ⟨_, _, ?_, h1.trans hys⟩
    rw [← Go.Deep.add_add, hcell, hv]
end

/-- Element i of a slice of entries that was read. -/
theorem sd_at {H : Type} {enc : TypeId × Value → H} {W : World} {base n : Nat} {spare : Nat → Bool} {held : Bool} {b o : Nat} {i : Nat} {f0 f1 : Field}
    (hs : Try.prog.underlying 33 = some (.struct #[f0, f1]))
    (h : ∀ (j : Nat) (f : Field), #[f0, f1][j]? = some f → ∃ (v : Value) (y : DataW H × List MemPlace), W.cell? ((⟨b, o, none⟩ : Addr).add (i * 2 + j)) = some v ∧ DataW.trod enc Try.prog W base spare held n f.type [v] = some y) :
    ∃ u : Sd, (W.cell? ⟨b, o + i * 2, none⟩ = some (.int .i64 u.1) ∧ W.cell? ⟨b, o + i * 2 + 1, none⟩ = some (.string (S u.2))) ∧ u.2.length ≤ maxLen ∧ -9223372036854775808 ≤ u.1 ∧ u.1 ≤ 9223372036854775807 := by
  have ha : ∀ j, (⟨b, o, none⟩ : Addr).add (i * 2 + j) = ⟨b, o + i * 2 + j, none⟩ := fun j => by unfold Addr.add; split <;> simp_all [Nat.add_assoc]
  have hu := Try.underlying33
  rw [hs] at hu
  simp only [Option.some.injEq, TypeDesc.struct.injEq, Array.mk.injEq, List.cons.injEq, and_true] at hu
  obtain ⟨rfl, rfl⟩ := hu
  obtain ⟨v0, y0, c0, h0⟩ := h 0 _ rfl
  obtain ⟨v1, y1, c1, h1⟩ := h 1 _ rfl
  rw [ha] at c0 c1
  obtain ⟨a, e0, _, wa⟩ := DataW.trod_int Try.underlying3 h0
  obtain ⟨s, e1, _, hz⟩ := DataW.trod_string Try.underlying9 h1
  simp at e0 e1
  subst e0 e1
  refine ⟨(a, s.data.toList), ⟨c0, ?_⟩, by rw [Array.length_toList]; exact hz, (bounds_i64 wa).1, by have := (bounds_i64 wa).2; show a ≤ _; omega⟩
  rw [c1, ← S_eta]
theorem sds_sl {H : Type} {enc : TypeId × Value → H} {W : World} {base fuel : Nat} {spare : Nat → Bool} {held : Bool} {v : Value} {x : DataW H × List MemPlace}
    (h : DataW.trod enc Try.prog W base spare held fuel 22 [v] = some x) : ∃ l : List Sd, Sl W v l ∧ Arg l := by
  rcases open_slice_fields Try.underlying22 Try.underlying33 (by kernel_rfl) cellsSd h with ⟨hcs, _⟩ | ⟨a, len, cap, m, hcs, hl, hm, hlm, hi⟩
  · obtain rfl : v = .slice none 0 0 := by simpa using hcs
    exact ⟨[], .inl ⟨rfl, _, _, rfl⟩, by simp, by simp, by simp⟩
  · obtain rfl : v = .slice (some a) len cap := by simpa using hcs
    rcases Nat.eq_zero_or_pos len with h0 | h0
    · subst h0; exact ⟨[], .inl ⟨rfl, _, _, rfl⟩, by simp, by simp, by simp⟩
    · obtain ⟨b, o, spot⟩ := a
      obtain ⟨n0, hn0⟩ := hi 0 (by omega)
      obtain ⟨_, _, hc0, _⟩ := hn0 0 _ rfl
      have hspot : spot = none := by simpa [Addr.add] using World.cell?_spot hc0
      subst hspot
      have hex : ∀ k : Fin len, ∃ u : Sd, (W.cell? ⟨b, o + k.val * 2, none⟩ = some (.int .i64 u.1) ∧ W.cell? ⟨b, o + k.val * 2 + 1, none⟩ = some (.string (S u.2))) ∧ u.2.length ≤ maxLen ∧ -9223372036854775808 ≤ u.1 ∧ u.1 ≤ 9223372036854775807 := fun k => by
        obtain ⟨n, hn⟩ := hi k.val (by omega)
        exact sd_at Try.underlying33 hn
      have hch : ∃ f : Fin len → Sd, ∀ k, (W.cell? ⟨b, o + k.val * 2, none⟩ = some (.int .i64 (f k).1) ∧ W.cell? ⟨b, o + k.val * 2 + 1, none⟩ = some (.string (S (f k).2))) ∧ (f k).2.length ≤ maxLen ∧ -9223372036854775808 ≤ (f k).1 ∧ (f k).1 ≤ 9223372036854775807 := ⟨fun k => (hex k).choose, fun k => (hex k).choose_spec⟩
      obtain ⟨f, hf⟩ := hch
      refine ⟨List.ofFn f, .inr ⟨b, o, cap, by simp, fun k hk => ?_⟩, by simp; unfold maxLen at hm; omega, fun e he => ?_, fun e he => ?_⟩
      · rw [List.getElem_ofFn]
        exact (hf ⟨k, by simpa using hk⟩).1
      · obtain ⟨k, rfl⟩ := List.mem_ofFn.1 he
        exact (hf k).2.1
      · obtain ⟨k, rfl⟩ := List.mem_ofFn.1 he
        exact (hf k).2.2

/-- A struct of one-cell fields that was read. -/
theorem open_fields {H : Type} {enc : TypeId × Value → H} {P : Program} {w : World} {base fuel : Nat} {spare : Nat → Bool} {held : Bool} {t : TypeId} {fs : Array Field} {cs : List Value} {x : DataW H × List MemPlace}
    (ht : P.underlying t = some (.struct fs)) (hone : oneCellFields P fs = true) (h : DataW.trod enc P w base spare held fuel t cs = some x) (hC : P.cellsOf t = fs.size) :
    cs.length = fs.size ∧ ∃ n, ∀ (j : Nat) (f : Field) (c : Value), fs[j]? = some f → cs[j]? = some c → ∃ y, DataW.trod enc P w base spare held n f.type [c] = some y := by
  obtain ⟨ys, n', _, _, hlen, hyl, hf⟩ := DataW.trod_struct ht h
  refine ⟨by rw [hlen, hC], n', fun j f c hj hc => ?_⟩
  obtain ⟨ho, hk⟩ := hone_of hone j f hj
  have hjl : j < fs.size := (Array.getElem?_eq_some_iff.1 hj).1
  have h1 := hf j f hj
  rw [ho, hk] at h1
  obtain ⟨hcl, rfl⟩ := List.getElem?_eq_some_iff.1 hc
  have hone' : (cs.drop j).take 1 = [cs[j]] := by
    rw [List.drop_eq_getElem_cons hcl]
    rfl
  rw [hone', List.getElem?_eq_getElem (show j < ys.length by omega)] at h1
  exact ⟨_, h1⟩
theorem sd_arg {H : Type} {enc : TypeId × Value → H} {W : World} {base fuel : Nat} {spare : Nat → Bool} {held : Bool} {cs : Array Value} {x : DataW H × List MemPlace}
    (h : DataW.trod enc Try.prog W base spare held fuel 33 cs.toList = some x) : ∃ e : Sd, Value.agg cs = sdV e ∧ e.2.length ≤ maxLen := by
  obtain ⟨hl, n, hf⟩ := open_fields Try.underlying33 (by kernel_rfl) h cellsSd
  obtain ⟨l⟩ := cs
  match l, hl with
  | [a, b], _ =>
    obtain ⟨y0, h0⟩ := hf 0 _ a rfl rfl
    obtain ⟨y1, h1⟩ := hf 1 _ b rfl rfl
    obtain ⟨k, e0, _, _⟩ := DataW.trod_int Try.underlying3 h0
    obtain ⟨s, e1, _, hz⟩ := DataW.trod_string Try.underlying9 h1
    simp at e0 e1
    subst e0 e1
    exact ⟨(k, s.data.toList), by unfold sdV; simp only [← S_eta], by rw [Array.length_toList]; exact hz⟩
theorem sg_arg {H : Type} {enc : TypeId × Value → H} {W : World} {base fuel : Nat} {spare : Nat → Bool} {held : Bool} {cs : Array Value} {x : DataW H × List MemPlace}
    (h : DataW.trod enc Try.prog W base spare held fuel 24 cs.toList = some x) : ∃ s : Sg, Value.agg cs = sgV s := by
  obtain ⟨hl, n, hf⟩ := open_fields Try.underlying24 (by kernel_rfl) h cellsSg
  obtain ⟨l⟩ := cs
  match l, hl with
  | [a, b, c], _ =>
    obtain ⟨y0, h0⟩ := hf 0 _ a rfl rfl
    obtain ⟨y1, h1⟩ := hf 1 _ b rfl rfl
    obtain ⟨y2, h2⟩ := hf 2 _ c rfl rfl
    obtain ⟨k, e0, _, _⟩ := DataW.trod_int Try.underlying3 h0
    obtain ⟨s, e1, _, _⟩ := DataW.trod_string Try.underlying9 h1
    obtain ⟨m, e2, _, _⟩ := DataW.trod_int Try.underlying3 h2
    simp at e0 e1 e2
    subst e0 e1 e2
    exact ⟨(k, s.data.toList, m), by unfold sgV; simp only [← S_eta]⟩
end Go.Proofs.Ytifbenjjjghgoaa
