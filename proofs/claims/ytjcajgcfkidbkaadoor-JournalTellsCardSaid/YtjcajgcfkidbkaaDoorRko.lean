/-
  A slice of operations that was read.
-/
import Derived.Test.YtjcajgcfkidbkaaDoorRkj
import Derived.Test.YtjcajgcfkidbkaaDoorJf
namespace Go.Proofs.YtjcajgcfkidbkaaDoor
open Go.ChangeShapes Go.WideShapes Go.ChangeAt Go.RowKit Go.Joins Go.Deep
open Go.ChangeMaps (open_string)

set_option maxRecDepth 100000 in
theorem cellsOp : Tryd.prog.cellsOf 38 = 4 := by kernel_rfl
/-- Element i of a slice of operations that was read. -/
theorem op_at {H : Type} {enc : TypeId × Value → H} {W : World} {base n : Nat} {spare : Nat → Bool} {held : Bool} {b o : Nat} {i : Nat} {f0 f1 f2 f3 : Field}
    (hs : Tryd.prog.underlying 38 = some (.struct #[f0, f1, f2, f3]))
    (h : ∀ (j : Nat) (f : Field), #[f0, f1, f2, f3][j]? = some f → ∃ (v : Value) (y : DataW H × List MemPlace), W.cell? ((⟨b, o, none⟩ : Addr).add (i * 4 + j)) = some v ∧ DataW.trod enc Tryd.prog W base spare held n f.type [v] = some y) :
    ∃ u : OP, OAt W b (o + i * 4) u := by
  have ha : ∀ j, (⟨b, o, none⟩ : Addr).add (i * 4 + j) = ⟨b, o + i * 4 + j, none⟩ := fun j => by unfold Addr.add; split <;> simp_all [Nat.add_assoc]
  have hu := Tryd.underlying38
  rw [hs] at hu
  simp only [Option.some.injEq, TypeDesc.struct.injEq, Array.mk.injEq, List.cons.injEq, and_true] at hu
  obtain ⟨rfl, rfl, rfl, rfl⟩ := hu
  obtain ⟨v0, y0, c0, h0⟩ := h 0 _ rfl
  obtain ⟨v1, y1, c1, h1⟩ := h 1 _ rfl
  obtain ⟨v2, y2, c2, h2⟩ := h 2 _ rfl
  obtain ⟨v3, y3, c3, h3⟩ := h 3 _ rfl
  rw [ha] at c0 c1 c2 c3
  obtain ⟨a, e0, _, wa⟩ := DataW.trod_int Tryd.underlying3 h0
  obtain ⟨s, e1, _, _⟩ := DataW.trod_string Tryd.underlying9 h1
  obtain ⟨m, e2, _, wm⟩ := DataW.trod_int Tryd.underlying3 h2
  obtain ⟨l, hl, hl2⟩ := ints_sl h3
  simp at e0 e1 e2
  subst e0 e1 e2
  exact ⟨⟨a, s, m, v3, l⟩, c0, c1, c2, c3, hl, (bounds_i64 wm).1, by have := (bounds_i64 wm).2; omega⟩
theorem ops_sl {H : Type} {enc : TypeId × Value → H} {W : World} {base fuel : Nat} {spare : Nat → Bool} {held : Bool} {v : Value} {x : DataW H × List MemPlace}
    (h : DataW.trod enc Tryd.prog W base spare held fuel 22 [v] = some x) : ∃ vs : List OP, Opl W v vs ∧ vs.length ≤ maxLen := by
  rcases open_slice_fields Tryd.underlying22 Tryd.underlying38 (by kernel_rfl) cellsOp h with ⟨hcs, _⟩ | ⟨a, len, cap, m, hcs, hl, hm, hlm, hi⟩
  · obtain rfl : v = .slice none 0 0 := by simpa using hcs
    exact ⟨[], .inl ⟨rfl, _, _, rfl⟩, by simp⟩
  · obtain rfl : v = .slice (some a) len cap := by simpa using hcs
    rcases Nat.eq_zero_or_pos len with h0 | h0
    · subst h0; exact ⟨[], .inl ⟨rfl, _, _, rfl⟩, by simp⟩
    · obtain ⟨b, o, spot⟩ := a
      obtain ⟨n0, hn0⟩ := hi 0 (by omega)
      obtain ⟨_, _, hc0, _⟩ := hn0 0 _ rfl
      have hspot : spot = none := by simpa [Addr.add] using World.cell?_spot hc0
      subst hspot
      have hex : ∀ k : Fin len, ∃ u : OP, OAt W b (o + k.val * 4) u := fun k => by
        obtain ⟨n, hn⟩ := hi k.val (by omega)
        exact op_at Tryd.underlying38 hn
      have hch : ∃ f : Fin len → OP, ∀ k, OAt W b (o + k.val * 4) (f k) := ⟨fun k => (hex k).choose, fun k => (hex k).choose_spec⟩
      obtain ⟨f, hf⟩ := hch
      refine ⟨List.ofFn f, .inr ⟨b, o, cap, by simp, fun k hk => ?_⟩, by simp; omega⟩
      rw [List.getElem_ofFn]
      exact hf ⟨k, by simpa using hk⟩
end Go.Proofs.YtjcajgcfkidbkaaDoor
