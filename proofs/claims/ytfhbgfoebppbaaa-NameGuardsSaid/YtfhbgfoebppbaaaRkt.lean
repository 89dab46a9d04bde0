/-
  The arguments of NameGuards opened: a slice of acts.
-/
import Derived.Test.YtfhbgfoebppbaaaRkn
import Derived.Test.YtfhbgfoebppbaaaNs
namespace Go.Proofs.Ytfhbgfoebppbaaa
open Go.ChangeShapes Go.WideShapes Go.ChangeAt Go.RowKit Go.Joins Go.Deep
open Go.ChangeMaps (open_string)

theorem cellsAc : Try.prog.cellsOf 41 = 4 := by kernel_rfl
/-- Element i of a slice of acts that was read. -/
theorem act_at {H : Type} {enc : TypeId × Value → H} {W : World} {base n : Nat} {spare : Nat → Bool} {held : Bool} {b o : Nat} {i : Nat} {f0 f1 f2 f3 : Field}
    (hs : Try.prog.underlying 41 = some (.struct #[f0, f1, f2, f3]))
    (h : ∀ (j : Nat) (f : Field), #[f0, f1, f2, f3][j]? = some f → ∃ (v : Value) (y : DataW H × List MemPlace), W.cell? ((⟨b, o, none⟩ : Addr).add (i * 4 + j)) = some v ∧ DataW.trod enc Try.prog W base spare held n f.type [v] = some y) :
    ∃ u : Ac, AcAt W b (o + i * 4) u ∧ -9223372036854775808 ≤ u.til ∧ u.til ≤ 9223372036854775807 := by
  have ha : ∀ j, (⟨b, o, none⟩ : Addr).add (i * 4 + j) = ⟨b, o + i * 4 + j, none⟩ := fun j => by unfold Addr.add; split <;> simp_all [Nat.add_assoc]
  have hu := Try.underlying41
  rw [hs] at hu
  simp only [Option.some.injEq, TypeDesc.struct.injEq, Array.mk.injEq, List.cons.injEq, and_true] at hu
  obtain ⟨rfl, rfl, rfl, rfl⟩ := hu
  obtain ⟨v0, y0, c0, h0⟩ := h 0 _ rfl
  obtain ⟨v1, y1, c1, h1⟩ := h 1 _ rfl
  obtain ⟨v2, y2, c2, h2⟩ := h 2 _ rfl
  obtain ⟨v3, y3, c3, h3⟩ := h 3 _ rfl
  rw [ha] at c0 c1 c2 c3
  obtain ⟨d, e0, _⟩ := DataW.trod_bool Try.underlying4 h0
  obtain ⟨s, e1, _, hz⟩ := DataW.trod_string Try.underlying9 h1
  obtain ⟨m, e2, _, wm⟩ := DataW.trod_int Try.underlying3 h2
  obtain ⟨u, e3, _, wu⟩ := DataW.trod_int Try.underlying3 h3
  simp at e0 e1 e2 e3
  subst e0 e1 e2 e3
  exact ⟨⟨d, s.data.toList, m, u⟩, ⟨c0, by rw [← S_eta]; exact c1, c2, c3⟩, (bounds_i64 wu).1, by have := (bounds_i64 wu).2; show u ≤ _; omega⟩
theorem acts_sl {H : Type} {enc : TypeId × Value → H} {W : World} {base fuel : Nat} {spare : Nat → Bool} {held : Bool} {v : Value} {x : DataW H × List MemPlace}
    (h : DataW.trod enc Try.prog W base spare held fuel 39 [v] = some x) : ∃ l : List Ac, AcSl W v l ∧ ∀ x ∈ l, -9223372036854775808 ≤ x.til ∧ x.til ≤ 9223372036854775807 := by
  rcases open_slice_fields Try.underlying39 Try.underlying41 (by kernel_rfl) cellsAc h with ⟨hcs, _⟩ | ⟨a, len, cap, m, hcs, hl, hm, hlm, hi⟩
  · obtain rfl : v = .slice none 0 0 := by simpa using hcs
    exact ⟨[], .inl ⟨rfl, _, _, rfl⟩, by simp⟩
  · obtain rfl : v = .slice (some a) len cap := by simpa using hcs
    rcases Nat.eq_zero_or_pos len with h0 | h0
    · subst h0; exact ⟨[], .inl ⟨rfl, _, _, rfl⟩, by simp⟩
    · obtain ⟨b, o, spot⟩ := a
      obtain ⟨n0, hn0⟩ := hi 0 (by omega)
      obtain ⟨_, _, hc0, _⟩ := hn0 0 _ rfl
      have hspot : spot = none := by simpa [Addr.add] using World.cell?_spot hc0
      subst hspot
      have hex : ∀ k : Fin len, ∃ u : Ac, AcAt W b (o + k.val * 4) u ∧ -9223372036854775808 ≤ u.til ∧ u.til ≤ 9223372036854775807 := fun k => by
        obtain ⟨n, hn⟩ := hi k.val (by omega)
        exact act_at Try.underlying41 hn
      have hch : ∃ f : Fin len → Ac, ∀ k : Fin len, AcAt W b (o + k.val * 4) (f k) ∧ -9223372036854775808 ≤ (f k).til ∧ (f k).til ≤ 9223372036854775807 := ⟨fun k => (hex k).choose, fun k => (hex k).choose_spec⟩
      obtain ⟨f, hf⟩ := hch
      refine ⟨List.ofFn f, .inr ⟨b, o, cap, by simp, fun k hk => ?_⟩, fun x hx => ?_⟩
      · rw [List.getElem_ofFn]
        exact (hf ⟨k, by simpa using hk⟩).1
      · obtain ⟨k, rfl⟩ := List.mem_ofFn.1 hx
        exact (hf k).2
end Go.Proofs.Ytfhbgfoebppbaaa
