/-
  The law's helpers: disky and begins.
-/
import Derived.Test.YtgncliigmjeffaaDoorJw
namespace Go.Proofs.YtgncliigmjeffaaDoor
open Go.RowKit

theorem disky_yes (E : Int) (w : World) (h : E = 8 ∨ E = 9) : Calls Tryd.prog 34 #[.int .i64 E] w fun e w' => e = .returned (.bool true) ∧ w' = w := by
  rcases h with rfl | rfl
  all_goals
    go_enter Tryd.func34, Tryd.ntmps34
    go_wp2
    go_ret
    exact ⟨rfl, rfl⟩
theorem disky_seven (w : World) : Calls Tryd.prog 34 #[.int .i64 7] w fun e w' => e = .returned (.bool false) ∧ w' = w := by
  go_enter Tryd.func34, Tryd.ntmps34
  go_wp2
  go_ret
  exact ⟨rfl, rfl⟩
theorem row_cap {w : World} {v : Value} {rs : List (List UInt8)} (h : Row w v rs) : (rs = [] ∧ v = .slice none 0 0) ∨ ∃ b c, v = .slice (some ⟨b, 0, none⟩) rs.length c ∧ rs.length ≤ c ∧ ∀ j (h : j < rs.length), w.cell? ⟨b, j, none⟩ = some (.string (S rs[j])) := by
  rcases h.2 with ⟨e, h2⟩ | ⟨g, cap, cur, e, h3⟩
  · exact .inl ⟨List.length_eq_zero_iff.1 h2, e⟩
  · rcases row_cells h with ⟨h0, a, c, h1⟩ | ⟨b, c, h1, h2⟩
    · subst h0
      refine .inr ⟨g, cap, e, Nat.zero_le _, fun j hj => by simp at hj⟩
    · rw [h1] at e
      simp only [Value.slice.injEq, Option.some.injEq, Addr.mk.injEq] at e
      obtain ⟨⟨rfl, _⟩, _, rfl⟩ := e
      exact .inr ⟨b, c, h1, h3.2.2.1, h2⟩
theorem begins_any (u v : Value) (a ps : List (List UInt8)) (w : World) (h1 : Row w u (a ++ ps)) (h2 : IsSl w v (a.map fun z => .string (S z))) (hn : (a ++ ps).length ≤ 1000000) :
    Calls Tryd.prog 35 #[u, v] w fun e w' => e = .returned (.bool true) ∧ Fr w w' := by
  obtain ⟨a1, c1, rfl⟩ := h2.len
  rw [List.length_map]
  have hl : a.length ≤ (a ++ ps).length := by simp
  rcases row_cap h1 with ⟨h0, rfl⟩ | ⟨b, c2, rfl, hcap, hc⟩
  · obtain ⟨rfl, rfl⟩ : a = [] ∧ ps = [] := by simpa using h0
    have hs := fun (a2 : Option Addr) (c2 : Nat) => sameTexts_any (.slice a2 0 c2) (.slice a1 0 c1) [] w (.inl ⟨rfl, _, _, rfl⟩) (.inl ⟨rfl, _, _, rfl⟩) (by simp)
    have HS := Lib.hid hs
    clear hs h1 h2 h0 hl hn
    go_enter Tryd.func35, Tryd.ntmps35
    go_wp2_with fail
    refine (HS.out _ _).mono ?_
    rintro e w1 ⟨rfl, hf⟩
    go_wp2_with fail
    go_ret
    exact ⟨rfl, hf⟩
  · have hsl : IsSl w (.slice (some ⟨b, 0, none⟩) a.length c2) (a.map fun z => .string (S z)) := by
      refine .inr ⟨b, 0, c2, by rw [List.length_map], fun i x hx => ?_⟩
      rw [List.getElem?_map] at hx
      rcases Nat.lt_or_ge i a.length with hi | hi
      · rw [List.getElem?_eq_getElem hi] at hx
        simp only [Option.map_some, Option.some.injEq] at hx
        rw [← hx, Nat.zero_add, hc i (by omega), List.getElem_append_left hi]
      · rw [List.getElem?_eq_none hi] at hx; simp at hx
    have hs := sameTexts_any (.slice (some ⟨b, 0, none⟩) a.length c2) (.slice a1 a.length c1) a w hsl (by have := h2; rw [List.length_map] at this; exact this) (by omega)
    obtain ⟨m, hm1⟩ : ∃ m, m = (a ++ ps).length := ⟨_, rfl⟩
    obtain ⟨k, hk⟩ : ∃ k, k = a.length := ⟨_, rfl⟩
    rw [← hm1] at hl hn hcap ⊢
    rw [← hk] at hl hs ⊢
    have HS := Lib.hid hs
    have hl' : (k : Int) ≤ (m : Int) := by omega
    have hl2 : (k : Int) ≤ (c2 : Int) := by omega
    have hmin : min (k : Int) (m : Int) = (k : Int) := by omega
    clear hs hsl hc h1 h2 hm1 hk
    go_enter Tryd.func35, Tryd.ntmps35
    go_wp2_with fail
    refine HS.out.mono ?_
    rintro e w1 ⟨rfl, hf⟩
    go_wp2_with fail
    go_ret
    exact ⟨rfl, hf⟩
end Go.Proofs.YtgncliigmjeffaaDoor
