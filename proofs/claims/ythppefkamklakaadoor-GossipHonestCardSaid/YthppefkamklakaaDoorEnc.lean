/-
  Contracts: the functions of package wire that write, and those of the reference.
-/
import Derived.Test.YthppefkamklakaaDoorBase
namespace Go.Proofs.YthppefkamklakaaDoor
open Go.RowKit

set_option maxRecDepth 100000 in
theorem ret_str {s t : ByteArray} (h : s = t) : Ending.returned (.string s) = .returned (.string t) := by rw [h]

theorem int_any (n : Int) (w : World) (h0 : -9223372036854775808 ≤ n) (h1 : n ≤ 9223372036854775807) (ht : Tab w) :
    Calls Tryd.prog 76 #[.int .i64 n] w fun e w' => e = .returned (.string (S ((Wm.intE 59).f n))) ∧ Fr w w' := by
  have hl := Lib.itoa_length_le n h0 h1
  go_enter Tryd.func76, Tryd.ntmps76
  go_wp2_with (go_at_call 38; refine (Tryd.strconv_Itoa n h0 h1 _ ht).mono ?_; rintro e w' ⟨rfl, k, os, rfl⟩)
  go_ret
  exact ⟨ret_str (S_append _ [59]), Fr.grow _ _ _⟩

set_option maxRecDepth 100000 in
theorem num_neg (n : Int) (w : World) (h : n < 0) :
    Calls Tryd.prog 68 #[.int .i64 n] w fun e w' => e = .returned (.string (S [])) ∧ Fr w w' := by
  go_enter Tryd.func68, Tryd.ntmps68
  go_wp2
  go_ret
  exact ⟨rfl, Fr.refl _⟩
set_option maxRecDepth 100000 in
theorem num_any (n : Int) (w : World) (h0 : 0 ≤ n) (h1 : n ≤ 9223372036854775807) (ht : Tab w) :
    Calls Tryd.prog 68 #[.int .i64 n] w fun e w' => e = .returned (.string (S ((Wm.numE 59).f n))) ∧ Fr w w' := by
  go_enter Tryd.func68, Tryd.ntmps68
  go_wp2_with (go_at_call 76; refine (int_any n _ (by omega) h1 ht).mono ?_; rintro e w' ⟨rfl, hf⟩)
  go_ret
  exact ⟨rfl, hf⟩

set_option maxRecDepth 100000 in
theorem text_any (s : List UInt8) (w : World) (h : s.length ≤ 4611686018427387904) (ht : Tab w) :
    Calls Tryd.prog 20 #[.string (S s)] w fun e w' => e = .returned (.string (S (Wm.textE.f s))) ∧ Fr w w' := by
  have hl := Lib.itoa_length_le s.length (by omega) (by omega)
  go_enter Tryd.func20, Tryd.ntmps20
  go_wp2_with (go_at_call 38; refine (Tryd.strconv_Itoa _ (by omega) (by omega) _ ht).mono ?_; rintro e w' ⟨rfl, k, os, rfl⟩)
  go_ret
  refine ⟨ret_str ?_, Fr.grow _ _ _⟩
  have h : (⟨#[44]⟩ : ByteArray) = S [44] := rfl
  have h2 : (⟨(Lib.itoa ↑s.length).toArray⟩ : ByteArray) = S (Lib.itoa s.length) := rfl
  have h3 : (⟨#[58]⟩ : ByteArray) = S [58] := rfl
  rw [h, h2, h3, S_append, S_append, S_append]
  simp [Wm.textE]

/-- A slice of one-cell values. -/
def IsSl (w : World) (v : Value) (xs : List Value) : Prop :=
  (xs = [] ∧ ∃ a c, v = .slice a 0 c) ∨ ∃ b o c, v = .slice (some ⟨b, o, none⟩) xs.length c ∧ ∀ i x, xs[i]? = some x → w.cell? ⟨b, o + i, none⟩ = some x
theorem IsSl.fr {w w' : World} {v : Value} {xs : List Value} (h : IsSl w v xs) (hf : Fr w w') : IsSl w' v xs := by
  rcases h with h | ⟨b, o, c, hv, hc⟩
  · exact .inl h
  · exact .inr ⟨b, o, c, hv, fun i x hx => hf.cell (hc i x hx)⟩
theorem IsSl.len {w : World} {v : Value} {xs : List Value} (h : IsSl w v xs) : ∃ a c, v = .slice a xs.length c := by
  rcases h with ⟨rfl, a, c, rfl⟩ | ⟨b, o, c, rfl, _⟩
  · exact ⟨a, c, rfl⟩
  · exact ⟨_, _, rfl⟩

end Go.Proofs.YthppefkamklakaaDoor
