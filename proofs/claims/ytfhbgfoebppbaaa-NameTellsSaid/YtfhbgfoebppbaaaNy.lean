/-
  The reference: Same.
-/
import Derived.Test.YtfhbgfoebppbaaaNx
namespace Go.Proofs.Ytfhbgfoebppbaaa
open Go.RowKit

set_option maxHeartbeats 4000000 in
set_option maxRecDepth 100000 in
theorem rsame_any (v1 v2 : Value) (l : List Hd) (w : World) (h1 : Hl w v1 l) (h2 : Hl w v2 l) (hb : l.length ≤ 1000000) :
    Calls Try.prog 15 #[v1, v2] w fun e w' => e = .returned (.bool true) ∧ Fr w w' := by
  have H1 := Lib.hid h1
  have H2 := Lib.hid h2
  obtain ⟨a1, c1, e1⟩ := h1.len
  obtain ⟨a2, c2, e2⟩ := h2.len
  clear h1 h2
  subst e1 e2
  go_enter Try.func15, Try.ntmps15
  go_wp2_with fail
  go_loopw [5] (fun n wr => ∃ k : Nat, k ≤ l.length ∧ n = .int .i64 k ∧ Hid (Fr w wr)) (fun n _ => l.length - (intOf n).toNat)
  case atStart => exact ⟨0, Nat.zero_le _, rfl, Lib.hid (Fr.refl _)⟩
  case round =>
    obtain ⟨k, hk, rfl, hF⟩ := hrel
    by_cases hlt : k < l.length
    · rcases H1.out with ⟨h, _⟩ | ⟨b1, o1, c1', hv1, hA1⟩
      · rw [h] at hlt; simp at hlt
      · cases hv1
        rcases H2.out with ⟨h, _⟩ | ⟨b2, o2, c2', hv2, hA2⟩
        · rw [h] at hlt; simp at hlt
        · cases hv2
          obtain ⟨x0, x1⟩ := (hA1.fr hF.out) k hlt
          obtain ⟨y0, y1⟩ := (hA2.fr hF.out) k hlt
          clear hA1 hA2
          generalize l[k] = z at *
          obtain ⟨z1, z2⟩ := z
          simp only at x0 x1 y0 y1
          go_wp2_with fail
          go_quiet (fail)
          go_wp2_with fail
          go_roundw
          case rel => exact ⟨k + 1, by omega, by go_num, Lib.hid (hF.out.trans (Fr.drewN _ _))⟩
          case measure => simp [intOf]; omega
    · obtain rfl : k = l.length := by omega
      go_wp2_with fail
      go_ret
      exact ⟨rfl, hF.out⟩
end Go.Proofs.Ytfhbgfoebppbaaa
