/-
  isLetter, isPart.
-/
import Derived.Test.YtfhbgfoebppbaaaNd
namespace Go.Proofs.Ytfhbgfoebppbaaa
open Go.RowKit

theorem isLetter_any (c : UInt8) (w : World) :
    Calls Try.prog 30 #[.int .u8 c.toNat] w fun e w' => e = .returned (.bool (lt c)) ∧ w' = w := by
  unfold lt
  generalize c.toNat = n
  have hb : ∀ b : Bool, b = (decide (97 ≤ n) && decide (n ≤ 122)) → Ending.returned (.bool b) = Ending.returned (.bool (decide (97 ≤ n) && decide (n ≤ 122))) := fun b h => by rw [h]
  go_enter Try.func30, Try.ntmps30
  go_wp2_with fail
  all_goals go_ret
  all_goals exact ⟨hb _ (by rw [Bool.eq_iff_iff]; simp; omega), rfl⟩
theorem letter_any (c : UInt8) (w : World) :
    Calls Try.prog 34 #[.int .u8 c.toNat] w fun e w' => e = .returned (.bool (lt c)) ∧ w' = w := by
  unfold lt
  generalize c.toNat = n
  have hb : ∀ b : Bool, b = (decide (97 ≤ n) && decide (n ≤ 122)) → Ending.returned (.bool b) = Ending.returned (.bool (decide (97 ≤ n) && decide (n ≤ 122))) := fun b h => by rw [h]
  go_enter Try.func34, Try.ntmps34
  go_wp2_with fail
  all_goals go_ret
  all_goals exact ⟨hb _ (by rw [Bool.eq_iff_iff]; simp; omega), rfl⟩
theorem isPart_any (c : UInt8) (w : World) :
    Calls Try.prog 33 #[.int .u8 c.toNat] w fun e w' => e = .returned (.bool (pt c)) ∧ w' = w := by
  have hl := isLetter_any c w
  unfold pt
  generalize lt c = q at *
  generalize c.toNat = n at *
  have hb : ∀ b : Bool, b = (q || (decide (48 ≤ n) && decide (n ≤ 57)) || decide (n = 45)) → Ending.returned (.bool b) = Ending.returned (.bool (q || (decide (48 ≤ n) && decide (n ≤ 57)) || decide (n = 45))) := fun b h => by rw [h]
  cases q with
  | true =>
    go_enter Try.func33, Try.ntmps33
    go_wp2_with (go_at_call 30; refine hl.mono ?_; rintro e w' ⟨rfl, rfl⟩)
    all_goals go_ret
    all_goals exact ⟨hb _ (by simp), rfl⟩
  | false =>
    go_enter Try.func33, Try.ntmps33
    go_wp2_with (go_at_call 30; refine hl.mono ?_; rintro e w' ⟨rfl, rfl⟩)
    all_goals go_ret
    all_goals exact ⟨hb _ (by rw [Bool.eq_iff_iff]; simp; omega), rfl⟩
end Go.Proofs.Ytfhbgfoebppbaaa
