/-
  The laws' small, short and few.
-/
import Derived.Test.YtfhbgfoebppbaaaNj
namespace Go.Proofs.Ytfhbgfoebppbaaa
open Go.RowKit

theorem len_ok {s : Txt} (h : s.length ≤ 100 := by decide) : s.length ≤ 1099511627776 := by omega
theorem okN0 : Ok [] := ⟨by simp, by simp⟩
theorem hok0 : HOk [] := ⟨by simp, by simp⟩
theorem hokG : HOk [([103, 101, 111], 9)] := ⟨by simp, by intro t ht; simp at ht; subst ht; decide⟩
theorem okL1 : Ok [[108, 105, 98, 111]] := ⟨by simp, by intro t ht; simp at ht; subst ht; decide⟩
theorem okL2 : Ok [[120], [108, 105, 98, 111]] := ⟨by simp, by intro t ht; simp at ht; rcases ht with rfl | rfl <;> decide⟩
theorem sm_drop (w : World) (hm : Mx w) : Calls Try.prog 13 #[.slice none 0 0, .string ⟨#[103, 101, 111]⟩, .int .i64 9] w fun e w' => ∃ v, e = .returned (.tuple #[v, .int .i64 0]) ∧ Hl w' v [([103, 101, 111], 9)] ∧ Fr w w' :=
  (drop_any (.slice none 0 0) [] [103, 101, 111] 9 w (Hl.nil _ _ _) hok0 hm len_ok (by decide) (by decide)).mono fun e w' ⟨v, he, hh, hf⟩ => ⟨v, he.trans (by rw [show drE [103, 101, 111] 9 = 0 from by decide]), hh, hf⟩
theorem sm_guard (w : World) (c : Nat) (b : Nat) (h : w.heap[b]? = some (.cells #[.string ⟨#[120]⟩, .string ⟨#[108, 105, 98, 111]⟩] 9 (0, 0))) (hc : 2 ≤ c) : Calls Try.prog 11 #[.slice (some ⟨b, 0, none⟩) 2 c, .string ⟨#[108, 105, 98, 48]⟩] w fun e w' => e = .returned (.tuple #[.string ⟨#[108, 105, 98, 111]⟩, .bool true]) ∧ Fr w w' :=
  (guard_any (.slice (some ⟨b, 0, none⟩) 2 c) [[120], [108, 105, 98, 111]] [108, 105, 98, 48] w (.inr ⟨b, 0, c, rfl, fun i hi => by
    match i, hi with
    | 0, _ => exact cellOf h rfl
    | 1, _ => exact cellOf h rfl, hc⟩) okL2 len_ok).mono fun e w' ⟨he, hf⟩ => ⟨he.trans (by rw [show gd [[120], [108, 105, 98, 111]] [108, 105, 98, 48] = some [108, 105, 98, 111] from by decide]; rfl), hf⟩
theorem sm_skel (w : World) : Calls Try.prog 18 #[.string ⟨#[99, 111, 114, 110, 45, 118, 118, 105, 49]⟩] w fun e w' => e = .returned (.string ⟨#[99, 111, 109, 119, 108, 108]⟩) ∧ Fr w w' :=
  (skel_any [99, 111, 114, 110, 45, 118, 118, 105, 49] w len_ok).mono fun e w' ⟨he, hf⟩ => ⟨he.trans (by rw [show sk [99, 111, 114, 110, 45, 118, 118, 105, 49] = [99, 111, 109, 119, 108, 108] from by decide]; rfl), hf⟩
theorem sm_conf (x y : ByteArray) (w : World) (hx : x.data.toList.length ≤ 100) (hy : y.data.toList.length ≤ 100) : Calls Try.prog 20 #[.string x, .string y] w fun e w' => e = .returned (.bool (cf x.data.toList y.data.toList)) ∧ Fr w w' := by
  rw [S_eta x, S_eta y, S_data, S_data]
  exact conf_any _ _ w (len_ok hx) (len_ok hy)
theorem sm_right (x : ByteArray) (w : World) (hm : Mx w) (hx : x.data.toList.length ≤ 100) : Calls Try.prog 16 #[.string x] w fun e w' => e = .returned (.bool (okN x.data.toList)) ∧ w' = w := by
  rw [S_eta x, S_data]
  exact right_any _ w hm (len_ok hx)
theorem sm_free (v : Value) (now : Int) (w : World) (hm : Mx w) (h : Hl w v [([103, 101, 111], 9)]) : Calls Try.prog 24 #[.slice none 0 0, v, .string ⟨#[103, 101, 48]⟩, .int .i64 now] w fun e w' => e = .returned (.int .i64 (fre [] [([103, 101, 111], 9)] [103, 101, 48] now)) ∧ Fr w w' :=
  free_any (.slice none 0 0) v [] [([103, 101, 111], 9)] [103, 101, 48] now w (Sl.nil _ _ _) okN0 h hokG hm len_ok
theorem sm_c1 : cf (ByteArray.mk #[109, 111, 100, 101, 114, 110]).data.toList (ByteArray.mk #[109, 111, 100, 101, 109]).data.toList = true := by decide
theorem sm_c2 : cf (ByteArray.mk #[97]).data.toList (ByteArray.mk #[98]).data.toList = false := by decide
theorem sm_r1 : okN (ByteArray.mk #[97, 45, 98, 57]).data.toList = true := by decide
theorem sm_r2 : okN (ByteArray.mk #[97, 45, 45, 98]).data.toList = false := by decide
theorem sm_r3 : okN (ByteArray.mk #[57, 97]).data.toList = false := by decide
theorem sm_r4 : okN (ByteArray.mk #[97, 45]).data.toList = false := by decide
theorem sm_f1 : fre [] [([103, 101, 111], 9)] [103, 101, 48] 8 = 31 := by decide
theorem sm_f2 : fre [] [([103, 101, 111], 9)] [103, 101, 48] 9 = 0 := by decide
theorem sm_f3 (w : World) (b : Nat) (h : w.heap[b]? = some (.cells #[.string ⟨#[108, 105, 98, 111]⟩] 9 (0, 0))) (hm : Mx w) : Calls Try.prog 24 #[.slice (some ⟨b, 0, none⟩) 1 1, .slice none 0 0, .string ⟨#[108, 105, 98, 48]⟩, .int .i64 0] w fun e w' => e = .returned (.int .i64 27) ∧ Fr w w' :=
  (free_any (.slice (some ⟨b, 0, none⟩) 1 1) (.slice none 0 0) [[108, 105, 98, 111]] [] [108, 105, 98, 48] 0 w (.inr ⟨b, 0, 1, rfl, fun i hi => by
    match i, hi with
    | 0, _ => exact cellOf h rfl, Nat.le_refl _⟩) okL1 (Hl.nil _ _ _) hok0 hm len_ok).mono fun e w' ⟨he, hf⟩ => ⟨he.trans (by rw [show fre [[108, 105, 98, 111]] [] [108, 105, 98, 48] 0 = 27 from by decide]), hf⟩

end Go.Proofs.Ytfhbgfoebppbaaa
