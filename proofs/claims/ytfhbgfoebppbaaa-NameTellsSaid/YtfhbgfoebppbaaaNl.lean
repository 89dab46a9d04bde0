/-
  The laws' small.
-/
import Derived.Test.YtfhbgfoebppbaaaNk
namespace Go.Proofs.Ytfhbgfoebppbaaa
open Go.RowKit

set_option maxRecDepth 100000 in
set_option maxHeartbeats 4000000 in
theorem small_any (w : World) (hm : Mx w) : Calls Try.prog 8 #[] w fun e w' => e = .returned (.bool true) ∧ Fr w w' := by
  have HM := Lib.hid hm
  clear hm
  go_enter Try.func8, Try.ntmps8
  go_upto_region 2 with (go_at_call 13; refine (sm_drop _ HM.out).mono ?_; rintro e w1 ⟨v, rfl, hv, hf⟩)
  have HV := Lib.hid hv
  have HF := Lib.hid hf
  have HA := Lib.hid (MapKept.heap_alloc w1 (.cells #[.string ⟨#[120]⟩, .string ⟨#[108, 105, 98, 111]⟩] 9)).1
  clear hv hf
  go_upto_region 3 with (go_at_call 11; refine (sm_guard _ _ _ HA.out (Nat.le_refl _)).mono ?_; rintro e w2 ⟨rfl, hf2⟩)
  have HF2 := Lib.hid ((Fr.alloc w1 _).trans hf2)
  have HV2 := Lib.hid (HV.out.fr HF2.out)
  have HFw := Lib.hid (HF.out.trans HF2.out)
  clear hf2 HA HF2 HV HF
  go_upto_region 4 with (first
    | (go_at_call 18; refine (sm_skel _).mono ?_; rintro e w3 ⟨rfl, hf3⟩; have HF3 := Lib.hid (HFw.out.trans hf3); have HV3 := Lib.hid (HV2.out.fr hf3); clear hf3)
    | (go_at_call 20; refine (sm_conf _ _ _ (by decide) (by decide)).mono ?_; rintro e w4 ⟨rfl, hf4⟩; (first | (rw [sm_c1]; have HF4 := Lib.hid (HF3.out.trans hf4); have HV4 := Lib.hid (HV3.out.fr hf4); clear hf4) | (rw [sm_c2]; have HF5 := Lib.hid (HF4.out.trans hf4); have HV5 := Lib.hid (HV4.out.fr hf4); have HM5 := Lib.hid (HM.out.fr HF5.out); clear hf4)))
    | (go_at_call 16; refine (sm_right _ _ HM5.out (by decide)).mono ?_; rintro e w6 ⟨rfl, rfl⟩; (first | rw [sm_r1] | rw [sm_r2] | rw [sm_r3] | rw [sm_r4])))
  go_wp2_with (first
    | (go_at_call 24; refine (sm_f3 _ _ HA8.out (HM5.out.fr (HF8.out.trans (Fr.alloc _ _)))).mono ?_; rintro e w9 ⟨rfl, hf9⟩)
    | (go_at_call 24; refine (sm_free _ _ _ (HM5.out.fr HF7.out) (HV5.out.fr HF7.out)).mono ?_; rintro e w8 ⟨rfl, hf8⟩; rw [sm_f2]; have HF8 := Lib.hid (HF7.out.trans hf8); have HA8 := Lib.hid (MapKept.heap_alloc w8 (.cells #[.string ⟨#[108, 105, 98, 111]⟩] 9)).1; clear hf8)
    | (go_at_call 24; refine (sm_free _ _ _ HM5.out HV5.out).mono ?_; rintro e w7 ⟨rfl, hf7⟩; rw [sm_f1]; have HF7 := Lib.hid hf7; clear hf7))
  go_ret
  exact ⟨rfl, HF5.out.trans (HF8.out.trans ((Fr.alloc _ _).trans hf9))⟩
end Go.Proofs.Ytfhbgfoebppbaaa
