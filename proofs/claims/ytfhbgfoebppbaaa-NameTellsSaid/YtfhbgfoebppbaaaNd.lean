/-
  Skeleton, hasSkeleton, Confusable.
-/
import Derived.Test.YtfhbgfoebppbaaaNc
namespace Go.Proofs.Ytfhbgfoebppbaaa
open Go.RowKit

theorem used_bound (s : Txt) : used s ≤ 2 := by unfold used; split <;> (try split) <;> omega
set_option maxRecDepth 100000 in
set_option maxHeartbeats 1000000 in
theorem skel_any (s : Txt) (w : World) (hs : s.length ≤ 1099511627776) :
    Calls Try.prog 18 #[.string (S s)] w fun e w' => e = .returned (.string (S (sk s))) ∧ Fr w w' := by
  have HB0 := Lib.hid (show BdF w [] (w.alloc (.cells #[.pointer none, .slice none 0 0] 55)) from ⟨Bd.fresh w, Fr.alloc _ _⟩)
  have HS := Lib.hid hs
  clear hs
  go_enter Try.func18, Try.ntmps18
  go_wp2_with fail
  go_loopw [0, 4, 5] (fun n _ _ wr => ∃ t k : Txt, n = .string (S t) ∧ t.length ≤ s.length ∧ k.length + t.length ≤ s.length ∧ Hid (k ++ sk t = sk s) ∧ Hid (BdF w k wr)) (fun n _ _ _ => match n with | .string b => b.size | _ => 0)
  case atStart => exact ⟨s, [], rfl, Nat.le_refl _, by simp, Lib.hid rfl, HB0⟩
  case round =>
    obtain ⟨t, k, rfl, ht, hkt, hE, hB⟩ := hrel
    cases t with
    | nil =>
      go_wp2_with (go_at_call 37; refine hB.out.string.mono ?_; rintro e w' ⟨rfl, hf⟩)
      go_ret
      have := hE.out
      rw [sk_nil, List.append_nil] at this
      rw [← this]
      exact ⟨rfl, hf⟩
    | cons c r =>
      have hn : (c :: r).isEmpty = false := rfl
      have hul := used_le (s := c :: r) (by simp)
      have hup := used_pos (c :: r)
      have hub := used_bound (c :: r)
      have hpl := part_used (c :: r)
      have hst := Lib.hid (sk_step (s := c :: r) (by simp))
      have hex : (S (c :: r)).extract (used (c :: r)) (c :: r).length = S ((c :: r).drop (used (c :: r))) := by
        rw [S_extract, List.take_of_length_le (by rw [List.length_drop]; exact Nat.le_refl _)]
      have hcall := fun w => step_any c r w
      have hlen : ((c :: r).drop (used (c :: r))).length = (c :: r).length - used (c :: r) := List.length_drop
      generalize used (c :: r) = u at *
      generalize part (c :: r) = p at *
      generalize (c :: r).drop u = q at *
      generalize c :: r = t at *
      have HC := Lib.hid hcall
      clear hcall
      go_wp2_with (go_at_call 35; refine (HC.out _).mono ?_; rintro e w' ⟨rfl, rfl⟩)
      go_wp2_with (go_at_call 36; refine (hB.out.str p (by have := HS.out; omega)).mono ?_; rintro e w2 ⟨rfl, hb2⟩; have HB2 := Lib.hid hb2; clear hb2)
      go_roundw
      case rel => exact ⟨q, k ++ p, rfl, by omega, by rw [List.length_append]; omega, Lib.hid (by rw [← hE.out, hst.out, List.append_assoc]), HB2⟩
      case measure => simp only [S_size]; omega

theorem hp_no {p k : Txt} (h : Lib.hasPrefix k p = false) (q : Txt) : decide (p ++ q = k) = false := by
  refine decide_eq_false fun e => ?_
  subst e
  have : Lib.hasPrefix (p ++ q) p = true := List.isPrefixOf_iff_prefix.2 (List.prefix_append _ _)
  rw [this] at h
  cases h
theorem hp_yes {p k : Txt} (h : Lib.hasPrefix k p = true) : k = p ++ Lib.trimPrefix k p := by
  unfold Lib.trimPrefix
  rw [if_pos h]
  obtain ⟨r, rfl⟩ := List.isPrefixOf_iff_prefix.1 h
  rw [List.drop_left]
theorem hp_dec {p k k' q : Txt} (h : k = p ++ k') : decide (p ++ q = k) = decide (q = k') := by
  subst h
  rw [Bool.eq_iff_iff]
  simp only [decide_eq_true_eq, List.append_cancel_left_eq]
set_option maxRecDepth 100000 in
set_option maxHeartbeats 1000000 in
theorem has_any (s k : Txt) (w : World) (hs : s.length ≤ 1099511627776) :
    Calls Try.prog 26 #[.string (S s), .string (S k)] w fun e w' => e = .returned (.bool (decide (sk s = k))) ∧ w' = w := by
  have HS := Lib.hid hs
  clear hs
  go_enter Try.func26, Try.ntmps26
  go_wp2_with fail
  go_loopw [0, 1, 5, 6, 7, 8] (fun n m _ _ _ _ wr => ∃ t j : Txt, n = .string (S t) ∧ m = .string (S j) ∧ t.length ≤ s.length ∧ Hid (decide (sk t = j) = decide (sk s = k)) ∧ wr = w) (fun n _ _ _ _ _ _ => match n with | .string b => b.size | _ => 0)
  case atStart => exact ⟨s, k, rfl, rfl, Nat.le_refl _, Lib.hid rfl, rfl⟩
  case round =>
    obtain ⟨t, j, rfl, rfl, ht, hE, rfl⟩ := hrel
    cases t with
    | nil =>
      go_wp2_with fail
      go_ret
      rw [← hE.out, sk_nil]
      refine ⟨?_, rfl⟩
      cases j <;> rfl
    | cons c r =>
      have hn : (c :: r).isEmpty = false := rfl
      have hul := used_le (s := c :: r) (by simp)
      have hup := used_pos (c :: r)
      have hub := used_bound (c :: r)
      have hst := Lib.hid (sk_step (s := c :: r) (by simp))
      have hex : (S (c :: r)).extract (used (c :: r)) (c :: r).length = S ((c :: r).drop (used (c :: r))) := by
        rw [S_extract, List.take_of_length_le (by rw [List.length_drop]; exact Nat.le_refl _)]
      have hcall := fun w => step_any c r w
      have hlen : ((c :: r).drop (used (c :: r))).length = (c :: r).length - used (c :: r) := List.length_drop
      generalize used (c :: r) = u at *
      generalize part (c :: r) = p at *
      generalize (c :: r).drop u = q at *
      generalize c :: r = t at *
      have HC := Lib.hid hcall
      clear hcall
      have hcut := fun w => Try.strings_CutPrefix (S j) (S p) w
      simp only [S_data] at hcut
      cases hp : Lib.hasPrefix j p with
      | false =>
        rw [hp] at hcut
        have HK := Lib.hid hcut
        clear hcut
        have hres : decide (sk s = k) = false := by rw [← hE.out, hst.out]; exact hp_no hp _
        have HR := Lib.hid hres
        clear hp hres
        go_wp2_with (first | (go_at_call 35; refine (HC.out _).mono ?_; rintro e w' ⟨rfl, rfl⟩) | (go_at_call 39; refine (HK.out _).mono ?_; rintro e w' ⟨rfl, rfl⟩))
        go_ret
        rw [HR.out]
        exact ⟨rfl, rfl⟩
      | true =>
        have hj := hp_yes hp
        rw [hp] at hcut
        have hst2 : decide (sk q = Lib.trimPrefix j p) = decide (sk s = k) := by rw [← hE.out, hst.out]; exact (hp_dec hj).symm
        have HE2 := Lib.hid hst2
        have hcut2 : ∀ w, Calls Try.prog 39 #[.string (S j), .string (S p)] w fun e w' => e = .returned (.tuple #[.string (S (Lib.trimPrefix j p)), .bool true]) ∧ w' = w := hcut
        have HK := Lib.hid hcut2
        clear hcut hcut2 hst2 hj hp
        generalize Lib.trimPrefix j p = j2 at *
        go_wp2_with (first | (go_at_call 35; refine (HC.out _).mono ?_; rintro e w' ⟨rfl, rfl⟩) | (go_at_call 39; refine (HK.out _).mono ?_; rintro e w' ⟨rfl, rfl⟩))
        go_roundw
        case rel => exact ⟨q, j2, rfl, rfl, by omega, HE2, trivial⟩
        case measure => simp only [S_size]; omega
theorem conf_any (a b : Txt) (w : World) (ha : a.length ≤ 1099511627776) (hb : b.length ≤ 1099511627776) :
    Calls Try.prog 20 #[.string (S a), .string (S b)] w fun e w' => e = .returned (.bool (cf a b)) ∧ Fr w w' := by
  go_enter Try.func20, Try.ntmps20
  go_wp2_with (go_at_call 18; refine (skel_any b _ hb).mono ?_; rintro e w1 ⟨rfl, hf1⟩)
  go_wp2_with (go_at_call 26; refine (has_any a (sk b) _ ha).mono ?_; rintro e w2 ⟨rfl, rfl⟩)
  go_ret
  exact ⟨rfl, hf1⟩
end Go.Proofs.Ytfhbgfoebppbaaa
