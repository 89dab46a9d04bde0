/-
  One step of a skeleton.
-/
import Derived.Test.YtfhbgfoebppbaaaNb
namespace Go.Proofs.Ytfhbgfoebppbaaa
open Go.RowKit

theorem hp_nil (s : Txt) : Lib.hasPrefix s [] = true := rfl
theorem neEmpty (c : UInt8) (r : Txt) : S (c :: r) ≠ S [] := fun h => by have := congrArg (fun b => b.size) h; simp [S_size] at this
theorem d110 : (ByteArray.mk #[114, 110]).data.toList = [114, 110] := rfl
theorem d118 : (ByteArray.mk #[118, 118]).data.toList = [118, 118] := rfl
set_option maxRecDepth 100000 in
set_option maxHeartbeats 1000000 in
theorem step_any (c : UInt8) (r : Txt) (w : World) :
    Calls Try.prog 35 #[.string (S (c :: r))] w fun e w' => e = .returned (.tuple #[.string (S (part (c :: r))), .int .i64 (used (c :: r))]) ∧ w' = w := by
  have hp1 := fun w => Try.strings_HasPrefix (S (c :: r)) ⟨#[114, 110]⟩ w
  have hp2' := fun w => Try.strings_HasPrefix (S (c :: r)) ⟨#[118, 118]⟩ w
  simp only [S_data] at hp1 hp2'
  have hE : (S (c :: r)).extract 0 1 = S [c] := by rw [S_extract]; rfl
  cases h1 : Lib.hasPrefix (c :: r) [114, 110] with
  | true =>
    have e1 : part (c :: r) = [109] := by unfold part; rw [h1]; rfl
    have e2 : used (c :: r) = 2 := by unfold used; rw [h1]; rfl
    rw [e1, e2]
    rw [h1] at hp1
    have HP1 := Lib.hid hp1
    clear hp1 hp2' h1 e1 e2
    go_enter Try.func35, Try.ntmps35
    go_wp2_with (go_at_call 42; refine (HP1.out _).mono ?_; rintro e w' ⟨rfl, rfl⟩)
    go_ret2
    exact ⟨rfl, rfl⟩
  | false =>
    rw [h1] at hp1
    cases h2 : Lib.hasPrefix (c :: r) [118, 118] with
    | true =>
      have e1 : part (c :: r) = [119] := by unfold part; rw [h1, h2]; rfl
      have e2 : used (c :: r) = 2 := by unfold used; rw [h1, h2]; rfl
      rw [e1, e2]
      rw [h2] at hp2'
      have HP1 := Lib.hid hp1
      have HP2 := Lib.hid hp2'
      clear hp1 hp2' h1 h2 e1 e2
      go_enter Try.func35, Try.ntmps35
      go_wp2_with (go_at_call 42; (first | (refine (HP1.out _).mono ?_) | (refine (HP2.out _).mono ?_)); rintro e w' ⟨rfl, rfl⟩)
      go_ret2
      exact ⟨rfl, rfl⟩
    | false =>
      have e1 : part (c :: r) = one c := by unfold part; rw [h1, h2]; rfl
      have e2 : used (c :: r) = 1 := by unfold used; rw [h1, h2]; rfl
      rw [e1, e2]
      rw [h2] at hp2'
      have HP1 := Lib.hid hp1
      have HP2 := Lib.hid hp2'
      clear hp1 hp2' h1 h2 e1 e2
      have hq : ∀ m : Nat, c.toNat ≠ m → (((c.toNat : Nat) : Int) == (m : Int)) = false := fun m hm => by simp only [beq_eq_false_iff_ne, ne_eq]; omega
      by_cases a1 : c.toNat = 45
      · have ho : one c = [] := by unfold one; rw [if_pos a1]
        rw [ho]
        clear ho hq
        go_enter Try.func35, Try.ntmps35
        go_wp2_with (go_at_call 42; (first | (refine (HP1.out _).mono ?_) | (refine (HP2.out _).mono ?_)); rintro e w' ⟨rfl, rfl⟩)
        go_ret2
        exact ⟨rfl, rfl⟩
      have b1 := hq 45 a1
      by_cases a2 : c.toNat = 48
      · have ho : one c = [111] := by unfold one; rw [if_neg a1, if_pos a2]
        rw [ho]
        clear ho hq
        go_enter Try.func35, Try.ntmps35
        go_wp2_with (go_at_call 42; (first | (refine (HP1.out _).mono ?_) | (refine (HP2.out _).mono ?_)); rintro e w' ⟨rfl, rfl⟩)
        go_ret2
        exact ⟨rfl, rfl⟩
      have b2 := hq 48 a2
      by_cases a3 : c.toNat = 49
      · have ho : one c = [108] := by unfold one; rw [if_neg a1, if_neg a2, if_pos a3]
        rw [ho]
        clear ho hq
        go_enter Try.func35, Try.ntmps35
        go_wp2_with (go_at_call 42; (first | (refine (HP1.out _).mono ?_) | (refine (HP2.out _).mono ?_)); rintro e w' ⟨rfl, rfl⟩)
        go_ret2
        exact ⟨rfl, rfl⟩
      have b3 := hq 49 a3
      by_cases a4 : c.toNat = 105
      · have ho : one c = [108] := by unfold one; rw [if_neg a1, if_neg a2, if_neg a3, if_pos a4]
        rw [ho]
        clear ho hq
        go_enter Try.func35, Try.ntmps35
        go_wp2_with (go_at_call 42; (first | (refine (HP1.out _).mono ?_) | (refine (HP2.out _).mono ?_)); rintro e w' ⟨rfl, rfl⟩)
        go_ret2
        exact ⟨rfl, rfl⟩
      have b4 := hq 105 a4
      have ho : one c = [c] := by unfold one; rw [if_neg a1, if_neg a2, if_neg a3, if_neg a4]
      rw [ho]
      clear ho hq a1 a2 a3 a4
      go_enter Try.func35, Try.ntmps35
      go_wp2_with (go_at_call 42; (first | (refine (HP1.out _).mono ?_) | (refine (HP2.out _).mono ?_)); rintro e w' ⟨rfl, rfl⟩)
      go_ret2
      exact ⟨rfl, rfl⟩

end Go.Proofs.Ytfhbgfoebppbaaa
