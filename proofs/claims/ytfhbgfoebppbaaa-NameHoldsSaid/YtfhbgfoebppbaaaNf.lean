/-
  Right.
-/
import Derived.Test.YtfhbgfoebppbaaaNe
namespace Go.Proofs.Ytfhbgfoebppbaaa
open Go.RowKit

theorem d45 : (ByteArray.mk #[45]).data.toList = [45] := rfl
theorem d4545 : (ByteArray.mk #[45, 45]).data.toList = [45, 45] := rfl
theorem all_take {p : UInt8 → Bool} {s : Txt} {k : Nat} (h : (s.take k).all p = true) (hk : k < s.length) (hp : p s[k] = true) : (s.take (k + 1)).all p = true := by
  rw [List.take_succ_eq_append_getElem hk, List.all_append, h]
  simp [hp]
set_option maxRecDepth 100000 in
set_option maxHeartbeats 1000000 in
theorem right_any (s : Txt) (w : World) (hm : Mx w) (hs : s.length ≤ 1099511627776) :
    Calls Try.prog 16 #[.string (S s)] w fun e w' => e = .returned (.bool (okN s)) ∧ w' = w := by
  by_cases hl : s.length ≤ 20
  case neg =>
    have hok : okN s = false := by
      cases h : okN s with
      | false => rfl
      | true => exact absurd (okN_len h) hl
    cases s with
    | nil => simp at hl
    | cons c r =>
      have hn : (c :: r).isEmpty = false := rfl
      rw [hok]
      generalize c :: r = s at *
      clear hok
      go_enter Try.func16, Try.ntmps16
      go_wp2_with fail
      go_ret
      exact ⟨rfl, rfl⟩
  case pos =>
    cases s with
    | nil =>
      have hok : okN [] = false := rfl
      rw [hok]
      clear hok
      go_enter Try.func16, Try.ntmps16
      go_wp2_with fail
      go_ret
      exact ⟨rfl, rfl⟩
    | cons c r =>
      obtain ⟨m, hm⟩ := hm
      have k1 := fun w => isLetter_any c w
      have k2 := fun w => Try.strings_HasSuffix (S (c :: r)) ⟨#[45]⟩ w (by rw [S_size]; omega)
      have k3 := Try.strings_Contains (S (c :: r)) ⟨#[45, 45]⟩ m w (by rw [S_size]; omega) hm
      simp only [S_data] at k2 k3
      have hokn : okN (c :: r) = (lt c && !Lib.hasSuffix (c :: r) [45] && !Lib.contains (c :: r) [45, 45] && (c :: r).all pt) := by
        unfold okN
        rw [decide_eq_true hl]
        rfl
      have hn : (c :: r).isEmpty = false := rfl
      have hI : ∀ h, (S (c :: r))[0]'h = c := fun _ => rfl
      have hl2 : decide ((20 : Int) < ((c :: r).length : Int)) = false := decide_eq_false (by omega)
      have hpos : 0 < (c :: r).length := by simp
      rw [hokn]
      clear hokn hm
      generalize Lib.hasSuffix (c :: r) [45] = b2 at *
      generalize Lib.contains (c :: r) [45, 45] = b3 at *
      generalize lt c = b1 at *
      generalize c :: r = s at *
      have K1 := Lib.hid k1
      have K2 := Lib.hid k2
      have K3 := Lib.hid k3
      clear k1 k2 k3
      cases b1 with
      | false =>
        go_enter Try.func16, Try.ntmps16
        go_wp2_with (go_at_call 30; refine (K1.out _).mono ?_; rintro e w' ⟨rfl, rfl⟩)
        go_ret
        exact ⟨rfl, rfl⟩
      | true =>
        cases b2 with
        | true =>
          go_enter Try.func16, Try.ntmps16
          go_wp2_with (first | (go_at_call 30; refine (K1.out _).mono ?_; rintro e w' ⟨rfl, rfl⟩) | (go_at_call 31; refine (K2.out _).mono ?_; rintro e w' ⟨rfl, rfl⟩))
          go_ret
          exact ⟨rfl, rfl⟩
        | false =>
          cases b3 with
          | true =>
            go_enter Try.func16, Try.ntmps16
            go_wp2_with (first | (go_at_call 30; refine (K1.out _).mono ?_; rintro e w' ⟨rfl, rfl⟩) | (go_at_call 31; refine (K2.out _).mono ?_; rintro e w' ⟨rfl, rfl⟩) | (go_at_call 32; refine (K3.out).mono ?_; rintro e w' ⟨rfl, rfl⟩))
            go_ret
            exact ⟨rfl, rfl⟩
          | false =>
            go_enter Try.func16, Try.ntmps16
            go_wp2_with (first | (go_at_call 30; refine (K1.out _).mono ?_; rintro e w' ⟨rfl, rfl⟩) | (go_at_call 31; refine (K2.out _).mono ?_; rintro e w' ⟨rfl, rfl⟩) | (go_at_call 32; refine (K3.out).mono ?_; rintro e w' ⟨rfl, rfl⟩))
            clear K1 K2 K3
            go_loopw [27, 3] (fun n _ wr => ∃ k : Nat, k ≤ s.length ∧ n = .int .i64 k ∧ Hid ((s.take k).all pt = true) ∧ wr = w') (fun n _ _ => s.length - (intOf n).toNat)
            case atStart => exact ⟨0, Nat.zero_le _, rfl, Lib.hid (by simp), rfl⟩
            case round =>
              obtain ⟨k, hk, rfl, hA, rfl⟩ := hrel
              by_cases hlt : k < s.length
              · have hc := fun w => isPart_any s[k] w
                have hnext := fun hp => all_take (p := pt) (k := k) hA.out hlt hp
                have hno : pt s[k] = false → s.all pt = false := fun h => by
                  cases ha : s.all pt with
                  | false => rfl
                  | true => rw [List.all_eq_true.1 ha _ (List.getElem_mem hlt)] at h; cases h
                have HN := Lib.hid hnext
                have HO := Lib.hid hno
                have HC := Lib.hid hc
                clear hnext hno hc hA
                generalize hx : s[k] = x at *
                generalize hb : pt x = b at *
                cases b with
                | false =>
                  go_wp2_with (go_at_call 33; refine (HC.out _).mono ?_; rintro e w' ⟨rfl, rfl⟩)
                  go_ret
                  rw [HO.out trivial]
                  exact ⟨rfl, rfl⟩
                | true =>
                  go_wp2_with (go_at_call 33; refine (HC.out _).mono ?_; rintro e w' ⟨rfl, rfl⟩)
                  go_roundw
                  case rel => exact ⟨k + 1, by omega, by go_num, Lib.hid (HN.out trivial), trivial⟩
                  case measure => simp [intOf]; omega
              · have hkl : k = s.length := by omega
                have hA2 : s.all pt = true := by have := hA.out; rwa [hkl, List.take_length] at this
                have HA := Lib.hid hA2
                clear hA hA2
                go_wp2_with fail
                go_ret
                rw [HA.out]
                exact ⟨rfl, rfl⟩
end Go.Proofs.Ytfhbgfoebppbaaa
