/-
  The reference: Skeleton, Confusable.
-/
import Derived.Test.YtfhbgfoebppbaaaNn
namespace Go.Proofs.Ytfhbgfoebppbaaa
open Go.RowKit

theorem two_eq (c d a b : UInt8) : ((S [c, d]).toList == [a, b]) = (decide (c = a) && decide (d = b)) := by
  rw [Bool.eq_iff_iff, beq_iff_eq, Bool.and_eq_true, decide_eq_true_eq, decide_eq_true_eq, S_toList]
  simp
theorem sk_at {s : Txt} {k : Nat} (hk : k < s.length) : sk (s.drop k) = part (s.drop k) ++ sk (s.drop (k + used (s.drop k))) := by
  have hne : s.drop k ≠ [] := fun h => by have := congrArg List.length h; rw [List.length_drop] at this; simp at this; omega
  rw [sk_step hne, List.drop_drop]
set_option maxRecDepth 100000 in
set_option maxHeartbeats 4000000 in
theorem rskel_any (s : Txt) (w : World) (hs : s.length ≤ 1099511627776) :
    Calls Try.prog 19 #[.string (S s)] w fun e w' => e = .returned (.string (S (sk s))) ∧ w' = w := by
  have HS := Lib.hid hs
  clear hs
  go_enter Try.func19, Try.ntmps19
  go_wp2_with fail
  go_loopw [4, 3, 5] (fun i o _ wr => ∃ (k : Nat) (t : Txt), k ≤ s.length ∧ t.length ≤ k ∧ i = .int .i64 k ∧ o = .string (S t) ∧ Hid (t ++ sk (s.drop k) = sk s) ∧ wr = w) (fun i _ _ _ => s.length - (intOf i).toNat)
  case atStart => exact ⟨0, [], Nat.zero_le _, Nat.le_refl _, rfl, rfl, Lib.hid rfl, rfl⟩
  case round =>
    obtain ⟨k, t, hk, htl, rfl, rfl, hE, rfl⟩ := hrel
    have hb := HS.out
    by_cases hlt : k < s.length
    · have hst := sk_at hlt
      have hdk := List.drop_eq_getElem_cons hlt
      have hx1 : (S s).extract k (k + 1) = S [s[k]] := by
        rw [S_extract, show k + 1 - k = 1 by omega, hdk]; rfl
      have hI : ∀ h, (S s)[k]'h = s[k] := fun _ => rfl
      by_cases h2 : k + 1 < s.length
      · have g2 : decide ((k : Int) + 1 < (s.length : Int)) = true := decide_eq_true (by omega)
        have hdk2 := List.drop_eq_getElem_cons h2
        have hex : (S s).extract k (k + 2) = S [s[k], s[k + 1]] := by
          rw [S_extract, show k + 2 - k = 2 by omega, hdk, hdk2]; rfl
        have hp1 : Lib.hasPrefix (s.drop k) [114, 110] = (decide (s[k] = 114) && decide (s[k + 1] = 110)) := by rw [hdk, hp2, hdk2]
        have hp2' : Lib.hasPrefix (s.drop k) [118, 118] = (decide (s[k] = 118) && decide (s[k + 1] = 118)) := by rw [hdk, hp2, hdk2]
        have q1 := two_eq s[k] s[k + 1] 114 110
        have q2 := two_eq s[k] s[k + 1] 118 118
        rw [← hex, ← hp1] at q1
        rw [← hex, ← hp2'] at q2
        have hone : Lib.hasPrefix (s.drop k) [114, 110] = false → Lib.hasPrefix (s.drop k) [118, 118] = false → part (s.drop k) = one s[k] := fun r1 r2 => by
          unfold part; rw [r1, r2, hdk]; rfl
        clear hex hp1 hp2' hdk hdk2
        cases r1 : Lib.hasPrefix (s.drop k) [114, 110] with
        | true =>
          rw [r1] at q1
          have hpart : part (s.drop k) = [109] := by unfold part; rw [r1]; rfl
          have hused : used (s.drop k) = 2 := by unfold used; rw [r1]; rfl
          rw [hpart, hused] at hst
          have HN := Lib.hid (show (t ++ [109]) ++ sk (s.drop (k + 2)) = sk s from by rw [← hE.out, hst, List.append_assoc])
          have e2 := S_append t [109]
          rw [show S [109] = ByteArray.mk #[109] from rfl] at e2
          clear hst hE hpart hused hone r1 hx1 hI
          go_wp2_with fail
          go_roundw
          case rel => exact ⟨k + 2, t ++ [109], by omega, by simp; omega, by go_num, rfl, HN, trivial⟩
          case measure => simp [intOf]; omega
        | false =>
          rw [r1] at q1
          cases r2 : Lib.hasPrefix (s.drop k) [118, 118] with
          | true =>
            rw [r2] at q2
            have hpart : part (s.drop k) = [119] := by unfold part; rw [r1, r2]; rfl
            have hused : used (s.drop k) = 2 := by unfold used; rw [r1, r2]; rfl
            rw [hpart, hused] at hst
            have HN := Lib.hid (show (t ++ [119]) ++ sk (s.drop (k + 2)) = sk s from by rw [← hE.out, hst, List.append_assoc])
            have e2 := S_append t [119]
            rw [show S [119] = ByteArray.mk #[119] from rfl] at e2
            clear hst hE hpart hused hone r1 r2 hx1 hI
            go_wp2_with fail
            go_roundw
            case rel => exact ⟨k + 2, t ++ [119], by omega, by simp; omega, by go_num, rfl, HN, trivial⟩
            case measure => simp [intOf]; omega
          | false =>
            rw [r2] at q2
            have hpart := hone r1 r2
            have hused : used (s.drop k) = 1 := by unfold used; rw [r1, r2]; rfl
            rw [hpart, hused] at hst
            have hnext : ∀ m, one s[k] = m → (t ++ m) ++ sk (s.drop (k + 1)) = sk s := fun m h => by rw [← hE.out, hst, List.append_assoc, h]
            clear hst hE hpart hused hone r1 r2
            have hq : ∀ m : Int, (s[k].toNat : Int) ≠ m → ((s[k].toNat : Int) == m) = false := fun m hm => by simpa using hm
            by_cases a1 : s[k].toNat = 45
            · have ho : one s[k] = [] := by unfold one; rw [if_pos a1]
              have HN := Lib.hid (hnext _ ho)
              clear ho hnext hq
              rw [List.append_nil] at HN
              go_wp2_with fail
              go_roundw
              case rel => exact ⟨k + 1, t, by omega, by first | omega | (simp; omega), by go_num, rfl, HN, trivial⟩
              case measure => simp [intOf]; omega
            have b1 := hq 45 (by omega)
            by_cases a2 : s[k].toNat = 48
            · have ho : one s[k] = [111] := by unfold one; rw [if_neg a1, if_pos a2]
              have HN := Lib.hid (hnext _ ho)
              have e2 := S_append t [111]
              rw [show S [111] = ByteArray.mk #[111] from rfl] at e2
              clear ho hnext hq
              go_wp2_with fail
              go_roundw
              case rel => exact ⟨k + 1, t ++ [111], by omega, by first | omega | (simp; omega), by go_num, rfl, HN, trivial⟩
              case measure => simp [intOf]; omega
            have b2 := hq 48 (by omega)
            by_cases a3 : s[k].toNat = 49
            · have ho : one s[k] = [108] := by unfold one; rw [if_neg a1, if_neg a2, if_pos a3]
              have HN := Lib.hid (hnext _ ho)
              have e2 := S_append t [108]
              rw [show S [108] = ByteArray.mk #[108] from rfl] at e2
              clear ho hnext hq
              go_wp2_with fail
              go_roundw
              case rel => exact ⟨k + 1, t ++ [108], by omega, by first | omega | (simp; omega), by go_num, rfl, HN, trivial⟩
              case measure => simp [intOf]; omega
            have b3 := hq 49 (by omega)
            by_cases a4 : s[k].toNat = 105
            · have ho : one s[k] = [108] := by unfold one; rw [if_neg a1, if_neg a2, if_neg a3, if_pos a4]
              have HN := Lib.hid (hnext _ ho)
              have e2 := S_append t [108]
              rw [show S [108] = ByteArray.mk #[108] from rfl] at e2
              clear ho hnext hq
              go_wp2_with fail
              go_roundw
              case rel => exact ⟨k + 1, t ++ [108], by omega, by first | omega | (simp; omega), by go_num, rfl, HN, trivial⟩
              case measure => simp [intOf]; omega
            have b4 := hq 105 (by omega)
            have ho : one s[k] = [s[k]] := by unfold one; rw [if_neg a1, if_neg a2, if_neg a3, if_neg a4]
            have HN := Lib.hid (hnext _ ho)
            have e2 := S_append t [s[k]]
            clear ho hnext hq a1 a2 a3 a4
            go_wp2_with fail
            go_roundw
            case rel => exact ⟨k + 1, t ++ [s[k]], by omega, by simp; omega, by go_num, rfl, HN, trivial⟩
            case measure => simp [intOf]; omega
      · have g2 : decide ((k : Int) + 1 < (s.length : Int)) = false := decide_eq_false (by omega)
        have hd1 : s.drop (k + 1) = [] := List.drop_eq_nil_of_le (by omega)
        have hp1 : Lib.hasPrefix (s.drop k) [114, 110] = false := by rw [hdk, hp2, hd1]; simp
        have hp2' : Lib.hasPrefix (s.drop k) [118, 118] = false := by rw [hdk, hp2, hd1]; simp
        have hpart : part (s.drop k) = one s[k] := by unfold part; rw [hp1, hp2', hdk]; rfl
        have hused : used (s.drop k) = 1 := by unfold used; rw [hp1, hp2']; rfl
        rw [hpart, hused] at hst
        have hnext : ∀ m, one s[k] = m → (t ++ m) ++ sk (s.drop (k + 1)) = sk s := fun m h => by rw [← hE.out, hst, List.append_assoc, h]
        clear hst hE hpart hused hp1 hp2' hd1 hdk
        have hq : ∀ m : Int, (s[k].toNat : Int) ≠ m → ((s[k].toNat : Int) == m) = false := fun m hm => by simpa using hm
        by_cases a1 : s[k].toNat = 45
        · have ho : one s[k] = [] := by unfold one; rw [if_pos a1]
          have HN := Lib.hid (hnext _ ho)
          clear ho hnext hq
          rw [List.append_nil] at HN
          go_wp2_with fail
          go_roundw
          case rel => exact ⟨k + 1, t, by omega, by first | omega | (simp; omega), by go_num, rfl, HN, trivial⟩
          case measure => simp [intOf]; omega
        have b1 := hq 45 (by omega)
        by_cases a2 : s[k].toNat = 48
        · have ho : one s[k] = [111] := by unfold one; rw [if_neg a1, if_pos a2]
          have HN := Lib.hid (hnext _ ho)
          have e2 := S_append t [111]
          rw [show S [111] = ByteArray.mk #[111] from rfl] at e2
          clear ho hnext hq
          go_wp2_with fail
          go_roundw
          case rel => exact ⟨k + 1, t ++ [111], by omega, by first | omega | (simp; omega), by go_num, rfl, HN, trivial⟩
          case measure => simp [intOf]; omega
        have b2 := hq 48 (by omega)
        by_cases a3 : s[k].toNat = 49
        · have ho : one s[k] = [108] := by unfold one; rw [if_neg a1, if_neg a2, if_pos a3]
          have HN := Lib.hid (hnext _ ho)
          have e2 := S_append t [108]
          rw [show S [108] = ByteArray.mk #[108] from rfl] at e2
          clear ho hnext hq
          go_wp2_with fail
          go_roundw
          case rel => exact ⟨k + 1, t ++ [108], by omega, by first | omega | (simp; omega), by go_num, rfl, HN, trivial⟩
          case measure => simp [intOf]; omega
        have b3 := hq 49 (by omega)
        by_cases a4 : s[k].toNat = 105
        · have ho : one s[k] = [108] := by unfold one; rw [if_neg a1, if_neg a2, if_neg a3, if_pos a4]
          have HN := Lib.hid (hnext _ ho)
          have e2 := S_append t [108]
          rw [show S [108] = ByteArray.mk #[108] from rfl] at e2
          clear ho hnext hq
          go_wp2_with fail
          go_roundw
          case rel => exact ⟨k + 1, t ++ [108], by omega, by first | omega | (simp; omega), by go_num, rfl, HN, trivial⟩
          case measure => simp [intOf]; omega
        have b4 := hq 105 (by omega)
        have ho : one s[k] = [s[k]] := by unfold one; rw [if_neg a1, if_neg a2, if_neg a3, if_neg a4]
        have HN := Lib.hid (hnext _ ho)
        have e2 := S_append t [s[k]]
        clear ho hnext hq a1 a2 a3 a4
        go_wp2_with fail
        go_roundw
        case rel => exact ⟨k + 1, t ++ [s[k]], by omega, by simp; omega, by go_num, rfl, HN, trivial⟩
        case measure => simp [intOf]; omega
    · obtain rfl : k = s.length := by omega
      have hfin : t = sk s := by have := hE.out; rw [List.drop_length, sk_nil, List.append_nil] at this; exact this
      go_wp2_with fail
      go_ret
      rw [hfin]
      exact ⟨rfl, rfl⟩
theorem rconf_any (a b : Txt) (w : World) (ha : a.length ≤ 1099511627776) (hb : b.length ≤ 1099511627776) :
    Calls Try.prog 21 #[.string (S a), .string (S b)] w fun e w' => e = .returned (.bool (cf a b)) ∧ w' = w := by
  have hc : (sk a == sk b) = cf a b := by unfold cf; rw [Bool.eq_iff_iff, beq_iff_eq, decide_eq_true_eq]
  go_enter Try.func21, Try.ntmps21
  go_wp2_with (go_at_call 19; refine (rskel_any _ _ (by assumption)).mono ?_; rintro e w2 ⟨rfl, rfl⟩)
  go_ret
  rw [← hc]
  exact ⟨rfl, rfl⟩
end Go.Proofs.Ytfhbgfoebppbaaa
