/-
  The reference: which names are right.
-/
import Derived.Test.YtfhbgfoebppbaaaNu
namespace Go.Proofs.Ytfhbgfoebppbaaa
open Go.RowKit

/-- Why the reference refuses a name at byte k. -/
def bad (s : Txt) (k : Nat) (hk : k < s.length) : Prop :=
  (lt s[k] = false ∧ (k = 0 ∨ (¬ (48 ≤ s[k].toNat ∧ s[k].toNat ≤ 57) ∧ s[k].toNat ≠ 45))) ∨ (s[k].toNat = 45 ∧ (k + 1 = s.length ∨ ∃ _h : 0 < k, (s[k - 1]'(by omega)).toNat = 45))
theorem u45 {c : UInt8} : c.toNat = 45 ↔ c = 45 := ⟨fun h => UInt8.toNat_inj.1 h, fun h => by rw [h]; rfl⟩
theorem suffix_iff {s : Txt} (hs : s ≠ []) : Lib.hasSuffix s [45] = true ↔ (s[s.length - 1]'(by have := List.length_pos_iff.2 hs; omega)) = 45 := by
  unfold Lib.hasSuffix
  rw [List.isSuffixOf_iff_suffix]
  constructor
  · rintro ⟨t, rfl⟩
    simp
  · intro h
    refine ⟨s.dropLast, ?_⟩
    have := List.dropLast_concat_getLast hs
    rw [List.getLast_eq_getElem, h] at this
    exact this
theorem contains_iff {s : Txt} : Lib.contains s [45, 45] = true ↔ ∃ (k : Nat) (h : k + 1 < s.length), s[k] = 45 ∧ s[k + 1] = 45 := by
  have hocc : ∀ k, Lib.occAt s [45, 45] k = true ↔ ∃ h : k + 1 < s.length, s[k] = 45 ∧ s[k + 1] = 45 := by
    intro k
    show Lib.hasPrefix (s.drop k) [45, 45] = true ↔ _
    by_cases hk : k < s.length
    · rw [List.drop_eq_getElem_cons hk, hp2]
      by_cases h2 : k + 1 < s.length
      · rw [List.drop_eq_getElem_cons h2]
        simp only [Bool.and_eq_true, decide_eq_true_eq]
        exact ⟨fun h => ⟨h2, h⟩, fun ⟨_, h⟩ => h⟩
      · rw [List.drop_eq_nil_of_le (by omega)]
        simp only [Bool.and_false]
        exact ⟨fun h => (by cases h), fun ⟨h, _⟩ => absurd h h2⟩
    · rw [List.drop_eq_nil_of_le (by omega)]
      exact ⟨fun h => (by cases h), fun ⟨h, _⟩ => (by omega)⟩
  unfold Lib.contains
  rw [decide_eq_true_eq]
  rcases Lib.index_spec s [45, 45] with ⟨h1, h2⟩ | ⟨i, h1, h2, h3, _⟩
  · rw [h1]
    constructor
    · intro h; omega
    · rintro ⟨k, hk, h⟩
      have := h2 k (by omega)
      rw [(hocc k).2 ⟨hk, h⟩] at this
      cases this
  · rw [h1]
    refine ⟨fun _ => ?_, fun _ => by omega⟩
    obtain ⟨hk, h⟩ := (hocc i).1 h3
    exact ⟨i, hk, h⟩
theorem lt_iff (c : UInt8) : lt c = true ↔ 97 ≤ c.toNat ∧ c.toNat ≤ 122 := by unfold lt; simp
theorem pt_iff (c : UInt8) : pt c = true ↔ lt c = true ∨ (48 ≤ c.toNat ∧ c.toNat ≤ 57) ∨ c.toNat = 45 := by unfold pt; simp [or_assoc]
theorem okN_iff (s : Txt) : okN s = true ↔ s ≠ [] ∧ s.length ≤ 20 ∧ ∀ (k : Nat) (hk : k < s.length), ¬ bad s k hk := by
  by_cases hs : s = []
  · subst hs; simp [okN]
  have hpos : 0 < s.length := List.length_pos_iff.2 hs
  have hhead : s.headD 0 = s[0] := by cases s with | nil => exact absurd rfl hs | cons c r => rfl
  have hemp : s.isEmpty = false := by cases s with | nil => exact absurd rfl hs | cons c r => rfl
  have hdef : okN s = true ↔ s.length ≤ 20 ∧ lt s[0] = true ∧ ¬ Lib.hasSuffix s [45] = true ∧ ¬ Lib.contains s [45, 45] = true ∧ ∀ c ∈ s, pt c = true := by
    unfold okN
    rw [hemp, hhead]
    simp only [Bool.not_false, Bool.true_and, Bool.and_eq_true, decide_eq_true_eq, Bool.not_eq_true', Bool.not_eq_true, List.all_eq_true, and_assoc]
  rw [hdef, suffix_iff hs, contains_iff]
  constructor
  · rintro ⟨h1, h2, h3, h4, h5⟩
    refine ⟨hs, h1, fun k hk hb => ?_⟩
    rcases hb with ⟨ha, hb⟩ | ⟨ha, hb⟩
    · rcases hb with rfl | ⟨hb, hc⟩
      · rw [h2] at ha; cases ha
      · rcases (pt_iff _).1 (h5 _ (List.getElem_mem hk)) with h | h | h
        · rw [h] at ha; cases ha
        · exact hb h
        · exact hc h
    · rcases hb with hb | ⟨h0, hb⟩
      · exact h3 (by rw [← u45]; have e : s.length - 1 = k := by omega
                     simp only [e]; exact ha)
      · exact h4 ⟨k - 1, by omega, u45.1 hb, by have e : k - 1 + 1 = k := by omega
                                                simp only [e]; exact u45.1 ha⟩
  · rintro ⟨_, h1, h2⟩
    have hl0 : lt s[0] = true := by
      cases h : lt s[0] with
      | true => rfl
      | false => exact absurd (.inl ⟨h, .inl rfl⟩) (h2 0 hpos)
    refine ⟨h1, hl0, fun h => ?_, ?_, fun c hc => ?_⟩
    · exact h2 (s.length - 1) (by omega) (.inr ⟨u45.2 h, .inl (by omega)⟩)
    · rintro ⟨k, hk, ha, hb⟩
      exact h2 (k + 1) hk (.inr ⟨u45.2 hb, .inr ⟨by omega, u45.2 ha⟩⟩)
    · obtain ⟨k, hk, rfl⟩ := List.getElem_of_mem hc
      rw [pt_iff]
      cases h : lt s[k] with
      | true => exact .inl rfl
      | false =>
        by_cases h7 : 48 ≤ s[k].toNat ∧ s[k].toNat ≤ 57
        · exact .inr (.inl h7)
        · by_cases h8 : s[k].toNat = 45
          · exact .inr (.inr h8)
          · exact absurd (.inl ⟨h, .inr ⟨h7, h8⟩⟩) (h2 k hk)

theorem okN_bad {s : Txt} {k : Nat} (hk : k < s.length) (h : bad s k hk) : okN s = false := by
  cases ho : okN s with
  | false => rfl
  | true => exact absurd h (((okN_iff s).1 ho).2.2 k hk)
set_option maxRecDepth 100000 in
set_option maxHeartbeats 4000000 in
theorem rright_any (s : Txt) (w : World) (hs : s.length ≤ 1099511627776) :
    Calls Try.prog 17 #[.string (S s)] w fun e w' => e = .returned (.bool (okN s)) ∧ w' = w := by
  by_cases hl : s.length < 1 ∨ 20 < s.length
  · have hok : okN s = false := by
      cases h : okN s with
      | false => rfl
      | true =>
        obtain ⟨h1, h2, _⟩ := (okN_iff s).1 h
        have := List.length_pos_iff.2 h1
        omega
    rw [hok]
    clear hok
    by_cases h1 : s.length < 1
    · have g1 : decide ((s.length : Int) < 1) = true := decide_eq_true (by omega)
      clear hl h1
      go_enter Try.func17, Try.ntmps17
      go_wp2_with fail
      go_ret
      exact ⟨rfl, rfl⟩
    · have g1 : decide ((s.length : Int) < 1) = false := decide_eq_false (by omega)
      have g2 : decide ((20 : Int) < (s.length : Int)) = true := decide_eq_true (by omega)
      clear hl h1
      go_enter Try.func17, Try.ntmps17
      go_wp2_with fail
      go_ret
      exact ⟨rfl, rfl⟩
  · have g1 : decide ((s.length : Int) < 1) = false := decide_eq_false (by omega)
    have g2 : decide ((20 : Int) < (s.length : Int)) = false := decide_eq_false (by omega)
    have hpos : 0 < s.length := by omega
    have hmax : s.length ≤ 20 := by omega
    clear hl
    go_enter Try.func17, Try.ntmps17
    go_wp2_with fail
    go_loopw [3, 4, 5] (fun i _ _ wr => ∃ k : Nat, k ≤ s.length ∧ i = .int .i64 k ∧ Hid (∀ (j : Nat) (hj : j < s.length), j < k → ¬ bad s j hj) ∧ wr = w) (fun i _ _ _ => s.length - (intOf i).toNat)
    case atStart => exact ⟨0, Nat.zero_le _, rfl, Lib.hid (fun j hj h => by omega), rfl⟩
    case round =>
      obtain ⟨k, hk, rfl, hI, rfl⟩ := hrel
      by_cases hlt : k < s.length
      · have hnext : ¬ bad s k hlt → ∀ (j : Nat) (hj : j < s.length), j < k + 1 → ¬ bad s j hj := fun h j hj hjk => by
          rcases Nat.lt_or_ge j k with h1 | h1
          · exact hI.out j hj h1
          · obtain rfl : j = k := by omega
            exact h
        have hbad := fun h => okN_bad (s := s) hlt h
        have hlet := fun w => letter_any s[k] w
        unfold bad at hnext hbad
        cases hc : lt s[k] with
        | true =>
          have h97 := (lt_iff _).1 hc
          have HN := Lib.hid (hnext (by
            rintro (⟨h, _⟩ | ⟨h, _⟩)
            · rw [hc] at h; cases h
            · omega))
          rw [hc] at hlet
          have HLt := Lib.hid hlet
          have f1 : decide ((48 : Int) ≤ (s[k].toNat : Int)) = true := decide_eq_true (by omega)
          have f2 : decide ((s[k].toNat : Int) ≤ 57) = false := decide_eq_false (by omega)
          have f3 : ((s[k].toNat : Int) == 45) = false := by simp only [beq_eq_false_iff_ne, ne_eq]; omega
          clear hnext hbad hlet hc h97 hI
          go_wp2_with (go_at_call 34; refine (HLt.out _).mono ?_; rintro e w' ⟨rfl, rfl⟩)
          go_roundw
          case rel => exact ⟨k + 1, by omega, by go_num, HN, trivial⟩
          case measure => simp [intOf]; omega
        | false =>
          rw [hc] at hlet
          have HLt := Lib.hid hlet
          by_cases h0 : k = 0
          · subst h0
            have HO := Lib.hid (hbad (.inl ⟨hc, .inl rfl⟩))
            clear hnext hbad hlet hI
            go_wp2_with (go_at_call 34; refine (HLt.out _).mono ?_; rintro e w' ⟨rfl, rfl⟩)
            all_goals go_ret
            all_goals rw [HO.out]
            all_goals exact ⟨rfl, rfl⟩
          · have fk : ((k : Int) == 0) = false := by simp only [beq_eq_false_iff_ne, ne_eq]; omega
            by_cases h45 : s[k].toNat = 45
            · have f1 : decide ((48 : Int) ≤ (s[k].toNat : Int)) = false := decide_eq_false (by omega)
              have f3 : ((s[k].toNat : Int) == 45) = true := by simp only [beq_iff_eq]; omega
              by_cases he : k + 1 = s.length
              · have HO := Lib.hid (hbad (.inr ⟨h45, .inl he⟩))
                have fe : ((k : Int) == (s.length : Int) - 1) = true := by simp only [beq_iff_eq]; omega
                clear hnext hbad hlet hI h45
                go_wp2_with (go_at_call 34; refine (HLt.out _).mono ?_; rintro e w' ⟨rfl, rfl⟩)
                all_goals go_ret
                all_goals rw [HO.out]
                all_goals exact ⟨rfl, rfl⟩
              · have fe : ((k : Int) == (s.length : Int) - 1) = false := by simp only [beq_eq_false_iff_ne, ne_eq]; omega
                have hk1 : ((k : Int) - 1).toNat = k - 1 := by omega
                have hk2 : (0 : Int) ≤ (k : Int) - 1 := by omega
                by_cases hp : (s[k - 1]'(by omega)).toNat = 45
                · have HO := Lib.hid (hbad (.inr ⟨h45, .inr ⟨by omega, hp⟩⟩))
                  clear hnext hbad hlet hI h45
                  go_wp2_with (go_at_call 34; refine (HLt.out _).mono ?_; rintro e w' ⟨rfl, rfl⟩)
                  all_goals go_ret
                  all_goals rw [HO.out]
                  all_goals exact ⟨rfl, rfl⟩
                · have HN := Lib.hid (hnext (by
                    rintro (⟨_, h | ⟨_, h⟩⟩ | ⟨_, h | ⟨_, h⟩⟩)
                    · exact h0 h
                    · exact h h45
                    · exact he h
                    · exact hp h))
                  have fp : (((s[k - 1]'(by omega)).toNat : Int) == 45) = false := by simp only [beq_eq_false_iff_ne, ne_eq]; omega
                  clear hnext hbad hlet hI h45
                  go_wp2_with (go_at_call 34; refine (HLt.out _).mono ?_; rintro e w' ⟨rfl, rfl⟩)
                  go_roundw
                  case rel => exact ⟨k + 1, by omega, by go_num, HN, trivial⟩
                  case measure => simp [intOf]; omega
            · have f3 : ((s[k].toNat : Int) == 45) = false := by simp only [beq_eq_false_iff_ne, ne_eq]; omega
              by_cases hd : 48 ≤ s[k].toNat ∧ s[k].toNat ≤ 57
              · have f1 : decide ((48 : Int) ≤ (s[k].toNat : Int)) = true := decide_eq_true (by omega)
                have f2 : decide ((s[k].toNat : Int) ≤ 57) = true := decide_eq_true (by omega)
                have HN := Lib.hid (hnext (by
                  rintro (⟨_, h | ⟨h, _⟩⟩ | ⟨h, _⟩)
                  · exact h0 h
                  · exact h hd
                  · exact h45 h))
                clear hnext hbad hlet hI
                go_wp2_with (go_at_call 34; refine (HLt.out _).mono ?_; rintro e w' ⟨rfl, rfl⟩)
                go_roundw
                case rel => exact ⟨k + 1, by omega, by go_num, HN, trivial⟩
                case measure => simp [intOf]; omega
              · have HO := Lib.hid (hbad (.inl ⟨hc, .inr ⟨hd, h45⟩⟩))
                by_cases h48 : 48 ≤ s[k].toNat
                · have f1 : decide ((48 : Int) ≤ (s[k].toNat : Int)) = true := decide_eq_true (by omega)
                  have f2 : decide ((s[k].toNat : Int) ≤ 57) = false := decide_eq_false (by omega)
                  clear hnext hbad hlet hI
                  go_wp2_with (go_at_call 34; refine (HLt.out _).mono ?_; rintro e w' ⟨rfl, rfl⟩)
                  all_goals go_ret
                  all_goals rw [HO.out]
                  all_goals exact ⟨rfl, rfl⟩
                · have f1 : decide ((48 : Int) ≤ (s[k].toNat : Int)) = false := decide_eq_false (by omega)
                  clear hnext hbad hlet hI
                  go_wp2_with (go_at_call 34; refine (HLt.out _).mono ?_; rintro e w' ⟨rfl, rfl⟩)
                  all_goals go_ret
                  all_goals rw [HO.out]
                  all_goals exact ⟨rfl, rfl⟩
      · obtain rfl : k = s.length := by omega
        have hok : okN s = true := (okN_iff s).2 ⟨fun h => by rw [h] at hpos; simp at hpos, hmax, fun j hj => hI.out j hj hj⟩
        have HO := Lib.hid hok
        clear hok hI
        go_wp2_with fail
        go_ret
        rw [HO.out]
        exact ⟨rfl, rfl⟩
end Go.Proofs.Ytfhbgfoebppbaaa
