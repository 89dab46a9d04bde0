/-
  Contracts: package claim: Right, Text.
-/
import Derived.Test.YtapdabebiinnnaaGreatDoorCa
namespace Go.Proofs.YtapdabebiinnnaaGreatDoor
open Go.RowKit

set_option maxHeartbeats 1000000 in
set_option maxRecDepth 100000 in
theorem right_any (c : C) (w : World) (hc : c.fits) :
    Calls Tryz.prog 77 #[c.v] w fun e w' => e = .returned (.bool (okB c)) ∧ Fr w w' := by
  have HI := Lib.hid (okB_iff c)
  have hs := hc.2.2.2
  have hN := lim_ge c.k
  have hN2 := limN_le c.k
  have hT2 := limT_le c.k
  have hS2 := limS_le c.k
  obtain ⟨k, n, t, s⟩ := c
  have HA := Lib.hid (CAt.new w ⟨k, n, t, s⟩)
  simp only at hs hN hN2 hT2 hS2
  obtain ⟨o, ho⟩ : ∃ o, o = okB ⟨k, n, t, s⟩ := ⟨_, rfl⟩
  rw [← ho] at HI ⊢
  have HO := Lib.hid ho
  clear ho hc
  have HL := Lib.hid (limits_any k)
  unfold C.v
  unfold limV at HL
  simp only
  have HI1 := Lib.hid (show o = true ↔ 0 ≤ n ∧ n ≤ limN k ∧ 0 ≤ t ∧ t ≤ limT k ∧ (s.length : Int) ≤ limS k ∧ (k ≠ 0 ∨ (key s).isSome = true) from HI.out)
  clear HI HO
  generalize limN k = a at *
  generalize limT k = b at *
  generalize limS k = d at *
  go_enter Tryz.func77, Tryz.ntmps77
  go_wp2_with fail
  refine (HL.out _).mono ?_
  rintro e w1 ⟨rfl, hf1⟩
  have hA1 := HA.out.fr (hf1.trans (Fr.alloc _ (.cells #[.int .i64 a, .int .i64 b, .int .i64 d] 127)))
  have hf2 := (Fr.alloc w (.cells #[.int .i64 k, .int .i64 n, .int .i64 t, .string (S s)] 35)).trans (hf1.trans (Fr.alloc _ (.cells #[.int .i64 a, .int .i64 b, .int .i64 d] 127)))
  have HF := Lib.hid hf2
  obtain ⟨c0, c1, c2, c3⟩ := hA1
  simp only at c0 c1 c2 c3
  clear hf1 hf2 HA HL
  by_cases hn : 0 ≤ n ∧ n ≤ a
  · by_cases ht : 0 ≤ t ∧ t ≤ b
    · by_cases hl : (s.length : Int) ≤ d
      · by_cases hk : k = 0
        · subst hk
          obtain ⟨y, hy⟩ : ∃ y, y = key s := ⟨_, rfl⟩
          rw [← hy] at HI1
          have HY := Lib.hid hy
          have ho : o = y.isSome := by
            rw [Bool.eq_iff_iff, HI1.out]
            exact ⟨fun h => by rcases h.2.2.2.2.2 with h | h; exact absurd rfl h; exact h, fun h => ⟨hn.1, hn.2, ht.1, ht.2, hl, .inr h⟩⟩
          clear hy HI1
          subst ho
          have hs2 : s.length ≤ 9223372036854775807 := by omega
          go_wp2_with fail
          refine (upTo_yes n a _ hn.1 hn.2).mono ?_
          rintro e w3 ⟨rfl, rfl⟩
          go_wp2_with fail
          refine (upTo_yes t b _ ht.1 ht.2).mono ?_
          rintro e w3 ⟨rfl, rfl⟩
          go_wp2_with fail
          refine (key_any s _ hs2).mono ?_
          rw [← HY.out]
          unfold keyV
          rintro e w4 ⟨rfl, hf4⟩
          cases y
          · go_wp2_with fail
            go_ret
            exact ⟨rfl, HF.out.trans hf4⟩
          · go_wp2_with fail
            go_ret
            exact ⟨rfl, HF.out.trans hf4⟩
        · have hb : (k != 0) = true := bne_iff_ne.2 hk
          have ho : o = true := HI1.out.2 ⟨hn.1, hn.2, ht.1, ht.2, hl, .inl hk⟩
          subst ho
          clear HI1 hk
          go_wp2_with fail
          refine (upTo_yes n a _ hn.1 hn.2).mono ?_
          rintro e w3 ⟨rfl, rfl⟩
          go_wp2_with fail
          refine (upTo_yes t b _ ht.1 ht.2).mono ?_
          rintro e w3 ⟨rfl, rfl⟩
          go_wp2_with fail
          go_ret
          exact ⟨rfl, HF.out⟩
      · have ho : o = false := by cases o with | false => rfl | true => exact absurd (HI1.out.1 rfl).2.2.2.2.1 hl
        subst ho
        clear HI1
        go_wp2_with fail
        refine (upTo_yes n a _ hn.1 hn.2).mono ?_
        rintro e w3 ⟨rfl, rfl⟩
        go_wp2_with fail
        refine (upTo_yes t b _ ht.1 ht.2).mono ?_
        rintro e w3 ⟨rfl, rfl⟩
        go_wp2_with fail
        go_ret
        exact ⟨rfl, HF.out⟩
    · have ho : o = false := by cases o with | false => rfl | true => exact absurd ⟨(HI1.out.1 rfl).2.2.1, (HI1.out.1 rfl).2.2.2.1⟩ ht
      subst ho
      clear HI1
      go_wp2_with fail
      refine (upTo_yes n a _ hn.1 hn.2).mono ?_
      rintro e w3 ⟨rfl, rfl⟩
      go_wp2_with fail
      refine (upTo_no t b _ (by omega)).mono ?_
      rintro e w3 ⟨rfl, rfl⟩
      go_wp2_with fail
      go_ret
      exact ⟨rfl, HF.out⟩
  · have ho : o = false := by cases o with | false => rfl | true => exact absurd ⟨(HI1.out.1 rfl).1, (HI1.out.1 rfl).2.1⟩ hn
    subst ho
    go_wp2_with (go_at_call 100; refine (upTo_no n a _ (by omega)).mono ?_; rintro e w3 ⟨rfl, rfl⟩)
    go_ret
    exact ⟨rfl, HF.out⟩

/-! ### Text -/
theorem run_concat (w : World) (l m : Txt) (h : l.length + m.length ≤ 9223372036854775807) : (Op.stringOp .add (S l) (S m)).run Tryz.prog w = .ok (.string (S (l ++ m))) w := by
  rw [run_string_add_sum w (S l) (S m) (show (S l).size + (S m).size ≤ 9223372036854775807 from h), S_append]
set_option maxRecDepth 100000 in
theorem ret_bool {a b : Bool} (h : a = b) : Ending.returned (.bool a) = .returned (.bool b) := by rw [h]
end Go.Proofs.YtapdabebiinnnaaGreatDoor
