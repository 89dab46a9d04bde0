/-
  The reference's Owner.
-/
import Derived.Test.YtddeblcoglhdnaaKs
import Derived.Deep.RegionHeldLaw
namespace Go.Proofs.Ytddeblcoglhdnaa
open Go.RowKit Mb Go.BigFrame

/-- The index of the last owner so far. -/
def AtO (l : List Ft) (x : Option Ft) (a : Int) : Prop := (a = -1 ∧ x = none) ∨ ∃ (i : Nat) (hi : i < l.length), a = (i : Int) ∧ x = some l[i]
set_option maxRecDepth 100000 in
set_option maxHeartbeats 2000000 in
theorem rowner_any (v : Value) (l : List Ft) (n : Txt) (w : World) (h : FSl w v l) (hl : LB l) :
    Calls Try.prog 11 #[v, .string (S n)] w (OwnP (own l n) w) := by
  have HL := Lib.hid hl
  have hn := hl.len
  obtain ⟨av, ac, rfl⟩ := h.len
  have HV := Lib.hid h
  clear h hl
  go_enter Try.func11, Try.ntmps11
  go_wp2_with fail
  go_loopw [8, 7] (fun vi va wr => ∃ (k : Nat) (a : Int), k ≤ l.length ∧ vi = .int .i64 k ∧ va = .int .i64 a ∧ Hid (AtO l (own (l.take k) n) a) ∧ wr = w) (fun vi _ _ => l.length - (intOf vi).toNat)
  case atStart => exact ⟨0, -1, Nat.zero_le _, rfl, rfl, Lib.hid (.inl ⟨rfl, rfl⟩), rfl⟩
  case round =>
    obtain ⟨k, a, hk, rfl, rfl, hA, rfl⟩ := hrel
    by_cases hlt : k < l.length
    · obtain ⟨g, o, rfl, hat⟩ := HV.out.at k hlt
      have c0 := hat.kind
      have c1 := hat.name
      have hst := own_succ hlt n
      by_cases hK : l[k].kind = 5 ∨ l[k].kind = 4
      · by_cases hN : l[k].name = n
        · have hN' : (l[k].name == n) = true := by simpa using hN
          have hi' : isO l[k] n = true := by
            unfold isO; rw [hN', Bool.and_true]; rcases hK with h | h <;> simp [h]
          rw [if_pos hi'] at hst
          have HST := Lib.hid (show AtO l (own (l.take (k + 1)) n) (k : Int) from .inr ⟨k, hlt, rfl, hst⟩)
          clear hst hi' hN hat HV hA
          generalize l[k].name = z at *
          generalize l[k].kind = kd at *
          rcases hK with rfl | rfl
          all_goals
            go_wp2_with fail
            go_roundw
            case rel => exact ⟨k + 1, (k : Int), by omega, by go_num, rfl, HST, trivial⟩
            case measure => simp [intOf]; omega
        · have hN' : (l[k].name == n) = false := by simpa using hN
          have hi' : ¬ isO l[k] n = true := by
            unfold isO; rw [hN', Bool.and_false]; decide
          rw [if_neg hi'] at hst
          have HST := Lib.hid (show AtO l (own (l.take (k + 1)) n) a by rw [hst]; exact hA.out)
          clear hst hi' hN hat HV hA
          generalize l[k].name = z at *
          generalize l[k].kind = kd at *
          rcases hK with rfl | rfl
          all_goals
            go_wp2_with fail
            go_roundw
            case rel => exact ⟨k + 1, a, by omega, by go_num, rfl, HST, trivial⟩
            case measure => simp [intOf]; omega
      · have e5 : (l[k].kind == 5) = false := by simp; omega
        have e4 : (l[k].kind == 4) = false := by simp; omega
        have hi' : ¬ isO l[k] n = true := by
          unfold isO
          rw [decide_eq_false (fun h => hK (.inl h)), decide_eq_false (fun h => hK (.inr h))]
          simp
        rw [if_neg hi'] at hst
        have HST := Lib.hid (show AtO l (own (l.take (k + 1)) n) a by rw [hst]; exact hA.out)
        clear hst hi' hK hat HV hA
        generalize l[k].name = z at *
        generalize l[k].kind = kd at *
        go_wp2_with fail
        go_roundw
        case rel => exact ⟨k + 1, a, by omega, by go_num, rfl, HST, trivial⟩
        case measure => simp [intOf]; omega
    · have hkl : k = l.length := by omega
      have hA2 := hA.out
      rw [show l.take k = l by rw [hkl, List.take_length]] at hA2
      rcases hA2 with ⟨rfl, hx⟩ | ⟨i, hi, rfl, hx⟩
      · have HX := Lib.hid hx
        clear hA hx
        go_wp2_with fail
        go_ret3
        rw [HX.out]
        exact ⟨_, rfl, Sl.nil _ _ _, Fr.refl _⟩
      · have HX := Lib.hid hx
        obtain ⟨g, o, rfl, hat⟩ := HV.out.at i hi
        have c25 := hat.need
        obtain ⟨kv, c24, hkv⟩ := hat.keys
        have HKV := Lib.hid hkv
        have hkl2 := (HL.out.get hi).keys.len
        have hni : ((i : Int) < 0) = False := by simp
        generalize l[i] = f at *
        clear hA hx hat hkv hni
        go_wp2_with fail
        go_region_held_law (fun w' => w'.cell? ⟨g, o + i * 29 + 24, none⟩ = some kv ∧ w'.cell? ⟨g, o + i * 29 + 25, none⟩ = some (.int .i64 f.need))
          (first | exact hc2 | exact ⟨c24, c25⟩ | exact ⟨(Fr.alloc wr _).cell c24, (Fr.alloc wr _).cell c25⟩)
          ((refine step_append_ints (op := ⟨some 47, _, _, _, _, _⟩) (by rfl) (.tmp 41) (.tmp 46) (by rfl) wr.heap.size _ 0 [] (by rfl) (row0i wr.drew) kv f.keys (by rfl) (HKV.out.fr ((Fr.drew wr).trans (Fr.alloc _ _))) (by omega) (by simp) ?_; intro v' w1 hown hgr; have hf1 : Fr wr w1 := Fr.growO ((Fr.drew wr).trans (Fr.alloc _ _)) hgr (fun k hk => (by simp [Value.ownBlock] at hk; omega)); have hc2 := And.intro (hf1.cell c24) (hf1.cell c25); have HF1 := Lib.hid hf1; have HO1 := Lib.hid (Sl.own (l := f.keys) hown); clear hown hgr hf1))
        all_goals
          go_wp2_with fail
          go_ret3
          rw [HX.out]
          exact ⟨_, rfl, HO1.out, HF1.out⟩
end Go.Proofs.Ytddeblcoglhdnaa
