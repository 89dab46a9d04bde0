/-
  The reference's Delegates.
-/
import Derived.Test.YtddeblcoglhdnaaRa
namespace Go.Proofs.Ytddeblcoglhdnaa
open Go.RowKit Mb Go.BigFrame

set_option maxRecDepth 100000 in
set_option maxHeartbeats 2000000 in
theorem rdelegates_any (v : Value) (l : List Ft) (n : Txt) (w : World) (h : FSl w v l) (hl : LB l) :
    Calls Try.prog 13 #[v, .string (S n)] w (DlgP (dlg l n) w) := by
  have HL := Lib.hid hl
  have hn := hl.len
  obtain ⟨av, ac, rfl⟩ := h.len
  have HV := Lib.hid h
  clear h hl
  go_enter Try.func13, Try.ntmps13
  go_wp2_with fail
  go_loopw [8, 7] (fun vi va wr => ∃ (k : Nat) (a : Int), k ≤ l.length ∧ vi = .int .i64 k ∧ va = .int .i64 a ∧ Hid (AtO l (dlg (l.take k) n) a) ∧ wr = w) (fun vi _ _ => l.length - (intOf vi).toNat)
  case atStart => exact ⟨0, -1, Nat.zero_le _, rfl, rfl, Lib.hid (.inl ⟨rfl, rfl⟩), rfl⟩
  case round =>
    obtain ⟨k, a, hk, rfl, rfl, hA, rfl⟩ := hrel
    by_cases hlt : k < l.length
    · obtain ⟨g, o, rfl, hat⟩ := HV.out.at k hlt
      have c0 := hat.kind
      have c1 := hat.name
      have hst := dlg_succ hlt n
      by_cases hN : l[k].name = n
      · have hN' : (l[k].name == n) = true := by simpa using hN
        by_cases h5 : l[k].kind = 5
        · rw [if_pos ⟨h5, hN⟩] at hst
          have HST := Lib.hid (show AtO l (dlg (l.take (k + 1)) n) (-1) from .inl ⟨rfl, hst⟩)
          rw [h5] at c0
          clear hst hN hat HV hA h5
          generalize l[k].name = z at *
          go_wp2_with fail
          go_roundw
          case rel => exact ⟨k + 1, -1, by omega, by go_num, rfl, HST, trivial⟩
          case measure => simp [intOf]; omega
        · have e5 : (l[k].kind == 5) = false := by simpa using h5
          rw [if_neg (fun h => h5 h.1)] at hst
          by_cases h6 : l[k].kind = 6
          · rw [if_pos ⟨h6, hN⟩] at hst
            have HST := Lib.hid (show AtO l (dlg (l.take (k + 1)) n) (k : Int) from .inr ⟨k, hlt, rfl, hst⟩)
            rw [h6] at c0
            clear hst hN hat HV hA h5 e5 h6
            generalize l[k].name = z at *
            go_wp2_with fail
            go_roundw
            case rel => exact ⟨k + 1, (k : Int), by omega, by go_num, rfl, HST, trivial⟩
            case measure => simp [intOf]; omega
          · have e6 : (l[k].kind == 6) = false := by simpa using h6
            rw [if_neg (fun h => h6 h.1)] at hst
            have HST := Lib.hid (show AtO l (dlg (l.take (k + 1)) n) a by rw [hst]; exact hA.out)
            clear hst hN hat HV hA h5 h6
            generalize l[k].name = z at *
            generalize l[k].kind = kd at *
            go_wp2_with fail
            go_roundw
            case rel => exact ⟨k + 1, a, by omega, by go_num, rfl, HST, trivial⟩
            case measure => simp [intOf]; omega
      · have hN' : (l[k].name == n) = false := by simpa using hN
        rw [if_neg (fun h => hN h.2), if_neg (fun h => hN h.2)] at hst
        have HST := Lib.hid (show AtO l (dlg (l.take (k + 1)) n) a by rw [hst]; exact hA.out)
        clear hst hN hat HV hA
        generalize l[k].name = z at *
        generalize l[k].kind = kd at *
        go_wp2_with fail
        go_roundw
        case rel => exact ⟨k + 1, a, by omega, by go_num, rfl, HST, trivial⟩
        case measure => simp [intOf]; omega
    · have hkl : k = l.length := by omega
      have hA2 := hA.out
      rw [show l.take k = l by rw [hkl, List.take_length]] at hA2
      rcases hA2 with ⟨rfl, hx⟩ | ⟨i, hi, rfl, hx⟩
      · have HX := Lib.hid hx
        clear hA hx
        go_wp2_with fail
        go_ret3
        rw [HX.out]
        exact ⟨_, rfl, Sl.nil _ _ _, Fr.refl _⟩
      · have HX := Lib.hid hx
        obtain ⟨g, o, rfl, hat⟩ := HV.out.at i hi
        have c25 := hat.need
        have c26 := hat.til
        obtain ⟨kv, c24, hkv⟩ := hat.keys
        have HKV := Lib.hid hkv
        have hkl2 := (HL.out.get hi).keys.len
        have hni : ((i : Int) < 0) = False := by simp
        generalize l[i] = f at *
        clear hA hx hat hkv hni
        go_wp2_with fail
        go_region_held_law (fun w' => w'.cell? ⟨g, o + i * 29 + 24, none⟩ = some kv ∧ w'.cell? ⟨g, o + i * 29 + 25, none⟩ = some (.int .i64 f.need) ∧ w'.cell? ⟨g, o + i * 29 + 26, none⟩ = some (.int .i64 f.til))
          (first | exact hc2 | exact ⟨c24, c25, c26⟩ | exact ⟨(Fr.alloc wr _).cell c24, (Fr.alloc wr _).cell c25, (Fr.alloc wr _).cell c26⟩)
          ((refine step_append_ints (op := ⟨some 54, _, _, _, _, _⟩) (by rfl) (.tmp 48) (.tmp 53) (by rfl) wr.heap.size _ 0 [] (by rfl) (row0i wr.drew) kv f.keys (by rfl) (HKV.out.fr ((Fr.drew wr).trans (Fr.alloc _ _))) (by omega) (by simp) ?_; intro v' w1 hown hgr; have hf1 : Fr wr w1 := Fr.growO ((Fr.drew wr).trans (Fr.alloc _ _)) hgr (fun k hk => (by simp [Value.ownBlock] at hk; omega)); have hc2 := And.intro (hf1.cell c24) (And.intro (hf1.cell c25) (hf1.cell c26)); have HF1 := Lib.hid hf1; have HO1 := Lib.hid (Sl.own (l := f.keys) hown); clear hown hgr hf1))
        all_goals
          go_wp2_with fail
          go_ret3
          rw [HX.out]
          exact ⟨_, rfl, HO1.out, HF1.out⟩
end Go.Proofs.Ytddeblcoglhdnaa
