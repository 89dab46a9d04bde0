/-
  The reference's Put.
-/
import Derived.Test.YtpjoekjakjajcaaFf
namespace Go.Proofs.Ytpjoekjakjajcaa
open Go.RowKit

def sLen : Value → Nat
  | .slice _ n _ => n
  | _ => 0
/-- t over F at a place, so far as k bytes. -/
def overL (F : Txt) (at_ : Nat) (t : Txt) (k : Nat) : Txt := F.take at_ ++ (t.take k ++ F.drop (at_ + k))
theorem overL_zero (F : Txt) (at_ : Nat) (t : Txt) : overL F at_ t 0 = F := by simp [overL]
theorem overL_len (F : Txt) (at_ : Nat) (t : Txt) (k : Nat) (hk : k ≤ t.length) (h : at_ + t.length ≤ F.length) : (overL F at_ t k).length = F.length := by
  simp [overL]; omega
theorem overL_get (F : Txt) (at_ : Nat) (t : Txt) (k : Nat) (hk : k ≤ t.length) (h : at_ + t.length ≤ F.length) (j : Nat) :
    (overL F at_ t k)[j]? = if at_ ≤ j ∧ j < at_ + k then t[j - at_]? else F[j]? := by
  have h1 : (F.take at_).length = at_ := by rw [List.length_take]; omega
  have h2 : (t.take k).length = k := by rw [List.length_take]; omega
  unfold overL
  by_cases c1 : j < at_
  · rw [List.getElem?_append_left (by omega), if_neg (by omega), List.getElem?_take, if_pos c1]
  · rw [List.getElem?_append_right (by omega), h1]
    by_cases c2 : j < at_ + k
    · rw [if_pos ⟨by omega, c2⟩, List.getElem?_append_left (by omega), List.getElem?_take, if_pos (by omega)]
    · rw [if_neg (by omega), List.getElem?_append_right (by omega), h2, List.getElem?_drop]
      congr 1; omega
theorem overL_step (F : Txt) (at_ : Nat) (t : Txt) (k : Nat) (hk : k < t.length) (h : at_ + t.length ≤ F.length) (j : Nat) (hj : j < (overL F at_ t (k + 1)).length) :
    (j = at_ + k ∧ (overL F at_ t (k + 1))[j] = t[k]) ∨ (j ≠ at_ + k ∧ ∃ h' : j < (overL F at_ t k).length, (overL F at_ t (k + 1))[j] = (overL F at_ t k)[j]) := by
  have l1 := overL_len F at_ t (k + 1) (by omega) h
  have l0 := overL_len F at_ t k (by omega) h
  have e1 := overL_get F at_ t (k + 1) (by omega) h j
  have e0 := overL_get F at_ t k (by omega) h j
  rw [List.getElem?_eq_getElem hj] at e1
  by_cases c : j = at_ + k
  · refine .inl ⟨c, ?_⟩
    rw [if_pos (by omega), show j - at_ = k by omega, List.getElem?_eq_getElem hk] at e1
    exact Option.some.inj e1
  · refine .inr ⟨c, by omega, ?_⟩
    rw [List.getElem?_eq_getElem (show j < (overL F at_ t k).length by omega)] at e0
    apply Option.some.inj
    rw [e1, e0]
    by_cases c2 : at_ ≤ j ∧ j < at_ + k
    · rw [if_pos ⟨c2.1, by omega⟩, if_pos c2]
    · rw [if_neg (by omega), if_neg c2]
theorem fill_of (s : Txt) (m n : Nat) (h1 : m ≤ n - s.length) (h2 : n ≤ s.length + m) : s ++ List.replicate m 0 = fillL s n := by
  unfold fillL
  rw [show m = n - s.length by omega]
theorem put_of (s : Txt) (at_ : Nat) (t : Txt) (ht : t ≠ []) : overL (fillL s (at_ + t.length)) at_ t t.length = putL s at_ t := by
  unfold overL putL
  rw [if_neg ht, List.take_length]

set_option maxHeartbeats 4000000 in
set_option maxRecDepth 100000 in
theorem rput_any (s : Txt) (at_ : Nat) (t : Txt) (w : World) (_hs : s.length ≤ 16777216) (ha : at_ + t.length ≤ 16777216) :
    Calls Try.prog 58 #[.string (S s), .int .i64 at_, .string (S t)] w fun e w' => e = .returned (.string (S (putL s at_ t))) ∧ Fr w w' := by
  by_cases ht : t = []
  · have HP := Lib.hid (show putL s at_ t = s by unfold putL; rw [if_pos ht])
    subst ht
    go_enter Try.func58, Try.ntmps58
    go_wp2
    go_ret
    exact ⟨by rw [HP.out]; rfl, .refl _⟩
  have HP := Lib.hid (put_of s at_ t ht)
  have htl : 0 < t.length := List.length_pos_iff.2 ht
  have HT := Lib.hid ht
  clear ht
  have hne : t.isEmpty = false := by cases t with | nil => simp at htl | cons _ _ => rfl
  have hcv := Lib.run_convert_string_bytes (P := Try.prog) w 9 74 5 (S s) Try.underlying9 Try.underlying74 Try.underlying5
  have H0 := Lib.hid (ByAt.ofString w s)
  go_enter Try.func58, Try.ntmps58
  go_wp2_with fail
  go_loopw [7] (fun v wr => ∃ (m G cap : Nat), m ≤ (at_ + t.length) - s.length ∧ v = .slice (some ⟨G, 0, none⟩) (s.length + m) cap ∧ Hid (ByAt w wr G cap (s ++ List.replicate m 0))) (fun v _ => (at_ + t.length) - sLen v)
  case atStart => exact ⟨0, _, _, Nat.zero_le _, rfl, by simpa using H0⟩
  case round =>
    obtain ⟨m, G, cap, hm, rfl, HB⟩ := hrel
    clear H0 hcv hne
    by_cases hlt : s.length + m < at_ + t.length
    · go_wp2_with (at_builtin; refine wpList_byte rfl _ _ rfl HB.out (by rw [List.length_append, List.length_replicate]; rfl) 1 rfl (by rw [List.length_append, List.length_replicate]; omega) ?_; intro G' cap' w3 h3)
      go_wp2_with fail
      have H3 : Hid (ByAt w w3 G' cap' (s ++ List.replicate (m + 1) 0)) := Lib.hid (by rw [List.replicate_succ', ← List.append_assoc]; exact h3)
      clear h3
      go_roundw
      case rel => exact ⟨m + 1, _, _, by omega, by rw [Nat.add_assoc], H3⟩
      case measure => simp [sLen]; omega
    · have HF := Lib.hid (fill_of s m (at_ + t.length) hm (by omega))
      rw [HF.out] at HB
      have hFl : (fillL s (at_ + t.length)).length = s.length + m := by rw [← HF.out]; simp
      have HFl := Lib.hid hFl
      generalize fillL s (at_ + t.length) = F at *
      go_wp2_with fail
      go_loopw [8] (fun i wr => ∃ (k : Nat), k ≤ t.length ∧ i = .int .i64 k ∧ Hid (ByAt w wr G cap (overL F at_ t k))) (fun i _ => t.length - (intOf i).toNat)
      case atStart => exact ⟨0, Nat.zero_le _, by go_num, by rw [overL_zero]; exact HB⟩
      case round =>
        obtain ⟨k, hk, rfl, HK⟩ := hrel
        clear HB
        by_cases hlk : k < t.length
        · have hin : at_ + k < s.length + m := by omega
          have hle := HK.out.le
          rw [overL_len F at_ t k (by omega) (by omega), hFl] at hle
          have hth := HK.out.there (at_ + k) (by omega)
          obtain ⟨u, hu⟩ := Option.isSome_iff_exists.1 hth.1
          have hfz := hth.2
          have H4 := Lib.hid (HK.out.set (at_ + k) (by omega) (t[k]) (overL F at_ t (k + 1)) (by rw [overL_len F at_ t (k + 1) (by omega) (by omega)]; omega) (overL_step F at_ t k hlk (by omega)))
          clear hth HK
          generalize ht : t[k] = x at *
          go_wp2_with fail
          go_roundw
          case rel => exact ⟨k + 1, by omega, by go_num, H4⟩
          case measure => simp [intOf]; omega
        · obtain rfl : k = t.length := by omega
          have hb := HK.out
          rw [HP.out] at hb
          have hPl : (putL s at_ t).length = s.length + m := by rw [← HP.out, overL_len F at_ t _ (Nat.le_refl _) (by omega), hFl]
          have hc2 := hb.conv cap
          rw [hPl] at hc2
          have HFR := Lib.hid hb.fr
          clear hb hPl
          go_wp2_with fail
          go_ret
          exact ⟨rfl, HFR.out⟩
end Go.Proofs.Ytpjoekjakjajcaa
