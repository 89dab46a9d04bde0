/-
  The law's few; ContentPrints.
-/
import Derived.Test.YthibdppjhfhomaaCf
namespace Go.Proofs.Ythibdppjhfhomaa
open Go.RowKit Go.MapKept Go.Maps Go.WideMaps

def Few (l : List Txt) : Prop := l.length ≤ 24 ∧ ∀ s ∈ l, s.length ≤ 100
instance (l : List Txt) : Decidable (Few l) := by unfold Few; exact inferInstance
theorem Few.ok {l : List Txt} (h : Few l) : Ok l ∧ tot l ≤ 2400 := by
  have h1 := tot_le h.2
  have h2 := h.1
  have h3 : l.length * 100 ≤ 24 * 100 := Nat.mul_le_mul_right _ h2
  exact ⟨⟨by omega, by omega⟩, by omega⟩
theorem few_at (b o c : Nat) (l : List Txt) (w : World) (hc : At w b o l) (hn : l.length ≤ 9223372036854775807) (hs : ∀ s ∈ l, s.length ≤ maxLen) :
    Calls Try.prog 9 #[.slice (some ⟨b, o, none⟩) l.length c] w fun e w' => e = .returned (.bool (decide (Few l))) ∧ w' = w := by
  have HC := Lib.hid hc
  have HS := Lib.hid hs
  clear hc hs
  go_enter Try.func9, Try.ntmps9
  go_wp2_with fail
  go_loopw [3] (fun i wr => ∃ k : Nat, k ≤ l.length ∧ k ≤ 25 ∧ i = .int .i64 k ∧ wr = w ∧ Hid (∀ (j : Nat) (h : j < k) (h' : j < l.length), l[j].length ≤ 100)) (fun i _ => l.length - (intOf i).toNat)
  case atStart => exact ⟨0, Nat.zero_le _, by omega, rfl, rfl, Lib.hid (fun j h => by omega)⟩
  case round =>
    obtain ⟨k, hk, hk2, rfl, rfl, hA⟩ := hrel
    by_cases hlt : k < l.length
    · by_cases h25 : k < 25
      · have c1 := HC.out k hlt
        have hsl := HS.out _ (List.getElem_mem hlt)
        unfold maxLen at hsl
        by_cases hb : l[k].length ≤ 100
        · have HA := Lib.hid (show ∀ (j : Nat) (h : j < k + 1) (h' : j < l.length), l[j].length ≤ 100 from fun j h h' => by
            rcases Nat.lt_or_ge j k with hj | hj
            · exact hA.out j hj h'
            · obtain rfl : j = k := by omega
              exact hb)
          clear hA
          generalize l[k] = x at *
          go_wp2_with fail
          go_roundw
          case rel => exact ⟨k + 1, by omega, by omega, by go_num, trivial, HA⟩
          case measure => simp [intOf]; omega
        · have HD := Lib.hid (show decide (Few l) = false from decide_eq_false (fun h => hb (h.2 _ (List.getElem_mem hlt))))
          clear hA
          generalize l[k] = x at *
          go_wp2_with fail
          go_ret
          exact ⟨by rw [HD.out]; rfl, rfl⟩
      · have HD := Lib.hid (show decide (Few l) = false from decide_eq_false (fun h => by have := h.1; omega))
        clear hA
        go_wp2_with fail
        go_ret
        refine ⟨?_, rfl⟩
        rw [HD.out]
        have : ¬ ((l.length : Int) ≤ 24) := by omega
        simp [this]
    · have HD := Lib.hid (show decide (Few l) = decide ((l.length : Int) ≤ 24) by
        rw [Bool.eq_iff_iff]
        simp only [decide_eq_true_eq]
        constructor
        · intro h; have := h.1; omega
        · intro h
          refine ⟨by omega, fun s hs => ?_⟩
          obtain ⟨j, hj, rfl⟩ := List.getElem_of_mem hs
          exact hA.out j (by omega) hj)
      clear hA
      go_wp2_with fail
      go_ret
      exact ⟨by rw [HD.out]; rfl, rfl⟩
theorem few_nil (a : Option Addr) (c : Nat) (w : World) :
    Calls Try.prog 9 #[.slice a 0 c] w fun e w' => e = .returned (.bool true) ∧ w' = w := by
  go_enter Try.func9, Try.ntmps9
  go_wp2_with fail
  go_loopw [3] (fun i wr => i = .int .i64 0 ∧ wr = w) (fun _ _ => 0)
  case atStart => exact ⟨rfl, rfl⟩
  case round =>
    obtain ⟨rfl, rfl⟩ := hrel
    go_wp2_with fail
    go_ret
    exact ⟨rfl, rfl⟩
theorem few_any {v : Value} {l : List Txt} (w : World) (h : Sl w v l) (hn : l.length ≤ 9223372036854775807) (hs : ∀ s ∈ l, s.length ≤ maxLen) :
    Calls Try.prog 9 #[v] w fun e w' => e = .returned (.bool (decide (Few l))) ∧ w' = w := by
  rcases h.cases with ⟨rfl, a, c, rfl⟩ | ⟨b, o, c, rfl, hc⟩
  · exact few_nil a c w
  · exact few_at b o c l w hc hn hs
theorem few_yes {v : Value} {l : List Txt} (w : World) (h : Sl w v l) (hn : l.length ≤ 9223372036854775807) (hs : ∀ s ∈ l, s.length ≤ maxLen) (hf : Few l) :
    Calls Try.prog 9 #[v] w fun e w' => e = .returned (.bool true) ∧ w' = w :=
  (few_any w h hn hs).mono fun _ _ ⟨he, hw⟩ => ⟨by rw [he, decide_eq_true hf], hw⟩
theorem few_no {v : Value} {l : List Txt} (w : World) (h : Sl w v l) (hn : l.length ≤ 9223372036854775807) (hs : ∀ s ∈ l, s.length ≤ maxLen) (hf : ¬ Few l) :
    Calls Try.prog 9 #[v] w fun e w' => e = .returned (.bool false) ∧ w' = w :=
  (few_any w h hn hs).mono fun _ _ ⟨he, hw⟩ => ⟨by rw [he, decide_eq_false hf], hw⟩

/-- What is known of the arguments. -/
def Arg (l : List Txt) : Prop := l.length ≤ 9223372036854775807 ∧ ∀ s ∈ l, s.length ≤ maxLen

set_option maxHeartbeats 1000000 in
set_option maxRecDepth 100000 in
theorem prints_not (v : Value) (l : List Txt) (s : Txt) (n : Int) (w : World) (h : Sl w v l) (ha : Arg l) (hs : s.length ≤ 9223372036854775807) (hf : ¬ (Few l ∧ s.length ≤ 100 ∧ Rt l)) :
    Calls Try.prog 5 #[v, .string (S s), .int .i64 n] w fun e w' => e = .returned (.bool true) ∧ Fr w w' := by
  have H := Lib.hid h
  have HA := Lib.hid ha
  have HF := Lib.hid hf
  clear h ha hf
  go_enter Try.func5, Try.ntmps5
  by_cases hfew : Few l
  · have HFew := Lib.hid hfew
    clear hfew
    by_cases hlen : s.length ≤ 100
    · have HR := Lib.hid (show ¬ Rt l from fun h => HF.out ⟨HFew.out, hlen, h⟩)
      go_wp2_with (first
        | (go_at_call 20; refine (right_bad _ (H.out.fr hf1) HFew.out.ok.1 HR.out).mono ?_; rintro e w3 ⟨rfl, hf3⟩)
        | (go_at_call 9; refine (few_yes _ (H.out.fr hf1) HA.out.1 HA.out.2 HFew.out).mono ?_; rintro e w2 ⟨rfl, rfl⟩)
        | (go_at_call 8; refine (small_any _).mono ?_; rintro e w1 ⟨rfl, hf1⟩))
      go_ret
      exact ⟨rfl, hf1.trans hf3⟩
    · go_wp2_with (first
        | (go_at_call 9; refine (few_yes _ (H.out.fr hf1) HA.out.1 HA.out.2 HFew.out).mono ?_; rintro e w2 ⟨rfl, rfl⟩)
        | (go_at_call 8; refine (small_any _).mono ?_; rintro e w1 ⟨rfl, hf1⟩))
      go_ret
      exact ⟨rfl, hf1⟩
  · have HFew := Lib.hid hfew
    clear hfew
    go_wp2_with (first
      | (go_at_call 9; refine (few_no _ (H.out.fr hf1) HA.out.1 HA.out.2 HFew.out).mono ?_; rintro e w2 ⟨rfl, rfl⟩)
      | (go_at_call 8; refine (small_any _).mono ?_; rintro e w1 ⟨rfl, hf1⟩))
    go_ret
    exact ⟨rfl, hf1⟩

theorem mem_take_succ (l : List Txt) (s : Txt) (k : Nat) (hk : k < l.length) : decide (s ∈ l.take (k + 1)) = (decide (s ∈ l.take k) || (l[k] == s)) := by
  rw [List.take_succ_eq_append_getElem hk, Bool.eq_iff_iff]
  simp only [decide_eq_true_eq, Bool.or_eq_true, beq_iff_eq, List.mem_append, List.mem_singleton]
  exact ⟨fun h => h.imp id Eq.symm, fun h => h.imp id Eq.symm⟩
theorem prt_at {l : List Txt} (hl : l.Nodup) {k : Nat} (hk : k < l.length) : prt l l[k] = (k : Int) := by
  unfold prt
  rw [pm_at hl (List.getElem?_eq_getElem hk)]

theorem txt_cases (l : List Txt) (n : Int) : (∃ t, txt l n = some t ∧ 0 ≤ n ∧ n < l.length) ∨ (txt l n = none ∧ n < 0) ∨ (txt l n = none ∧ (l.length : Int) ≤ n) := by
  unfold txt
  by_cases h0 : n < 0
  · exact .inr (.inl ⟨by rw [if_pos h0], h0⟩)
  · rw [if_neg h0]
    by_cases h1 : n < l.length
    · exact .inl ⟨l[n.toNat]'(by omega), List.getElem?_eq_getElem (by omega), by omega, h1⟩
    · exact .inr (.inr ⟨List.getElem?_eq_none (by omega), by omega⟩)

set_option maxHeartbeats 4000000 in
set_option maxRecDepth 100000 in
theorem prints_yes (ad : Option Addr) (c : Nat) (l : List Txt) (s : Txt) (n : Int) (w : World) (h : Sl w (.slice ad l.length c) l) (hfew : Few l) (hs : s.length ≤ 100) (hr : Rt l) (hn0 : -9223372036854775808 ≤ n) (hn1 : n ≤ 9223372036854775807) :
    Calls Try.prog 5 #[.slice ad l.length c, .string (S s), .int .i64 n] w fun e w' => e = .returned (.bool true) ∧ Fr w w' := by
  have H := Lib.hid h
  have HO := Lib.hid hfew.ok.1
  have HFew := Lib.hid hfew
  have HR := Lib.hid hr
  have hll := hfew.1
  clear h hfew hr
  go_enter Try.func5, Try.ntmps5
  go_upto_region 4 with (first
    | (go_at_call 20; refine (right_good _ (H.out.fr hf1) HO.out HR.out).mono ?_; rintro e w3 ⟨rfl, hf3⟩)
    | (go_at_call 9; refine (few_yes _ (H.out.fr hf1) (by omega) (fun s hs => by have := HFew.out.2 s hs; unfold maxLen; omega) HFew.out).mono ?_; rintro e w2 ⟨rfl, rfl⟩)
    | (go_at_call 8; refine (small_any _).mono ?_; rintro e w1 ⟨rfl, hf1⟩))
  have HF := Lib.hid (hf1.trans hf3)
  clear hf1 hf3
  go_wp2_with fail
  go_loopw [8, 9] (fun b i wr => ∃ k : Nat, k ≤ l.length ∧ i = .int .i64 k ∧ b = .bool (decide (s ∈ l.take k)) ∧ Hid (Fr w wr)) (fun _ i _ => l.length - (intOf i).toNat)
  case atStart => exact ⟨0, Nat.zero_le _, rfl, by simp, HF⟩
  case round =>
    obtain ⟨k, hk, rfl, rfl, hF⟩ := hrel
    by_cases hlt : k < l.length
    · rcases (H.out.fr hF.out) with ⟨hb0, _⟩ | ⟨B, o, c', hv, hc, _⟩
      · rw [hb0] at hlt; simp at hlt
      · obtain ⟨rfl, rfl⟩ : ad = some ⟨B, o, none⟩ ∧ c = c' := by simpa using hv
        have c1 := hc k hlt
        have HP := Lib.hid (prt_at HR.out.1 hlt)
        have HT := Lib.hid (mem_take_succ l s k hlt)
        have hsl := HFew.out.2 _ (List.getElem_mem hlt)
        clear hc hv
        generalize l[k] = x at *
        generalize decide (s ∈ l.take k) = bt at *
        go_wp2_with (go_at_call 22; refine (print_any _ l x _ (H.out.fr hF.out) HO.out (by omega)).mono ?_; rw [HP.out]; rintro e w4 ⟨rfl, hf4⟩; have c2 := hf4.cell c1)
        all_goals
          go_roundw
          case rel => exact ⟨k + 1, by omega, by go_num, by rw [HT.out]; simp [*], Lib.hid (hF.out.trans hf4)⟩
          case measure => simp [intOf]; omega
    · obtain rfl : k = l.length := by omega
      have htk : decide (s ∈ l.take l.length) = decide (s ∈ l) := by rw [List.take_length]
      rw [htk]
      clear htk hlt hk
      cases hp : pm 0 l s with
      | some k =>
        have hin : decide (s ∈ l) = true := decide_eq_true (mem_of_pm hp)
        rw [hin]
        have HP := Lib.hid (show prt l s = (k : Int) by unfold prt; rw [hp])
        have hk := (pm_some hp).2.1
        have HT2 := Lib.hid (show txt l (k : Int) = some s by
          have := (pm_some hp).2.2
          unfold txt
          rw [if_neg (by omega), Int.toNat_natCast]
          simpa using this)
        clear hin hp
        rcases txt_cases l n with ⟨t, hn, h0, h1⟩ | ⟨hn, h0⟩ | ⟨hn, h1⟩
        · have HN := Lib.hid hn
          clear hn
          go_wp2_with (first
            | (go_at_call 18; refine (text_some _ (H.out.fr (hF.out.trans (hf4.trans hf5))) HO.out (by omega) (by omega) HT2.out).mono ?_; rintro e w6 ⟨rfl, hf6⟩)
            | (go_at_call 18; refine (text_some _ (H.out.fr (hF.out.trans hf4)) HO.out hn0 hn1 HN.out).mono ?_; rintro e w5 ⟨rfl, hf5⟩)
            | (go_at_call 22; refine (print_any _ l s _ (H.out.fr hF.out) HO.out (by omega)).mono ?_; rw [HP.out]; rintro e w4 ⟨rfl, hf4⟩))
          go_ret
          exact ⟨by first | rfl | (have hd : decide (n < (l.length : Int)) = false := decide_eq_false (by omega); rw [hd]; rfl), hF.out.trans (hf4.trans (hf5.trans hf6))⟩
        · have HN := Lib.hid hn
          clear hn
          go_wp2_with (first
            | (go_at_call 18; refine (text_some _ (H.out.fr (hF.out.trans (hf4.trans hf5))) HO.out (by omega) (by omega) HT2.out).mono ?_; rintro e w6 ⟨rfl, hf6⟩)
            | (go_at_call 18; refine (text_none _ (H.out.fr (hF.out.trans hf4)) HO.out hn0 hn1 HN.out).mono ?_; rintro e w5 ⟨rfl, hf5⟩)
            | (go_at_call 22; refine (print_any _ l s _ (H.out.fr hF.out) HO.out (by omega)).mono ?_; rw [HP.out]; rintro e w4 ⟨rfl, hf4⟩))
          go_ret
          exact ⟨by first | rfl | (have hd : decide (n < (l.length : Int)) = false := decide_eq_false (by omega); rw [hd]; rfl), hF.out.trans (hf4.trans (hf5.trans hf6))⟩
        · have HN := Lib.hid hn
          clear hn
          go_wp2_with (first
            | (go_at_call 18; refine (text_some _ (H.out.fr (hF.out.trans (hf4.trans hf5))) HO.out (by omega) (by omega) HT2.out).mono ?_; rintro e w6 ⟨rfl, hf6⟩)
            | (go_at_call 18; refine (text_none _ (H.out.fr (hF.out.trans hf4)) HO.out hn0 hn1 HN.out).mono ?_; rintro e w5 ⟨rfl, hf5⟩)
            | (go_at_call 22; refine (print_any _ l s _ (H.out.fr hF.out) HO.out (by omega)).mono ?_; rw [HP.out]; rintro e w4 ⟨rfl, hf4⟩))
          go_ret
          exact ⟨by first | rfl | (have hd : decide (n < (l.length : Int)) = false := decide_eq_false (by omega); rw [hd]; rfl), hF.out.trans (hf4.trans (hf5.trans hf6))⟩
      | none =>
        have hin : decide (s ∈ l) = false := decide_eq_false (pm_none.1 hp)
        rw [hin]
        have HP := Lib.hid (show prt l s = -1 by unfold prt; rw [hp])
        have HT2 := Lib.hid (show txt l (-1) = none by unfold txt; rw [if_pos (by omega)])
        clear hin hp
        rcases txt_cases l n with ⟨t, hn, h0, h1⟩ | ⟨hn, h0⟩ | ⟨hn, h1⟩
        · have HN := Lib.hid hn
          clear hn
          go_wp2_with (first
            | (go_at_call 18; refine (text_none _ (H.out.fr (hF.out.trans (hf4.trans hf5))) HO.out (by omega) (by omega) HT2.out).mono ?_; rintro e w6 ⟨rfl, hf6⟩)
            | (go_at_call 18; refine (text_some _ (H.out.fr (hF.out.trans hf4)) HO.out hn0 hn1 HN.out).mono ?_; rintro e w5 ⟨rfl, hf5⟩)
            | (go_at_call 22; refine (print_any _ l s _ (H.out.fr hF.out) HO.out (by omega)).mono ?_; rw [HP.out]; rintro e w4 ⟨rfl, hf4⟩))
          go_ret
          exact ⟨by first | rfl | (have hd : decide (n < (l.length : Int)) = false := decide_eq_false (by omega); rw [hd]; rfl), hF.out.trans (hf4.trans (hf5.trans hf6))⟩
        · have HN := Lib.hid hn
          clear hn
          go_wp2_with (first
            | (go_at_call 18; refine (text_none _ (H.out.fr (hF.out.trans (hf4.trans hf5))) HO.out (by omega) (by omega) HT2.out).mono ?_; rintro e w6 ⟨rfl, hf6⟩)
            | (go_at_call 18; refine (text_none _ (H.out.fr (hF.out.trans hf4)) HO.out hn0 hn1 HN.out).mono ?_; rintro e w5 ⟨rfl, hf5⟩)
            | (go_at_call 22; refine (print_any _ l s _ (H.out.fr hF.out) HO.out (by omega)).mono ?_; rw [HP.out]; rintro e w4 ⟨rfl, hf4⟩))
          go_ret
          exact ⟨by first | rfl | (have hd : decide (n < (l.length : Int)) = false := decide_eq_false (by omega); rw [hd]; rfl), hF.out.trans (hf4.trans (hf5.trans hf6))⟩
        · have HN := Lib.hid hn
          clear hn
          go_wp2_with (first
            | (go_at_call 18; refine (text_none _ (H.out.fr (hF.out.trans (hf4.trans hf5))) HO.out (by omega) (by omega) HT2.out).mono ?_; rintro e w6 ⟨rfl, hf6⟩)
            | (go_at_call 18; refine (text_none _ (H.out.fr (hF.out.trans hf4)) HO.out hn0 hn1 HN.out).mono ?_; rintro e w5 ⟨rfl, hf5⟩)
            | (go_at_call 22; refine (print_any _ l s _ (H.out.fr hF.out) HO.out (by omega)).mono ?_; rw [HP.out]; rintro e w4 ⟨rfl, hf4⟩))
          go_ret
          exact ⟨by first | rfl | (have hd : decide (n < (l.length : Int)) = false := decide_eq_false (by omega); rw [hd]; rfl), hF.out.trans (hf4.trans (hf5.trans hf6))⟩

theorem prints_any (v : Value) (l : List Txt) (s : Txt) (n : Int) (w : World) (h : Sl w v l) (ha : Arg l) (hs : s.length ≤ 9223372036854775807) (hn0 : -9223372036854775808 ≤ n) (hn1 : n ≤ 9223372036854775807) :
    Calls Try.prog 5 #[v, .string (S s), .int .i64 n] w fun e w' => e = .returned (.bool true) ∧ Fr w w' := by
  by_cases hf : Few l ∧ s.length ≤ 100 ∧ Rt l
  · obtain ⟨ad, c, rfl⟩ := h.len
    exact prints_yes ad c l s n w h hf.1 hf.2.1 hf.2.2 hn0 hn1
  · exact prints_not v l s n w h ha hs hf
end Go.Proofs.Ythibdppjhfhomaa
