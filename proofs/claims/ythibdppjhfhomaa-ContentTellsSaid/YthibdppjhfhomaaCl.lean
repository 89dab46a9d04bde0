/-
  ContentTells.
-/
import Derived.Test.YthibdppjhfhomaaCo
namespace Go.Proofs.Ythibdppjhfhomaa
open Go.RowKit Go.MapKept Go.Maps Go.WideMaps

set_option maxHeartbeats 2000000 in
set_option maxRecDepth 100000 in
theorem tells_not (u v : Value) (ad : Option Addr) (c : Nat) (a b : List Txt) (s : Txt) (q : List Int) (w : World) (h : Sl w u a) (h' : Sl w v b) (ha : Arg a) (hb : Arg b) (hs : s.length ≤ 9223372036854775807) (hq : q.length ≤ 9223372036854775807)
    (hf : ¬ (Few a ∧ Few b ∧ s.length ≤ 100 ∧ q.length ≤ 24)) :
    Calls Try.prog 3 #[u, v, .string (S s), .slice ad q.length c] w fun e w' => e = .returned (.bool true) ∧ Fr w w' := by
  have H := Lib.hid h
  have H' := Lib.hid h'
  have HA := Lib.hid ha
  have HB := Lib.hid hb
  have HF := Lib.hid hf
  clear h h' ha hb hf
  go_enter Try.func3, Try.ntmps3
  by_cases h1 : Few a
  · have F1 := Lib.hid h1
    clear h1
    by_cases h2 : Few b
    · have F2 := Lib.hid h2
      clear h2
      by_cases h3 : s.length ≤ 100
      · have h4 : 24 < q.length := by
          have := HF.out
          rcases Nat.lt_or_ge 24 q.length with h | h
          · exact h
          · exact absurd ⟨F1.out, F2.out, h3, h⟩ this
        go_wp2_with (first
          | (go_at_call 9; have HM2 := HM1; refine (few_yes _ (H'.out.fr hf1) HB.out.1 HB.out.2 F2.out).mono ?_; rintro e w2 ⟨rfl, rfl⟩)
          | (go_at_call 9; refine (few_yes _ (H.out.fr hf1) HA.out.1 HA.out.2 F1.out).mono ?_; rintro e w2 ⟨rfl, rfl⟩; have HM1 := Lib.hid trivial)
          | (go_at_call 8; refine (small_any _).mono ?_; rintro e w1 ⟨rfl, hf1⟩))
        go_ret
        exact ⟨rfl, hf1⟩
      · go_wp2_with (first
          | (go_at_call 9; have HM2 := HM1; refine (few_yes _ (H'.out.fr hf1) HB.out.1 HB.out.2 F2.out).mono ?_; rintro e w2 ⟨rfl, rfl⟩)
          | (go_at_call 9; refine (few_yes _ (H.out.fr hf1) HA.out.1 HA.out.2 F1.out).mono ?_; rintro e w2 ⟨rfl, rfl⟩; have HM1 := Lib.hid trivial)
          | (go_at_call 8; refine (small_any _).mono ?_; rintro e w1 ⟨rfl, hf1⟩))
        go_ret
        exact ⟨rfl, hf1⟩
    · have F2 := Lib.hid h2
      clear h2
      go_wp2_with (first
        | (go_at_call 9; have HM2 := HM1; refine (few_no _ (H'.out.fr hf1) HB.out.1 HB.out.2 F2.out).mono ?_; rintro e w2 ⟨rfl, rfl⟩)
        | (go_at_call 9; refine (few_yes _ (H.out.fr hf1) HA.out.1 HA.out.2 F1.out).mono ?_; rintro e w2 ⟨rfl, rfl⟩; have HM1 := Lib.hid trivial)
        | (go_at_call 8; refine (small_any _).mono ?_; rintro e w1 ⟨rfl, hf1⟩))
      go_ret
      exact ⟨rfl, hf1⟩
  · have F1 := Lib.hid h1
    clear h1
    go_wp2_with (first
      | (go_at_call 9; refine (few_no _ (H.out.fr hf1) HA.out.1 HA.out.2 F1.out).mono ?_; rintro e w2 ⟨rfl, rfl⟩; have HM1 := Lib.hid trivial)
      | (go_at_call 8; refine (small_any _).mono ?_; rintro e w1 ⟨rfl, hf1⟩))
    go_ret
    exact ⟨rfl, hf1⟩

theorem joinL_len' (a b : List Txt) : (joinL a b).length ≤ a.length + b.length := by
  unfold joinL
  rw [List.length_append]
  have h1 := List.length_filter_le (fun s => decide (s ∉ a)) b
  omega
theorem txts_len (l : List Txt) (q : List Int) : ((txts l q).getD []).length ≤ q.length := by
  induction q with
  | nil => simp [txts]
  | cons n q ih =>
    unfold txts
    split
    · rename_i h1 h2
      rw [h2] at ih
      simpa using ih
    · simp

set_option maxHeartbeats 8000000 in
set_option maxRecDepth 100000 in
theorem tells_yes (u v : Value) (ad : Option Addr) (c : Nat) (a b : List Txt) (s : Txt) (q : List Int) (w : World) (h : Sl w u a) (h' : Sl w v b) (hz : Nz u) (hq : Il w (.slice ad q.length c) q) (fa : Few a) (fb : Few b) (hs : s.length ≤ 100) (hql : q.length ≤ 24)
    (h64 : ∀ n ∈ q, -9223372036854775808 ≤ n ∧ n ≤ 9223372036854775807) :
    Calls Try.prog 3 #[u, v, .string (S s), .slice ad q.length c] w fun e w' => e = .returned (.bool true) ∧ Fr w w' := by
  have H := Lib.hid h
  have H' := Lib.hid h'
  have HQ := Lib.hid hq
  have HZ := Lib.hid hz
  have F1 := Lib.hid fa
  have F2 := Lib.hid fb
  have H64 := Lib.hid h64
  have HO1 := Lib.hid fa.ok.1
  have HO2 := Lib.hid fb.ok.1
  have hla := fa.1
  have hlb := fb.1
  clear h h' hq hz fa fb h64
  go_enter Try.func3, Try.ntmps3
  go_upto_region 4 with (first
    | (go_at_call 9; have HM2 := HM1; refine (few_yes _ (H'.out.fr hf1) (by omega) (fun s hs => by have := F2.out.2 s hs; unfold maxLen; omega) F2.out).mono ?_; rintro e w2 ⟨rfl, rfl⟩)
    | (go_at_call 9; refine (few_yes _ (H.out.fr hf1) (by omega) (fun s hs => by have := F1.out.2 s hs; unfold maxLen; omega) F1.out).mono ?_; rintro e w2 ⟨rfl, rfl⟩; have HM1 := Lib.hid trivial)
    | (go_at_call 8; refine (small_any _).mono ?_; rintro e w1 ⟨rfl, hf1⟩))
  have HF4 := Lib.hid hf1
  clear HM1 HM2 hf1
  obtain ⟨AO, hAO⟩ : ∃ x, x = addO a s := ⟨_, rfl⟩
  have HAO := Lib.hid hAO
  have HAL : Hid (AO.1.length ≤ 4611686018427387904) := Lib.hid (by
    rw [hAO]
    unfold addO addL
    split
    · split
      · simp only; split <;> (try simp only [List.length_append, List.length_singleton]) <;> omega
      · simp
    · simp)
  clear hAO
  go_upto_region 5 with (go_at_call 10; refine (add_any s _ (H.out.fr HF4.out) HO1.out (by omega)).mono ?_; rw [← HAO.out]; rintro e w5 ⟨v5, rfl, hv5, hf5⟩)
  have HV5 := Lib.hid hv5
  have HF5 := Lib.hid (HF4.out.trans hf5)
  clear hv5 hf5 HF4
  go_upto_region 6 with (go_at_call 11; refine (radd_any s _ (H.out.fr HF5.out) HZ.out HO1.out (by omega)).mono ?_; rw [← HAO.out]; rintro e w6 ⟨v6, rfl, hv6, hf6⟩)
  have HV6 := Lib.hid hv6
  have HV5' := Lib.hid (HV5.out.fr hf6)
  have HF6 := Lib.hid (HF5.out.trans hf6)
  clear hv6 hf6 HF5 HV5
  obtain ⟨x1, x2, x3⟩ := AO
  dsimp only at HV5' HV6 HAL ⊢
  go_upto_region 8 with (go_at_call 12; refine (same_any _ HV5'.out HV6.out HAL.out).mono ?_; rintro e w7 ⟨rfl, hf7⟩)
  have HF7 := Lib.hid (HF6.out.trans hf7)
  clear hf7 HF6 HV5' HV6 HAO HAL
  obtain ⟨JO, hJO⟩ : ∃ x, x = joinO a b := ⟨_, rfl⟩
  have HJO := Lib.hid hJO
  have HJL : Hid (JO.1.length ≤ 4611686018427387904 ∧ JO.2.1.length ≤ 4611686018427387904) := Lib.hid (by
    rw [hJO]
    have h1 := (joinL_len' a b)
    unfold joinO
    split
    · split
      · simp only [List.length_map]; omega
      · simp
    · simp)
  clear hJO
  go_upto_region 9 with (go_at_call 13; refine (join_any _ (H.out.fr HF7.out) HO1.out (H'.out.fr HF7.out) HO2.out).mono ?_; rw [← HJO.out]; rintro e w8 ⟨c8, p8, rfl, hc8, hp8, hf8⟩)
  have HC8 := Lib.hid hc8
  have HP8 := Lib.hid hp8
  have HF8 := Lib.hid (HF7.out.trans hf8)
  clear hc8 hp8 hf8 HF7
  go_upto_region 10 with (go_at_call 14; refine (rjoin_any _ (H.out.fr HF8.out) HZ.out HO1.out (H'.out.fr HF8.out) HO2.out).mono ?_; rw [← HJO.out]; rintro e w9 ⟨d9, q9, rfl, hd9, hq9, hf9⟩)
  have HC9 := Lib.hid (HC8.out.fr hf9)
  have HP9 := Lib.hid (HP8.out.fr hf9)
  have HD9 := Lib.hid hd9
  have HQ9 := Lib.hid hq9
  have HF9 := Lib.hid (HF8.out.trans hf9)
  clear hd9 hq9 hf9 HF8 HC8 HP8 HJO
  obtain ⟨y1, y2, y3⟩ := JO
  dsimp only at HC9 HP9 HD9 HQ9 HJL ⊢
  obtain ⟨TO, hTO⟩ : ∃ x, x = txts a q := ⟨_, rfl⟩
  have HTO := Lib.hid hTO
  have HTL : Hid ((TO.getD []).length ≤ 4611686018427387904) := Lib.hid (by
    have := txts_len a q
    rw [← hTO] at this
    omega)
  clear hTO
  go_upto_region 11 with (go_at_call 15; refine (texts_any _ _ a q _ (H.out.fr HF9.out) HO1.out (HQ.out.fr HF9.out) (by omega) H64.out).mono ?_; rw [← HTO.out]; rintro e w10 ⟨u10, rfl, hu10, hf10⟩)
  have HC10 := Lib.hid (HC9.out.fr hf10)
  have HP10 := Lib.hid (HP9.out.fr hf10)
  have HD10 := Lib.hid (HD9.out.fr hf10)
  have HQ10 := Lib.hid (HQ9.out.fr hf10)
  have HU10 := Lib.hid hu10
  have HF10 := Lib.hid (HF9.out.trans hf10)
  clear hu10 hf10 HF9 HC9 HP9 HD9 HQ9
  go_upto_region 12 with (go_at_call 16; refine (rtexts_any _ ad c a q _ (H.out.fr HF10.out) HO1.out (HQ.out.fr HF10.out) (by omega) H64.out).mono ?_; rw [← HTO.out]; rintro e w11 ⟨v11, rfl, hv11, hf11⟩)
  have HC11 := Lib.hid (HC10.out.fr hf11)
  have HP11 := Lib.hid (HP10.out.fr hf11)
  have HD11 := Lib.hid (HD10.out.fr hf11)
  have HQ11 := Lib.hid (HQ10.out.fr hf11)
  have HU11 := Lib.hid (HU10.out.fr hf11)
  have HV11 := Lib.hid hv11
  have HF11 := Lib.hid (HF10.out.trans hf11)
  clear hv11 hf11 HF10 HC10 HP10 HD10 HQ10 HU10
  obtain ⟨te, hte⟩ : ∃ x, x = txE TO := ⟨_, rfl⟩
  rw [← hte]
  clear hte HTO
  go_upto_region 14 with (first
    | (go_at_call 12; refine (same_any _ ((HU11.out.fr hf12).fr hf13) ((HV11.out.fr hf12).fr hf13) HTL.out).mono ?_; rintro e w14 ⟨rfl, hf14⟩)
    | (go_at_call 17; refine (ints_any _ (HP11.out.fr hf12) (HQ11.out.fr hf12) HJL.out.2).mono ?_; rintro e w13 ⟨rfl, hf13⟩)
    | (go_at_call 12; refine (same_any _ HC11.out HD11.out HJL.out.1).mono ?_; rintro e w12 ⟨rfl, hf12⟩))
  have HF14 := Lib.hid (HF11.out.trans (hf12.trans (hf13.trans hf14)))
  clear hf12 hf13 hf14 HF11 HC11 HP11 HD11 HQ11 HU11 HV11 HTL HJL
  go_wp2_with fail
  go_loopw [26] (fun i wr => ∃ k : Nat, k ≤ q.length ∧ i = .int .i64 k ∧ Hid (Fr w wr)) (fun i _ => q.length - (intOf i).toNat)
  case atStart => exact ⟨0, Nat.zero_le _, rfl, HF14⟩
  case round =>
    obtain ⟨k, hk, rfl, hF⟩ := hrel
    by_cases hlt : k < q.length
    · rcases (HQ.out.fr hF.out) with ⟨hb0, _⟩ | ⟨qb, qo, qc, hv, hc⟩
      · rw [hb0] at hlt; simp at hlt
      obtain ⟨rfl, rfl⟩ : ad = some ⟨qb, qo, none⟩ ∧ c = qc := by simpa using hv
      have c1 := hc k hlt
      have h0 := (H64.out q[k] (List.getElem_mem hlt)).1
      have h1 := (H64.out q[k] (List.getElem_mem hlt)).2
      clear hc hv
      generalize q[k] = n at *
      obtain ⟨t, ht⟩ : ∃ t, t = (txt a n).getD [] := ⟨_, rfl⟩
      obtain ⟨o, ho⟩ : ∃ o, o = (txt a n).isSome := ⟨_, rfl⟩
      have HTt := Lib.hid ht
      have HTo := Lib.hid ho
      clear ht ho
      go_wp2_with (first
        | (go_at_call 19; refine (rtext_any _ a n _ (H.out.fr (hF.out.trans hf15)) HO1.out h0 h1).mono ?_; rw [← HTt.out, ← HTo.out]; rintro e w16 ⟨rfl, hf16⟩)
        | (go_at_call 18; refine (text_any _ a n _ (H.out.fr hF.out) HO1.out h0 h1).mono ?_; rw [← HTt.out, ← HTo.out]; rintro e w15 ⟨rfl, hf15⟩; have c2 := hf15.cell c1))
      all_goals
        go_roundw
        case rel => exact ⟨k + 1, by omega, by go_num, Lib.hid (hF.out.trans (hf15.trans hf16))⟩
        case measure => simp [intOf]; omega
    · obtain ⟨rb, hrb⟩ : ∃ x, x = decide (Rt a) := ⟨_, rfl⟩
      obtain ⟨pb, hpb⟩ : ∃ x, x = prt a s := ⟨_, rfl⟩
      have HRB := Lib.hid hrb
      have HPB := Lib.hid hpb
      clear hrb hpb
      go_wp2_with (first
        | (go_at_call 23; refine (rprint_any s _ (H.out.fr (hF.out.trans (hf20.trans (hf21.trans hf22)))) (by omega)).mono ?_; rw [← HPB.out]; rintro e w23 ⟨rfl, hf23⟩)
        | (go_at_call 22; refine (print_any _ a s _ (H.out.fr (hF.out.trans (hf20.trans hf21))) HO1.out (by omega)).mono ?_; rw [← HPB.out]; rintro e w22 ⟨rfl, hf22⟩)
        | (go_at_call 21; refine (rright_any _ (H.out.fr (hF.out.trans hf20)) HO1.out).mono ?_; rw [← HRB.out]; rintro e w21 ⟨rfl, hf21⟩)
        | (go_at_call 20; refine (right_any _ a _ (H.out.fr hF.out) HO1.out).mono ?_; rw [← HRB.out]; rintro e w20 ⟨rfl, hf20⟩))
      all_goals
        go_ret
        exact ⟨rfl, hF.out.trans (hf20.trans (hf21.trans (hf22.trans hf23)))⟩

theorem tells_any (u v x : Value) (a b : List Txt) (s : Txt) (q : List Int) (w : World) (h : Sl w u a) (h' : Sl w v b) (hq : Il w x q) (ha : Arg a) (hb : Arg b) (hz : Nz u) (hs : s.length ≤ 9223372036854775807) (hql : q.length ≤ 9223372036854775807)
    (h64 : ∀ n ∈ q, -9223372036854775808 ≤ n ∧ n ≤ 9223372036854775807) :
    Calls Try.prog 3 #[u, v, .string (S s), x] w fun e w' => e = .returned (.bool true) ∧ Fr w w' := by
  obtain ⟨ad, c, rfl⟩ := hq.len
  by_cases hf : Few a ∧ Few b ∧ s.length ≤ 100 ∧ q.length ≤ 24
  · exact tells_yes u v ad c a b s q w h h' hz hq hf.1 hf.2.1 hf.2.2.1 hf.2.2.2 h64
  · exact tells_not u v ad c a b s q w h h' ha hb hs hql hf
end Go.Proofs.Ythibdppjhfhomaa
