/-
  ContentJoins.
-/
import Derived.Test.YthibdppjhfhomaaCi
namespace Go.Proofs.Ythibdppjhfhomaa
open Go.RowKit Go.MapKept Go.Maps Go.WideMaps

theorem joinL_pre (a b : List Txt) : ∃ m, joinL a b = a ++ m := ⟨_, rfl⟩
theorem joinL_len (a b : List Txt) : a.length ≤ (joinL a b).length ∧ (joinL a b).length ≤ a.length + b.length := by
  unfold joinL
  rw [List.length_append]
  have h1 := List.length_filter_le (fun s => decide (s ∉ a)) b
  omega
theorem joinL_tot (a b : List Txt) : tot (joinL a b) ≤ tot a + tot b := by
  unfold joinL
  rw [tot_append]
  have h1 := tot_filter (fun s => decide (s ∉ a)) b
  omega
theorem joinL_right (a b : List Txt) (i : Nat) (h : i < (joinL a b).length) (hi : a.length ≤ i) : (joinL a b)[i] ∈ b := by
  simp only [joinL]
  rw [List.getElem_append_right hi]
  have := List.getElem_mem (l := b.filter (fun s => decide (s ∉ a))) (n := i - a.length) (by simp only [joinL, List.length_append] at h; omega)
  exact (List.mem_filter.1 this).1
theorem joinL_at (a b : List Txt) (i : Nat) (h : i < a.length) : (joinL a b)[i]? = some a[i] := by
  unfold joinL
  rw [List.getElem?_append_left h, List.getElem?_eq_getElem h]
theorem prt_nn {l : List Txt} {s : Txt} (h : s ∈ l) : 0 ≤ prt l s := by
  obtain ⟨k, hk⟩ := pm_mem (i := 0) h
  unfold prt
  rw [hk]
  simp
theorem txts_pj (a b : List Txt) : txts (joinL a b) (b.map fun s => (pj a b s : Int)) = some b := by
  have ht : ∀ s ∈ b, txt (joinL a b) (pj a b s : Int) = some s := fun s hs => by
    unfold txt
    rw [if_neg (by omega), Int.toNat_natCast]
    exact pj_spec hs
  rw [txts_some (fun n hn => by
    obtain ⟨s, hs, rfl⟩ := List.mem_map.1 hn
    rw [ht s hs]; rfl)]
  rw [List.map_map]
  congr 1
  conv => rhs; rw [← List.map_id b]
  refine List.map_congr_left fun s hs => ?_
  simp only [Function.comp_apply]
  rw [ht s hs]; rfl

structure JF (a b : List Txt) : Prop where
  rt : Rt (joinL a b)
  ok : Ok (joinL a b)
  len : (joinL a b).length ≤ 48
  o1 : joinO a b = (joinL a b, b.map (fun s => (pj a b s : Int)), 0)
  o2 : joinO (joinL a b) b = (joinL a b, b.map (fun s => (pj (joinL a b) b s : Int)), 0)
  o3 : joinO (joinL a b) a = (joinL a b, a.map (fun s => (pj (joinL a b) a s : Int)), 0)
  at3 : ∀ (i : Nat) (h : i < a.length), pj (joinL a b) a a[i] = i
theorem JF.mk' {a b : List Txt} (fa : Few a) (fb : Few b) (ra : Rt a) (rb : Rt b) : JF a b := by
  have h1 := joinL_tot a b
  have h2 := fa.ok.2
  have h3 := fb.ok.2
  have h4 := (joinL_len a b).2
  have h5 := fa.1
  have h6 := fb.1
  have hrt : Rt (joinL a b) := ⟨joinL_nodup ra.1 rb.1, by omega⟩
  have e2 : joinL (joinL a b) b = joinL a b := joinL_again fun s hs => mem_joinL.2 (.inr hs)
  have e3 : joinL (joinL a b) a = joinL a b := joinL_again fun s hs => mem_joinL.2 (.inl hs)
  refine ⟨hrt, ⟨by omega, by omega⟩, by omega, ?_, ?_, ?_, fun i hi => ?_⟩
  · unfold joinO
    rw [if_pos ⟨ra, rb⟩, if_pos (by omega)]
  · unfold joinO
    rw [if_pos ⟨hrt, rb⟩, e2, if_pos (by omega)]
  · unfold joinO
    rw [if_pos ⟨hrt, ra⟩, e3, if_pos (by omega)]
  · unfold pj
    rw [e3, pm_at hrt.1 (joinL_at a b i hi)]
    rfl

set_option maxHeartbeats 2000000 in
set_option maxRecDepth 100000 in
theorem joins_not (u v : Value) (a b : List Txt) (w : World) (h : Sl w u a) (h' : Sl w v b) (ha : Arg a) (hb : Arg b) (hf : ¬ (Few a ∧ Few b ∧ Rt a ∧ Rt b)) :
    Calls Try.prog 6 #[u, v] w fun e w' => e = .returned (.bool true) ∧ Fr w w' := by
  have H := Lib.hid h
  have H' := Lib.hid h'
  have HA := Lib.hid ha
  have HB := Lib.hid hb
  have HF := Lib.hid hf
  clear h h' ha hb hf
  go_enter Try.func6, Try.ntmps6
  by_cases h1 : Few a
  · have F1 := Lib.hid h1
    clear h1
    by_cases h2 : Few b
    · have F2 := Lib.hid h2
      clear h2
      by_cases h3 : Rt a
      · have R1 := Lib.hid h3
        have R2 := Lib.hid (show ¬ Rt b from fun h => HF.out ⟨F1.out, F2.out, R1.out, h⟩)
        clear h3
        go_wp2_with (first
          | (go_at_call 20; refine (right_bad _ ((H'.out.fr hf1).fr hf3) F2.out.ok.1 R2.out).mono ?_; rintro e w4 ⟨rfl, hf4⟩)
          | (go_at_call 20; refine (right_good _ (H.out.fr hf1) F1.out.ok.1 R1.out).mono ?_; rintro e w3 ⟨rfl, hf3⟩)
          | (go_at_call 9; have HM2 := HM1; refine (few_yes _ (H'.out.fr hf1) HB.out.1 HB.out.2 F2.out).mono ?_; rintro e w2 ⟨rfl, rfl⟩)
          | (go_at_call 9; refine (few_yes _ (H.out.fr hf1) HA.out.1 HA.out.2 F1.out).mono ?_; rintro e w2 ⟨rfl, rfl⟩; have HM1 := Lib.hid trivial)
          | (go_at_call 8; refine (small_any _).mono ?_; rintro e w1 ⟨rfl, hf1⟩))
        go_ret
        exact ⟨rfl, hf1.trans (hf3.trans hf4)⟩
      · have R1 := Lib.hid h3
        clear h3
        go_wp2_with (first
          | (go_at_call 20; refine (right_bad _ (H.out.fr hf1) F1.out.ok.1 R1.out).mono ?_; rintro e w3 ⟨rfl, hf3⟩)
          | (go_at_call 9; have HM2 := HM1; refine (few_yes _ (H'.out.fr hf1) HB.out.1 HB.out.2 F2.out).mono ?_; rintro e w2 ⟨rfl, rfl⟩)
          | (go_at_call 9; refine (few_yes _ (H.out.fr hf1) HA.out.1 HA.out.2 F1.out).mono ?_; rintro e w2 ⟨rfl, rfl⟩; have HM1 := Lib.hid trivial)
          | (go_at_call 8; refine (small_any _).mono ?_; rintro e w1 ⟨rfl, hf1⟩))
        go_ret
        exact ⟨rfl, hf1.trans hf3⟩
    · have F2 := Lib.hid h2
      clear h2
      go_wp2_with (first
        | (go_at_call 9; have HM2 := HM1; refine (few_no _ (H'.out.fr hf1) HB.out.1 HB.out.2 F2.out).mono ?_; rintro e w2 ⟨rfl, rfl⟩)
        | (go_at_call 9; refine (few_yes _ (H.out.fr hf1) HA.out.1 HA.out.2 F1.out).mono ?_; rintro e w2 ⟨rfl, rfl⟩; have HM1 := Lib.hid trivial)
        | (go_at_call 8; refine (small_any _).mono ?_; rintro e w1 ⟨rfl, hf1⟩))
      go_ret
      exact ⟨rfl, hf1⟩
  · have F1 := Lib.hid h1
    clear h1
    go_wp2_with (first
      | (go_at_call 9; refine (few_no _ (H.out.fr hf1) HA.out.1 HA.out.2 F1.out).mono ?_; rintro e w2 ⟨rfl, rfl⟩)
      | (go_at_call 8; refine (small_any _).mono ?_; rintro e w1 ⟨rfl, hf1⟩))
    go_ret
    exact ⟨rfl, hf1⟩

theorem Sl.cut {w : World} {v : Value} {l a : List Txt} (h : Sl w v l) (hp : ∃ m, l = a ++ m) : (l = [] ∧ a = [] ∧ ((∃ n c, v = .slice none n c ∧ n = 0) ∨ ∃ ad c, v = .slice (some ad) 0 c)) ∨
    ∃ b o c, v = .slice (some ⟨b, o, none⟩) l.length c ∧ l.length ≤ c ∧ a.length ≤ l.length ∧ Sl w (.slice (some ⟨b, o, none⟩) a.length c) a ∧ At w b o l := by
  obtain ⟨m, rfl⟩ := hp
  rcases h with ⟨h0, ad, c, rfl⟩ | ⟨b, o, c, rfl, hc, hl⟩
  · refine .inl ⟨h0, List.append_eq_nil_iff.1 h0 |>.1, ?_⟩
    cases ad with
    | none => exact .inl ⟨_, _, rfl, rfl⟩
    | some ad => exact .inr ⟨_, _, rfl⟩
  · refine .inr ⟨b, o, c, rfl, hl, by simp, .inr ⟨b, o, c, rfl, fun i hi => ?_, by rw [List.length_append] at hl; omega⟩, hc⟩
    rw [hc i (by rw [List.length_append]; omega), List.getElem_append_left hi]

set_option maxHeartbeats 4000000 in
set_option maxRecDepth 100000 in
theorem joins_yes (ua : Option Addr) (uc : Nat) (va : Option Addr) (vc : Nat) (a b : List Txt) (w : World) (h : Sl w (.slice ua a.length uc) a) (h' : Sl w (.slice va b.length vc) b) (fa : Few a) (fb : Few b) (ra : Rt a) (rb : Rt b) (hne : Hid (joinL a b ≠ [])) :
    Calls Try.prog 6 #[.slice ua a.length uc, .slice va b.length vc] w fun e w' => e = .returned (.bool true) ∧ Fr w w' := by
  have H := Lib.hid h
  have H' := Lib.hid h'
  have F1 := Lib.hid fa
  have F2 := Lib.hid fb
  have R1 := Lib.hid ra
  have R2 := Lib.hid rb
  have J := Lib.hid (JF.mk' fa fb ra rb)
  have hla := fa.1
  have hlb := fb.1
  have hlj := J.out.len
  have hja := (joinL_len a b).1
  clear h h' fa fb ra rb
  go_enter Try.func6, Try.ntmps6
  go_upto_region 4 with (first
    | (go_at_call 20; have HM4 := HM3; refine (right_good _ ((H'.out.fr hf1).fr hf3) F2.out.ok.1 R2.out).mono ?_; rintro e w4 ⟨rfl, hf4⟩)
    | (go_at_call 20; refine (right_good _ (H.out.fr hf1) F1.out.ok.1 R1.out).mono ?_; rintro e w3 ⟨rfl, hf3⟩; have HM3 := Lib.hid trivial)
    | (go_at_call 9; have HM2 := HM1; refine (few_yes _ (H'.out.fr hf1) (by omega) (fun s hs => by have := F2.out.2 s hs; unfold maxLen; omega) F2.out).mono ?_; rintro e w2 ⟨rfl, rfl⟩)
    | (go_at_call 9; refine (few_yes _ (H.out.fr hf1) (by omega) (fun s hs => by have := F1.out.2 s hs; unfold maxLen; omega) F1.out).mono ?_; rintro e w2 ⟨rfl, rfl⟩; have HM1 := Lib.hid trivial)
    | (go_at_call 8; refine (small_any _).mono ?_; rintro e w1 ⟨rfl, hf1⟩))
  have HF4 := Lib.hid (hf1.trans (hf3.trans hf4))
  clear HM1 HM2 HM3 HM4 hf1 hf3 hf4
  go_upto_region 5 with (go_at_call 13; refine (join_any _ (H.out.fr HF4.out) F1.out.ok.1 (H'.out.fr HF4.out) F2.out.ok.1).mono ?_; rw [J.out.o1]; rintro e w5 ⟨v5, u5, rfl, hv5, hu5, hf5⟩; obtain ⟨u5a, u5c, rfl⟩ := hu5.len; simp only [List.length_map] at hu5 ⊢)
  have HFJ := Lib.hid (HF4.out.trans hf5)
  have H5 := Lib.hid ((H.out.fr HF4.out).fr hf5)
  have H5' := Lib.hid ((H'.out.fr HF4.out).fr hf5)
  have HU5 := Lib.hid hu5
  have HV5 := Lib.hid hv5
  clear hu5 hf5 HF4 H H'
  rcases hv5.cut (joinL_pre a b) with ⟨h0, _⟩ | ⟨jb, jo, jc, rfl, hjc, _, hcut, hjat⟩
  · exact absurd h0 hne.out
  have HCut := Lib.hid hcut
  have HJat := Lib.hid hjat
  clear hv5 hcut hjat
  go_upto_region 7 with (go_at_call 20; refine (right_good _ HV5.out J.out.ok J.out.rt).mono ?_; rintro e w6 ⟨rfl, hf6⟩)
  go_upto_region 9 with (go_at_call 12; refine (same_any _ (HCut.out.fr hf6) (H5.out.fr hf6) (by omega)).mono ?_; rintro e w7 ⟨rfl, hf7⟩)
  have hf67 := hf6.trans hf7
  have HF7 := Lib.hid (HFJ.out.trans hf67)
  have H7 := Lib.hid (H5.out.fr hf67)
  have H7' := Lib.hid (H5'.out.fr hf67)
  have HU7 := Lib.hid (HU5.out.fr hf67)
  have HV7 := Lib.hid (HV5.out.fr hf67)
  have HJ7 := Lib.hid (HJat.out.fr hf67)
  clear hf6 hf7 hf67 HFJ H5 H5' HU5 HV5 HJat HCut
  have HB : Hid (∀ n ∈ b.map (fun s => (pj a b s : Int)), -9223372036854775808 ≤ n ∧ n ≤ 9223372036854775807) := Lib.hid fun n hn => by
    obtain ⟨s, hs, rfl⟩ := List.mem_map.1 hn
    have h1 := (List.getElem?_eq_some_iff.1 (pj_spec (a := a) hs)).1
    omega
  go_upto_region 10 with (go_at_call 15; refine (texts_any _ _ (joinL a b) (b.map fun s => (pj a b s : Int)) _ HV7.out J.out.ok HU7.out (by simp only [List.length_map]; omega) HB.out).mono ?_; rw [txts_pj]; rintro e w8 ⟨v8, rfl, hv8, hf8⟩)
  have hv8' : Sl w8 v8 b := hv8
  have HT8 := Lib.hid hv8'
  have HF8 := Lib.hid (HF7.out.trans hf8)
  have H8 := Lib.hid (H7.out.fr hf8)
  have H8' := Lib.hid (H7'.out.fr hf8)
  have HV8 := Lib.hid (HV7.out.fr hf8)
  have HJ8 := Lib.hid (HJ7.out.fr hf8)
  clear hv8 hv8' hf8 HF7 H7 H7' HU7 HV7 HJ7
  go_wp2_with fail
  go_loopw [11] (fun i w9 => ∃ k : Nat, a.length ≤ k ∧ k ≤ (joinL a b).length ∧ i = .int .i64 k ∧ Hid (Fr w8 w9)) (fun i _ => (joinL a b).length - (intOf i).toNat)
  case atStart => exact ⟨a.length, Nat.le_refl _, hja, rfl, Lib.hid (Fr.refl _)⟩
  case round =>
    obtain ⟨k, hk0, hk, rfl, hF9⟩ := hrel
    by_cases hlt : k < (joinL a b).length
    · have c1 := hF9.out.cell (HJ8.out k hlt)
      have hmem := joinL_right a b k hlt hk0
      have hsl := F2.out.2 _ hmem
      have hnn := prt_nn hmem
      clear hmem
      generalize (joinL a b)[k] = s at *
      go_wp2_with (go_at_call 22; refine (print_any _ b s _ (H8'.out.fr hF9.out) F2.out.ok.1 (by omega)).mono ?_; rintro e w10 ⟨rfl, hf10⟩)
      go_roundw
      case rel => exact ⟨k + 1, by omega, by omega, by go_num, Lib.hid (hF9.out.trans hf10)⟩
      case measure => simp [intOf]; omega
    · have HF9 := Lib.hid (HF8.out.trans hF9.out)
      have H9 := Lib.hid (H8.out.fr hF9.out)
      have H9' := Lib.hid (H8'.out.fr hF9.out)
      have HV9 := Lib.hid (HV8.out.fr hF9.out)
      have HT9 := Lib.hid (HT8.out.fr hF9.out)
      clear HF8 H8 H8' HV8 HT8 HJ8 hF9 hk0
      go_wp2_with (first
        | (go_at_call 13; refine (join_any _ HV10.out J.out.ok H10.out F1.out.ok.1).mono ?_; rw [J.out.o3]; rintro e w11 ⟨v11, u11, rfl, hv11, hu11, hf11⟩; obtain ⟨u11a, u11c, rfl⟩ := hu11.len; simp only [List.length_map] at hu11 ⊢)
        | (go_at_call 13; refine (join_any _ HV9.out J.out.ok H9'.out F2.out.ok.1).mono ?_; rw [J.out.o2]; rintro e w10 ⟨v10, u10, rfl, hv10, _, hf10⟩; have HF10 := Lib.hid (HF9.out.trans hf10); have H10 := Lib.hid (H9.out.fr hf10); have H10' := Lib.hid (H9'.out.fr hf10); have HV10 := Lib.hid (HV9.out.fr hf10); have HT10 := Lib.hid (HT9.out.fr hf10); have HD10 := Lib.hid hv10; clear hf10 hv10 HF9 H9 H9' HV9 HT9))
      have HF11 := Lib.hid (HF10.out.trans hf11)
      have H11' := Lib.hid (H10'.out.fr hf11)
      have HV11 := Lib.hid (HV10.out.fr hf11)
      have HT11 := Lib.hid (HT10.out.fr hf11)
      have HD11 := Lib.hid (HD10.out.fr hf11)
      have HX11 := Lib.hid hv11
      have HQ11 := Lib.hid hu11
      clear hf11 hv11 hu11 HF10 H10 H10' HV10 HT10 HD10
      go_loopw [18] (fun i w12 => ∃ k : Nat, k ≤ a.length ∧ i = .int .i64 k ∧ Hid (Fr w11 w12)) (fun i _ => a.length - (intOf i).toNat)
      case atStart => exact ⟨0, Nat.zero_le _, rfl, Lib.hid (Fr.refl _)⟩
      case round =>
        obtain ⟨k, hk, rfl, hF12⟩ := hrel
        by_cases hlt : k < a.length
        · rcases (HQ11.out.fr hF12.out) with ⟨hb0, _⟩ | ⟨qb, qo, qc, hv, hc⟩
          · have := congrArg List.length hb0
            simp only [List.length_map, List.length_nil] at this
            omega
          · simp only [List.length_map] at hv
            obtain ⟨rfl, rfl⟩ : u11a = some ⟨qb, qo, none⟩ ∧ u11c = qc := by simpa using hv
            have c1 := hc k (by simpa using hlt)
            simp only [List.getElem_map, J.out.at3 k hlt] at c1
            clear hc hv
            go_wp2_with fail
            go_roundw
            case rel => exact ⟨k + 1, by omega, by go_num, hF12⟩
            case measure => simp [intOf]; omega
        · have HF12 := Lib.hid (HF11.out.trans hF12.out)
          have H12' := Lib.hid (H11'.out.fr hF12.out)
          have HV12 := Lib.hid (HV11.out.fr hF12.out)
          have HT12 := Lib.hid (HT11.out.fr hF12.out)
          have HD12 := Lib.hid (HD11.out.fr hF12.out)
          have HX12 := Lib.hid (HX11.out.fr hF12.out)
          clear HF11 H11' HV11 HT11 HD11 HX11 HQ11 hF12
          go_wp2_with (first
            | (go_at_call 12; refine (same_any (xs := joinL a b) _ ((HX12.out.fr hf13).fr hf14) ((HV12.out.fr hf13).fr hf14) (by omega)).mono ?_; rintro e w15 ⟨rfl, hf15⟩)
            | (go_at_call 12; refine (same_any (xs := joinL a b) _ (HD12.out.fr hf13) (HV12.out.fr hf13) (by omega)).mono ?_; rintro e w14 ⟨rfl, hf14⟩)
            | (go_at_call 12; refine (same_any (xs := b) _ HT12.out H12'.out (by omega)).mono ?_; rintro e w13 ⟨rfl, hf13⟩))
          go_ret
          exact ⟨rfl, HF12.out.trans (hf13.trans (hf14.trans hf15))⟩

theorem few_nil' : Few ([] : List Txt) := ⟨by simp, by simp⟩
theorem rt_nil : Rt ([] : List Txt) := ⟨by simp, by simp [tot]⟩
theorem ok_nil : Ok ([] : List Txt) := ⟨by simp, by simp [tot]⟩
theorem Sl.nil' {w : World} {v : Value} (h : Sl w v []) : ∃ a c, v = .slice a 0 c := h.len
theorem join_nil (u v : Value) (w : World) (h : Sl w u []) (h' : Sl w v []) :
    Calls Try.prog 13 #[u, v] w fun e w' => ∃ (va : Option Addr) (vc : Nat) (pa : Option Addr) (pc : Nat), e = .returned (.tuple #[.slice va 0 vc, .slice pa 0 pc, .int .i64 0]) ∧ Fr w w' :=
  (join_any w h ok_nil h' ok_nil).mono fun _ _ ⟨v', u', he, h1, h2, h3⟩ => by
    obtain ⟨va, vc, rfl⟩ := Sl.nil' h1
    obtain ⟨pa, pc, rfl⟩ := Il.len (l := []) h2
    exact ⟨va, vc, pa, pc, he.trans (by rfl), h3⟩
theorem texts_none (u v : Value) (w : World) (h : Sl w u []) (h' : Il w v []) :
    Calls Try.prog 15 #[u, v] w fun e w' => ∃ (va : Option Addr) (vc : Nat), e = .returned (.tuple #[.slice va 0 vc, .int .i64 0]) ∧ Fr w w' :=
  (texts_any u v [] [] w h ok_nil h' (by simp) (by simp)).mono fun _ _ ⟨v', he, h1, h3⟩ => by
    obtain ⟨va, vc, rfl⟩ := Sl.nil' (w := _) h1
    exact ⟨va, vc, he.trans (by rfl), h3⟩

set_option maxHeartbeats 2000000 in
set_option maxRecDepth 100000 in
theorem joins_nil (ua : Option Addr) (uc : Nat) (va : Option Addr) (vc : Nat) (w : World) :
    Calls Try.prog 6 #[.slice ua 0 uc, .slice va 0 vc] w fun e w' => e = .returned (.bool true) ∧ Fr w w' := by
  go_enter Try.func6, Try.ntmps6
  go_upto_region 5 with (first
    | (go_at_call 13; refine (join_nil _ _ _ (Sl.nil _ _ _) (Sl.nil _ _ _)).mono ?_; rintro e w5 ⟨ja, jc, pa, pc, rfl, hf5⟩)
    | (go_at_call 20; have HM4 := HM3; refine (right_good _ (Sl.nil _ _ _) ok_nil rt_nil).mono ?_; rintro e w4 ⟨rfl, hf4⟩)
    | (go_at_call 20; refine (right_good _ (Sl.nil _ _ _) ok_nil rt_nil).mono ?_; rintro e w3 ⟨rfl, hf3⟩; have HM3 := Lib.hid trivial)
    | (go_at_call 9; refine (few_nil _ _ _).mono ?_; rintro e w2 ⟨rfl, rfl⟩)
    | (go_at_call 8; refine (small_any _).mono ?_; rintro e w1 ⟨rfl, hf1⟩))
  have HF5 := Lib.hid (hf1.trans (hf3.trans (hf4.trans hf5)))
  clear HM3 HM4 hf1 hf3 hf4 hf5
  rcases ja with _ | ja
  all_goals
    go_upto_region 11 with (first
      | (go_at_call 15; refine (texts_none _ _ _ (Sl.nil _ _ _) (Il.nil _ _ _)).mono ?_; rintro e w8 ⟨ta, tc, rfl, hf8⟩)
      | (go_at_call 12; refine (same_any (xs := []) _ (Sl.nil _ _ _) (Sl.nil _ _ _) (by simp)).mono ?_; rintro e w7 ⟨rfl, hf7⟩)
      | (go_at_call 20; refine (right_good _ (Sl.nil _ _ _) ok_nil rt_nil).mono ?_; rintro e w6 ⟨rfl, hf6⟩))
    have HF8 := Lib.hid (HF5.out.trans (hf6.trans (hf7.trans hf8)))
    clear hf6 hf7 hf8
    go_loopw [11] (fun i w9 => i = .int .i64 0 ∧ w9 = w8) (fun _ _ => 0)
    case atStart => exact ⟨rfl, rfl⟩
    case round =>
      obtain ⟨rfl, rfl⟩ := hrel
      go_wp2_with (first
        | (go_at_call 13; have HM2 := HM1; refine (join_nil _ _ _ (Sl.nil _ _ _) (Sl.nil _ _ _)).mono ?_; rintro e w11 ⟨xa, xc, qa, qc, rfl, hf11⟩)
        | (go_at_call 13; refine (join_nil _ _ _ (Sl.nil _ _ _) (Sl.nil _ _ _)).mono ?_; rintro e w10 ⟨da, dc, ea, ec, rfl, hf10⟩; have HM1 := Lib.hid trivial))
      have HF11 := Lib.hid (HF8.out.trans (hf10.trans hf11))
      clear hf10 hf11 HM1 HM2
      go_loopw [18] (fun i w12 => i = .int .i64 0 ∧ w12 = w11) (fun _ _ => 0)
      case atStart => exact ⟨rfl, rfl⟩
      case round =>
        obtain ⟨rfl, rfl⟩ := hrel
        go_wp2_with (first
          | (go_at_call 12; have HM2 := HM1b; refine (same_any (xs := []) _ (Sl.nil _ _ _) (Sl.nil _ _ _) (by simp)).mono ?_; rintro e w15 ⟨rfl, hf15⟩)
          | (go_at_call 12; have HM1b := HM1a; refine (same_any (xs := []) _ (Sl.nil _ _ _) (Sl.nil _ _ _) (by simp)).mono ?_; rintro e w14 ⟨rfl, hf14⟩)
          | (go_at_call 12; refine (same_any (xs := []) _ (Sl.nil _ _ _) (Sl.nil _ _ _) (by simp)).mono ?_; rintro e w13 ⟨rfl, hf13⟩; have HM1a := Lib.hid trivial))
        go_ret
        exact ⟨rfl, HF11.out.trans (hf13.trans (hf14.trans hf15))⟩

theorem joins_any (u v : Value) (a b : List Txt) (w : World) (h : Sl w u a) (h' : Sl w v b) (ha : Arg a) (hb : Arg b) :
    Calls Try.prog 6 #[u, v] w fun e w' => e = .returned (.bool true) ∧ Fr w w' := by
  by_cases hf : Few a ∧ Few b ∧ Rt a ∧ Rt b
  · by_cases hn : joinL a b = []
    · have h1 := (joinL_len a b).1
      have ha0 : a = [] := List.length_eq_zero_iff.1 (by rw [hn] at h1; simpa using h1)
      subst ha0
      have hb0 : b = [] := List.eq_nil_iff_forall_not_mem.2 (by simpa [joinL] using hn)
      subst hb0
      obtain ⟨ua, uc, rfl⟩ := h.nil'
      obtain ⟨va, vc, rfl⟩ := h'.nil'
      exact joins_nil ua uc va vc w
    · obtain ⟨ua, uc, rfl⟩ := h.len
      obtain ⟨va, vc, rfl⟩ := h'.len
      exact joins_yes ua uc va vc a b w h h' hf.1 hf.2.1 hf.2.2.1 hf.2.2.2 (Lib.hid hn)
  · exact joins_not u v a b w h h' ha hb hf
end Go.Proofs.Ythibdppjhfhomaa
