/-
  ContentBack: what comes of adding one after the other; the walk.
-/
import Derived.Test.YthibdppjhfhomaaCg
import Derived.BigQuiet
namespace Go.Proofs.Ythibdppjhfhomaa
open Go.RowKit Go.MapKept Go.Maps Go.WideMaps

/-- What comes of adding all of them. -/
def AL (l : List Txt) : List Txt := l.foldl addL []
theorem AL_take (l : List Txt) (k : Nat) (hk : k < l.length) : AL (l.take (k + 1)) = addL (AL (l.take k)) l[k] := by
  unfold AL
  rw [List.take_succ_eq_append_getElem hk, List.foldl_append]
  rfl
theorem foldl_cut (l a : List Txt) : ∃ m, l.foldl addL a = a ++ m := by
  induction l generalizing a with
  | nil => exact ⟨[], by simp⟩
  | cons x l ih =>
    obtain ⟨m, hm⟩ := ih (addL a x)
    obtain ⟨m', hm'⟩ := addL_cut a x
    exact ⟨m' ++ m, by rw [List.foldl_cons, hm, hm', List.append_assoc]⟩
theorem AL_cut (l : List Txt) (k : Nat) : ∃ m, AL l = AL (l.take k) ++ m := by
  unfold AL
  conv => rhs; intro m; lhs; rw [← List.take_append_drop k l]
  rw [List.foldl_append]
  exact foldl_cut _ _
theorem foldl_facts (l a : List Txt) (ha : a.Nodup) : (l.foldl addL a).Nodup ∧ tot (l.foldl addL a) ≤ tot a + tot l ∧ (∀ s, s ∈ l.foldl addL a ↔ s ∈ a ∨ s ∈ l) ∧ (l.foldl addL a).length ≤ a.length + l.length := by
  induction l generalizing a with
  | nil => simp [ha, tot]
  | cons x l ih =>
    obtain ⟨h1, h2, h3, h4⟩ := ih (addL a x) (addL_nodup ha)
    have h5 := tot_addL a x
    have h6 : (addL a x).length ≤ a.length + 1 := by unfold addL; split <;> simp
    rw [List.foldl_cons]
    refine ⟨h1, by simp only [tot]; omega, fun s => ?_, by simp only [List.length_cons]; omega⟩
    rw [h3, mem_addL, List.mem_cons, or_assoc]
theorem AL_nodup (l : List Txt) : (AL l).Nodup := (foldl_facts l [] (by simp)).1
theorem AL_tot (l : List Txt) : tot (AL l) ≤ tot l := by have := (foldl_facts l [] (by simp)).2.1; simpa [tot, AL] using this
theorem mem_AL (l : List Txt) (s : Txt) : s ∈ AL l ↔ s ∈ l := by have := (foldl_facts l [] (by simp)).2.2.1 s; simpa [AL] using this
theorem AL_len (l : List Txt) : (AL l).length ≤ l.length := by have := (foldl_facts l [] (by simp)).2.2.2; simpa [AL] using this

/-- The print of s in the end. -/
def pa (l : List Txt) (s : Txt) : Nat := (pm 0 (AL l) s).getD 0
theorem pa_spec {l : List Txt} {s : Txt} (h : s ∈ l) : pm 0 (AL l) s = some (pa l s) := by
  obtain ⟨k, hk⟩ := pm_mem (i := 0) ((mem_AL l s).2 h)
  unfold pa
  rw [hk]; rfl
theorem pa_add (l : List Txt) (k : Nat) (hk : k < l.length) : addN (AL (l.take k)) l[k] = pa l l[k] := by
  obtain ⟨m, hm⟩ := AL_cut l (k + 1)
  have h1 := addN_spec (AL (l.take k)) l[k]
  have h2 := pa_spec (List.getElem_mem hk)
  rw [hm, AL_take l k hk, pm_pre (mem_of_pm h1), h1] at h2
  exact Option.some.inj h2
theorem pa_inj {l : List Txt} {s t : Txt} (hs : s ∈ l) (ht : t ∈ l) : pa l s = pa l t ↔ s = t := by
  constructor
  · intro h
    have h1 := pa_spec hs
    have h2 := pa_spec ht
    rw [← h] at h2
    exact pm_inj h1 h2
  · rintro rfl; rfl
theorem pa_lt {l : List Txt} {s : Txt} (h : s ∈ l) : pa l s < (AL l).length ∧ (AL l)[pa l s]? = some s := by
  obtain ⟨_, h2, h3⟩ := pm_some (pa_spec h)
  exact ⟨by simpa using h2, by simpa using h3⟩
theorem Few.take {l : List Txt} (h : Few l) (k : Nat) : Few (l.take k) := ⟨by have := h.1; rw [List.length_take]; omega, fun s hs => h.2 s (List.mem_of_mem_take hs)⟩
theorem Few.al {l : List Txt} (h : Few l) : Rt (AL l) ∧ Ok (AL l) ∧ (AL l).length ≤ 24 ∧ tot (AL l) ≤ 2400 := by
  have h1 := h.ok.2
  have h2 := AL_tot l
  have h3 := AL_len l
  have h4 := h.1
  exact ⟨⟨AL_nodup l, by omega⟩, ⟨by omega, by omega⟩, by omega, by omega⟩

theorem own_fr {w w' : World} {base e size n : Nat} {v : Value} {xs : List Value} (h : w.ownsRow base e size v n xs) (hf : Fr w w') : w'.ownsRow base e size v n xs := by
  refine ⟨h.1, ?_⟩
  rcases h.2 with hv | ⟨g, cap, cur, rfl, h2, hg, h3⟩
  · exact .inl hv
  · exact .inr ⟨g, cap, cur, rfl, h2, hf.heap hg, h3⟩
theorem Il.own {B n : Nat} {w : World} {v : Value} {l : List Int} (h : w.ownsRow B 3 1 v n (l.map (Value.int .i64))) : Il w v l := by
  have hl := h.1
  rw [List.length_map] at hl
  rcases h.2 with ⟨rfl, hx⟩ | ⟨g, cap, cur, rfl, hB, hg, hn, _, hs, ht⟩
  · have h0 : l = [] := List.length_eq_zero_iff.1 (by omega)
    exact .inl ⟨h0, none, 0, rfl⟩
  · refine .inr ⟨g, 0, cap, by rw [hl, Nat.mul_one], fun i hi => ?_⟩
    rw [Lib.cell_of_heap hg, Nat.zero_add]
    have h1 : (l.map (Value.int .i64))[i]? = some (.int .i64 l[i]) := by simp [hi]
    rw [← ht, List.getElem?_take] at h1
    split at h1
    · simpa using h1
    · cases h1
/-- The prints so far. -/
def prs (l : List Txt) (k : Nat) : List Int := (l.take k).map fun s => (pa l s : Int)
theorem prs_succ (l : List Txt) (k : Nat) (hk : k < l.length) : prs l (k + 1) = prs l k ++ [(pa l l[k] : Int)] := by
  unfold prs
  rw [List.take_succ_eq_append_getElem hk, List.map_append]; rfl
theorem prs_len (l : List Txt) (k : Nat) (hk : k ≤ l.length) : (prs l k).length = k := by unfold prs; rw [List.length_map, List.length_take]; omega

theorem prs_all (l : List Txt) : prs l l.length = l.map fun s => (pa l s : Int) := by unfold prs; rw [List.take_length]
theorem txt_pa {l : List Txt} {s : Txt} (h : s ∈ l) : txt (AL l) (pa l s : Int) = some s := by
  unfold txt
  rw [if_neg (by omega), Int.toNat_natCast]
  exact (pa_lt h).2
theorem txts_pa (l : List Txt) : txts (AL l) (prs l l.length) = some l := by
  rw [prs_all, txts_some (fun n hn => by
    obtain ⟨s, hs, rfl⟩ := List.mem_map.1 hn
    rw [txt_pa hs]; rfl)]
  rw [List.map_map]
  congr 1
  conv => rhs; rw [← List.map_id l]
  refine List.map_congr_left fun s hs => ?_
  simp only [Function.comp_apply]
  rw [txt_pa hs]; rfl
theorem prt_pa {l : List Txt} {s : Txt} (h : s ∈ l) : prt (AL l) s = (pa l s : Int) := by unfold prt; rw [pa_spec h]

set_option maxHeartbeats 1000000 in
set_option maxRecDepth 100000 in
theorem back_not (v : Value) (l : List Txt) (w : World) (h : Sl w v l) (ha : Arg l) (hf : ¬ Few l) :
    Calls Try.prog 4 #[v] w fun e w' => e = .returned (.bool true) ∧ Fr w w' := by
  have H := Lib.hid h
  have HA := Lib.hid ha
  have HF := Lib.hid hf
  clear h ha hf
  go_enter Try.func4, Try.ntmps4
  go_wp2_with (first
    | (go_at_call 9; refine (few_no _ (H.out.fr hf1) HA.out.1 HA.out.2 HF.out).mono ?_; rintro e w2 ⟨rfl, rfl⟩)
    | (go_at_call 8; refine (small_any _).mono ?_; rintro e w1 ⟨rfl, hf1⟩))
  go_ret
  exact ⟨rfl, hf1⟩

set_option maxHeartbeats 4000000 in
set_option maxRecDepth 100000 in
theorem back_yes (ad : Option Addr) (c : Nat) (l : List Txt) (w : World) (h : Sl w (.slice ad l.length c) l) (hfew : Few l) :
    Calls Try.prog 4 #[.slice ad l.length c] w fun e w' => e = .returned (.bool true) ∧ Fr w w' := by
  obtain ⟨i0, hi, hz0, hz1, hz2⟩ := info_parts infoInt
  have H := Lib.hid h
  have HO := Lib.hid hfew.ok.1
  have HFew := Lib.hid hfew
  have hll := hfew.1
  clear h hfew
  go_enter Try.func4, Try.ntmps4
  go_upto_region 4 with (first
    | (go_at_call 9; refine (few_yes _ (H.out.fr hf1) (by omega) (fun s hs => by have := HFew.out.2 s hs; unfold maxLen; omega) HFew.out).mono ?_; rintro e w2 ⟨rfl, rfl⟩)
    | (go_at_call 8; refine (small_any _).mono ?_; rintro e w1 ⟨rfl, hf1⟩))
  have HF := Lib.hid hf1
  clear hf1
  go_wp2_with fail
  go_loopw [4, 5, 6] (fun lv pv i wr => ∃ k : Nat, k ≤ l.length ∧ i = .int .i64 k ∧ Hid (Sl wr lv (AL (l.take k))) ∧ Hid (Ty wr lv) ∧ Hid (wr.ownsRow w.heap.size 3 1 pv k ((prs l k).map (Value.int .i64))) ∧ Hid (Fr w wr)) (fun _ _ i _ => l.length - (intOf i).toNat)
  case atStart => exact ⟨0, Nat.zero_le _, rfl, Lib.hid (.nil _ _ _), Lib.hid (.nil _ _ _), Lib.hid ⟨by simp [prs], .inl ⟨rfl, rfl⟩⟩, HF⟩
  case round =>
    obtain ⟨k, hk, rfl, hS, hTy, hP, hF⟩ := hrel
    by_cases hlt : k < l.length
    · rcases (H.out.fr hF.out) with ⟨hb0, _⟩ | ⟨B, o, c', hv, hc, _⟩
      · rw [hb0] at hlt; simp at hlt
      · obtain ⟨rfl, rfl⟩ : ad = some ⟨B, o, none⟩ ∧ c = c' := by simpa using hv
        have HC := Lib.hid hc
        have c1 := hc k hlt
        have hsl := HFew.out.2 _ (List.getElem_mem hlt)
        have HAL := Lib.hid (AL_take l k hlt)
        have HPA := Lib.hid (pa_add l k hlt)
        have HPS := Lib.hid (prs_succ l k hlt)
        have HFA := Lib.hid (HFew.out.take k).al
        have HFB := Lib.hid (HFew.out.take (k + 1)).al
        have hal := HFA.out.2.2.1
        obtain ⟨la, lc, rfl⟩ := hS.out.len
        clear hc hv
        generalize l[k] = s at *
        have HADD := Lib.hid (show addO (AL (l.take k)) s = (AL (l.take (k + 1)), pa l s, 0) by
          unfold addO
          rw [if_pos HFA.out.1, if_pos (.inr (by have := HFA.out.2.2.2; omega)), HAL.out, HPA.out])
        have HSP := Lib.hid (addN_spec (AL (l.take k)) s)
        have hlen : (AL (l.take k)).length ≤ (AL (l.take (k + 1))).length ∧ (AL (l.take (k + 1))).length ≤ (AL (l.take k)).length + 1 := by
          rw [HAL.out]; unfold addL; split <;> simp
        have hpl := (pm_some HSP.out).2
        rw [HPA.out, ← HAL.out] at hpl
        simp only [Nat.zero_add, Nat.sub_zero] at hpl
        obtain ⟨hpl, hpe⟩ := hpl
        have HPE := Lib.hid hpe
        clear hpe
        obtain ⟨h1, h2⟩ := hlen
        go_upto_region 10 with (go_at_call 10; refine (add_anyT s _ hS.out HFA.out.2.1 (by omega)).mono ?_; rw [HADD.out]; rintro e w4 ⟨v4, rfl, hv4, hf4, ht4⟩)
        have HT4 := Lib.hid ht4
        clear ht4 hTy
        have HS4 := Lib.hid (hS.out.fr hf4)
        have HP4 := Lib.hid (own_fr hP.out hf4)
        have HF4 := Lib.hid (hF.out.trans hf4)
        have c4 := hf4.cell c1
        have HV4 := Lib.hid hv4
        clear c1 hf4 hS hP hF HADD HSP
        rcases hv4 with ⟨hnil, _⟩ | ⟨b4, o4, k4, rfl, hc4, hle4⟩
        · rw [hnil] at hpl; simp at hpl
        · have c5 := hc4 _ hpl
          have he5 : (AL (l.take (k + 1)))[pa l s] = s := by
            have := HPE.out
            rw [List.getElem?_eq_getElem hpl] at this
            exact Option.some.inj this
          rw [he5] at c5
          have HSub := Lib.hid (show ∃ m, AL (l.take (k + 1)) = AL (l.take k) ++ m by rw [HAL.out]; exact addL_cut _ _)
          have HAt := Lib.hid hc4
          clear hc4 he5
          go_upto_region 12 with (go_at_call 20; refine (right_good _ HV4.out HFB.out.2.1 HFB.out.1).mono ?_; rintro e w5 ⟨rfl, hf5⟩)
          have HS5 := Lib.hid (HS4.out.fr hf5)
          have HP5 := Lib.hid (own_fr HP4.out hf5)
          have HT5 := Lib.hid (HT4.out.fr hf5)
          have HF5 := Lib.hid (HF4.out.trans hf5)
          have HV5 := Lib.hid (HV4.out.fr hf5)
          have HSl5 := Lib.hid (show Sl w5 (.slice (some ⟨b4, o4, none⟩) (AL (l.take k)).length k4) (AL (l.take k)) from .inr ⟨b4, o4, k4, rfl, fun i hi => by
            obtain ⟨m, hm⟩ := HSub.out
            have h' := HAt.out i (by omega)
            rw [hf5.cell h']
            congr 3
            simp only [hm]
            rw [List.getElem_append_left hi], by omega⟩)
          have c6 := hf5.cell c4
          have c7 := hf5.cell c5
          clear c4 c5 hf5 HS4 HP4 HF4 HV4 HAt
          go_quiet ((go_at_call 12; refine Calls.quiet_of (same_q _ (HSl5.out.fr (Fr.drewN _ _)) (HS5.out.fr (Fr.drewN _ _)) (by omega))))
          have hfq := Fr.drewN w5 nq
          have HV6 := Lib.hid (HV5.out.fr hfq)
          have HP6 := Lib.hid (own_fr HP5.out hfq)
          have HT6 := Lib.hid (HT5.out.fr hfq)
          have HF6 := Lib.hid (HF5.out.trans hfq)
          generalize w5.drewN nq = w6 at *
          have hsz6 := HF6.out.size
          clear c6 c7 hfq HS5 HP5 HF5 HV5 HSl5
          go_wp2_with (at_builtin; refine wpList_append_own _ rfl _ _ 23 rfl w.heap.size 3 i0 (.int .i64 0) 1 8 Try.underlying23 hi hz0 hz1 hz2 rfl (by decide) _ _ _ rfl (HP6.out.alloc _) ⟨w6.heap.size, 0, none⟩ 1 1 [.int .i64 (pa l s : Int)] rfl rfl ?c1 ?c2 ?c3 ?c4 ?c5 ?_)
          case c1 =>
            intro j u hj
            match j, hj with
            | 0, hj => simp at hj; subst hj; simp [Addr.add]
          case c2 => intro u hu; simp at hu; subst hu; rfl
          case c3 => unfold maxLen; omega
          case c4 => omega
          case c5 => simp; omega
          intro pv' w7 hown7 hgrow _
          have HF7 := Lib.hid ((HF6.out.trans (Fr.alloc w6 (.cells #[.int .i64 (pa l s : Int)] 3))).grown hgrow (fun k hk => (HP6.out.lt k hk).1))
          have HP7 := Lib.hid hown7
          have HVT := (HT6.out.fr (Fr.alloc w6 (.cells #[.int .i64 (pa l s : Int)] 3))).other (HV6.out.fr (Fr.alloc w6 (.cells #[.int .i64 (pa l s : Int)] 3))) (HP6.out.alloc _) hgrow
          have HV7 := Lib.hid HVT.1
          have HT7 := Lib.hid HVT.2
          clear HVT
          clear hgrow hown7
          go_wp2_with fail
          go_roundw
          case rel => exact ⟨k + 1, by omega, by go_num, HV7, HT7, Lib.hid (by rw [HPS.out, List.map_append]; exact HP7.out), HF7⟩
          case measure => simp [intOf]; omega
    · obtain rfl : k = l.length := by omega
      rw [List.take_length] at hS
      have HFA := Lib.hid HFew.out.al
      have hal := HFA.out.2.2.1
      have HIl := Lib.hid (Il.own hP.out)
      obtain ⟨la, lc, rfl⟩ := hS.out.len
      obtain ⟨pva, pvc, rfl⟩ := HIl.out.len
      have hpll := prs_len l l.length (Nat.le_refl _)
      rw [hpll] at HIl ⊢
      clear hpll hP hTy hlt hk
      go_wp2_with fail
      go_loopw [10] (fun i wr' => ∃ k : Nat, k ≤ l.length ∧ i = .int .i64 k ∧ Hid (Fr wr wr')) (fun i _ => l.length - (intOf i).toNat)
      case atStart => exact ⟨0, Nat.zero_le _, rfl, Lib.hid (Fr.refl _)⟩
      case round =>
        obtain ⟨k, hk, rfl, hF2⟩ := hrel
        by_cases hlt : k < l.length
        · have hF0 := hF.out.trans hF2.out
          rcases (H.out.fr hF0) with ⟨hb0, _⟩ | ⟨B, o, c', hv, hc, _⟩
          · rw [hb0] at hlt; simp at hlt
          rcases (HIl.out.fr hF2.out) with ⟨hb0, _⟩ | ⟨pb, po, pc', hv2, hpc⟩
          · have := congrArg List.length hb0
            rw [prs_len l l.length (Nat.le_refl _)] at this
            simp only [List.length_nil] at this
            omega
          obtain ⟨rfl, rfl⟩ : ad = some ⟨B, o, none⟩ ∧ c = c' := by simpa using hv
          have hv3 := hv2
          rw [prs_len l l.length (Nat.le_refl _)] at hv3
          obtain ⟨rfl, rfl⟩ : pva = some ⟨pb, po, none⟩ ∧ pvc = pc' := by simpa using hv3
          have HPC := Lib.hid (show ∀ (j : Nat) (h : j < l.length), wr.cell? ⟨pb, po + j, none⟩ = some (.int .i64 (pa l l[j])) from fun j h => by
            have h' := hpc j (by rw [prs_len l l.length (Nat.le_refl _)]; exact h)
            rw [h']
            simp [prs_all])
          have HC := Lib.hid hc
          have HF3 := Lib.hid hF0
          have HS3 := Lib.hid (hS.out.fr hF2.out)
          have HF2 := Lib.hid hF2.out
          have c1 := hc k hlt
          have c2 := HPC.out k hlt
          have hmem : l[k] ∈ l := List.getElem_mem hlt
          have hsl := HFew.out.2 _ hmem
          have HPS := Lib.hid (pa_spec hmem)
          have HPT := Lib.hid (txt_pa hmem)
          have HPP := Lib.hid (prt_pa hmem)
          have hpl : pa l l[k] < (AL l).length := (pa_lt hmem).1
          have HKK : Hid (∀ (j : Nat) (h : j < l.length), (((pa l l[j] : Nat) : Int) == ((pa l l[k] : Nat) : Int)) = (l[j] == l[k])) := Lib.hid fun j h => by
            rw [Bool.eq_iff_iff]
            simp only [beq_iff_eq]
            rw [show ((pa l l[j] : Nat) : Int) = ((pa l l[k] : Nat) : Int) ↔ pa l l[j] = pa l l[k] from by omega, pa_inj (List.getElem_mem h) hmem]
          clear hc hv hv2 hv3 hpc hF0 hmem
          generalize hs : l[k] = s at *
          have HSK := Lib.hid hs
          generalize hp : pa l s = p at *
          have HPQ := Lib.hid hp
          clear hs hp hF2
          go_upto_region 20 with (go_at_call 10; refine (add_old s _ HS3.out HFA.out.2.1 HFA.out.1 (by omega) HPS.out).mono ?_; rintro e w4 ⟨v4, rfl, hv4, hf4⟩)
          have HV4 := Lib.hid hv4
          have c3 := hf4.cell c1
          have c4 := hf4.cell c2
          have HF4 := Lib.hid (HF2.out.trans hf4)
          have HG4 := Lib.hid hf4
          have HS4 := Lib.hid (HS3.out.fr hf4)
          clear hv4 hf4 c1 c2
          go_upto_region 21 with (go_at_call 18; refine (text_some _ HS4.out HFA.out.2.1 (by omega) (by omega) HPT.out).mono ?_; rintro e w5 ⟨rfl, hf5⟩)
          have HV5 := Lib.hid (HV4.out.fr hf5)
          have c5 := hf5.cell c3
          have c6 := hf5.cell c4
          have HF5 := Lib.hid (HF4.out.trans hf5)
          have HG5 := Lib.hid (HG4.out.trans hf5)
          have HS5 := Lib.hid (HS4.out.fr hf5)
          clear hf5 c3 c4 HV4 HF4 HG4 HS4
          go_upto_region 23 with (first
            | (go_at_call 22; refine (print_any _ (AL l) s _ (HS5.out.fr hf6) HFA.out.2.1 (by omega)).mono ?_; rw [HPP.out]; rintro e w7 ⟨rfl, hf7⟩)
            | (go_at_call 12; refine (same_any _ HV5.out HS5.out (by omega)).mono ?_; rintro e w6 ⟨rfl, hf6⟩; have c7 := hf6.cell c5))
          have HF7 := Lib.hid (HF5.out.trans (hf6.trans hf7))
          have HG7 := Lib.hid (HG5.out.trans (hf6.trans hf7))
          clear hf6 hf7 c5 c6 c7 HV5 HS5 HF5 HG5
          go_wp2_with fail
          go_loopw [16] (fun i w8 => ∃ j : Nat, j ≤ k ∧ i = .int .i64 j ∧ Hid (Fr w7 w8)) (fun i _ => k - (intOf i).toNat)
          case atStart => exact ⟨0, Nat.zero_le _, rfl, Lib.hid (Fr.refl _)⟩
          case round =>
            obtain ⟨j, hj, rfl, hF8⟩ := hrel
            by_cases hjk : j < k
            · have hjl : j < l.length := by omega
              have hFr := HG7.out.trans hF8.out
              have c1 := hFr.cell (HC.out j hjl)
              have c2 := hFr.cell (HC.out k hlt)
              have c3 := hFr.cell (HPC.out j hjl)
              have c4 := hFr.cell (HPC.out k hlt)
              have hk2 := HKK.out j hjl
              rw [HSK.out] at c2 c4
              rw [HPQ.out] at c4
              have hk3 : ((pa l l[j] : Int) == (p : Int)) = (l[j] == s) := hk2
              clear hk2
              generalize pa l l[j] = q at *
              generalize l[j] = x at *
              clear hFr
              by_cases hx : x = s
              · subst hx
                have hqp : (q : Int) = (p : Int) := by simpa using hk3
                obtain rfl : q = p := by omega
                clear hk3 hqp
                go_wp2_with fail
                go_quiet (fail)
                have hq := hF8.out.trans (Fr.drewN wr nq)
                generalize wr.drewN nq = w9 at *
                clear c1 c2 c3 c4
                go_wp2_with fail
                go_roundw
                case rel => exact ⟨j + 1, by omega, by go_num, Lib.hid hq⟩
                case measure => simp [intOf]; omega
              · have hb : (x == s) = false := by simpa using hx
                rw [hb] at hk3
                clear hx
                go_wp2_with fail
                go_quiet (fail)
                have hq := hF8.out.trans (Fr.drewN wr nq)
                generalize wr.drewN nq = w9 at *
                clear c1 c2 c3 c4
                go_wp2_with fail
                go_roundw
                case rel => exact ⟨j + 1, by omega, by go_num, Lib.hid hq⟩
                case measure => simp [intOf]; omega
            · go_wp2_with fail
              go_roundw
              case rel => exact ⟨k + 1, by omega, by go_num, Lib.hid (HF7.out.trans hF8.out)⟩
              case measure => simp [intOf]; omega
        · obtain rfl : k = l.length := by omega
          have HS3 := Lib.hid (hS.out.fr hF2.out)
          have HI3 := Lib.hid (HIl.out.fr hF2.out)
          have HF3 := Lib.hid (hF.out.trans hF2.out)
          have htx := txts_pa l
          have HTX := Lib.hid htx
          have HB : Hid (∀ n ∈ prs l l.length, -9223372036854775808 ≤ n ∧ n ≤ 9223372036854775807) := Lib.hid fun n hn => by
            rw [prs_all] at hn
            obtain ⟨s, hs, rfl⟩ := List.mem_map.1 hn
            have := (pa_lt hs).1
            omega
          clear htx hF2 hlt hk
          go_wp2_with (first
            | (go_at_call 12; refine (same_any (xs := l) _ hv4 (H.out.fr (HF3.out.trans hf4)) (by omega)).mono ?_; rintro e w5 ⟨rfl, hf5⟩)
            | (go_at_call 15; refine (texts_any _ _ (AL l) (prs l l.length) _ HS3.out HFA.out.2.1 HI3.out (by rw [prs_len l l.length (Nat.le_refl _)]; omega) HB.out).mono ?_; rw [HTX.out]; rintro e w4 ⟨v4, rfl, hv4, hf4⟩))
          go_ret
          exact ⟨rfl, HF3.out.trans (hf4.trans hf5)⟩

theorem back_any (v : Value) (l : List Txt) (w : World) (h : Sl w v l) (ha : Arg l) :
    Calls Try.prog 4 #[v] w fun e w' => e = .returned (.bool true) ∧ Fr w w' := by
  by_cases hf : Few l
  · obtain ⟨ad, c, rfl⟩ := h.len
    exact back_yes ad c l w h hf
  · exact back_not v l w h ha hf
end Go.Proofs.Ythibdppjhfhomaa
