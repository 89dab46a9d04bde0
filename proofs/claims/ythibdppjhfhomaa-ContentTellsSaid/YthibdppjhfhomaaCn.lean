/-
  Contracts of the reference: Add, Texts, Join.
-/
import Derived.Test.YthibdppjhfhomaaCk
namespace Go.Proofs.Ythibdppjhfhomaa
open Go.RowKit Go.MapKept Go.Maps Go.WideMaps

theorem Sl.src {w : World} {v : Value} {l : List Txt} (h : Sl w v l) (hz : Nz v) : (v = .slice none 0 0 ∧ l = []) ∨ ∃ ad c, v = .slice (some ad) l.length c ∧ ∀ j u, (strs l)[j]? = some u → w.cell? (ad.add j) = some u := by
  rcases h with ⟨rfl, a, c, rfl⟩ | ⟨b, o, c, rfl, hc, _⟩
  · cases a with
    | none => obtain ⟨_, rfl⟩ := hz 0 c rfl; exact .inl ⟨rfl, rfl⟩
    | some a => exact .inr ⟨a, c, rfl, fun j u hj => by simp [strs] at hj⟩
  · refine .inr ⟨_, c, rfl, fun j u hj => ?_⟩
    unfold strs at hj
    rw [List.getElem?_map] at hj
    rcases Nat.lt_or_ge j l.length with h | h
    · rw [List.getElem?_eq_getElem h] at hj
      simp only [Option.map_some, Option.some.injEq] at hj
      have ha : (⟨b, o, none⟩ : Addr).add j = ⟨b, o + j, none⟩ := by unfold Addr.add; split <;> simp_all
      rw [ha, ← hj]
      exact hc j h
    · rw [List.getElem?_eq_none h] at hj
      simp at hj
theorem own_empty (w : World) (B : Nat) (hB : B ≤ w.heap.size) (T : TypeId) : (w.alloc (.cells #[] T)).ownsRow B T 1 (.slice (some ⟨w.heap.size, 0, none⟩) 0 0) 0 [] :=
  ⟨rfl, .inr ⟨w.heap.size, 0, #[], rfl, hB, (MapKept.heap_alloc w _).1, Nat.le_refl _, by unfold maxLen; omega, rfl, rfl⟩⟩
theorem strs_one (l : List Txt) : ∀ u ∈ strs l, u.oneCell' = true := fun u hu => by
  obtain ⟨z, _, rfl⟩ := List.mem_map.1 hu
  rfl

theorem radd_bad {v : Value} {l : List Txt} (s : Txt) (w : World) (h : Sl w v l) (hl : Ok l) (hr : ¬ Rt l) :
    Calls Try.prog 11 #[v, .string (S s)] w fun e w' => e = .returned (.tuple #[.slice none 0 0, .int .i64 0, .int .i64 1]) ∧ Fr w w' := by
  go_enter Try.func11, Try.ntmps11
  go_wp2_with (go_at_call 21; refine (rright_bad _ h hl hr).mono ?_; rintro e w' ⟨rfl, hF⟩)
  go_ret3
  exact ⟨rfl, hF⟩
set_option maxHeartbeats 1000000 in
theorem radd_good {v : Value} {l : List Txt} (s : Txt) (w : World) (h : Sl w v l) (hz : Nz v) (hl : Ok l) (hr : Rt l) (hs : s.length ≤ 1099511627776) :
    Calls Try.prog 11 #[v, .string (S s)] w fun e w' => ∃ v', e = .returned (.tuple #[v', .int .i64 (addO l s).2.1, .int .i64 (addO l s).2.2]) ∧ Sl w' v' (addO l s).1 ∧ Fr w w' := by
  obtain ⟨i0, hi, hz0, hz1, hz2⟩ := info_parts infoStr
  have H := Lib.hid h
  have HZ := Lib.hid hz
  have HL := Lib.hid hl
  have HR := Lib.hid hr
  have hl1 := hl.1
  have hl2 := hl.2
  clear h hz hl hr
  go_enter Try.func11, Try.ntmps11
  go_upto_region 3 with (go_at_call 21; refine (rright_good _ H.out HL.out HR.out).mono ?_; rintro e w1 ⟨rfl, hf1⟩)
  have H1 := Lib.hid (H.out.fr hf1)
  have HF1 := Lib.hid hf1
  have hsz := hf1.size
  clear hf1
  go_cut [7] (fun o wx => Hid (wx.ownsRow w.heap.size 9 1 o l.length (strs l)) ∧ Hid (Fr w wx))
  case first =>
    rcases H1.out.src HZ.out with ⟨rfl, rfl⟩ | ⟨ad, c, rfl, hcells⟩
    · go_wp2_with (at_builtin; refine wpList_append_own_none rfl _ _ 22 rfl w.heap.size 9 i0 1 Try.underlying22 hi _ _ _ rfl (own_empty w1 _ hsz 9) rfl ?_)
      go_meet
      exact ⟨Lib.hid (own_empty w1 _ hsz 9), Lib.hid (HF1.out.trans (Fr.alloc _ _))⟩
    · have HC := Lib.hid (show ∀ j u, (strs l)[j]? = some u → (w1.alloc (.cells #[] 9)).cell? (ad.add j) = some u from fun j u hj => (Fr.alloc w1 _).cell (hcells j u hj))
      clear hcells
      go_wp2_with (at_builtin; refine wpList_append_own _ rfl _ _ 22 rfl w.heap.size 9 i0 (.string (S [])) 1 16 Try.underlying22 hi hz0 hz1 hz2 rfl (by decide) _ _ _ rfl (own_empty w1 _ hsz 9) ad l.length c (strs l) rfl (by rw [strs_len]; omega) HC.out (strs_one l) ?c3 ?c4 ?c5 ?_)
      case c3 => unfold maxLen; omega
      case c4 => omega
      case c5 => simp; omega
      intro v2 w4 hown4 hgrow _
      have hw4 := (HF1.out.trans (Fr.alloc w1 (.cells #[] 9))).grown hgrow (fun k hk => by
        simp only [Value.ownBlock, Option.some.injEq] at hk
        omega)
      have HW := Lib.hid hw4
      have HO := Lib.hid hown4
      clear hgrow hw4 hown4
      go_wp2_with fail
      go_meet
      exact ⟨HO, HW⟩
  case rest =>
    obtain ⟨HO, HF⟩ := hcut
    clear H1
    by_cases hm : s ∈ l
    · obtain ⟨k, hk⟩ := pm_mem (i := 0) hm
      have HP := Lib.hid (prt_some hk)
      have HADD := Lib.hid (show addO l s = (l, k, 0) by
        unfold addO addL addN
        rw [if_pos HR.out, if_pos (.inl hm), if_pos hm, hk]; rfl)
      have hkl := (pm_some hk).2.1
      clear hm hk
      go_wp2_with (go_at_call 23; refine (rprint_any s _ (H.out.fr HF.out) (by omega)).mono ?_; rw [HP.out]; rintro e w5 ⟨rfl, hf5⟩)
      go_ret3
      exact ⟨_, by rw [HADD.out]; rfl, by rw [HADD.out]; exact (Sl.own HO.out).fr hf5, HF.out.trans hf5⟩
    · have HP := Lib.hid (prt_none hm)
      have hk : pm 0 l s = none := pm_none.2 hm
      by_cases hfit : tot l + s.length ≤ 1048576
      · have HADD := Lib.hid (show addO l s = (l ++ [s], l.length, 0) by
          unfold addO addL addN
          rw [if_pos HR.out, if_pos (.inr hfit), if_neg hm, hk]; rfl)
        clear hm hk
        obtain ⟨a0, c0, rfl⟩ := H.out.len
        go_wp2_with (first
          | (go_at_call 27; refine (rbytes_any _ ((H.out.fr HF.out).fr hf5) HL.out).mono ?_; rintro e w6 ⟨rfl, rfl⟩)
          | (go_at_call 23; refine (rprint_any s _ (H.out.fr HF.out) (by omega)).mono ?_; rw [HP.out]; rintro e w5 ⟨rfl, hf5⟩; have HO5 := Lib.hid (own_fr HO.out hf5); have hsz5 := (HF.out.trans hf5).size)
          | (at_builtin; refine wpList_append_own _ rfl _ _ 22 rfl _ 9 i0 (.string (S [])) 1 16 Try.underlying22 hi hz0 hz1 hz2 rfl (by decide) _ _ _ rfl (HO5.out.alloc _) ⟨w6.heap.size, 0, none⟩ 1 1 [.string (S s)] rfl rfl ?c1 ?c2 ?c3 ?c4 ?c5 ?_))
        case c1 =>
          intro j u hj
          match j, hj with
          | 0, hj => simp at hj; subst hj; simp [Addr.add]
        case c2 => intro u hu; simp at hu; subst hu; rfl
        case c3 => unfold maxLen; omega
        case c4 => omega
        case c5 => simp; omega
        intro v2 w7 hown6 hgrow _
        have HW := Lib.hid (((HF.out.trans hf5).trans (Fr.alloc w6 (.cells #[.string (S s)] 9))).grown hgrow (fun k hk => (HO5.out.lt k hk).1))
        have HO6 := Lib.hid hown6
        clear hgrow hown6 hf5
        go_wp2_with fail
        go_ret3
        exact ⟨_, by rw [HADD.out]; rfl, by rw [HADD.out]; exact Sl.own (by rw [strs_app]; exact HO6.out), HW.out⟩
      · have HADD := Lib.hid (show addO l s = ([], 0, 6) by
          unfold addO
          rw [if_pos HR.out, if_neg (by rintro (h | h); exact hm h; exact hfit h)])
        clear hm hk
        go_wp2_with (first
          | (go_at_call 27; refine (rbytes_any _ ((H.out.fr HF.out).fr hf5) HL.out).mono ?_; rintro e w6 ⟨rfl, rfl⟩)
          | (go_at_call 23; refine (rprint_any s _ (H.out.fr HF.out) (by omega)).mono ?_; rw [HP.out]; rintro e w5 ⟨rfl, hf5⟩))
        go_ret3
        exact ⟨_, by rw [HADD.out]; rfl, by rw [HADD.out]; exact .nil _ _ _, HF.out.trans hf5⟩
theorem radd_any {v : Value} {l : List Txt} (s : Txt) (w : World) (h : Sl w v l) (hz : Nz v) (hl : Ok l) (hs : s.length ≤ 1099511627776) :
    Calls Try.prog 11 #[v, .string (S s)] w fun e w' => ∃ v', e = .returned (.tuple #[v', .int .i64 (addO l s).2.1, .int .i64 (addO l s).2.2]) ∧ Sl w' v' (addO l s).1 ∧ Fr w w' := by
  by_cases hr : Rt l
  · exact radd_good s w h hz hl hr hs
  · have e1 : addO l s = ([], 0, 1) := by unfold addO; rw [if_neg hr]
    rw [e1]
    exact (radd_bad s w h hl hr).mono fun e w' ⟨he, hf⟩ => ⟨_, he, .nil _ _ _, hf⟩

/-- The strings so far. -/
def tq (l : List Txt) (q : List Int) (k : Nat) : List Txt := (q.take k).map fun n => (txt l n).getD []
theorem tq_succ (l : List Txt) (q : List Int) (k : Nat) (hk : k < q.length) : tq l q (k + 1) = tq l q k ++ [(txt l q[k]).getD []] := by
  unfold tq
  rw [List.take_succ_eq_append_getElem hk, List.map_append]; rfl
theorem tq_len (l : List Txt) (q : List Int) (k : Nat) (hk : k ≤ q.length) : (tq l q k).length = k := by unfold tq; rw [List.length_map, List.length_take]; omega

set_option maxHeartbeats 1000000 in
theorem rtexts_any (v : Value) (ad : Option Addr) (c : Nat) (l : List Txt) (q : List Int) (w : World) (h : Sl w v l) (hl : Ok l) (hq : Il w (.slice ad q.length c) q) (hn : q.length ≤ 1099511627776) (h64 : ∀ n ∈ q, -9223372036854775808 ≤ n ∧ n ≤ 9223372036854775807) :
    Calls Try.prog 16 #[v, .slice ad q.length c] w fun e w' => ∃ v', e = .returned (.tuple #[v', .int .i64 (txE (txts l q))]) ∧ Sl w' v' ((txts l q).getD []) ∧ Fr w w' := by
  obtain ⟨i0, hi, hz0, hz1, hz2⟩ := info_parts infoStr
  have H := Lib.hid h
  have HL := Lib.hid hl
  have HQ := Lib.hid hq
  have H64 := Lib.hid h64
  clear h hl hq h64
  go_enter Try.func16, Try.ntmps16
  go_wp2_with fail
  go_loopw [6, 7] (fun o i wr => ∃ k : Nat, k ≤ q.length ∧ i = .int .i64 k ∧ Hid (wr.ownsRow w.heap.size 9 1 o k (strs (tq l q k))) ∧ Hid (Fr w wr) ∧ Hid (∀ (j : Nat) (h : j < k) (h' : j < q.length), (txt l q[j]).isSome)) (fun _ i _ => q.length - (intOf i).toNat)
  case atStart => exact ⟨0, Nat.zero_le _, rfl, Lib.hid ⟨by simp [tq, strs], .inl ⟨rfl, rfl⟩⟩, Lib.hid (Fr.refl _), Lib.hid (fun j h => by omega)⟩
  case round =>
    obtain ⟨k, hk, rfl, hO, hF, hA⟩ := hrel
    by_cases hlt : k < q.length
    · rcases (HQ.out.fr hF.out) with ⟨hb0, _⟩ | ⟨qb, qo, qc, hv, hc⟩
      · rw [hb0] at hlt; simp at hlt
      obtain ⟨rfl, rfl⟩ : ad = some ⟨qb, qo, none⟩ ∧ c = qc := by simpa using hv
      have c1 := hc k hlt
      have h0 := (H64.out q[k] (List.getElem_mem hlt)).1
      have h1 := (H64.out q[k] (List.getElem_mem hlt)).2
      have HM := Lib.hid (List.getElem_mem hlt)
      have HTQ := Lib.hid (tq_succ l q k hlt)
      have hsz := hF.out.size
      clear hc hv
      cases ht : txt l q[k] with
      | none =>
        have HE := Lib.hid (txts_none HM.out ht)
        have HT := Lib.hid ht
        clear ht hA HTQ
        generalize q[k] = n at *
        go_wp2_with (go_at_call 19; refine (rtext_none _ (H.out.fr hF.out) HL.out h0 h1 HT.out).mono ?_; rintro e w2 ⟨rfl, hF2⟩)
        go_ret2
        exact ⟨_, by rw [HE.out]; rfl, by rw [HE.out]; exact .nil _ _ _, hF.out.trans hF2⟩
      | some s =>
        have HT := Lib.hid ht
        have HA := Lib.hid (show ∀ (j : Nat) (h : j < k + 1) (h' : j < q.length), (txt l q[j]).isSome from fun j h h' => by
          rcases Nat.lt_or_ge j k with hj | hj
          · exact hA.out j hj h'
          · obtain rfl : j = k := by omega
            rw [ht]; rfl)
        clear ht hA
        generalize q[k] = n at *
        go_wp2_with (first
          | (go_at_call 19; refine (rtext_some _ (H.out.fr hF.out) HL.out h0 h1 HT.out).mono ?_; rintro e w2 ⟨rfl, hF2⟩; have HO2 := Lib.hid (own_fr hO.out hF2); have hsz2 := hF2.size)
          | (at_builtin; refine wpList_append_own _ rfl _ _ 22 rfl w.heap.size 9 i0 (.string (S [])) 1 16 Try.underlying22 hi hz0 hz1 hz2 rfl (by decide) _ _ _ rfl (HO2.out.alloc _) ⟨w2.heap.size, 0, none⟩ 1 1 [.string (S s)] rfl rfl ?c1 ?c2 ?c3 ?c4 ?c5 ?_))
        case c1 =>
          intro j u hj
          match j, hj with
          | 0, hj => simp at hj; subst hj; simp [Addr.add]
        case c2 => intro u hu; simp at hu; subst hu; rfl
        case c3 => unfold maxLen; omega
        case c4 => omega
        case c5 => simp; omega
        intro v2 w6 hown6 hgrow _
        have HW := Lib.hid (((hF.out.trans hF2).trans (Fr.alloc w2 (.cells #[.string (S s)] 9))).grown hgrow (fun k hk => (HO2.out.lt k hk).1))
        have HO6 := Lib.hid hown6
        clear hgrow hown6 hF2 hsz2
        go_wp2_with fail
        go_roundw
        case rel => exact ⟨k + 1, by omega, by go_num, Lib.hid (by rw [HTQ.out, HT.out]; exact (strs_app _ _) ▸ HO6.out), HW, HA⟩
        case measure => simp [intOf]; omega
    · obtain rfl : k = q.length := by omega
      have HE := Lib.hid (txts_some (l := l) (q := q) (fun n hn => by
        obtain ⟨j, hj, rfl⟩ := List.getElem_of_mem hn
        exact hA.out j hj hj))
      clear hA
      go_wp2_with fail
      go_ret2
      refine ⟨_, by rw [HE.out]; rfl, ?_, hF.out⟩
      rw [HE.out]
      have := Sl.own hO.out
      unfold tq at this
      rw [List.take_length] at this
      exact this
end Go.Proofs.Ythibdppjhfhomaa
