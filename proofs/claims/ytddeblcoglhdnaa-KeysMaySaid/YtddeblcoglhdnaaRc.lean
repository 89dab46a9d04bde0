/-
  The reference's Chain, Walk, right.
-/
import Derived.Test.YtddeblcoglhdnaaRb
namespace Go.Proofs.Ytddeblcoglhdnaa
open Go.RowKit Mb Go.BigFrame

set_option maxRecDepth 100000 in
set_option maxHeartbeats 2000000 in
theorem rchain_any (v : Value) (l : List Ft) (n : Txt) (w : World) (h : FSl w v l) (hl : l.length ≤ 1000000) :
    Calls Try.prog 20 #[v, .string (S n)] w (ChP l n w) := by
  obtain ⟨i0, hi, hz0, hz1, hz2⟩ := info_parts infoInt
  have HIN := Lib.hid hi
  obtain ⟨av, ac, rfl⟩ := h.len
  have HV := Lib.hid h
  clear h hi
  go_enter Try.func20, Try.ntmps20
  go_wp2_with fail
  go_loopw [6, 5] (fun vi u5 wr => ∃ (k m : Nat), k ≤ l.length ∧ vi = .int .i64 k ∧ m ≤ k ∧ Hid (wr.ownsRow w.heap.size 3 1 u5 m (ints (chI l n k))) ∧ Hid (Fr w wr)) (fun vi _ _ => l.length - (intOf vi).toNat)
  case atStart => exact ⟨0, 0, Nat.zero_le _, rfl, Nat.le_refl _, Lib.hid (World.ownsRow_nil _ _ _ _), Lib.hid (Fr.refl _)⟩
  case round =>
    obtain ⟨k, m, hk, rfl, hmk, hO, hF⟩ := hrel
    by_cases hlt : k < l.length
    · obtain ⟨g, o, rfl, hat0⟩ := HV.out.at k hlt
      have hat := hat0.fr hF.out
      have c0 := hat.kind
      have c1 := hat.name
      have hst := chI_succ (n := n) hlt
      have hml := hO.out.1
      by_cases hK : l[k].kind = 5 ∨ l[k].kind = 4
      · by_cases hN : l[k].name = n
        · have hN' : (l[k].name == n) = true := by simpa using hN
          have hi' : isO l[k] n = true := by
            unfold isO; rw [hN', Bool.and_true]; rcases hK with h | h <;> simp [h]
          rw [if_pos hi'] at hst
          have HST := Lib.hid hst
          clear hst hi' hN hat hat0 HV
          generalize l[k].name = z at *
          generalize l[k].kind = kd at *
          rcases hK with rfl | rfl
          all_goals
            go_wp2_with (at_builtin; refine wpList_append_own _ rfl (.tmp 36) (.tmp 38) 23 rfl w.heap.size 3 i0 (.int .i64 0) 1 8 Try.underlying23 HIN.out hz0 hz1 hz2 rfl (by decide) _ _ _ rfl (hO.out.alloc _) ⟨wr.heap.size, 0, none⟩ 1 1 [.int .i64 (k : Int)] rfl rfl (World.news_of_block (cs := #[.int .i64 (k : Int)]) (t := 3) (fr := (0, 0)) (heap_alloc_new wr _)) (by simp [Value.oneCell']) (by unfold maxLen; omega) (by omega) (by have := hF.out.size; simp; omega) ?_; intro v3 w3 hown3 hgrow3 _)
            have HO3 := Lib.hid (show w3.ownsRow w.heap.size 3 1 v3 (m + 1) (ints (chI l n (k + 1))) by rw [HST.out, ints_app]; exact hown3)
            have HF3 := Lib.hid (Fr.growO (hF.out.trans (Fr.alloc wr _)) hgrow3 (fun k hk => (hO.out.lt k hk).1))
            clear hown3 hgrow3
            go_roundw
            case rel => exact ⟨k + 1, m + 1, by omega, by go_num, by omega, HO3, HF3⟩
            case measure => simp [intOf]; omega
        · have hN' : (l[k].name == n) = false := by simpa using hN
          have hi' : ¬ isO l[k] n = true := by
            unfold isO; rw [hN', Bool.and_false]; decide
          rw [if_neg hi'] at hst
          have HO3 := Lib.hid (show wr.ownsRow w.heap.size 3 1 u5 m (ints (chI l n (k + 1))) by rw [hst]; exact hO.out)
          clear hst hi' hN hat hat0 HV
          generalize l[k].name = z at *
          generalize l[k].kind = kd at *
          rcases hK with rfl | rfl
          all_goals
            go_wp2_with fail
            go_roundw
            case rel => exact ⟨k + 1, m, by omega, by go_num, by omega, HO3, hF⟩
            case measure => simp [intOf]; omega
      · have e5 : (l[k].kind == 5) = false := by simp; omega
        have e4 : (l[k].kind == 4) = false := by simp; omega
        have hi' : ¬ isO l[k] n = true := by
          unfold isO
          rw [decide_eq_false (fun h => hK (.inl h)), decide_eq_false (fun h => hK (.inr h))]
          simp
        rw [if_neg hi'] at hst
        have HO3 := Lib.hid (show wr.ownsRow w.heap.size 3 1 u5 m (ints (chI l n (k + 1))) by rw [hst]; exact hO.out)
        clear hst hi' hK hat hat0 HV
        generalize l[k].name = z at *
        generalize l[k].kind = kd at *
        go_wp2_with fail
        go_roundw
        case rel => exact ⟨k + 1, m, by omega, by go_num, by omega, HO3, hF⟩
        case measure => simp [intOf]; omega
    · have hkl : k = l.length := by omega
      have HS := Lib.hid (show Sl wr u5 (chn l n) from Sl.own (l := chn l n) (by have := hO.out; rw [hkl] at this; exact this))
      clear hO
      go_wp2_with fail
      go_ret
      exact ⟨_, rfl, HS.out, hF.out⟩

set_option maxRecDepth 100000 in
set_option maxHeartbeats 1000000 in
theorem rwalk_any (v u : Value) (l : List Ft) (n : Txt) (c : List Int) (w : World) (h : FSl w v l) (hl : LB l) (hu : Sl w u c) (hc : c.length ≤ 1000000) :
    Calls Try.prog 18 #[v, .string (S n), u] w (WkP l n c w) := by
  have HC := Lib.hid (rchain_any v l n w h hl.len)
  have HE := Lib.hid fun v' w' (hv : Sl w' v' (chn l n)) (hw : Fr w w') => ints_any u v' c (chn l n) w' (hu.fr hw) hv hc
  have HO := Lib.hid fun w' (hw : Fr w w') => rowner_any v l n w' (h.fr hw) hl
  unfold WkP wkX wkE
  unfold ChP at HC
  unfold OwnP at HO
  by_cases he : c = chn l n
  · rw [decide_eq_true he] at HE
    rw [if_pos he, if_pos he]
    by_cases h0 : c = []
    · have hx := own_empty (l := l) (n := n) (by rw [← he]; exact h0)
      rw [if_pos h0, hx]
      rw [hx] at HO
      clear h hl hu hc he h0 hx
      go_enter Try.func18, Try.ntmps18
      go_wp2_with (first
        | (go_at_call 20; refine HC.out.mono ?_; rintro e w1 ⟨v1, rfl, hs, hf⟩; have HS := Lib.hid hs; have HF := Lib.hid hf; clear hs hf)
        | (go_at_call 14; refine (HE.out _ _ HS.out HF.out).mono ?_; rintro e w2 ⟨rfl, hf2⟩; have HF2 := Lib.hid (HF.out.trans hf2); clear hf2)
        | (go_at_call 11; refine (HO.out _ HF2.out).mono ?_; rintro e w3 ⟨kv, rfl, hk, hf3⟩; have HF3 := Lib.hid (HF2.out.trans hf3); clear hf3 hk))
      go_ret3
      exact ⟨_, rfl, Sl.nil _ _ _, HF3.out⟩
    · rw [if_neg h0]
      obtain ⟨p, i, hi, hp, ho⟩ := own_last (l := l) (n := n) (by rw [← he]; exact h0)
      rw [ho]
      rw [ho] at HO
      generalize l[i] = f at *
      clear h hl hu hc he h0 hp ho
      go_enter Try.func18, Try.ntmps18
      go_wp2_with (first
        | (go_at_call 20; refine HC.out.mono ?_; rintro e w1 ⟨v1, rfl, hs, hf⟩; have HS := Lib.hid hs; have HF := Lib.hid hf; clear hs hf)
        | (go_at_call 14; refine (HE.out _ _ HS.out HF.out).mono ?_; rintro e w2 ⟨rfl, hf2⟩; have HF2 := Lib.hid (HF.out.trans hf2); clear hf2)
        | (go_at_call 11; refine (HO.out _ HF2.out).mono ?_; rintro e w3 ⟨kv, rfl, hk, hf3⟩; have HK := Lib.hid hk; have HF3 := Lib.hid (HF2.out.trans hf3); clear hf3 hk))
      go_ret3
      exact ⟨_, rfl, HK.out, HF3.out⟩
  · rw [decide_eq_false he] at HE
    rw [if_neg he, if_neg he]
    clear h hl hu hc he HO
    go_enter Try.func18, Try.ntmps18
    go_wp2_with (first
      | (go_at_call 20; refine HC.out.mono ?_; rintro e w1 ⟨v1, rfl, hs, hf⟩; have HS := Lib.hid hs; have HF := Lib.hid hf; clear hs hf)
      | (go_at_call 14; refine (HE.out _ _ HS.out HF.out).mono ?_; rintro e w2 ⟨rfl, hf2⟩; have HF2 := Lib.hid (HF.out.trans hf2); clear hf2))
    go_ret3
    exact ⟨_, rfl, Sl.nil _ _ _, HF2.out⟩

/-! ### right -/
def rrB (f : Ft) : Bool := asc (-1) f.keys && (decide (f.keys.length ≤ 12) && decide (1 ≤ f.need) && decide (f.need ≤ f.keys.length))
theorem rr_eq (f : Ft) : (isS f.keys && decide (1 ≤ f.need) && decide (f.need ≤ f.keys.length)) = rrB f := by
  unfold isS rrB
  rw [Bool.eq_iff_iff]
  simp only [Bool.and_eq_true, decide_eq_true_eq]
  constructor
  · rintro ⟨⟨⟨⟨_, h2⟩, h3⟩, h4⟩, h5⟩; exact ⟨h3, ⟨h2, h4⟩, h5⟩
  · rintro ⟨h3, ⟨h2, h4⟩, h5⟩; exact ⟨⟨⟨⟨by omega, h2⟩, h3⟩, h4⟩, h5⟩
set_option maxRecDepth 100000 in
set_option maxHeartbeats 2000000 in
theorem rright_any (f : Ft) (w : World) (h : FtOk w f) (hb : FB f) :
    Calls Try.prog 34 #[f.v] w fun e w' => e = .returned (.bool (rrB f)) ∧ Fr w w' := by
  have hA := FtAt.new h 39
  have HF0 := Lib.hid (Fr.alloc w (.cells f.cs.toArray 39))
  have c25 := hA.need
  obtain ⟨kv, c24, hkv⟩ := hA.keys
  simp only [Nat.zero_add] at c24 c25
  have C24 := Lib.hid c24
  have C25 := Lib.hid c25
  have hn := hb.keys.len
  obtain ⟨av, ac, rfl⟩ := hkv.len
  have HK := Lib.hid hkv
  unfold Ft.v rrB
  generalize f.keys = ks at *
  generalize f.need = nd at *
  clear h hA hb hkv c24 c25
  go_enter Try.func34, Try.ntmps34
  go_upto_region 1 with fail
  generalize (w.alloc (.cells f.cs.toArray 39)) = w0 at *
  go_wp2_with fail
  go_loopw [3] (fun vi wr => ∃ (k : Nat) (p : Int), k ≤ ks.length ∧ vi = .int .i64 k ∧ Hid (asc (-1) ks = asc p (ks.drop k)) ∧ Hid ((k = 0 ∧ p = -1) ∨ ∃ m, ∃ hm : m < ks.length, k = m + 1 ∧ p = ks[m] ∧ 0 ≤ p) ∧ Hid (Fr w0 wr)) (fun vi _ => ks.length - (intOf vi).toNat)
  case atStart => exact ⟨0, -1, Nat.zero_le _, rfl, Lib.hid rfl, Lib.hid (.inl ⟨rfl, rfl⟩), Lib.hid (Fr.refl _)⟩
  case round =>
    obtain ⟨k, p, hk, rfl, hE, hP, hF⟩ := hrel
    have c24 := hF.out.cell C24.out
    have c25 := hF.out.cell C25.out
    by_cases hlt : k < ks.length
    · obtain ⟨g, o, rfl, hck⟩ := HK.out.at k hlt
      have ck := hF.out.cell hck
      have hE2 := hE.out
      rw [List.drop_eq_getElem_cons hlt] at hE2
      simp only [asc] at hE2
      have hPn := hP.out
      have HN := Lib.hid (show 0 ≤ ks[k] → ((k + 1 = 0 ∧ ks[k] = -1) ∨ ∃ m, ∃ hm : m < ks.length, k + 1 = m + 1 ∧ ks[k] = ks[m] ∧ 0 ≤ ks[k]) from fun h => .inr ⟨k, hlt, rfl, rfl, h⟩)
      by_cases h1 : ks[k] < 0
      · have d1 : decide (ks[k] < 0) = true := decide_eq_true h1
        have HR := Lib.hid (show asc (-1) ks = false by
          rw [hE2, decide_eq_false (by rcases hPn with ⟨_, hp⟩ | ⟨m, hm, _, hp, hp0⟩ <;> omega : ¬ p < ks[k])]; rfl)
        clear hE hE2 hP hPn HN hck h1
        generalize ks[k] = y at *
        go_wp2_with fail
        go_quiet (fail)
        go_wp2_with fail
        go_ret
        rw [HR.out]
        exact ⟨rfl, (HF0.out.trans hF.out).trans (Fr.drewN _ _)⟩
      · have d1 : decide (ks[k] < 0) = false := decide_eq_false h1
        by_cases h2 : 200 ≤ ks[k]
        · have d2 : decide (200 ≤ ks[k]) = true := decide_eq_true h2
          have HR := Lib.hid (show asc (-1) ks = false by
            rw [hE2, decide_eq_false (by omega : ¬ ks[k] < 200)]; simp)
          clear hE hE2 hP hPn HN hck h1 h2
          generalize ks[k] = y at *
          go_wp2_with fail
          go_quiet (fail)
          go_wp2_with fail
          go_ret
          rw [HR.out]
          exact ⟨rfl, (HF0.out.trans hF.out).trans (Fr.drewN _ _)⟩
        · have d2 : decide (200 ≤ ks[k]) = false := decide_eq_false h2
          rw [decide_eq_true (by omega : ks[k] < 200), Bool.and_true] at hE2
          have HN2 := Lib.hid (HN.out (by omega))
          rcases hPn with ⟨rfl, rfl⟩ | ⟨m, hm, rfl, rfl, hp0⟩
          · have HR := Lib.hid (show asc (-1) ks = asc ks[0] (ks.drop (0 + 1)) by
              rw [hE2, decide_eq_true (by omega : (-1 : Int) < ks[0])]; rfl)
            clear hE hE2 hP HN hck h1 h2
            rw [Nat.add_zero] at ck
            generalize hy : ks[0] = y at *
            clear hy
            go_wp2_with fail
            go_quiet (fail)
            go_wp2_with fail
            go_roundw
            case rel => exact ⟨0 + 1, y, by omega, by go_num, HR, HN2, Lib.hid (hF.out.trans (Fr.drewN _ _))⟩
            case measure => simp [intOf]; omega
          · obtain ⟨g3, o3, hgo, hcm⟩ := HK.out.at m hm
            cases hgo
            have cm := hF.out.cell hcm
            by_cases h3 : ks[m + 1] ≤ ks[m]
            · have d3 : decide (ks[m + 1] ≤ ks[m]) = true := decide_eq_true h3
              have HR := Lib.hid (show asc (-1) ks = false by
                rw [hE2, decide_eq_false (by omega : ¬ ks[m] < ks[m + 1])]; rfl)
              clear hE hE2 hP HN HN2 hck hcm h1 h2 h3
              generalize ks[m + 1] = y at *
              generalize ks[m] = p at *
              go_wp2_with fail
              go_quiet (fail)
              go_wp2_with fail
              go_ret
              rw [HR.out]
              exact ⟨rfl, (HF0.out.trans hF.out).trans (Fr.drewN _ _)⟩
            · have d3 : decide (ks[m + 1] ≤ ks[m]) = false := decide_eq_false h3
              have HR := Lib.hid (show asc (-1) ks = asc ks[m + 1] (ks.drop (m + 1 + 1)) by
                rw [hE2, decide_eq_true (by omega : ks[m] < ks[m + 1])]; rfl)
              clear hE hE2 hP HN hck hcm h1 h2 h3
              generalize hy : ks[m + 1] = y at *
              generalize hz : ks[m] = p at *
              clear hy hz
              go_wp2_with fail
              go_quiet (fail)
              go_wp2_with fail
              go_roundw
              case rel => exact ⟨m + 1 + 1, y, by omega, by go_num, HR, HN2, Lib.hid (hF.out.trans (Fr.drewN _ _))⟩
              case measure => simp [intOf]; omega
    · have hkl : k = ks.length := by omega
      have HR := Lib.hid (show asc (-1) ks = true by rw [hE.out, hkl, List.drop_length]; rfl)
      clear hE hP
      by_cases h1 : ks.length ≤ 12
      · have d1 : decide ((ks.length : Int) ≤ 12) = true := decide_eq_true (by omega)
        by_cases h2 : 1 ≤ nd
        · have d2 : decide (1 ≤ nd) = true := decide_eq_true h2
          have HR2 := Lib.hid (show (asc (-1) ks && (decide (ks.length ≤ 12) && decide (1 ≤ nd) && decide (nd ≤ (ks.length : Int)))) = decide (nd ≤ (ks.length : Int)) by
            rw [HR.out, decide_eq_true h1, d2]; rfl)
          clear h1 h2 HR
          go_wp2_with fail
          go_ret
          rw [HR2.out]
          exact ⟨rfl, HF0.out.trans hF.out⟩
        · have d2 : decide (1 ≤ nd) = false := decide_eq_false h2
          have HR2 := Lib.hid (show (asc (-1) ks && (decide (ks.length ≤ 12) && decide (1 ≤ nd) && decide (nd ≤ (ks.length : Int)))) = false by
            rw [HR.out, decide_eq_true h1, d2]; rfl)
          clear h1 h2 HR
          go_wp2_with fail
          go_ret
          rw [HR2.out]
          exact ⟨rfl, HF0.out.trans hF.out⟩
      · have d1 : decide ((ks.length : Int) ≤ 12) = false := decide_eq_false (by omega)
        have HR2 := Lib.hid (show (asc (-1) ks && (decide (ks.length ≤ 12) && decide (1 ≤ nd) && decide (nd ≤ (ks.length : Int)))) = false by
          rw [HR.out, decide_eq_false h1]; rfl)
        clear h1 HR
        go_wp2_with fail
        go_ret
        rw [HR2.out]
        exact ⟨rfl, HF0.out.trans hF.out⟩
end Go.Proofs.Ytddeblcoglhdnaa
