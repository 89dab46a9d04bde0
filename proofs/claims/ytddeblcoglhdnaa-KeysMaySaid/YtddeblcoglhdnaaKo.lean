/-
  Equal, Walk.
-/
import Derived.Test.YtddeblcoglhdnaaKn
namespace Go.Proofs.Ytddeblcoglhdnaa
open Go.RowKit Mb Go.BigFrame

theorem equal_any (v u : Value) (a b : List Int) (w : World) (ha : Sl w v a) (hb : Sl w u b) (hn : a.length ≤ 1000000) (hm : b.length ≤ 1000000) :
    Calls Try.prog 33 #[v, u] w fun e w' => e = .returned (.bool (decide (a = b))) ∧ Fr w w' := by
  obtain ⟨av, ac, hv⟩ := ha.len
  obtain ⟨bv, bc, hu⟩ := hb.len
  by_cases hl : a.length = b.length
  · rcases Nat.eq_zero_or_pos a.length with h0 | h0
    · have ea : a = [] := List.length_eq_zero_iff.1 h0
      have eb : b = [] := List.length_eq_zero_iff.1 (by omega)
      subst ea eb
      subst hv hu
      refine (Try.slices_Equal_int_empty av bv ac 0 bc w (by omega)).mono ?_
      rintro e w' ⟨rfl, rfl⟩
      exact ⟨by simp, Fr.refl _⟩
    · rcases ha.cases with ⟨rfl, _⟩ | ⟨g, o, c, rfl, hA⟩
      · simp at h0
      rcases hb.cases with ⟨rfl, _⟩ | ⟨g2, o2, c2, rfl, hB⟩
      · exfalso; rw [List.length_nil] at hl; omega
      refine (Try.slices_Equal_int g o a.length c g2 o2 b.length c2 a b w (Nat.le_refl _) (Nat.le_refl _) (by omega) (by omega) (fun j hj => ?_) (fun j hj => ?_)).mono ?_
      · rw [hA j hj]; simp [List.getD, hj]
      · rw [hB j hj]; simp [List.getD, hj]
      · rintro e w' ⟨rfl, q, rfl⟩
        refine ⟨?_, Fr.drewN _ _⟩
        rw [List.take_length, List.take_length]
        congr 2
        rw [Bool.eq_iff_iff]
        simp
  · have hd : decide (a = b) = false := by simp; rintro rfl; exact hl rfl
    rw [hd]
    subst hv hu
    refine (Try.slices_Equal_int_lens av bv a.length ac b.length bc w hl).mono ?_
    rintro e w' ⟨rfl, rfl⟩
    exact ⟨rfl, Fr.refl _⟩

/-- What Walk returns: whose keys, and why not. -/
def wkX (l : List Ft) (n : Txt) (c : List Int) : Option Ft := if c = chn l n then own l n else none
def wkE (l : List Ft) (n : Txt) (c : List Int) : Int := if c = chn l n then (if c = [] then 24 else 0) else 19
def WkP (l : List Ft) (n : Txt) (c : List Int) (w : World) (e : Ending) (w' : World) : Prop := ∃ kv, e = .returned (.tuple #[kv, .int .i64 (ndO (wkX l n c)), .int .i64 (wkE l n c)]) ∧ Sl w' kv (kyO (wkX l n c)) ∧ Fr w w'
theorem own_empty {l : List Ft} {n : Txt} (h : chn l n = []) : own l n = none := by
  rcases chN_last l n l.length (Nat.le_refl _) with ⟨_, h2⟩ | ⟨p, i, hi, h1, _⟩
  · rwa [List.take_length] at h2
  · unfold chn at h; rw [h1] at h; simp at h
theorem own_last {l : List Ft} {n : Txt} (h : chn l n ≠ []) : ∃ (p : List Int) (i : Nat) (hi : i < l.length), chn l n = p ++ [(i : Int)] ∧ own l n = some l[i] := by
  rcases chN_last l n l.length (Nat.le_refl _) with ⟨h1, _⟩ | ⟨p, i, hi, h1, h2⟩
  · exact absurd (by unfold chn; rw [h1]; rfl) h
  · rw [List.take_length] at h2
    exact ⟨p.map fun i : Nat => (i : Int), i, hi, by unfold chn; rw [h1]; simp, h2⟩
set_option maxRecDepth 100000 in
set_option maxHeartbeats 1000000 in
theorem walk_any (v u : Value) (l : List Ft) (n : Txt) (c : List Int) (w : World) (h : FSl w v l) (hl : LB l) (hu : Sl w u c) (hc : c.length ≤ 1000000) :
    Calls Try.prog 17 #[v, .string (S n), u] w (WkP l n c w) := by
  have HC := Lib.hid (chain_any v l n w h hl.len)
  have hlc : (chn l n).length ≤ 1000000 := by
    have := chI_len l n l.length
    have h2 := hl.len
    show (chI l n l.length).length ≤ _
    omega
  have HE := Lib.hid fun v' w' (hv : Sl w' v' (chn l n)) (hw : Fr w w') => equal_any u v' c (chn l n) w' (hu.fr hw) hv hc hlc
  unfold WkP wkX wkE
  unfold ChP at HC
  by_cases he : c = chn l n
  · rw [decide_eq_true he] at HE
    rw [if_pos he, if_pos he]
    by_cases h0 : c = []
    · rw [if_pos h0, own_empty (by rw [← he]; exact h0)]
      subst h0
      obtain ⟨ua, uc, rfl⟩ := hu.len
      clear h hl hu hc hlc he
      go_enter Try.func17, Try.ntmps17
      go_wp2_with (first
        | (go_at_call 19; refine HC.out.mono ?_; rintro e w1 ⟨v1, rfl, hs, hf⟩; have HS := Lib.hid hs; have HF := Lib.hid hf; clear hs hf)
        | (go_at_call 33; refine (HE.out _ _ HS.out HF.out).mono ?_; rintro e w2 ⟨rfl, hf2⟩; have HF2 := Lib.hid (HF.out.trans hf2); clear hf2))
      go_ret3
      exact ⟨_, rfl, Sl.nil _ _ _, HF2.out⟩
    · rw [if_neg h0]
      obtain ⟨p, i, hi, hp, ho⟩ := own_last (l := l) (n := n) (by rw [← he]; exact h0)
      rw [ho]
      have hlen : c.length = p.length + 1 := by rw [he, hp]; simp
      obtain ⟨av, ac, rfl⟩ := h.len
      obtain ⟨g, o, rfl, hat⟩ := h.at i hi
      obtain ⟨ua, uc, rfl⟩ := hu.len
      obtain ⟨g2, o2, rfl, c1⟩ := hu.at p.length (by omega)
      have hci : c[p.length]'(by omega) = (i : Int) := by
        have h1 : c[p.length]? = some (i : Int) := by rw [he, hp]; simp
        exact (List.getElem?_eq_some_iff.1 h1).2
      rw [hci] at c1
      have C1 := Lib.hid c1
      have HAT := Lib.hid hat
      have hkl := (hl.get hi).keys.len
      clear hci
      have hlw := hl.len
      rw [hlen] at HE ⊢
      generalize p.length = m at *
      generalize l[i] = f at *
      clear h hl hu hlc he c1 hat hp ho h0
      have hnz : ((m : Int) + 1 == 0) = false := by rw [beq_eq_false_iff_ne]; omega
      have hc' : m + 1 ≤ 1000000 := by omega
      clear hc hlen
      go_enter Try.func17, Try.ntmps17
      go_wp2_with (first
        | (go_at_call 19; refine HC.out.mono ?_; rintro e w1 ⟨v1, rfl, hs, hf⟩; have HS := Lib.hid hs; have HF := Lib.hid hf; clear hs hf)
        | (go_at_call 33; refine (HE.out _ _ HS.out HF.out).mono ?_; rintro e w2 ⟨rfl, hf2⟩; have HF2 := Lib.hid (HF.out.trans hf2); have c1 := HF2.out.cell C1.out; clear hf2))
      have hat1 := HAT.out.fr HF2.out
      have c25 := hat1.need
      obtain ⟨kv, c24, hkv⟩ := hat1.keys
      have HCl := Lib.hid fun w' (hw : Fr w2 w') => clone_any kv f.keys w' (hkv.fr hw) hkl
      clear hat1 hkv
      go_region_held3 (fun w' => w'.cell? ⟨g, o + i * 29 + 24, none⟩ = some kv ∧ w'.cell? ⟨g, o + i * 29 + 25, none⟩ = some (.int .i64 f.need)) (first | exact hc2 | exact ⟨c24, c25⟩) ((go_at_call 28; refine (HCl.out _ (by with_reducible exact Fr.drew _)).mono ?_; rintro e w3 ⟨kv2, rfl, hk2, hf3⟩; have hc2 := And.intro (Fr.cell (Fr.trans (Fr.drew _) hf3) c24) (Fr.cell (Fr.trans (Fr.drew _) hf3) c25); have HK := Lib.hid hk2; have HF3 := Lib.hid ((HF2.out.trans (Fr.drew _)).trans hf3); clear hk2 hf3))
      all_goals
        go_wp2_with fail
        go_ret3
        exact ⟨_, rfl, HK.out, HF3.out⟩
  · rw [decide_eq_false he] at HE
    rw [if_neg he, if_neg he]
    clear h hl hu hc hlc he
    go_enter Try.func17, Try.ntmps17
    go_wp2_with (first
      | (go_at_call 19; refine HC.out.mono ?_; rintro e w1 ⟨v1, rfl, hs, hf⟩; have HS := Lib.hid hs; have HF := Lib.hid hf; clear hs hf)
      | (go_at_call 33; refine (HE.out _ _ HS.out HF.out).mono ?_; rintro e w2 ⟨rfl, hf2⟩; have HF2 := Lib.hid (HF.out.trans hf2); clear hf2))
    go_ret3
    exact ⟨_, rfl, Sl.nil _ _ _, HF2.out⟩
end Go.Proofs.Ytddeblcoglhdnaa
