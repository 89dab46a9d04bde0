/-
  Contracts: the reference's readers: fail, Back, ahead, number.
-/
import Derived.Test.YtjcajgcfkidbkaaDoorRdr2
namespace Go.Proofs.YtjcajgcfkidbkaaDoor
open Go.RowKit

theorem neg_parse {v : Int} {rt r' : List UInt8} (hv : Wm.inInt v) (h : 45 :: rt = (Wm.intE 59).f v ++ r') : ∃ u : Nat, 1 ≤ u ∧ u ≤ 9223372036854775808 ∧ v = -(u : Int) ∧ rt = Lib.decDigits u ++ 59 :: r' := by
  rw [Wm.intE_f] at h
  by_cases hneg : v < 0
  · obtain ⟨u, rfl⟩ : ∃ u : Nat, v = -(u : Int) := ⟨v.natAbs, by omega⟩
    rw [Lib.itoa_neg u (by omega)] at h
    refine ⟨u, by omega, by have := hv.1; omega, rfl, by simpa using h⟩
  · obtain ⟨u, rfl⟩ : ∃ u : Nat, v = (u : Int) := ⟨v.toNat, by omega⟩
    rw [Lib.itoa_nonneg] at h
    have h1 := Wm.dec_dig u
    cases hd : Lib.decDigits u with
    | nil => exact absurd hd (Wm.dec_ne u)
    | cons d l =>
      rw [hd] at h h1
      simp only [List.cons_append, List.cons.injEq] at h
      have := h1 d (by simp)
      rw [← h.1] at this
      exact absurd this (by decide)
theorem pos_parse {v : Int} {r r' : List UInt8} (hm : ¬ ∃ rt, r = 45 :: rt) (h : r = (Wm.intE 59).f v ++ r') : 0 ≤ v := by
  by_cases hneg : v < 0
  · obtain ⟨u, rfl⟩ : ∃ u : Nat, v = -(u : Int) := ⟨v.natAbs, by omega⟩
    rw [Wm.intE_f, Lib.itoa_neg u (by omega)] at h
    exact absurd ⟨_, h⟩ hm
  · omega

/-- The number that the reference adds up, as a negative int that wraps. -/
def bk (l : List UInt8) : Int := wrap64 (-(Wm.val l : Int))
theorem bk_in (l : List UInt8) : -9223372036854775808 ≤ bk l ∧ bk l ≤ 9223372036854775807 := by unfold bk wrap64; omega
theorem bk_snoc (l : List UInt8) (c : UInt8) (hc : Wm.isDig c) : wrap64 (wrap64 (10 * bk l) - ((c.toNat : Int) - 48)) = bk (l ++ [c]) := by
  unfold bk
  rw [Wm.val_snoc]
  unfold Wm.isDig at hc
  unfold wrap64
  omega
theorem bk_nil : bk [] = 0 := by simp [bk, wrap64, Wm.val]
/-- What Back finds: the digits t behind a sign (neg) or none. -/
def back (neg : Bool) (t : List UInt8) : Int := if neg then bk t else wrap64 (-(bk t))
theorem back_in (neg : Bool) (t : List UInt8) : Wm.inInt (back neg t) := by
  unfold back Wm.inInt
  have := bk_in t
  split
  · exact this
  · unfold wrap64; omega
theorem back_pos {v : Int} {t : List UInt8} (hv : Wm.inInt v) (h : Lib.itoa v = t) (hm : ¬ ∃ rt, t = 45 :: rt) : back false t = v := by
  have h0 : 0 ≤ v := pos_parse (r := t ++ [59]) (r' := []) (v := v) (fun ⟨rt, e⟩ => by
    cases t with
    | nil => exact Wm.itoa_ne v h
    | cons d l => simp only [List.cons_append, List.cons.injEq] at e; exact hm ⟨l, by rw [e.1]⟩) (by rw [Wm.intE_f, h]; simp)
  obtain ⟨u, rfl⟩ : ∃ u : Nat, v = u := ⟨v.toNat, by omega⟩
  rw [Lib.itoa_nonneg] at h
  have := hv.2
  unfold back bk
  rw [← h, Wm.val_dec]
  simp only [Bool.false_eq_true, if_false]
  unfold wrap64
  omega
theorem back_neg {v : Int} {t : List UInt8} (hv : Wm.inInt v) (h : Lib.itoa v = 45 :: t) : back true t = v ∧ ∃ u : Nat, t = Lib.decDigits u := by
  obtain ⟨u, hu1, hu2, rfl, h4⟩ := neg_parse (v := v) (rt := t ++ [59]) (r' := []) hv (by rw [Wm.intE_f, h]; simp)
  have h5 : t = Lib.decDigits u := by simpa using h4
  refine ⟨?_, u, h5⟩
  unfold back bk
  rw [h5, Wm.val_dec]
  simp only [if_true]
  unfold wrap64
  omega
theorem itoa_pos_dig {v : Int} {t : List UInt8} (hv : Wm.inInt v) (h : Lib.itoa v = t) (hm : ¬ ∃ rt, t = 45 :: rt) : ∀ c ∈ t, Wm.isDig c := by
  intro c hc
  rcases Wm.itoa_num v c (by rw [h]; exact hc) with h1 | h1
  · exact h1
  · subst h1
    have h0 : 0 ≤ v := pos_parse (r := t ++ [59]) (r' := []) (v := v) (fun ⟨rt, e⟩ => by
      cases t with
      | nil => exact Wm.itoa_ne v h
      | cons d l => simp only [List.cons_append, List.cons.injEq] at e; exact hm ⟨l, by rw [e.1]⟩) (by rw [Wm.intE_f, h]; simp)
    obtain ⟨u, rfl⟩ : ∃ u : Nat, v = u := ⟨v.toNat, by omega⟩
    rw [Lib.itoa_nonneg] at h
    exact Wm.dec_dig u _ (by rw [h]; exact hc)

set_option maxRecDepth 100000 in
theorem rfail_any {b : Nat} {r : List UInt8} {f : Bool} {w : World} (h : Rd 110 b r f w) :
    Calls Tryd.prog 89 #[.pointer (some ⟨b, 0, none⟩)] w fun e w' => e = .returned (.int .i64 0) ∧ Rd 110 b [] true w' ∧ FrB b w w' := by
  have c0 := h.c0
  have c1 := h.c1
  have f0 := h.f 0
  have f1 := h.f 1
  have h1 := (h.set0 []).set1 true
  go_enter Tryd.func89, Tryd.ntmps89
  go_wp2
  go_ret
  exact ⟨rfl, h1, (FrB.set b 0 w _).trans (FrB.set b 1 _ _)⟩

def BackPost (s : List UInt8) (w : World) (e : Ending) (w' : World) : Prop :=
  Fr w w' ∧ ((∃ v, Wm.inInt v ∧ s = Lib.itoa v ∧ e = .returned (.tuple #[.int .i64 v, .bool true])) ∨
    ((∀ v, Wm.inInt v → s ≠ Lib.itoa v) ∧ ∃ n, e = .returned (.tuple #[.int .i64 n, .bool false])))

theorem back_tok {neg : Bool} {s t : List UInt8} (h : ∀ v, Wm.inInt v → s = Lib.itoa v → back neg t = v) (hb : ((Wm.intE 59).f (back neg t) == s ++ [59]) = false) : ∀ v, Wm.inInt v → s ≠ Lib.itoa v := by
  intro v hv e
  have := h v hv e
  rw [this, Wm.intE_f, e] at hb
  simp at hb
theorem back_fit {n : Int} {s : List UInt8} (hb : ((Wm.intE 59).f n == s ++ [59]) = true) : s = Lib.itoa n := by
  have := eq_of_beq hb
  rw [Wm.intE_f] at this
  exact (List.append_cancel_right this).symm


set_option maxHeartbeats 2000000 in
set_option maxRecDepth 100000 in
theorem back_one (s t : List UInt8) (w : World) (hs : s.length ≤ 4611686018427387904) (h0 : 0 < s.length) (h45 : (((s[0]).toNat : Int) == 45) = true) (hl1 : s.length ≤ t.length + 1) (hl2 : t.length + 1 ≤ s.length) (hget : ∀ (k : Nat) (h : k < t.length), s[k + 1]'(by omega) = t[k])
    (hv : ∀ v, Wm.inInt v → s = Lib.itoa v → back true t = v ∧ ∀ c ∈ t, Wm.isDig c) :
    Calls Tryd.prog 100 #[.string (S s)] w fun e w' => BackPost s w e w' := by
  have HV := Lib.hid hv
  have HGET := Lib.hid hget
  clear hv hget
  have _hh := h0
  go_enter Tryd.func100, Tryd.ntmps100
  go_wp2_with fail
  go_loop [5, 6] (fun n i => ∃ k : Nat, k ≤ t.length ∧ i = .int .i64 ((k : Int) + 1) ∧ n = .int .i64 (bk (t.take k)) ∧ (∀ d ∈ t.take k, Wm.isDig d)) (fun _ i => t.length + 1 - (intOf i).toNat)
  case atStart => exact ⟨0, Nat.zero_le _, rfl, by rw [List.take_zero, bk_nil], by simp⟩
  case round =>
    obtain ⟨k, hk, rfl, rfl, hd⟩ := hrel
    have HD := Lib.hid hd
    clear hd
    have hbk := bk_in (t.take k)
    by_cases hlt : k < t.length
    · have hlt' : k + 1 < s.length := by omega
      have HG := Lib.hid (HGET.out k hlt)
      by_cases hdig : Wm.isDig t[k]
      · have h48 : 48 ≤ ((s[k + 1]).toNat : Int) := by rw [HG.out]; have := hdig.1; omega
        have h57 : ((s[k + 1]).toNat : Int) ≤ 57 := by rw [HG.out]; have := hdig.2; omega
        have HT := Lib.hid (Wm.take_succ t k hlt)
        have HS := Lib.hid (bk_snoc (t.take k) t[k] hdig)
        have HDG := Lib.hid hdig
        clear hdig
        generalize hbb : bk (t.take k) = bb at *
        have HB := Lib.hid hbb
        clear hbb
        by_cases h20 : (k : Int) + 1 ≤ 20
        · go_wp2_with fail
          go_round
          case rel =>
            refine ⟨k + 1, by omega, by go_num, ?_, ?_⟩
            · rw [HT.out, HG.out]; exact congrArg _ HS.out
            · rw [HT.out]; intro d hd1
              rcases List.mem_append.1 hd1 with h1 | h1
              · exact HD.out d h1
              · simp only [List.mem_singleton] at h1; subst h1; exact HDG.out
          case measure => simp [intOf]; omega
        · go_wp2_with fail
          go_ret2
          refine ⟨Fr.refl _, .inr ⟨fun v hv e => ?_, _, rfl⟩⟩
          have := Lib.itoa_length_le v hv.1 hv.2
          rw [← e] at this
          omega
      · have hx : ((s[k + 1]).toNat : Int) < 48 ∨ (48 ≤ ((s[k + 1]).toNat : Int) ∧ 57 < ((s[k + 1]).toNat : Int)) := by rw [HG.out]; unfold Wm.isDig at hdig; omega
        have HN : Hid (∀ v, Wm.inInt v → s ≠ Lib.itoa v) := fun v hv e => hdig ((HV.out v hv e).2 _ (List.getElem_mem hlt))
        clear hdig
        rcases hx with hx | ⟨hx1, hx2⟩
        all_goals
          go_wp2_with fail
          go_ret2
          exact ⟨Fr.refl _, .inr ⟨HN.out, _, rfl⟩⟩
    · have HTT : Hid (t.take k = t) := List.take_of_length_le (by omega)
      have hcut : (S s ++ ⟨#[59]⟩ : ByteArray) = S (s ++ [59]) := S_append s [59]
      have hbi := back_in true t
      have hbd : bk (t.take k) = back true t := by unfold back; rw [HTT.out]; rfl
      have HBI := Lib.hid hbi
      clear hbi
      cases hbo : ((Wm.intE 59).f (back true t) == s ++ [59]) with
      | false =>
        have HN := Lib.hid (back_tok (fun v hv e => (HV.out v hv e).1) hbo)
        go_wp2_with fail
        try rw [hbd]
        refine (rint_any _ _ HBI.out.1 HBI.out.2).mono ?_
        rintro e w1 ⟨rfl, hf⟩
        go_wp2_with fail
        go_ret2
        exact ⟨hf, .inr ⟨HN.out, _, rfl⟩⟩
      | true =>
        have HN := Lib.hid (back_fit hbo)
        go_wp2_with fail
        try rw [hbd]
        refine (rint_any _ _ HBI.out.1 HBI.out.2).mono ?_
        rintro e w1 ⟨rfl, hf⟩
        go_wp2_with fail
        go_ret2
        exact ⟨hf, .inl ⟨_, HBI.out, HN.out, rfl⟩⟩

set_option maxHeartbeats 2000000 in
set_option maxRecDepth 100000 in
theorem back_zero (s t : List UInt8) (w : World) (hs : s.length ≤ 4611686018427387904) (h0 : 0 < s.length) (h45 : (((s[0]).toNat : Int) == 45) = false) (hl1 : s.length ≤ t.length + 0) (hl2 : t.length + 0 ≤ s.length) (hget : ∀ (k : Nat) (h : k < t.length), s[k]'(by omega) = t[k])
    (hv : ∀ v, Wm.inInt v → s = Lib.itoa v → back false t = v ∧ ∀ c ∈ t, Wm.isDig c) :
    Calls Tryd.prog 100 #[.string (S s)] w fun e w' => BackPost s w e w' := by
  have HV := Lib.hid hv
  have HGET := Lib.hid hget
  clear hv hget
  have _hh := h0
  go_enter Tryd.func100, Tryd.ntmps100
  go_wp2_with fail
  go_loop [5, 6] (fun n i => ∃ k : Nat, k ≤ t.length ∧ i = .int .i64 ((k : Int)) ∧ n = .int .i64 (bk (t.take k)) ∧ (∀ d ∈ t.take k, Wm.isDig d)) (fun _ i => t.length + 0 - (intOf i).toNat)
  case atStart => exact ⟨0, Nat.zero_le _, rfl, by rw [List.take_zero, bk_nil], by simp⟩
  case round =>
    obtain ⟨k, hk, rfl, rfl, hd⟩ := hrel
    have HD := Lib.hid hd
    clear hd
    have hbk := bk_in (t.take k)
    by_cases hlt : k < t.length
    · have hlt' : k < s.length := by omega
      have HG := Lib.hid (HGET.out k hlt)
      by_cases hdig : Wm.isDig t[k]
      · have h48 : 48 ≤ ((s[k]).toNat : Int) := by rw [HG.out]; have := hdig.1; omega
        have h57 : ((s[k]).toNat : Int) ≤ 57 := by rw [HG.out]; have := hdig.2; omega
        have HT := Lib.hid (Wm.take_succ t k hlt)
        have HS := Lib.hid (bk_snoc (t.take k) t[k] hdig)
        have HDG := Lib.hid hdig
        clear hdig
        generalize hbb : bk (t.take k) = bb at *
        have HB := Lib.hid hbb
        clear hbb
        by_cases h20 : (k : Int) ≤ 20
        · go_wp2_with fail
          go_round
          case rel =>
            refine ⟨k + 1, by omega, by go_num, ?_, ?_⟩
            · rw [HT.out, HG.out]; exact congrArg _ HS.out
            · rw [HT.out]; intro d hd1
              rcases List.mem_append.1 hd1 with h1 | h1
              · exact HD.out d h1
              · simp only [List.mem_singleton] at h1; subst h1; exact HDG.out
          case measure => simp [intOf]; omega
        · go_wp2_with fail
          go_ret2
          refine ⟨Fr.refl _, .inr ⟨fun v hv e => ?_, _, rfl⟩⟩
          have := Lib.itoa_length_le v hv.1 hv.2
          rw [← e] at this
          omega
      · have hx : ((s[k]).toNat : Int) < 48 ∨ (48 ≤ ((s[k]).toNat : Int) ∧ 57 < ((s[k]).toNat : Int)) := by rw [HG.out]; unfold Wm.isDig at hdig; omega
        have HN : Hid (∀ v, Wm.inInt v → s ≠ Lib.itoa v) := fun v hv e => hdig ((HV.out v hv e).2 _ (List.getElem_mem hlt))
        clear hdig
        rcases hx with hx | ⟨hx1, hx2⟩
        all_goals
          go_wp2_with fail
          go_ret2
          exact ⟨Fr.refl _, .inr ⟨HN.out, _, rfl⟩⟩
    · have HTT : Hid (t.take k = t) := List.take_of_length_le (by omega)
      have hcut : (S s ++ ⟨#[59]⟩ : ByteArray) = S (s ++ [59]) := S_append s [59]
      have hbi := back_in false t
      have hbd : wrap64 (-(bk (t.take k))) = back false t := by unfold back; rw [HTT.out]; rfl
      have HBI := Lib.hid hbi
      clear hbi
      cases hbo : ((Wm.intE 59).f (back false t) == s ++ [59]) with
      | false =>
        have HN := Lib.hid (back_tok (fun v hv e => (HV.out v hv e).1) hbo)
        go_wp2_with fail
        try rw [hbd]
        refine (rint_any _ _ HBI.out.1 HBI.out.2).mono ?_
        rintro e w1 ⟨rfl, hf⟩
        go_wp2_with fail
        go_ret2
        exact ⟨hf, .inr ⟨HN.out, _, rfl⟩⟩
      | true =>
        have HN := Lib.hid (back_fit hbo)
        go_wp2_with fail
        try rw [hbd]
        refine (rint_any _ _ HBI.out.1 HBI.out.2).mono ?_
        rintro e w1 ⟨rfl, hf⟩
        go_wp2_with fail
        go_ret2
        exact ⟨hf, .inl ⟨_, HBI.out, HN.out, rfl⟩⟩

set_option maxHeartbeats 2000000 in
set_option maxRecDepth 100000 in
theorem back_empty (s t : List UInt8) (w : World) (hs : s.length ≤ 4611686018427387904) (h0 : s.length ≤ 0) (hl1 : s.length ≤ t.length + 0) (hl2 : t.length + 0 ≤ s.length) (hget : ∀ (k : Nat) (h : k < t.length), s[k]'(by omega) = t[k])
    (hv : ∀ v, Wm.inInt v → s = Lib.itoa v → back false t = v ∧ ∀ c ∈ t, Wm.isDig c) :
    Calls Tryd.prog 100 #[.string (S s)] w fun e w' => BackPost s w e w' := by
  have HV := Lib.hid hv
  have HGET := Lib.hid hget
  clear hv hget
  go_enter Tryd.func100, Tryd.ntmps100
  go_wp2_with fail
  go_loop [5, 6] (fun n i => ∃ k : Nat, k ≤ t.length ∧ i = .int .i64 ((k : Int)) ∧ n = .int .i64 (bk (t.take k)) ∧ (∀ d ∈ t.take k, Wm.isDig d)) (fun _ i => t.length + 0 - (intOf i).toNat)
  case atStart => exact ⟨0, Nat.zero_le _, rfl, by rw [List.take_zero, bk_nil], by simp⟩
  case round =>
    obtain ⟨k, hk, rfl, rfl, hd⟩ := hrel
    have HD := Lib.hid hd
    clear hd
    have hbk := bk_in (t.take k)
    by_cases hlt : k < t.length
    · exact absurd hlt (by omega)
    · have HTT : Hid (t.take k = t) := List.take_of_length_le (by omega)
      have hcut : (S s ++ ⟨#[59]⟩ : ByteArray) = S (s ++ [59]) := S_append s [59]
      have hbi := back_in false t
      have hbd : wrap64 (-(bk (t.take k))) = back false t := by unfold back; rw [HTT.out]; rfl
      have HBI := Lib.hid hbi
      clear hbi
      cases hbo : ((Wm.intE 59).f (back false t) == s ++ [59]) with
      | false =>
        have HN := Lib.hid (back_tok (fun v hv e => (HV.out v hv e).1) hbo)
        go_wp2_with fail
        try rw [hbd]
        refine (rint_any _ _ HBI.out.1 HBI.out.2).mono ?_
        rintro e w1 ⟨rfl, hf⟩
        go_wp2_with fail
        go_ret2
        exact ⟨hf, .inr ⟨HN.out, _, rfl⟩⟩
      | true =>
        have HN := Lib.hid (back_fit hbo)
        go_wp2_with fail
        try rw [hbd]
        refine (rint_any _ _ HBI.out.1 HBI.out.2).mono ?_
        rintro e w1 ⟨rfl, hf⟩
        go_wp2_with fail
        go_ret2
        exact ⟨hf, .inl ⟨_, HBI.out, HN.out, rfl⟩⟩

set_option maxRecDepth 100000 in
theorem back_any (s : List UInt8) (w : World) (hs : s.length ≤ 4611686018427387904) :
    Calls Tryd.prog 100 #[.string (S s)] w fun e w' => BackPost s w e w' := by
  by_cases hm : ∃ rt, s = 45 :: rt
  · obtain ⟨t, rfl⟩ := hm
    refine back_one (45 :: t) t w hs (by simp) rfl (by simp) (by simp) (fun k h => rfl) (fun v hv e => ?_)
    obtain ⟨h1, u, h2⟩ := back_neg hv e.symm
    exact ⟨h1, by rw [h2]; exact Wm.dec_dig u⟩
  · have hv : ∀ v, Wm.inInt v → s = Lib.itoa v → back false s = v ∧ ∀ c ∈ s, Wm.isDig c := fun v hv e => ⟨back_pos hv e.symm hm, itoa_pos_dig hv e.symm hm⟩
    cases hs' : s with
    | nil => subst hs'; exact back_empty [] [] w (by simp) (by simp) (by simp) (by simp) (fun k h => rfl) hv
    | cons d l =>
      rw [← hs']
      refine back_zero s s w hs (by rw [hs']; simp) ?_ (by simp) (by simp) (fun k h => rfl) hv
      simp only [hs', List.getElem_cons_zero]
      exact beq_eq_false_iff_ne.2 (fun e => hm ⟨l, by rw [hs', show d = 45 from UInt8.toNat_inj.1 (Int.ofNat.inj e)]⟩)

theorem ahead_bad {r : List UInt8} {c : UInt8} {k : Nat} (hk : ∀ (i : Nat) (h : i < r.length), i < k → r[i] ≠ c) (hstop : k = r.length ∨ (k = 21 ∧ ∀ h : 21 < r.length, r[21] ≠ c)) : ∀ v q, Wm.inInt v → r ≠ (Wm.intE c).f v ++ q := by
  intro v q hv e
  rw [Wm.intE_f] at e
  have hl := Lib.itoa_length_le v hv.1 hv.2
  have h1 : (Lib.itoa v).length < r.length := by rw [e]; simp
  have h2 : r[(Lib.itoa v).length] = c := by simp [e]
  rcases hstop with h | ⟨h, h'⟩
  · exact hk _ h1 (by omega) h2
  · rcases Nat.lt_or_ge (Lib.itoa v).length 21 with h3 | h3
    · exact hk _ h1 (by omega) h2
    · have h4 : (Lib.itoa v).length = 21 := by omega
      simp only [h4] at h2
      exact h' (by omega) h2
theorem ahead_at {r : List UInt8} {c : UInt8} {k : Nat} {v : Int} {q : List UInt8} (hc : ¬ Wm.isNum c) (hk : ∀ (i : Nat) (h : i < r.length), i < k → r[i] ≠ c) (hlt : k < r.length) (hr : r[k] = c) (e : r = (Wm.intE c).f v ++ q) : r.take k = Lib.itoa v := by
  rw [Wm.intE_f] at e
  have h1 := Wm.split_take r k hlt
  rw [hr] at h1
  have h2 : ∀ d ∈ r.take k, d ≠ c := by
    intro d hd
    obtain ⟨i, hi, rfl⟩ := List.mem_iff_getElem.1 hd
    rw [List.length_take] at hi
    rw [List.getElem_take]
    exact hk i (by omega) (by omega)
  have h3 : ∀ d ∈ Lib.itoa v, d ≠ c := fun d hd ed => hc (ed ▸ Wm.itoa_num v d hd)
  have h4 : r.take k ++ c :: r.drop (k + 1) = Lib.itoa v ++ c :: q := by rw [← h1, e]; simp
  exact (Wm.split_at (fun d => d ≠ c) h2 h3 (by simp) (by simp) h4).1

set_option maxHeartbeats 2000000 in
set_option maxRecDepth 100000 in
theorem ahead_any {b : Nat} {r : List UInt8} {f : Bool} {w : World} (c : UInt8) (h : Rd 110 b r f w) (_hr : r.length ≤ 4611686018427387904) (hc : ¬ Wm.isNum c) :
    Calls Tryd.prog 95 #[.pointer (some ⟨b, 0, none⟩), .int .u8 c.toNat] w fun e w' => Got 110 b (Wm.intE c) r f (fun n => .int .i64 n) (.int .i64 0) e w' ∧ FrB b w w' := by
  have c0 := h.c0
  have f0 := h.f 0
  go_enter Tryd.func95, Tryd.ntmps95
  go_wp2_with fail
  go_loop [5] (fun i => ∃ k : Nat, k ≤ r.length ∧ k ≤ 21 ∧ i = .int .i64 k ∧ (∀ (i : Nat) (h : i < r.length), i < k → r[i] ≠ c)) (fun i => r.length - (intOf i).toNat)
  case atStart => exact ⟨0, Nat.zero_le _, by omega, rfl, fun i _ h => absurd h (by omega)⟩
  case round =>
    obtain ⟨k, hk, hk21, rfl, hne⟩ := hrel
    have HN := Lib.hid hne
    clear hne
    by_cases hlt : k < r.length
    · by_cases hrk : r[k] = c
      · have hb : (((r[k]).toNat : Int) != (c.toNat : Int)) = false := by rw [hrk]; simp
        have HR := Lib.hid hrk
        have HSET := Lib.hid (h.set0 (r.drop (k + 1)))
        have HSP := Lib.hid (Wm.split_take r k hlt)
        clear hrk
        by_cases h21 : k < 21
        all_goals
          go_wp2_with fail
          rw [S_extract]
          refine (back_any _ _ (by simp; omega)).mono ?_
          rintro e w1 ⟨hf1, hp⟩
          have h1 := h.fr hf1
          have c01 := h1.c0
          have f01 := h1.f 0
          rcases hp with ⟨v, hv, hs, rfl⟩ | ⟨hn, n, rfl⟩
          · have HV := Lib.hid hv
            have HS := Lib.hid hs
            have HSET1 := Lib.hid (h1.set0 (r.drop (k + 1)))
            clear hv hs
            go_wp2_with fail
            go_ret
            rw [S_extract]
            have hdt : r.drop (k + 1) = (r.drop (k + 1)).take (r.length - (k + 1)) := (List.take_of_length_le (by simp)).symm
            rw [← hdt]
            refine ⟨.inl ⟨v, r.drop (k + 1), HV.out, ?_, rfl, HSET1.out⟩, (hf1.frb b).trans (FrB.set b 0 w1 _)⟩
            have hs := HS.out
            have hsp := HSP.out
            rw [HR.out] at hsp
            simp only [List.drop_zero, Nat.sub_zero] at hs
            rw [Wm.intE_f, ← hs]
            simpa using hsp
          · have HX := Lib.hid hn
            clear hn
            go_wp2_with fail
            refine (rfail_any h1).mono ?_
            rintro e w3 ⟨rfl, hrd3, hf3⟩
            go_wp2_with fail
            go_ret
            refine ⟨.inr ⟨fun v q hv e => HX.out v hv ?_, rfl, hrd3⟩, (hf1.frb b).trans hf3⟩
            simpa using ahead_at hc HN.out hlt HR.out e
      · have hb : (((r[k]).toNat : Int) != (c.toNat : Int)) = true := by
          rw [bne_iff_ne]; intro e; exact hrk (UInt8.toNat_inj.1 (Int.ofNat.inj e))
        have HR := Lib.hid hrk
        clear hrk
        by_cases h21 : k < 21
        · go_wp2_with fail
          go_round
          case rel =>
            refine ⟨k + 1, by omega, by omega, by go_num, fun i hi hik => ?_⟩
            rcases Nat.lt_or_ge i k with h1 | h1
            · exact HN.out i hi h1
            · obtain rfl : i = k := by omega
              exact HR.out
          case measure => simp [intOf]; omega
        · have HX : Hid (∀ v q, Wm.inInt v → r ≠ (Wm.intE c).f v ++ q) := ahead_bad HN.out (.inr ⟨by omega, fun h e => HR.out (by
            obtain rfl : k = 21 := by omega
            exact e)⟩)
          go_wp2_with fail
          refine (rfail_any h).mono ?_
          rintro e w3 ⟨rfl, hrd3, hf3⟩
          go_wp2_with fail
          go_ret
          exact ⟨.inr ⟨HX.out, rfl, hrd3⟩, hf3⟩
    · have HX : Hid (∀ v q, Wm.inInt v → r ≠ (Wm.intE c).f v ++ q) := ahead_bad HN.out (.inl (by omega))
      go_wp2_with fail
      refine (rfail_any h).mono ?_
      rintro e w3 ⟨rfl, hrd3, hf3⟩
      go_wp2_with fail
      go_ret
      exact ⟨.inr ⟨HX.out, rfl, hrd3⟩, hf3⟩
end Go.Proofs.YtjcajgcfkidbkaaDoor
