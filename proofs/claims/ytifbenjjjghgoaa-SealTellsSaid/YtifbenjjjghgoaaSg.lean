/-
  The reference's ring: Valid, All, Open.
-/
import Derived.Test.YtifbenjjjghgoaaSe
namespace Go.Proofs.Ytifbenjjjghgoaa
open Go.RowKit Go.MapKept Go.Maps Go.WideMaps

set_option maxHeartbeats 2000000 in
theorem rvalid_out (O : Nat → Prop) (B : Nat) (q : List Sd) (s : Sg) (w : World) (h : (RefT B q).at_ w O) (hm : s.2.2 < 0 ∨ (q.length : Int) ≤ s.2.2) (hq : q.length ≤ 1000000) :
    Calls Try.prog 14 #[.pointer (some ⟨B, 0, none⟩), sgV s] w fun r w' => r = .returned (.bool false) ∧ Fr w w' := by
  obtain ⟨ev, hr⟩ := h
  obtain ⟨a, c, hev⟩ := row_form hr.row
  subst hev
  have c0 := (Fr.alloc w (.cells #[.int .i64 s.1, .string (S s.2.1), .int .i64 s.2.2] 24)).cell (cellOf (v := .slice a q.length c) hr.heap (i := 0) rfl)
  clear hr
  obtain ⟨k, t, m⟩ := s
  unfold sgV
  simp only at hm c0 ⊢
  rcases hm with hm | hm
  · have hm' : decide (0 ≤ m) = false := decide_eq_false (by omega)
    go_enter Try.func14, Try.ntmps14
    go_wp2_with fail
    go_quiet (fail)
    go_wp2_with fail
    go_ret
    exact ⟨rfl, (Fr.alloc _ _).trans (Fr.drewN _ _)⟩
  · have hm' : 0 ≤ m := by omega
    have hm2 : decide (m < (q.length : Int)) = false := decide_eq_false (by omega)
    go_enter Try.func14, Try.ntmps14
    go_wp2_with fail
    go_quiet (fail)
    go_wp2_with fail
    go_ret
    exact ⟨rfl, (Fr.alloc _ _).trans (Fr.drewN _ _)⟩
set_option maxHeartbeats 2000000 in
theorem rvalid_in (O : Nat → Prop) (B : Nat) (q : List Sd) (k : Int) (t : Txt) (m : Nat) (w : World) (h : (RefT B q).at_ w O) (hm : m < q.length) (hq : q.length ≤ 1000000) :
    Calls Try.prog 14 #[.pointer (some ⟨B, 0, none⟩), sgV (k, t, m)] w fun r w' => r = .returned (.bool (decide (q[m] = (k, t)))) ∧ Fr w w' := by
  obtain ⟨ev, hr⟩ := h
  obtain ⟨g, cap, hev, hcap, hcell⟩ := row_at hr.row rfl (by omega)
  subst hev
  have hf := Fr.alloc w (.cells #[.int .i64 k, .string (S t), .int .i64 m] 24)
  have c0 := hf.cell (cellOf (v := .slice (some ⟨g, 0, none⟩) q.length cap) hr.heap (i := 0) rfl)
  have c1 := hf.cell (hcell m hm).1
  have c2 := hf.cell (hcell m hm).2
  clear hr hcell
  generalize q[m] = e at *
  obtain ⟨k', t'⟩ := e
  simp only at c1 c2
  have HF := Lib.hid hf
  have hm1 : (m : Int) < (q.length : Int) := by omega
  clear hf
  unfold sgV
  by_cases h1 : k' = k
  · subst h1
    by_cases h2 : t' = t
    · subst h2
      rw [decide_eq_true rfl]
      go_enter Try.func14, Try.ntmps14
      go_wp2_with fail
      go_quiet (fail)
      go_wp2_with fail
      go_ret
      exact ⟨rfl, HF.out.trans (Fr.drewN _ _)⟩
    · rw [decide_eq_false (fun h => h2 (congrArg Prod.snd h))]
      have hbf : (t' == t) = false := beq_eq_false_iff_ne.2 h2
      go_enter Try.func14, Try.ntmps14
      go_wp2_with fail
      go_quiet (fail)
      go_wp2_with fail
      go_ret
      exact ⟨rfl, HF.out.trans (Fr.drewN _ _)⟩
  · rw [decide_eq_false (fun h => h1 (congrArg Prod.fst h))]
    go_enter Try.func14, Try.ntmps14
    go_wp2_with fail
    go_quiet (fail)
    go_wp2_with fail
    go_ret
    exact ⟨rfl, HF.out.trans (Fr.drewN _ _)⟩
theorem rvalid_any (O : Nat → Prop) (B : Nat) (q : List Sd) (s : Sg) (w : World) (h : (RefT B q).at_ w O) (hq : q.length ≤ 1000000) :
    Calls Try.prog 14 #[.pointer (some ⟨B, 0, none⟩), sgV s] w fun r w' => r = .returned (.bool (holds q s)) ∧ Fr w w' := by
  obtain ⟨k, t, m⟩ := s
  by_cases hm : m < 0 ∨ (q.length : Int) ≤ m
  · refine (rvalid_out O B q (k, t, m) w h hm hq).mono ?_
    rintro r w' ⟨rfl, hf⟩
    refine ⟨?_, hf⟩
    have : holds q (k, t, m) = false := by
      unfold holds
      refine decide_eq_false fun hh => ?_
      simp only at hh
      have := (List.getElem?_eq_some_iff.1 hh.2).1
      omega
    rw [this]
  · obtain ⟨n, rfl⟩ : ∃ n : Nat, m = n := ⟨m.toNat, by omega⟩
    have hn : n < q.length := by omega
    refine (rvalid_in O B q k t n w h hn hq).mono ?_
    rintro r w' ⟨rfl, hf⟩
    refine ⟨?_, hf⟩
    have : holds q (k, t, (n : Int)) = decide (q[n] = (k, t)) := by
      unfold holds
      rw [Bool.eq_iff_iff]
      simp only [decide_eq_true_eq, Int.toNat_natCast]
      rw [List.getElem?_eq_getElem hn, Option.some.injEq]
      exact ⟨fun h => h.2, fun h => ⟨by omega, h⟩⟩
    rw [this]

set_option maxHeartbeats 1000000 in
theorem rall_any (O : Nat → Prop) (B : Nat) (q : List Sd) (w : World) (h : (RefT B q).at_ w O) (hq : q.length ≤ 1000000) :
    Calls Try.prog 19 #[.pointer (some ⟨B, 0, none⟩)] w (CloneP q w) := by
  obtain ⟨i0, hi, hz0, hz1, hz2⟩ := info_parts infoSd
  have HIN := Lib.hid hi
  obtain ⟨ev, hr⟩ := h
  have hf := Fr.alloc w (.cells #[] 33)
  have c0 := hf.cell (cellOf (v := ev) hr.heap (i := 0) rfl)
  have HROW := Lib.hid (own_fr hr.row hf)
  have HO : Hid ((w.alloc (.cells #[] 33)).ownsRow w.heap.size 33 2 (.slice (some ⟨w.heap.size, 0, none⟩) 0 0) 0 []) := Lib.hid (World.ownsRow_lit (base := w.heap.size) (e := 33) (size := 2) w #[] 0 (Nat.le_refl _) (Nat.zero_le _) rfl)
  have hnb : (0 + q.length) * 24 ≤ 140737488355328 := by omega
  rcases hr.row.2 with ⟨rfl, hn0⟩ | ⟨g, cap, cur, rfl, _⟩
  · have HQ := Lib.hid (List.length_eq_zero_iff.1 hn0)
    clear hr hi hn0
    go_enter Try.func19, Try.ntmps19
    go_wp2_with (at_builtin; refine wpList_append_own_none rfl _ _ 22 rfl w.heap.size 33 i0 2 Try.underlying22 HIN.out _ 0 _ rfl HO.out rfl ?_)
    go_wp2_with fail
    go_ret
    refine ⟨_, rfl, ?_, hf⟩
    rw [HQ.out]
    exact HO.out
  · have HS := Lib.hid hf
    clear hr hi hf
    go_enter Try.func19, Try.ntmps19
    go_wp2_with ((at_builtin; refine wpList_append_own _ rfl _ _ 22 rfl w.heap.size 33 i0 (.agg #[.int .i64 0, .string (S [])]) 2 24 Try.underlying22 HIN.out hz0 hz1 hz2 rfl (by decide) _ _ _ rfl HO.out ⟨g, 0, none⟩ q.length cap (sdC q) rfl (sdC_length q) ?cc (sdC_one q) (by unfold maxLen; omega) hnb (by simp) ?_))
    case cc =>
      intro j u hu
      have hj : j < q.length * 2 := by have := (List.getElem?_eq_some_iff.1 hu).1; rwa [sdC_length] at this
      rw [Addr.add_mid, Nat.zero_add, HROW.out.cellAt j (by omega), hu]
    intro v1 w1 hown1 hgrow1 _
    have hg : w1.ownsRow w.heap.size 33 2 v1 q.length (sdC q) := by simpa using hown1
    have hf1 : Fr w w1 := ⟨hgrow1.os, hgrow1.tape, hgrow1.output, by have := hgrow1.size; simp at this; omega, fun k hk _ => by
      rw [hgrow1.block k (by simp; omega) (fun e => Nat.ne_of_lt hk (Option.some.inj e))]
      exact (Fr.alloc w _).block hk⟩
    go_wp2_with fail
    go_ret
    exact ⟨v1, rfl, hg, hf1⟩
end Go.Proofs.Ytifbenjjjghgoaa
