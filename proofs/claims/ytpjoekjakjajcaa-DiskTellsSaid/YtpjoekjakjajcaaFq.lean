/-
  The reference's disk: comes, Write.
-/
import Derived.Test.YtpjoekjakjajcaaFp
import Derived.Test.YtpjoekjakjajcaaFo
namespace Go.Proofs.Ytpjoekjakjajcaa
open Go.RowKit

theorem rcrash_rr {w : World} {O : Nat → Prop} {B : Nat} {r : FS} {s : RS} (h : (RfT B r).at_ w O) (hr : RR r s) (hI : Inv s) (hq : r.q.length ≤ 100000) (ks : List Int) (v : Value) (hk : Ints w v ks) (hkl : ks.length ≤ 17592186044416) (hkB : ∀ p, ks ≠ [] → v.ownBlock = some p → p ≠ B) :
    Calls Try.prog 36 #[.pointer (some ⟨B, 0, none⟩), v] w fun e w' => e = .returned (.tuple #[]) ∧ (RfT B (crashF r ks)).step O w w' :=
  (rcrash_any ks v h hr.fine (rr_q hr hI) hq (fun k f hf => rr_lens hr hI ks k f hf) hk hkl hkB).mono fun _ _ ⟨h1, h2, _⟩ => ⟨h1, h2⟩
theorem rcrash_own {w : World} {O : Nat → Prop} {B : Nat} {fv qv kv : Value} {r : FS} {s : RS} (h : RfAt w O B fv qv kv r) (hr : RR r s) (hI : Inv s) (hq : r.q.length ≤ 100000) (hkl : r.keep.length ≤ 17592186044416) :
    Calls Try.prog 36 #[.pointer (some ⟨B, 0, none⟩), kv] w fun e w' => e = .returned (.tuple #[]) ∧ (RfT B (crashF r r.keep)).step O w w' :=
  rcrash_rr ⟨fv, qv, kv, h⟩ hr hI hq r.keep kv (row_ints h.keep) hkl (fun p _ hp => rowB_ne h.keep h.heap (by decide) p hp)
set_option maxHeartbeats 2000000 in
set_option maxRecDepth 100000 in
theorem rcomes_any {w : World} {O : Nat → Prop} {B : Nat} {r : FS} {s : RS} (h : (RfT B r).at_ w O) (hr : RR r s) (hI : Inv s) (f a : Int) (l : Txt) (hl : l.length ≤ 1000) (hq : r.q.length ≤ 50000) (hkl : r.keep.length ≤ 17592186044416) (hA : r.armed ≤ 9223372036854775807) :
    Calls Try.prog 51 #[.pointer (some ⟨B, 0, none⟩), .int .i64 f, .int .i64 a, .string (S l)] w fun e w' => e = .returned (.tuple #[]) ∧ (RfT B (comesF r f a l)).step O w w' := by
  have HS0 := Lib.hid (Thing.step_fr h (Fr.refl w))
  have HLL := Lib.hid hl
  have HQQ := Lib.hid hq
  by_cases hd : r.down = true
  · have HC := Lib.hid (comes_down hd f a l)
    obtain ⟨fv, qv, kv, hh⟩ := h
    obtain ⟨_, _, _, c3, _, _⟩ := hh.c
    rw [hd] at c3
    clear hh hr hI hl hq hkl hA
    go_enter Try.func51, Try.ntmps51
    go_wp2_with fail
    exact bodyPost_ret (v := .tuple #[]) (by simp [results, Try.results51, go_sem]) rfl ⟨rfl, by rw [HC.out]; exact HS0.out⟩
  · replace hd : r.down = false := by simpa using hd
    by_cases h0 : r.armed = 0
    · have HC := Lib.hid (show comesF r f a l = r by unfold comesF; rw [if_pos (.inr h0)])
      obtain ⟨fv, qv, kv, hh⟩ := h
      obtain ⟨_, _, _, c3, c4, _⟩ := hh.c
      rw [hd] at c3
      rw [h0] at c4
      clear hh hr hI hl hq hkl hA
      go_enter Try.func51, Try.ntmps51
      go_wp2_with fail
      exact bodyPost_ret (v := .tuple #[]) (by simp [results, Try.results51, go_sem]) rfl ⟨rfl, by rw [HC.out]; exact HS0.out⟩
    · obtain ⟨n, hn⟩ : ∃ n, r.armed = n + 1 := ⟨r.armed - 1, by omega⟩
      obtain ⟨fv, qv, kv, hh⟩ := h
      have ht : (tick r).armed = n := by unfold tick; show r.armed - 1 = n; omega
      have h1 : RfAt (w.setCell ⟨B, 4, none⟩ (.int .i64 (n : Int))) O B fv qv kv (tick r) := hh.scalar 4 (.int .i64 (n : Int)) (tick r) (by rw [ht]; rfl) rfl rfl rfl
      have hs1 : (RfT B (tick r)).step O w (w.setCell ⟨B, 4, none⟩ (.int .i64 (n : Int))) := ⟨O, ⟨fv, qv, kv, h1⟩, fun _ hk => .inl hk, (Own.refl O w).only (OnlyB.setCell w B 4 _) (.inl hh.oB)⟩
      have HW1 := Lib.hid ((Own.refl O w).only (OnlyB.setCell w B 4 (.int .i64 (n : Int))) (.inl hh.oB))
      obtain ⟨_, _, _, c3, c4, _⟩ := hh.c
      rw [hd] at c3
      rw [hn, show ((n + 1 : Nat) : Int) = (n : Int) + 1 from by omega] at c4
      have z4 : w.frozen? ⟨B, 4, none⟩ = false := hh.fz 4
      have d4 : (w.setCell ⟨B, 4, none⟩ (.int .i64 (n : Int))).cell? ⟨B, 4, none⟩ = some (.int .i64 (n : Int)) := by have := h1.c.2.2.2.2.1; rw [ht] at this; exact this
      have hnb : (n : Int) ≤ 9223372036854775806 := by omega
      have hnw : (n : Int) + 1 - 1 = (n : Int) := by omega
      have HH1 := Lib.hid h1
      have HS1 := Lib.hid hs1
      by_cases h2 : 0 < n
      · have HC := Lib.hid (show comesF r f a l = tick r by unfold comesF; rw [if_neg (by rw [hd]; rintro (e | e); exact absurd e (by decide); exact h0 e), if_pos (by omega)])
        have h2' : (0 : Int) < (n : Int) := by omega
        clear hh h1 hs1 hr hI hn ht hl hq hkl hA
        go_enter Try.func51, Try.ntmps51
        go_wp2_with fail
        exact bodyPost_ret (v := .tuple #[]) (by simp [results, Try.results51, go_sem]) rfl ⟨rfl, by rw [HC.out]; exact HS1.out⟩
      · obtain rfl : n = 0 := by omega
        have hrt := rr_tick hr (by rw [← hr.armed]; omega)
        have hIt := inv_calls hI (s.calls - 1)
        have HKL := Lib.hid (show (tick r).keep.length ≤ 17592186044416 from hkl)
        have HRT := Lib.hid hrt
        have HIT := Lib.hid hIt
        obtain ⟨aq, cq, rfl⟩ := row_at hh.keep
        by_cases hv : isF f ∧ fitsB a l.length = true
        · have HC := Lib.hid (show comesF r f a l = crashF (addF (tick r) f.toNat a.toNat l) r.keep by unfold comesF; rw [if_neg (by rw [hd]; rintro (e | e); exact absurd e (by decide); exact h0 e), if_neg (by omega), if_pos hv])
          have hra := rr_wrx hrt hIt f a l
          rw [if_pos hv] at hra
          have HRA := Lib.hid hra
          have HIA := Lib.hid (inv_wr hIt f a l)
          have HV := Lib.hid hv.2
          have hfits := hv.2
          unfold fitsB at hfits
          simp only [Bool.and_eq_true, decide_eq_true_eq] at hfits
          obtain ⟨⟨ha0, _⟩, ha1⟩ := hfits
          obtain ⟨hf0, hf1⟩ := hv.1
          obtain ⟨fn, rfl⟩ : ∃ k : Nat, f = k := ⟨f.toNat, by omega⟩
          obtain ⟨an, rfl⟩ : ∃ k : Nat, a = k := ⟨a.toNat, by omega⟩
          simp only [Int.toNat_natCast] at HC HRA
          have HLN := Lib.hid (rr_len hrt hIt fn (by omega)).1
          have HAQ := Lib.hid (show (addF (tick r) fn an l).q.length ≤ 100000 by have h9 := add_qlen (tick r) fn an l; have h8 : (tick r).q.length = r.q.length := rfl; omega)
          have hf15 : (fn : Int) ≤ 15 := by omega
          clear hh h1 hs1 hr hI hn ht hv hra hrt hIt hl hq hkl hA
          go_enter Try.func51, Try.ntmps51
          go_upto_region 4 with (go_at_call 54; refine (rfits_any an l _ (by have := HLL.out; omega)).mono ?_; rw [HV.out]; rintro e w2 ⟨rfl, rfl⟩)
          go_upto_region 5 with (go_at_call 55; refine (radd_any ⟨_, _, _, HH1.out⟩ fn an l (by omega) HRT.out.fine (by show r.q.length ≤ _; have := HQQ.out; omega) HLN.out (by omega)).mono ?_; rintro e w3 ⟨rfl, hs3⟩)
          obtain ⟨O3, ⟨fv3, qv3, kv3, hr3⟩, hG3, hW3⟩ := hs3
          have HR3 := Lib.hid hr3
          have HG3 := Lib.hid hG3
          have HW3 := Lib.hid hW3
          have c5 := hr3.c.2.2.2.2.2
          obtain ⟨ak, ck, rfl⟩ := row_at hr3.keep
          clear hr3 hG3 hW3 c3 c4 z4 d4
          go_wp2_with (go_at_call 36; refine (rcrash_own HR3.out HRA.out HIA.out HAQ.out (by rw [(add_scalars _ _ _ _).2.2.1]; exact HKL.out)).mono ?_; rintro e w4 ⟨rfl, hs4⟩)
          rw [(add_scalars (tick r) fn an l).2.2.1] at hs4
          have HS4 := Lib.hid (Thing.step_trans (fun _ hk => .inl hk) HW1.out (Thing.step_trans HG3.out HW3.out hs4))
          go_end0
          exact ⟨rfl, by rw [HC.out]; exact HS4.out⟩
        · have HC := Lib.hid (show comesF r f a l = crashF (tick r) r.keep by unfold comesF; rw [if_neg (by rw [hd]; rintro (e | e); exact absurd e (by decide); exact h0 e), if_neg (by omega), if_neg hv])
          have c5 := h1.c.2.2.2.2.2
          have hcall : ∀ w', w' = w.setCell ⟨B, 4, none⟩ (.int .i64 ((0 : Nat) : Int)) → Calls Try.prog 36 #[.pointer (some ⟨B, 0, none⟩), .slice aq r.keep.length cq] w' fun e w'' => e = .returned (.tuple #[]) ∧ (RfT B (crashF (tick r) r.keep)).step O w' w'' := fun w' e => by
            subst e
            exact rcrash_own HH1.out HRT.out HIT.out (by show r.q.length ≤ _; omega) HKL.out
          have HCL := Lib.hid hcall
          by_cases hF : isF f
          · have HV := Lib.hid (show fitsB a l.length = false by cases hb : fitsB a l.length with | false => rfl | true => exact absurd ⟨hF, hb⟩ hv)
            obtain ⟨hf0, hf1⟩ := hF
            have hf15 : f ≤ 15 := by omega
            clear hh h1 hs1 hr hI hn ht hv hrt hIt hcall hl hq hkl hA
            go_enter Try.func51, Try.ntmps51
            go_wp2_with (first
              | (go_at_call 54; refine (rfits_any a l _ (by have := HLL.out; omega)).mono ?_; rw [HV.out]; rintro e w2 ⟨rfl, rfl⟩)
              | (go_at_call 36; refine (HCL.out _ rfl).mono ?_; rintro e w4 ⟨rfl, hs4⟩))
            have HS4 := Lib.hid (Thing.step_trans (fun _ hk => .inl hk) HW1.out hs4)
            go_end0
            exact ⟨rfl, by rw [HC.out]; exact HS4.out⟩
          · rcases (show f < 0 ∨ (0 ≤ f ∧ ¬ f ≤ 15) by unfold isF at hF; omega) with hf0 | ⟨hf0, hf1⟩
            all_goals
              clear hh h1 hs1 hr hI hn ht hv hrt hIt hcall hF hl hq hkl hA
              go_enter Try.func51, Try.ntmps51
              go_wp2_with (go_at_call 36; refine (HCL.out _ rfl).mono ?_; rintro e w4 ⟨rfl, hs4⟩)
              have HS4 := Lib.hid (Thing.step_trans (fun _ hk => .inl hk) HW1.out hs4)
              go_end0
              exact ⟨rfl, by rw [HC.out]; exact HS4.out⟩
end Go.Proofs.Ytpjoekjakjajcaa
