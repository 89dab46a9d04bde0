/-
  The reference's disk: tell, an act performed.
-/
import Derived.Test.YtpjoekjakjajcaaFr
namespace Go.Proofs.Ytpjoekjakjajcaa
open Go.RowKit

def tellF (r : FS) (a : AC) : FS := if kd a.k = 2 then syncF r a.f else if kd a.k = 3 then truncF r a.f a.n else if kd a.k = 4 then { r with lost := (nd a.n).toNat } else
  if kd a.k = 5 then { r with armed := a.n.toNat, keep := a.ks } else if kd a.k = 6 then crashF r a.ks else if kd a.k = 7 then { r with down := false } else writeF r a.f a.n a.l
def tellE (r : FS) (a : AC) : Int := if kd a.k = 2 then syncFE r a.f else if kd a.k = 3 then truncFE r a.f a.n else if kd a.k = 4 then 0 else
  if kd a.k = 5 then 0 else if kd a.k = 6 then 0 else if kd a.k = 7 then 0 else writeFE r a.f a.n a.l
theorem rr_tell {r : FS} {s : RS} (h : RR r s) (hI : Inv s) (a : AC) : RR (tellF r a) (doS s a) ∧ tellE r a = doE s a := by
  unfold tellF tellE doS doE
  by_cases h2 : kd a.k = 2
  · rw [if_pos h2, if_pos h2, if_pos h2, if_pos h2]; exact rr_sync h hI a.f
  rw [if_neg h2, if_neg h2, if_neg h2, if_neg h2]
  by_cases h3 : kd a.k = 3
  · rw [if_pos h3, if_pos h3, if_pos h3, if_pos h3]; exact rr_trunc h hI a.f a.n
  rw [if_neg h3, if_neg h3, if_neg h3, if_neg h3]
  by_cases h4 : kd a.k = 4
  · rw [if_pos h4, if_pos h4, if_pos h4, if_pos h4]; exact ⟨rr_lose h _, rfl⟩
  rw [if_neg h4, if_neg h4, if_neg h4, if_neg h4]
  by_cases h5 : kd a.k = 5
  · rw [if_pos h5, if_pos h5, if_pos h5, if_pos h5]; exact ⟨rr_arm h _ _, rfl⟩
  rw [if_neg h5, if_neg h5, if_neg h5, if_neg h5]
  by_cases h6 : kd a.k = 6
  · rw [if_pos h6, if_pos h6, if_pos h6, if_pos h6]; exact ⟨rr_crash h hI _, rfl⟩
  rw [if_neg h6, if_neg h6, if_neg h6, if_neg h6]
  by_cases h7 : kd a.k = 7
  · rw [if_pos h7, if_pos h7, if_pos h7, if_pos h7]; exact ⟨rr_start h, rfl⟩
  rw [if_neg h7, if_neg h7, if_neg h7, if_neg h7]
  exact rr_write h hI a.f a.n a.l
/-- The queue and the list at hand are short. -/
structure FB (n : Nat) (r : FS) : Prop where
  q : r.q.length ≤ n
  keep : r.keep.length ≤ 60
theorem crash_keep (r : FS) (ks : List Int) : (crashF r ks).keep = r.keep := by unfold crashF; split <;> rfl
theorem comes_keep (r : FS) (f a : Int) (l : Txt) : (comesF r f a l).keep = r.keep := by
  unfold comesF
  split
  · rfl
  · split
    · rfl
    · rw [crash_keep]
      split
      · exact (add_scalars (tick r) _ _ _).2.2.1
      · rfl
theorem fb_tell {n : Nat} {r : FS} (h : FB n r) {a : AC} (ha : a.few) : FB (n + 700) (tellF r a) := by
  have hl : a.l.length ≤ 300 := ha.1
  unfold tellF
  split
  · have h1 := comes_qlen r 0 0 []
    have h2 := comes_keep r 0 0 []
    have h3 := h.q; have h4 := h.keep
    simp only [List.length_nil] at h1
    unfold syncF
    split
    · exact ⟨by omega, by rw [h2]; exact h4⟩
    · split
      · exact ⟨by omega, by rw [h2]; exact h4⟩
      · split
        · exact ⟨by show (comesF r 0 0 []).q.length ≤ _; omega, by show (comesF r 0 0 []).keep.length ≤ _; rw [h2]; exact h4⟩
        · refine ⟨?_, by show (comesF r 0 0 []).keep.length ≤ _; rw [h2]; exact h4⟩
          show ((comesF r 0 0 []).q.filter _).length ≤ _
          exact Nat.le_trans (List.length_filter_le _ _) (by omega)
  split
  · have h1 := comes_qlen r 0 0 []
    have h2 := comes_keep r 0 0 []
    have h3 := h.q; have h4 := h.keep
    simp only [List.length_nil] at h1
    unfold truncF
    split
    · exact ⟨by omega, by rw [h2]; exact h4⟩
    · split
      · exact ⟨by omega, by rw [h2]; exact h4⟩
      · refine ⟨?_, by show (comesF r 0 0 []).keep.length ≤ _; rw [h2]; exact h4⟩
        show ((comesF r 0 0 []).q.filter _).length ≤ _
        exact Nat.le_trans (List.length_filter_le _ _) (by omega)
  split
  · exact ⟨Nat.le_trans h.q (by omega), h.keep⟩
  split
  · exact ⟨Nat.le_trans h.q (by omega), ha.2.1⟩
  split
  · exact ⟨Nat.le_trans (crash_qlen _ _) (Nat.le_trans h.q (by omega)), by rw [crash_keep]; exact h.keep⟩
  split
  · exact ⟨Nat.le_trans h.q (by omega), h.keep⟩
  · have h1 := comes_qlen r a.f a.n a.l
    have h2 := comes_keep r a.f a.n a.l
    have h3 := h.q; have h4 := h.keep
    unfold writeF
    split
    · exact ⟨by omega, by rw [h2]; exact h4⟩
    · refine ⟨Nat.le_trans (add_qlen _ _ _ _) (by omega), ?_⟩
      rw [(add_scalars _ _ _ _).2.2.1, h2]; exact h4
theorem FB.mono {n m : Nat} {r : FS} (h : FB n r) (hm : n ≤ m) : FB m r := ⟨Nat.le_trans h.q hm, h.keep⟩

set_option maxHeartbeats 2000000 in
set_option maxRecDepth 100000 in
theorem tell_any (O : Nat → Prop) (B : Nat) (a : AC) {r : FS} {s : RS} (w : World) (hk : Ints w a.v a.ks) (hao : a.off O w) (hfew : a.few) (h : (RfT B r).at_ w O) (hr : RR r s) (hg : Good s) {n : Nat} (hb : FB n r) (hn : n ≤ 50000) :
    Calls Try.prog 13 #[.pointer (some ⟨B, 0, none⟩), .agg #[.int .i64 a.k, .int .i64 a.f, .int .i64 a.n, .string a.str, a.v]] w fun e w' => e = .returned (.int .i64 (tellE r a)) ∧ (RfT B (tellF r a)).step O w w' := by
  obtain ⟨k, f, n, str, v, ks⟩ := a
  obtain ⟨l, rfl⟩ : ∃ l, str = S l := ⟨_, S_eta str⟩
  obtain ⟨hl, hkl, _⟩ := hfew
  have hl : l.length ≤ 300 := hl
  dsimp only [AC.off] at hk hkl hao ⊢
  have HD := Lib.hid h
  have HR := Lib.hid hr
  have HI := Lib.hid hg.inv
  have HK := Lib.hid hk
  have HSL := Lib.hid (show l.length ≤ 1000 by omega)
  have HKL := Lib.hid hkl
  have HAO := Lib.hid hao
  have HQ := Lib.hid (Nat.le_trans hb.q hn)
  have HRK := Lib.hid (show r.keep.length ≤ 17592186044416 from Nat.le_trans hb.keep (by decide))
  have HA := Lib.hid (show r.armed ≤ 9223372036854775807 by rw [hr.armed]; exact hg.calls)
  have HL := Lib.hid (show r.lost ≤ 9223372036854775807 by rw [hr.lost]; exact hg.lost)
  have HK2 : Hid (∀ o, Ints (w.alloc o) v ks) := Lib.hid (fun o => hk.frame (fun p _ _ hp => (Fr.alloc w o).block hp))
  have HO2 : Hid (∀ (o : Obj) p, ks ≠ [] → v.ownBlock = some p → p < (w.alloc o).heap.size ∧ ¬ O p) := Lib.hid (fun o p h0 hp => ⟨Nat.lt_of_lt_of_le (hao p h0 hp).1 (Fr.alloc w o).size, (hao p h0 hp).2⟩)
  have HB := Lib.hid (show ∀ p, ks ≠ [] → v.ownBlock = some p → p ≠ B from fun p h0 hp e => by
    obtain ⟨fv, qv, kv, hh⟩ := h
    exact (hao p h0 hp).2 (e ▸ hh.oB))
  clear h hr hg hk hkl hao hb hn hl
  have HF := Lib.hid (fun o => Fr.alloc w o)
  go_enter Try.func13, Try.ntmps13
  go_wp2_with (first
    | (go_at_call 32; refine (rsync_any (Thing.fr _ HD.out (HF.out _)) HR.out HI.out f HQ.out HRK.out HA.out HL.out).mono ?_; rintro e w' ⟨rfl, h⟩)
    | (go_at_call 33; refine (rtrunc_any (Thing.fr _ HD.out (HF.out _)) HR.out HI.out f n HQ.out HRK.out HA.out).mono ?_; rintro e w' ⟨rfl, h⟩)
    | (go_at_call 34; refine (rlose_any (Thing.fr _ HD.out (HF.out _)) _).mono ?_; rintro e w' ⟨rfl, h⟩)
    | (go_at_call 35; refine (rarm_any (Thing.fr _ HD.out (HF.out _)) n (HK2.out _) (HO2.out _) (by have := HKL.out; omega)).mono ?_; rintro e w' ⟨rfl, h⟩)
    | (go_at_call 36; refine (rcrash_rr (Thing.fr _ HD.out (HF.out _)) HR.out HI.out (Nat.le_trans HQ.out (by decide)) ks v (HK2.out _) (by have := HKL.out; omega) HB.out).mono ?_; rintro e w' ⟨rfl, h⟩)
    | (go_at_call 37; refine (rstart_any (Thing.fr _ HD.out (HF.out _))).mono ?_; rintro e w' ⟨rfl, h⟩)
    | (go_at_call 38; refine (rwrite_any (Thing.fr _ HD.out (HF.out _)) HR.out HI.out f n l HSL.out HQ.out HRK.out HA.out).mono ?_; rintro e w' ⟨rfl, h⟩))
  all_goals
    go_ret
    have h' := Thing.step_left (HF.out _) h
    have hL : AC.l ⟨k, f, n, S l, v, ks⟩ = l := rfl
    simp only [beq_eq_false_iff_ne, beq_iff_eq, ne_eq] at *
    refine ⟨?_, Eq.mp (congrArg (fun z => (RfT B z).step O w w') ?_) h'⟩
    · clear h h' HD HI HK HSL HKL HAO HF HQ HRK HA HL HK2 HO2 HB HR
      refine congrArg (fun z : Int => Ending.returned (.int .i64 z)) ?_
      simp only [tellE, kd, *, if_true, if_false, Int.reduceEq]
    · clear h h' HD HI HK HSL HKL HAO HF HQ HRK HA HL HK2 HO2 HB HR
      simp only [tellF, kd, nd, *, if_true, if_false, Int.reduceEq]
end Go.Proofs.Ytpjoekjakjajcaa
