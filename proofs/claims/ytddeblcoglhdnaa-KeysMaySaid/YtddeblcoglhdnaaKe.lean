/-
  The reference's Count.
-/
import Derived.Test.YtddeblcoglhdnaaKd
namespace Go.Proofs.Ytddeblcoglhdnaa
open Go.RowKit Mb

theorem At.take {w : World} {b o : Nat} {l : List Int} (h : At w b o l) (k : Nat) : At w b o (l.take k) := fun i hi => by
  have hi' : i < l.length := by rw [List.length_take] at hi; omega
  rw [h i hi', List.getElem_take]
/-- The beginning of a slice. -/
theorem Sl.take {w : World} {av : Option Addr} {n c : Nat} {l : List Int} (h : Sl w (.slice av n c) l) (k : Nat) (hk : k ≤ l.length) : Sl w (.slice av k c) (l.take k) := by
  rcases h with ⟨rfl, a, c', hv⟩ | ⟨g, o, c', hv, hc, hl⟩
  · cases hv
    have : k = 0 := by simpa using hk
    subst this
    exact .inl ⟨rfl, _, _, rfl⟩
  · cases hv
    refine .inr ⟨g, o, c, ?_, hc.take k, ?_⟩
    · rw [List.length_take, Nat.min_eq_left hk]
    · rw [List.length_take]; omega
theorem Sl.cap {w : World} {av : Option Addr} {n c : Nat} {l : List Int} (h : Sl w (.slice av n c) l) (h0 : 0 < l.length) : l.length ≤ c := by
  rcases h with ⟨rfl, _⟩ | ⟨g, o, c', hv, hc, hl⟩
  · simp at h0
  · cases hv; exact hl
set_option maxRecDepth 100000 in
set_option maxHeartbeats 1000000 in
theorem count_any (v u : Value) (q ks : List Int) (w : World) (hv : Sl w v q) (hq : q.length ≤ 1000000) (hu : Sl w u ks) (hks : ks.length ≤ 1000000) :
    Calls Try.prog 23 #[v, u] w fun e w' => e = .returned (.int .i64 (cnt ks q)) ∧ Fr w w' := by
  obtain ⟨av, ac, rfl⟩ := hv.len
  have HV := Lib.hid hv
  have HU := Lib.hid hu
  clear hv hu
  go_enter Try.func23, Try.ntmps23
  go_wp2_with fail
  go_loopw [6, 5] (fun n m wr => ∃ k : Nat, k ≤ q.length ∧ n = .int .i64 k ∧ m = .int .i64 (cnt ks (q.take k)) ∧ Hid (Fr w wr)) (fun n _ _ => q.length - (intOf n).toNat)
  case atStart => exact ⟨0, Nat.zero_le _, rfl, rfl, Lib.hid (Fr.refl _)⟩
  case round =>
    obtain ⟨k, hk, rfl, rfl, hF⟩ := hrel
    by_cases hlt : k < q.length
    · have hcp := HV.out.cap (by omega)
      have hs := cnt_succ ks hlt
      have hc1 := cnt_len ks (q.take k)
      have H1 := Lib.hid fun n => has_any u ks q[k] (wr.drewN n) (HU.out.fr (hF.out.trans (Fr.drewN _ _))) hks
      have H2 := Lib.hid fun n => has_any (.slice av k ac) (q.take k) q[k] (wr.drewN n) ((HV.out.take k hk).fr (hF.out.trans (Fr.drewN _ _))) (by rw [List.length_take]; omega)
      obtain ⟨g1, o1, rfl, c1'⟩ := HV.out.at k hlt
      have c1 := hF.out.cell c1'
      rw [List.length_take] at hc1
      clear c1' HV HU
      have hs' : cnt ks (q.take (k + 1)) = if (decide (q[k] ∈ ks) && !decide (q[k] ∈ q.take k)) = true then cnt ks (q.take k) + 1 else cnt ks (q.take k) := by
        rw [hs]; simp only [Bool.and_eq_true, Bool.not_eq_true', decide_eq_true_eq, decide_eq_false_iff_not]
      have HS := Lib.hid hs'
      clear hs hs'
      generalize decide (q[k] ∈ ks) = d1 at *
      generalize decide (q[k] ∈ q.take k) = d2 at *
      generalize q[k] = y at *
      generalize cnt ks (q.take k) = cn at *
      cases d1 with
      | false =>
        go_wp2_with fail
        go_quiet ((go_at_call 35; refine Calls.quiet_of_same (H1.out _)))
        go_wp2_with fail
        go_roundw
        case rel => exact ⟨k + 1, by omega, by go_num, by rw [HS.out]; rfl, Lib.hid (hF.out.trans (Fr.drewN _ _))⟩
        case measure => simp [intOf]; omega
      | true =>
        cases d2 with
        | false =>
          go_wp2_with fail
          go_quiet (first | (go_at_call 35; with_reducible refine Calls.quiet_of_same (H1.out _)) | (go_at_call 35; with_reducible refine Calls.quiet_of_same (H2.out _)))
          go_wp2_with fail
          go_roundw
          case rel => exact ⟨k + 1, by omega, by go_num, by rw [HS.out]; go_num, Lib.hid (hF.out.trans (Fr.drewN _ _))⟩
          case measure => simp [intOf]; omega
        | true =>
          go_wp2_with fail
          go_quiet (first | (go_at_call 35; with_reducible refine Calls.quiet_of_same (H1.out _)) | (go_at_call 35; with_reducible refine Calls.quiet_of_same (H2.out _)))
          go_wp2_with fail
          go_roundw
          case rel => exact ⟨k + 1, by omega, by go_num, by rw [HS.out]; rfl, Lib.hid (hF.out.trans (Fr.drewN _ _))⟩
          case measure => simp [intOf]; omega
    · have hkl : k = q.length := by omega
      have hkl' : q.take k = q := by rw [hkl, List.take_length]
      rw [hkl']
      generalize hg : cnt ks q = cn
      have HG := Lib.hid hg
      clear hg
      go_wp2_with fail
      go_ret
      rw [HG.out]
      exact ⟨rfl, hF.out⟩
end Go.Proofs.Ytddeblcoglhdnaa
