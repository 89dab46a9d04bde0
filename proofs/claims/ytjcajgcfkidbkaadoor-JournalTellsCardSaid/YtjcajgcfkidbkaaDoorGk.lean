/-
  The reference's journal: Append.
-/
import Derived.Test.YtjcajgcfkidbkaaDoorGj
namespace Go.Proofs.YtjcajgcfkidbkaaDoor
open Go.RowKit

set_option maxHeartbeats 2000000 in
set_option maxRecDepth 100000 in
theorem Has.rappend {W w : World} {U : Thing} {K R n f : Nat} {s : RS} {rs : List (List UInt8)} {br : Bool} (h : Has W w ((RjT (.pointer (some ⟨K, 0, none⟩)) R n f s (some (rs, br))).sep U)) (hg : Good s) (hn : n ≤ 48000) (hj : JOk (some (rs, br))) (r : List UInt8) (hr : r.length ≤ 200) :
    Calls Tryd.prog 17 #[.pointer (some ⟨K, 0, none⟩), .string (S r)] w fun e w' => e = .returned (.int .i64 (apE s f rs br r)) ∧ Has W w' ((RjT (.pointer (some ⟨K, 0, none⟩)) R (n + 1400) f (apS s f rs br r) (apG s f rs br r)).sep U) := by
  obtain ⟨hsm, hmx⟩ := hj rs br rfl
  rcases h.unrj with ⟨h1, _⟩ | ⟨K', rv, rs', br', h1, h2, h⟩
  · simp at h1
  obtain ⟨rfl, rfl⟩ := Prod.mk.inj (Option.some.inj h1)
  obtain rfl : K = K' := by simpa using h2
  clear h1 h2
  have hb := h.turn.boxed
  have c3 : w.cell? ⟨K, 3, none⟩ = some (.bool br) := cellOf hb rfl
  cases br with
  | true =>
    have H := Lib.hid (QfT.mono h (m := n + 1400) (by omega))
    clear h hb
    go_enter Tryd.func17, Tryd.ntmps17
    go_wp2_with fail
    go_ret
    exact ⟨rfl, H.out.rj⟩
  | false =>
    have c0 : w.cell? ⟨K, 0, none⟩ = some (.pointer (some ⟨R, 0, none⟩)) := cellOf hb rfl
    have c1 : w.cell? ⟨K, 1, none⟩ = some (.int .i64 f) := cellOf hb rfl
    have c2 : w.cell? ⟨K, 2, none⟩ = some rv := cellOf hb rfl
    have hrow := h.turn.right.turn.row
    have HFO := Lib.hid (rforms_any (Row.isSl hrow) hsm (by omega))
    have hcnt := Jm.forms_count rs
    have hfl := Jm.form_len r (by omega)
    have HFM := Lib.hid (fun (w1 : World) => rform_any r w1 (by omega))
    have HFM2 := Lib.hid (fun (w1 : World) => rform_any r w1 (by omega))
    have HW := Lib.hid (fun (w1 : World) (hF : Fr w w1) => (h.fr hF).qwrite hg (by omega) f ((Jm.forms rs).length : Nat) (Jm.formE.f r) (by omega))
    have H := Lib.hid h
    have HRO := Lib.hid hrow
    have HJC2 : ∀ v, Hid ((rjC R f rv false).setIfInBounds 2 v = rjC R f v false) := fun v => Lib.hid rfl
    have HJC3 : Hid ((rjC R f rv false).setIfInBounds 3 (.bool true) = rjC R f rv true) := Lib.hid rfl
    clear h hb hrow hj
    by_cases hmf : apFull rs r
    · have e1 : apE s f rs false r = 6 := by unfold apE; rw [if_neg (by decide), if_pos hmf]
      have e2 : apS s f rs false r = s := by unfold apS; rw [if_neg (by decide), if_pos hmf]
      have e3 : apG s f rs false r = some (rs, false) := by unfold apG; rw [if_neg (by decide), if_pos hmf]
      rw [e1, e2, e3]
      unfold apFull at hmf
      clear e1 e2 e3
      generalize hq : (Jm.forms rs) = q at *
      have HQ := Lib.hid hq
      clear hq
      generalize Jm.formE.f r = fr at *
      have hm' : (1048576 : Int) < (q.length : Int) + (fr.length : Int) := by omega
      go_enter Tryd.func17, Tryd.ntmps17
      go_wp2_with fail
      refine HFO.out.mono ?_
      rintro e w1 ⟨rfl, hf1⟩
      have HF1 := Lib.hid hf1
      clear hf1
      go_wp2_with fail
      refine (HFM.out _).mono ?_
      rintro e w2 ⟨rfl, hf2⟩
      have HF2 := Lib.hid (HF1.out.trans hf2)
      clear hf2
      go_wp2_with fail
      go_ret
      exact ⟨rfl, (QfT.mono (H.out.fr HF2.out) (by omega)).rj⟩
    · have e1 : apE s f rs false r = writeE s f (Jm.forms rs).length (Jm.formE.f r) := by unfold apE; rw [if_neg (by decide), if_neg hmf]
      have e2 : apS s f rs false r = writeS s f (Jm.forms rs).length (Jm.formE.f r) := by unfold apS; rw [if_neg (by decide), if_neg hmf]
      have e3 : apG s f rs false r = some (appL (writeE s f (Jm.forms rs).length (Jm.formE.f r)) rs r, writeE s f (Jm.forms rs).length (Jm.formE.f r) != 0) := by unfold apG; rw [if_neg (by decide), if_neg hmf]
      rw [e1, e2, e3]
      unfold apFull at hmf
      clear e1 e2 e3
      generalize hq : (Jm.forms rs) = q at *
      have HQ := Lib.hid hq
      clear hq
      generalize Jm.formE.f r = fr at *
      have hm' : ¬ ((1048576 : Int) < (q.length : Int) + (fr.length : Int)) := by omega
      generalize writeE s f q.length fr = E at *
      generalize writeS s f q.length fr = s1 at *
      go_enter Tryd.func17, Tryd.ntmps17
      go_wp2_with fail
      refine HFO.out.mono ?_
      rintro e w1 ⟨rfl, hf1⟩
      have HF1 := Lib.hid hf1
      clear hf1
      go_wp2_with fail
      refine (HFM.out _).mono ?_
      rintro e w2 ⟨rfl, hf2⟩
      have HF2 := Lib.hid (HF1.out.trans hf2)
      clear hf2 HF1 HFM HFO
      have d0 := HF2.out.cell c0
      have d1 := HF2.out.cell c1
      clear c0 c1 c2 c3
      go_upto_region 8 with fail
      go_cut [6] (fun c wx => c = .int .i64 E ∧ ∃ w5, w5 = wx ∧ Hid (Has W w5 ((QfT R (n + 700) s1).sep ((BoxT 49 K (rjC R f rv false)).sep ((RowT 9 1 rv rs.length (strs rs)).sep U)))))
      case first =>
        have q0 := (Fr.drew w2).cell d0
        have q1 := (Fr.drew w2).cell d1
        go_wp2_with fail
        go_region_with (first
          | (go_at_call 55; refine (HFM2.out _).mono ?_; rintro e w3 ⟨rfl, hf3⟩; have HF3 := Lib.hid (HF2.out.trans ((Fr.drew w2).trans hf3)); have p0 := hf3.cell q0; have p1 := hf3.cell q1; clear hf3)
          | (go_at_call 56; refine (HW.out _ HF3.out).mono ?_; rintro e w4 ⟨rfl, h4⟩; have H4 := Lib.hid h4; clear h4))
        all_goals (go_wp2_with fail; go_meet; exact ⟨rfl, _, rfl, H4⟩)
      case rest =>
        obtain ⟨rfl, wx, rfl, H4⟩ := hcut
        clear d0 d1 HW HFM2 HF2
        have hb4 := H4.out.turn.boxed
        by_cases hz : E = 0
        · subst hz
          have c2 : wx.cell? ⟨K, 2, none⟩ = some rv := cellOf hb4 rfl
          have c2a := (Fr.alloc wx (.cells #[] 9)).cell c2
          have HSL := Lib.hid ((Row.isSl H4.out.turn.right.turn.row).fr (Fr.alloc wx (.cells #[] 9)))
          have hrs : rs.length ≤ 400000 := by omega
          have HRS := Lib.hid hrs
          obtain ⟨i0, hi, hz0, hz1, hz2⟩ := info_parts infoStr
          clear hb4 hrs
          go_wp2_with (first
            | (at_builtin; have := H7.out; go_loud (refine wpList_app rfl _ _ 46 rfl 9 i0 (.string (S [])) 1 16 Tryd.underlying46 hi hz0 hz1 hz2 rfl (by decide) rfl H7.out 1 1 [.string (S r)] rfl rfl (by intro u hu; simp at hu; subst hu; rfl) (by decide) (by have := HRS.out; omega) (by decide) ?_; intro g8 cap8 w8 h8; have H8 := Lib.hid (h8.map fun _ h => sep_turn (sep_under h fun _ h => sep_turn h)); have z2 := frozenOf H8.out.boxed 2; have b2 : w8.cell? ⟨K, 2, none⟩ = some rv := cellOf H8.out.boxed rfl; clear h8))
            | (at_builtin; go_loud (refine wpList_strs rfl _ _ rfl rfl HSL.out rfl (by have := HRS.out; omega) ?_; intro g7 m7 cap7 w7 hm7 hown7 hfr7 hge7; have H7 := Lib.hid (Has.new (T := RowT 9 1 (.slice (some ⟨g7, 0, none⟩) m7 cap7) rs.length (strs rs)) H4.out ⟨_, ⟨hown7, fun _ => Iff.rfl⟩, fun k hk => .inr ⟨by simp only [Value.ownBlock, Option.some.injEq] at hk; omega, (hown7.lt k hk).2⟩, .of_fr hfr7⟩); clear hm7 hown7 hfr7 hge7)))
          go_ret
          refine ⟨rfl, ?_⟩
          have h9 := (H8.out.set 2 (.slice (some ⟨g8, 0, none⟩) (rs.length + 1) cap8)).turn
          rw [(HJC2 _).out] at h9
          have h10 := (h9.map fun _ h => sep_turn (sep_under h fun _ h => sep_turn (sep_under h fun _ h => sep_turn h))).right
          unfold appL
          rw [if_pos rfl, show ((0 : Int) != 0) = false from rfl]
          refine Has.rj (rv := .slice (some ⟨g8, 0, none⟩) (rs.length + 1) cap8) (QfT.mono ?_ (show n + 700 ≤ n + 1400 by omega))
          rw [List.length_append, strs_snoc]
          exact h10.map fun _ h => sep_under (sep_turn (sep_under h fun _ h => sep_turn h)) fun _ h => sep_turn h
        · have hne : (E != 0) = true := bne_iff_ne.2 hz
          have z3 := frozenOf hb4 3
          have b3 : wx.cell? ⟨K, 3, none⟩ = some (.bool false) := cellOf hb4 rfl
          have H5 : Hid (Has W (wx.setCell ⟨K, 3, none⟩ (.bool true)) ((QfT R (n + 700) s1).sep ((BoxT 49 K (rjC R f rv true)).sep ((RowT 9 1 rv rs.length (strs rs)).sep U)))) := Lib.hid (by have h := (H4.out.turn.set 3 (.bool true)).turn; rw [HJC3.out] at h; exact h)
          have HNE := Lib.hid hne
          have HZ := Lib.hid hz
          clear hb4 hne
          go_wp2_with fail
          go_ret
          refine ⟨rfl, ?_⟩
          unfold appL
          rw [if_neg HZ.out, HNE.out]
          exact (QfT.mono H5.out (by omega)).rj
end Go.Proofs.YtjcajgcfkidbkaaDoor
