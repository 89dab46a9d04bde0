/-
  The reference's disk: Crash.
-/
import Derived.Test.YtpjoekjakjajcaaFl
import Derived.Deep.RegionHeldLaw
namespace Go.Proofs.Ytpjoekjakjajcaa
open Go.RowKit

theorem Ints.own {w w' : World} {v : Value} {ks : List Int} {B : Nat} (h : Ints w v ks) (ho : Own (fun k => k = B) w w') (hb : ∀ p, ks ≠ [] → v.ownBlock = some p → p ≠ B) : Ints w' v ks :=
  h.frame fun p h0 hp hlt => ho.block p hlt (hb p h0 hp)
theorem Own.one {w w1 w2 : World} {B : Nat} (h : Own (fun k => k = B) w w1) (h' : Own (fun k => k = B) w1 w2) : Own (fun k => k = B) w w2 := h.trans (fun _ hk => .inl hk) h'

set_option maxHeartbeats 8000000 in
set_option maxRecDepth 100000 in
theorem rcrash_any (ks : List Int) (v : Value) {w : World} {O : Nat → Prop} {B : Nat} {r : FS} (h : (RfT B r).at_ w O) (hF : Fine r.fl) (hqf : ∀ p ∈ r.q, p.1 < 16 ∧ p.2 ≤ 262144) (hq : r.q.length ≤ 100000)
    (hlen : ∀ k f, f < 16 → (getF (crF r.fl r.q ks k) f).1.length ≤ 16777216 ∧ (getF (crF r.fl r.q ks k) f).2.length ≤ 16777216) (hk : Ints w v ks) (hkl : ks.length ≤ 17592186044416) (hkB : ∀ p, ks ≠ [] → v.ownBlock = some p → p ≠ B) :
    Calls Try.prog 36 #[.pointer (some ⟨B, 0, none⟩), v] w fun e w' => e = .returned (.tuple #[]) ∧ (RfT B (crashF r ks)).step O w w' ∧ Own (fun k => k = B) w w' := by
  by_cases hd : r.down = true
  · have HC := Lib.hid (show crashF r ks = r by unfold crashF; rw [if_pos hd])
    have HS := Lib.hid (Thing.step_fr h (Fr.refl w))
    obtain ⟨fv, qv, kv, hr⟩ := h
    obtain ⟨_, _, _, c3, _, _⟩ := hr.c
    rw [hd] at c3
    clear hr hlen hqf hkB hk
    go_enter Try.func36, Try.ntmps36
    go_wp2
    exact bodyPost_ret (v := .tuple #[]) (by simp [results, Try.results36, go_sem]) rfl ⟨rfl, by rw [HC.out]; exact HS.out, Own.refl _ _⟩
  · replace hd : r.down = false := by simpa using hd
    obtain ⟨fv, qv, kv, hr⟩ := h
    have HC := Lib.hid (show crashF r ks = { r with fl := lastL (crF r.fl r.q ks r.q.length), q := [], down := true, armed := 0 } by unfold crashF; rw [hd]; rfl)
    have HFI := Lib.hid (fun k => crF_fine hF (fun p hp => (hqf p hp).1) ks k)
    have h1 := hr.scalar 3 (.bool true) { r with down := true } rfl rfl rfl rfl
    have h2 := h1.scalar 4 (.int .i64 0) { r with down := true, armed := 0 } rfl rfl rfl rfl
    have o2 : Own (fun k => k = B) w ((w.setCell ⟨B, 3, none⟩ (.bool true)).setCell ⟨B, 4, none⟩ (.int .i64 0)) := ((Own.refl (fun k => k = B) w).only (OnlyB.setCell w B 3 _) (.inl rfl)).only (OnlyB.setCell _ B 4 _) (.inl rfl)
    have HS0 : Hid ((RfT B { r with down := true, armed := 0, fl := crF r.fl r.q ks 0 }).step O w ((w.setCell ⟨B, 3, none⟩ (.bool true)).setCell ⟨B, 4, none⟩ (.int .i64 0))) :=
      Lib.hid ⟨O, ⟨fv, qv, kv, h2⟩, fun _ hk => .inl hk, o2.mono fun k hk => by subst hk; exact hr.oB⟩
    have HO0 := Lib.hid o2
    obtain ⟨_, _, _, c3, c4, _⟩ := hr.c
    rw [hd] at c3
    have z3 : w.frozen? ⟨B, 3, none⟩ = false := hr.fz 3
    have z4 : (w.setCell ⟨B, 3, none⟩ (.bool true)).frozen? ⟨B, 4, none⟩ = false := h1.fz 4
    have d4 : (w.setCell ⟨B, 3, none⟩ (.bool true)).cell? ⟨B, 4, none⟩ = some (.int .i64 r.armed) := h1.c.2.2.2.2.1
    obtain ⟨a, c, rfl⟩ := hk.form
    have HK0 := Lib.hid hk
    have HQF := Lib.hid hqf
    have HLEN := Lib.hid hlen
    have HKB := Lib.hid hkB
    clear hr h1 h2 o2 hk hqf hlen hkB hF
    obtain ⟨m0, hm0⟩ : ∃ m0, m0 = r.q.length := ⟨_, rfl⟩
    obtain ⟨nk, hnk⟩ : ∃ nk, nk = ks.length := ⟨_, rfl⟩
    rw [← hm0] at hq
    rw [← hnk] at hkl HK0 HKB
    have HM0 := Lib.hid hm0
    have HNK := Lib.hid hnk
    clear hm0 hnk
    go_enter Try.func36, Try.ntmps36
    rw [← HNK.out]
    go_wp2_with fail
    go_loopw [4] (fun i wr => ∃ (k : Nat), k ≤ m0 ∧ i = .int .i64 k ∧ Hid ((RfT B { r with down := true, armed := 0, fl := crF r.fl r.q ks k }).step O w wr) ∧ Hid (Own (fun k => k = B) w wr)) (fun i _ => m0 - (intOf i).toNat)
    case atStart => exact ⟨0, Nat.zero_le _, by go_num, HS0, HO0⟩
    case round =>
      obtain ⟨k, hk, rfl, HS, HO⟩ := hrel
      clear HS0 HO0
      obtain ⟨O', ⟨fv', qv', kv', hr⟩, hG, hW⟩ := HS.out
      have HR := Lib.hid hr
      have HG := Lib.hid hG
      have HW := Lib.hid hW
      have HQ : Hid (wr.ownsRow 0 82 2 qv' r.q.length (qCells r.q)) := Lib.hid hr.queue
      obtain ⟨_, c1, _, _, _, _⟩ := hr.c
      clear hr hG hW
      obtain ⟨aq, cq, hqv⟩ := row_at HQ.out
      subst hqv
      rw [← HM0.out] at c1
      have HK := Lib.hid (HK0.out.own HO.out HKB.out)
      obtain ⟨bg, hbg⟩ : ∃ bg, bg = decide (k < m0 ∧ 0 < nk) := ⟨_, rfl⟩
      have HBG := Lib.hid hbg
      clear hbg
      go_upto_region 4 with fail
      go_cut [28] (fun s wx => s = .bool bg ∧ wx = wr)
      case first =>
        by_cases h1 : k < m0
        · by_cases h2 : 0 < nk
          · have hbt : bg = true := by rw [HBG.out]; simp [h1, h2]
            subst hbt
            have h2' : (0 : Int) < (nk : Int) := by omega
            go_wp2_with fail
            go_meet
            exact ⟨rfl, rfl⟩
          · have hbt : bg = false := by rw [HBG.out]; simp [h2]
            subst hbt
            have h2' : ¬ (0 : Int) < (nk : Int) := by omega
            go_wp2_with fail
            go_meet
            exact ⟨rfl, rfl⟩
        · have hbt : bg = false := by rw [HBG.out]; simp [h1]
          subst hbt
          go_wp2_with fail
          go_meet
          exact ⟨rfl, rfl⟩
      case rest =>
      obtain ⟨rfl, rfl⟩ := hcut
      cases bg with
      | true =>
        have hb := HBG.out
        rw [eq_comm, decide_eq_true_iff] at hb
        obtain ⟨hk1, hk2⟩ := hb
        have hkr : k < r.q.length := by rw [← HM0.out]; exact hk1
        have hmod : k % ks.length < ks.length := Nat.mod_lt _ (by rw [← HNK.out]; exact hk2)
        obtain ⟨kb, ko, rfl, x1⟩ := HK.out.cell (k % ks.length) hmod
        have HKP := Lib.hid (kept_iff ks k hmod)
        generalize ks[k % ks.length] = y at *
        rw [← HNK.out] at x1
        obtain ⟨gq, rfl, _, hc⟩ := own_cell HQ.out (by omega)
        obtain ⟨e1, e2⟩ := qCells_get r.q k hkr
        have d1 := hc (2 * k) _ (by omega) e1
        have d2 := hc (2 * k + 1) _ (by omega) e2
        rw [Nat.mul_comm] at d1 d2
        clear hc e1 e2
        have hp := HQF.out (r.q[k]) (List.getElem_mem hkr)
        have hln := HLEN.out k (r.q[k]).1 hp.1
        have HSUC := Lib.hid (crF_succ r.fl r.q ks k hkr)
        have HSV := Lib.hid (rsurv_any (r := { r with down := true, armed := 0, fl := crF r.fl r.q ks k }) ⟨_, _, _, HR.out⟩ (r.q[k]) hp.2 (HFI.out k).len hln.1 hln.2)
        clear hp hln
        obtain ⟨px, py, hpp⟩ : ∃ px py, (px, py) = r.q[k] := ⟨_, _, rfl⟩
        rw [← hpp] at d1 d2 HSV HSUC
        dsimp only at d1 d2 HSV
        clear hpp
        have hmi : ((k : Int) % (nk : Int)) = ((k % nk : Nat) : Int) := by omega
        have hmlt : k % nk < nk := Nat.mod_lt _ hk2
        have hidx : (0 : Int) ≤ ((k % nk : Nat) : Int) ∧ ((k % nk : Nat) : Int) < (nk : Int) := by omega
        obtain ⟨ix, hix⟩ : ∃ ix, ix = k % nk := ⟨_, rfl⟩
        rw [← hix] at x1 hmi hmlt hidx
        clear hix
        by_cases hy : bits .and .i64 y 1 = 1
        · have HE : Hid (crF r.fl r.q ks (k + 1) = survL (crF r.fl r.q ks k) (px, py)) := Lib.hid (by rw [HSUC.out, if_pos (HKP.out.2 hy)])
          clear HKP HSUC
          go_wp2_with fail
          refine HSV.out.mono ?_
          rintro e w9 ⟨rfl, hs9, ho9⟩
          have HS9 := Lib.hid (Thing.step_trans HG.out HW.out hs9)
          have HO9 := Lib.hid (HO.out.one ho9)
          clear hs9 ho9
          go_wp2_with fail
          go_roundw
          case rel => exact ⟨k + 1, by omega, by go_num, by rw [HE.out]; exact HS9, HO9⟩
          case measure => simp [intOf]; omega
        · have HE : Hid (crF r.fl r.q ks (k + 1) = crF r.fl r.q ks k) := Lib.hid (by rw [HSUC.out, if_neg (fun h => hy (HKP.out.1 h))])
          clear HKP HSUC
          go_wp2_with fail
          go_roundw
          case rel => exact ⟨k + 1, by omega, by go_num, by rw [HE.out]; exact HS, HO⟩
          case measure => simp [intOf]; omega
      | false =>
        have HE : Hid (crF r.fl r.q ks k = crF r.fl r.q ks r.q.length) := Lib.hid (by
          have hb := HBG.out
          rw [eq_comm, decide_eq_false_iff_not] at hb
          by_cases h0 : ks.length = 0
          · have : ks = [] := List.eq_nil_of_length_eq_zero h0
            rw [this, crF_nil, crF_nil]
          · have := HNK.out
            have := HM0.out
            rw [show k = r.q.length by omega])
        obtain ⟨F, hFd⟩ : ∃ F, F = crF r.fl r.q ks k := ⟨_, rfl⟩
        rw [← hFd] at HR HE HS
        have hF16 : F.length ≤ 16 := by rw [hFd]; exact (HFI.out k).len
        clear hFd c1
        have hfil : wc.ownsRow 0 64 3 fv' F.length (fC F) := HR.out.files
        obtain ⟨af, cf, hfv⟩ := row_at hfil
        subst hfv
        obtain ⟨mf, hmf⟩ : ∃ mf, mf = F.length := ⟨_, rfl⟩
        have c0 : wc.cell? ⟨B, 0, none⟩ = some (.slice af mf cf) := by rw [hmf]; exact HR.out.c.1
        have HC0 := Lib.hid c0
        have HFIL := Lib.hid hfil
        have HMF := Lib.hid hmf
        rw [← hmf] at hF16
        have HTK := Lib.hid (show lastL (F.take mf) = lastL F by rw [hmf, List.take_length])
        clear c0 hfil hmf
        obtain ⟨i0, hi, hz0, hz1, hz2⟩ := info_parts infoFile
        have HIN := Lib.hid hi
        clear hi
        go_wp2_with fail
        go_loopw [5, 6] (fun v i wr => ∃ (j : Nat), j ≤ mf ∧ i = .int .i64 j ∧ Hid (Has wc wr ((RowT 64 3 v j (fC (lastL (F.take j)))).sep .emp))) (fun _ i _ => mf - (intOf i).toNat)
        case atStart => exact ⟨0, Nat.zero_le _, by go_num, Lib.hid ((Has.here wc).nilRow _ _)⟩
        case round =>
          obtain ⟨j, hj, rfl, HJ⟩ := hrel
          have c1 := HJ.out.toFr.cell HC0.out
          by_cases hlt : j < mf
          · have hlt' : j < F.length := by rw [← HMF.out]; exact hlt
            obtain ⟨g, rfl, _, hc⟩ := own_cell HFIL.out (by omega)
            obtain ⟨e1, e2, e3⟩ := fC_get F j hlt'
            have b1 := hc (3 * j) _ (by omega) e1
            have b3 := hc (3 * j + 2) _ (by omega) e3
            rw [Nat.mul_comm] at b1 b3
            clear hc e1 e2 e3
            have HL := Lib.hid (lastL_succ F j hlt')
            generalize (F[j]).2.2 = y at *
            generalize (F[j]).1 = x at *
            have HS : Hid (∀ w', Fr wc w' → w'.cell? ⟨B, 0, none⟩ = some (.slice (some ⟨g, 0, none⟩) mf cf) ∧ w'.cell? ⟨g, j * 3, none⟩ = some (.int .i64 x) ∧ w'.cell? ⟨g, j * 3 + 2, none⟩ = some (.string (S y))) := Lib.hid fun w' hf => ⟨hf.cell HC0.out, hf.cell b1, hf.cell b3⟩
            have HJ2 := Lib.hid ((HJ.out.fr (Fr.drew wr)).fr (Fr.alloc wr.drew (.cells #[.int .i64 x, .string (S y), .string (S y)] 64)))
            have HSD := Lib.hid (HS.out _ (HJ.out.toFr.trans (Fr.drew wr)))
            have HSA := Lib.hid (HS.out _ HJ2.out.toFr)
            clear b1 b3
            obtain ⟨a5, c5, hv5⟩ := row_at HJ.out.row
            subst hv5
            obtain ⟨xs, hxs⟩ : ∃ xs, xs = fC (lastL (F.take j)) := ⟨_, rfl⟩
            rw [← hxs] at HJ2
            have HRow : Hid (wr.ownsRow 0 64 3 (.slice a5 j c5) j xs) := Lib.hid (by rw [hxs]; exact HJ.out.row)
            have HXS := Lib.hid hxs
            have hkb : (j + 1) * 40 ≤ 140737488355328 := by omega
            clear hxs HJ
            have c2 := HSD.out.1
            go_upto_region 12 with fail
            go_region_held_law (fun w' => w'.cell? ⟨B, 0, none⟩ = some (.slice (some ⟨g, 0, none⟩) mf cf) ∧ w'.cell? ⟨g, j * 3, none⟩ = some (.int .i64 x) ∧ w'.cell? ⟨g, j * 3 + 2, none⟩ = some (.string (S y)))
              (first | exact HS3.out | exact HSA.out | exact HSD.out)
              ((refine step_append_lies _ (by rfl) (.tmp 58) (.tmp 84) 57 (by rfl) 0 64 i0 (.agg #[.int .i64 0, .string (S []), .string (S [])]) 3 40 Try.underlying57 HIN.out hz0 hz1 hz2 rfl (by decide) (.slice a5 j c5) j xs (by rfl) ((HRow.out.drew).alloc _) ⟨wr.heap.size, 0, none⟩ 1 1 [.int .i64 x, .string (S y), .string (S y)] (by rfl) (by rfl) (World.news_of_block (cs := #[.int .i64 x, .string (S y), .string (S y)]) (t := 64) (fr := (0, 0)) (heap_alloc_new wr.drew _)) (by simp [Value.oneCell']) (by decide) (by unfold maxLen; omega) hkb (Nat.zero_le _) (wr.heap.size + 1) (by simp) ?_
                intro gg cap1 w3 hown1 hgrow hat1 hlt1
                have H3 : Hid (Has wc w3 ((RowT 64 3 (.slice (some ⟨gg, 0, none⟩) (j + 1) cap1) (j + 1) (fC (lastL (F.take (j + 1))))).sep .emp)) := Lib.hid (by
                  rw [HL.out, fC_append, ← HXS.out]
                  refine HJ2.out.app hown1 hgrow (fun p hp => ?_)
                  simp only [Value.ownBlock, Option.some.injEq] at hp
                  subst hp
                  rcases hat1 with h1 | h1
                  · exact .inl h1
                  · exact .inr (by rw [h1]; simp))
                have HS3 := Lib.hid (HS.out _ H3.out.toFr)
                clear hown1 hgrow hat1 hlt1))
            all_goals
              go_wp2_with fail
              go_roundw
              case rel => exact ⟨j + 1, by omega, by go_num, H3⟩
              case measure => simp [intOf]; omega
          · obtain rfl : j = mf := by omega
            obtain ⟨a6, c6, rfl⟩ := row_at HJ.out.row
            have z1 : wr.frozen? ⟨B, 0, none⟩ = false := frozenOf ((HR.out.fr HJ.out.toFr).heap) 0
            obtain ⟨hs1, ho1⟩ := HR.out.refile (Fr.refl wc) (L := lastL F) (by rw [← HTK.out]; exact HJ.out) (by rw [lastL_len]; exact HMF.out)
            have HO1 := Lib.hid (HO.out.one ho1)
            obtain ⟨O2, ⟨fv2, qv2, kv2, hr2⟩, hG2, hW2⟩ := hs1
            have z2 := frozenOf hr2.heap 1
            have c2 := hr2.c.2.1
            obtain ⟨aq2, cq2, hqv2⟩ := row_at hr2.queue
            subst hqv2
            have hs2 := hr2.requeue (Fr.refl _) (v := .slice none 0 0) (L := []) (n := 0) ((Has.here _).nilRow _ _) rfl
            have ho2 := HO1.out.one ((Own.refl (fun k => k = B) _).only (OnlyB.setCell _ B 1 (.slice none 0 0)) (.inl rfl))
            have HS2 := Lib.hid (Thing.step_trans HG.out HW.out (Thing.step_trans hG2 hW2 hs2))
            have HO2 := Lib.hid ho2
            clear hs2 ho2 ho1 hG2 hW2 hr2
            go_wp2_with fail
            go_end0
            exact ⟨rfl, by rw [HC.out, ← HE.out]; exact HS2.out, HO2.out⟩
end Go.Proofs.Ytpjoekjakjajcaa
