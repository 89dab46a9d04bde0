/-
  View: Clash.
-/
import Derived.Test.YtapdabebiinnnaaVo
namespace Go.Proofs.Ytapdabebiinnnaa
open Go.RowKit Go.MapKept Go.Maps Go.WideMaps Go.BigFrame

/-- The first accepted claim that contradicts what a signature says. -/
noncomputable def clO (l : List Sg) (c : C) : Option Sg := l.find? fun a => contra (clm a.2.1) c
noncomputable def clR (l : List Sg) (s : Sg) : Option Sg := match readC s.2.1 with | none => none | some c => clO l c
def clV : Option Sg → Value
  | none => .tuple #[sgV (0, [], 0), .bool false]
  | some x => .tuple #[sgV x, .bool true]
theorem clO_none {l : List Sg} {c : C} (h : (l.any fun a => contra (clm a.2.1) c) = false) : clO l c = none := by
  unfold clO
  rw [List.find?_eq_none]
  rw [List.any_eq_false] at h
  exact h
theorem clO_some {l : List Sg} {c : C} {k : Nat} (hk : k < l.length) (h : contra (clm l[k].2.1) c = true) (h0 : ∀ (j : Nat) (h : j < l.length), j < k → contra (clm l[j].2.1) c = false) : clO l c = some l[k] := by
  unfold clO
  rw [List.find?_eq_some_iff_getElem]
  exact ⟨h, k, hk, rfl, fun j hj => by simpa using h0 j (by omega) hj⟩
theorem clO_end {l : List Sg} {c : C} (h : (l.any fun a => contra (clm a.2.1) c) = true) (h0 : ∀ (j : Nat) (h : j < l.length), contra (clm l[j].2.1) c = false) : False := by
  obtain ⟨a, ha, hc⟩ := List.any_eq_true.1 h
  obtain ⟨j, hj, rfl⟩ := List.getElem_of_mem ha
  rw [h0 j hj] at hc; exact absurd hc (by decide)
section
variable {W w : World} {B R : Nat} {k : Int} {l : List Sg} {q : List Sd} {U : Thing}
set_option maxHeartbeats 4000000 in
set_option maxRecDepth 100000 in
theorem vclash (h : Has W w ((ViewT B R k l (vd l)).sep U)) (hl : LOk q k l) (hq : q.Nodup) (hll : l.length ≤ 100000) (s : Sg) (hs : s.2.1.length ≤ 9223372036854775807) :
    Calls Try.prog 17 #[.pointer (some ⟨B, 0, none⟩), sgV s] w fun e w' => e = .returned (clV (clR l s)) ∧ Fr w w' := by
  obtain ⟨sk, st, sm⟩ := s
  simp only at hs
  have HRD := Lib.hid (fun w' => read_any st w' hs)
  have HZ := Lib.hid (show readC st = none → clR l (sk, st, sm) = none from fun h => by unfold clR; rw [h])
  have HC := Lib.hid (show ∀ c, readC st = some c → clR l (sk, st, sm) = clO l c ∧ okB c = true from fun c h => ⟨by unfold clR; rw [h], (readC_some.1 h).1⟩)
  generalize clR l (sk, st, sm) = o at *
  have HD := Lib.hid (fun c hc => hl.dny hq (c := c) hc)
  have HHD := Lib.hid (hl.hdok hq hll)
  have HLG := Lib.hid hl.log
  obtain ⟨D, hD⟩ : ∃ D, D = vd l := ⟨_, rfl⟩
  rw [← hD] at h HD HHD
  unfold sgV
  have H0 := Lib.hid ((h.box 41 #[.int .i64 sk, .string (S st), .int .i64 sm]).box 41 #[.int .i64 0, .string ⟨#[]⟩, .int .i64 0])
  have HF := Lib.hid ((((Has.here w).box 41 #[.int .i64 sk, .string (S st), .int .i64 sm]).box 41 #[.int .i64 0, .string ⟨#[]⟩, .int .i64 0]))
  have hsz : (w.alloc (.cells #[.int .i64 sk, .string (S st), .int .i64 sm] 41)).heap.size = w.heap.size + 1 := by simp
  rw [hsz] at H0 HF
  clear hD hl hq hsz h
  go_enter Try.func17, Try.ntmps17
  go_upto_region 1 with fail
  obtain ⟨T, hT⟩ : ∃ T, T = w.heap.size := ⟨_, rfl⟩
  rw [← hT] at H0 HF ⊢
  clear hT
  generalize (w.alloc (.cells #[.int .i64 sk, .string (S st), .int .i64 sm] 41)).alloc (.cells #[.int .i64 0, .string ⟨#[]⟩, .int .i64 0] 41) = w1 at *
  have HFIN : Hid (∀ (w' : World) (v0 v1 v2 : Value), Fr w1 w' → ∃ w4, w4 = ((w'.setCell ⟨T + 1, 0, none⟩ v0).setCell ⟨T + 1, 1, none⟩ v1).setCell ⟨T + 1, 2, none⟩ v2 ∧ Fr w w4 ∧ w4.cell? ⟨T + 1, 0, none⟩ = some v0 ∧ w4.cell? ⟨T + 1, 1, none⟩ = some v1 ∧ w4.cell? ⟨T + 1, 2, none⟩ = some v2) := Lib.hid fun w' v0 v1 v2 hf => by
    have h4 := (((HF.out.fr hf).set 0 v0).set 1 v1).set 2 v2
    exact ⟨_, rfl, h4.toFr, cellOf h4.boxed rfl, cellOf h4.boxed rfl, cellOf h4.boxed rfl⟩
  have HBX : Hid (∀ w', Fr w1 w' → w'.heap[T + 1]? = some (.cells #[.int .i64 0, .string ⟨#[]⟩, .int .i64 0] 41 (0, 0))) := Lib.hid fun w' hf => (HF.out.fr hf).boxed
  have HV : Hid (∀ w', Fr w1 w' → Has W w' ((ViewT B R k l D).sep U)) := Lib.hid fun w' hf => ((H0.out.fr hf).right).right
  have HS1 := Lib.hid (show w1.cell? ⟨T, 1, none⟩ = some (.string (S st)) from cellOf (H0.out.right).boxed rfl)
  have s1 := HS1.out
  clear H0 HF
  cases hr : readC st with
  | none =>
    obtain rfl := HZ.out hr
    rw [hr] at HRD
    unfold readV zeroC C.v at HRD
    clear HC HZ hr
    go_upto_region 2 with (go_at_call 22; refine (HRD.out _).mono ?_; rintro e w2 ⟨rfl, hf2⟩)
    have hf3 := hf2.trans (Fr.alloc w2 (.cells #[.int .i64 0, .int .i64 0, .int .i64 0, .string (S [])] 60))
    generalize w2.alloc (.cells #[.int .i64 0, .int .i64 0, .int .i64 0, .string (S [])] 60) = w3 at *
    have bx := HBX.out _ hf3
    have r0 : w3.cell? ⟨T + 1, 0, none⟩ = some (.int .i64 0) := cellOf bx rfl
    have r1 : w3.cell? ⟨T + 1, 1, none⟩ = some (.string ⟨#[]⟩) := cellOf bx rfl
    have r2 : w3.cell? ⟨T + 1, 2, none⟩ = some (.int .i64 0) := cellOf bx rfl
    have z0 := frozenOf bx 0
    have z1 := frozenOf bx 1
    have z2 := frozenOf bx 2
    obtain ⟨w4, hw4, hf4, d0, d1, d2⟩ := HFIN.out w3 (.int .i64 0) (.string ⟨#[]⟩) (.int .i64 0) hf3
    have HW4 := Lib.hid hw4
    clear bx s1 hw4
    go_wp2_with fail
    rw [← HW4.out]
    refine bodyPost_ret (v := clV none) (by simp [results, Try.results17, go_sem, d0, d1, d2]; rfl) rfl ⟨rfl, hf4⟩
  | some c =>
    obtain ⟨ho, hok⟩ := HC.out c hr
    have HO := Lib.hid ho
    rw [hr] at HRD
    have HOK := Lib.hid hok
    have HD1 := Lib.hid (HD.out c hok)
    unfold readV at HRD
    have HCV : Hid (c.v = .agg #[.int .i64 c.k, .int .i64 c.n, .int .i64 c.t, .string (S c.s)]) := Lib.hid rfl
    simp only [HCV.out] at HRD
    clear HC HZ hr hok HD ho
    go_upto_region 2 with (go_at_call 22; refine (HRD.out _).mono ?_; rintro e w2 ⟨rfl, hf2⟩)
    obtain ⟨x0, x1, x2, x3⟩ := CAt.new w2 c
    have HF3 := Lib.hid (hf2.trans (Fr.alloc w2 (.cells #[.int .i64 c.k, .int .i64 c.n, .int .i64 c.t, .string (S c.s)] 60)))
    obtain ⟨X, hX⟩ : ∃ X, X = w2.heap.size := ⟨_, rfl⟩
    rw [← hX] at x0 x1 x2 x3 ⊢
    clear hX hf2
    generalize w2.alloc (.cells #[.int .i64 c.k, .int .i64 c.n, .int .i64 c.t, .string (S c.s)] 60) = w3 at *
    have HVD := Lib.hid (vdenies (HV.out w3 HF3.out) HHD.out c HOK.out)
    rw [HCV.out] at HVD
    obtain ⟨b, hb⟩ : ∃ b, b = dny D c := ⟨_, rfl⟩
    rw [← hb] at HVD HD1
    clear hb s1
    cases b with
    | false =>
      go_upto_region 10 with (go_at_call 24; refine HVD.out.mono ?_; rintro e w5 ⟨rfl, hf5⟩)
      have bx := HBX.out _ (HF3.out.trans hf5)
      have r0 : w5.cell? ⟨T + 1, 0, none⟩ = some (.int .i64 0) := cellOf bx rfl
      have r1 : w5.cell? ⟨T + 1, 1, none⟩ = some (.string ⟨#[]⟩) := cellOf bx rfl
      have r2 : w5.cell? ⟨T + 1, 2, none⟩ = some (.int .i64 0) := cellOf bx rfl
      have z0 := frozenOf bx 0
      have z1 := frozenOf bx 1
      have z2 := frozenOf bx 2
      obtain ⟨w6, hw6, hf6, d0, d1, d2⟩ := HFIN.out w5 (.int .i64 0) (.string ⟨#[]⟩) (.int .i64 0) (HF3.out.trans hf5)
      have HW6 := Lib.hid hw6
      clear bx hw6
      go_wp2_with fail
      rw [← HW6.out]
      refine bodyPost_ret (v := clV none) (by simp [results, Try.results17, go_sem, d0, d1, d2]; rfl) rfl ⟨by rw [HO.out, clO_none HD1.out.symm], hf6⟩
    | true =>
      go_upto_region 3 with (go_at_call 24; refine HVD.out.mono ?_; rintro e w5 ⟨rfl, hf5⟩)
      have HF5 := Lib.hid (HF3.out.trans hf5)
      replace x0 := hf5.cell x0
      replace x1 := hf5.cell x1
      replace x2 := hf5.cell x2
      replace x3 := hf5.cell x3
      obtain ⟨p, hp⟩ := (HV.out w5 HF5.out).vopen
      have c2 : w5.cell? ⟨B, 2, none⟩ = some p.av := hp.cell 2 p.av rfl
      have HRW := Lib.hid hp.row
      have hl0 : 0 < l.length := by
        rcases Nat.eq_zero_or_pos l.length with h | h
        · rw [List.length_eq_zero_iff.1 h] at HD1; exact absurd HD1.out (by simp)
        · exact h
      obtain ⟨g, cap, hv, _, hcell⟩ := sg_at HRW.out rfl hl0
      have HCE := Lib.hid hcell
      rw [hv] at c2
      have HX0 := Lib.hid (show ∀ w', Fr w5 w' → w'.cell? ⟨X, 0, none⟩ = some (.int .i64 c.k) ∧ w'.cell? ⟨X, 1, none⟩ = some (.int .i64 c.n) ∧ w'.cell? ⟨X, 2, none⟩ = some (.int .i64 c.t) ∧ w'.cell? ⟨X, 3, none⟩ = some (.string (S c.s)) from fun w' hf => ⟨hf.cell x0, hf.cell x1, hf.cell x2, hf.cell x3⟩)
      clear hp hv hcell x0 x1 x2 x3 hf5 HF3 HVD HRD
      go_wp2_with fail
      go_loopw [30] (fun i wr => ∃ (j : Nat), j ≤ l.length ∧ i = .int .i64 j ∧ Hid (Fr w5 wr) ∧ Hid (∀ (m : Nat) (h : m < l.length), m < j → contra (clm l[m].2.1) c = false)) (fun i _ => l.length - (intOf i).toNat)
      case atStart => exact ⟨0, Nat.zero_le _, by go_num, Lib.hid (Fr.refl _), Lib.hid (fun m h h' => by omega)⟩
      case round =>
        obtain ⟨j, hj, rfl, HFR, HNO⟩ := hrel
        by_cases hlt : j < l.length
        · have hcj := (HCE.out j hlt).fr HFR.out
          have s0 := hcj.c0
          have s1 := hcj.c1
          have s2 := hcj.c2
          have HLJ := Lib.hid (HLG.out _ (List.getElem_mem hlt))
          have HSO := Lib.hid (fun h => clO_some (c := c) hlt h (fun m h h' => HNO.out m h h'))
          have HNX := Lib.hid (show contra (clm l[j].2.1) c = false → ∀ (m : Nat) (h : m < l.length), m < j + 1 → contra (clm l[m].2.1) c = false from fun hx m h h' => by
            rcases Nat.lt_or_ge m j with h1 | h1
            · exact HNO.out m h h1
            · obtain rfl : m = j := by omega
              exact hx)
          generalize l[j] = z at *
          obtain ⟨zk, zt, zm⟩ := z
          simp only at s0 s1 s2 HLJ HNX HSO
          obtain ⟨y, hy⟩ : ∃ y, y = clm zt := ⟨_, rfl⟩
          rw [← hy] at HLJ HNX HSO
          have hzl : zt.length ≤ 9223372036854775807 := by
            have h1 := (readC_some.1 HLJ.out.1)
            rw [h1.2]; have := textC_len h1.1; omega
          have HRD := Lib.hid (fun w' => read_any zt w' hzl)
          rw [HLJ.out.1] at HRD
          unfold readV at HRD
          have HYV : Hid (y.v = .agg #[.int .i64 y.k, .int .i64 y.n, .int .i64 y.t, .string (S y.s)]) := Lib.hid rfl
          simp only [HYV.out] at HRD
          have HCO := Lib.hid (fun w' => contra_any y c w' (ok_fits (readC_some.1 HLJ.out.1).1) (ok_fits HOK.out))
          simp only [HYV.out, HCV.out] at HCO
          clear hy hcj HNO HLJ hzl
          go_upto_region 6 with fail
          have HFX := Lib.hid (HFR.out.trans (Fr.alloc wr (.cells #[.int .i64 zk, .string (S zt), .int .i64 zm] 41)))
          have a1 : (wr.alloc (.cells #[.int .i64 zk, .string (S zt), .int .i64 zm] 41)).cell? ⟨wr.heap.size, 1, none⟩ = some (.string (S zt)) := cellOf (heap_alloc_new wr _) rfl
          have HA : Hid (∀ w', Fr (wr.alloc (.cells #[.int .i64 zk, .string (S zt), .int .i64 zm] 41)) w' → w'.cell? ⟨wr.heap.size, 0, none⟩ = some (.int .i64 zk) ∧ w'.cell? ⟨wr.heap.size, 1, none⟩ = some (.string (S zt)) ∧ w'.cell? ⟨wr.heap.size, 2, none⟩ = some (.int .i64 zm)) := Lib.hid fun w' hf =>
            ⟨hf.cell (cellOf (heap_alloc_new wr _) rfl), hf.cell (cellOf (heap_alloc_new wr _) rfl), hf.cell (cellOf (heap_alloc_new wr _) rfl)⟩
          obtain ⟨A, hA⟩ : ∃ A, A = wr.heap.size := ⟨_, rfl⟩
          rw [← hA] at a1 HA ⊢
          clear hA s0 s1 s2
          generalize wr.alloc (.cells #[.int .i64 zk, .string (S zt), .int .i64 zm] 41) = wa at *
          go_upto_region 7 with (go_at_call 22; refine (HRD.out _).mono ?_; rintro e wb ⟨rfl, hfb⟩)
          obtain ⟨y0, y1, y2, y3⟩ := CAt.new wb y
          have HFA := Lib.hid (hfb.trans (Fr.alloc wb (.cells #[.int .i64 y.k, .int .i64 y.n, .int .i64 y.t, .string (S y.s)] 60)))
          obtain ⟨Y, hY⟩ : ∃ Y, Y = wb.heap.size := ⟨_, rfl⟩
          rw [← hY] at y0 y1 y2 y3 ⊢
          clear hY hfb a1
          generalize wb.alloc (.cells #[.int .i64 y.k, .int .i64 y.n, .int .i64 y.t, .string (S y.s)] 60) = wc at *
          obtain ⟨x0, x1, x2, x3⟩ := HX0.out wc (HFX.out.trans HFA.out)
          generalize contra y c = bc at *
          cases bc with
          | true =>
            have HSO' := Lib.hid (HSO.out (by first | rfl | trivial))
            clear HSO HNX
            go_upto_region 8 with (go_at_call 29; refine (HCO.out _).mono ?_; rintro e wd ⟨rfl, hfd⟩)
            have HFD := Lib.hid (HFX.out.trans (HFA.out.trans hfd))
            obtain ⟨b0, b1, b2⟩ := HA.out wd (HFA.out.trans hfd)
            have bx := HBX.out _ (HF5.out.trans HFD.out)
            have r0 : wd.cell? ⟨T + 1, 0, none⟩ = some (.int .i64 0) := cellOf bx rfl
            have r1 : wd.cell? ⟨T + 1, 1, none⟩ = some (.string ⟨#[]⟩) := cellOf bx rfl
            have r2 : wd.cell? ⟨T + 1, 2, none⟩ = some (.int .i64 0) := cellOf bx rfl
            have z0 := frozenOf bx 0
            have z1 := frozenOf bx 1
            have z2 := frozenOf bx 2
            obtain ⟨w6, hw6, hf6, d0, d1, d2⟩ := HFIN.out wd (.int .i64 zk) (.string (S zt)) (.int .i64 zm) (HF5.out.trans HFD.out)
            have HW6 := Lib.hid hw6
            clear bx hw6 x0 x1 x2 x3 y0 y1 y2 y3
            go_wp2_with fail
            rw [← HW6.out]
            refine bodyPost_ret (v := clV (some (zk, zt, zm))) (by simp [results, Try.results17, go_sem, d0, d1, d2]; rfl) rfl ⟨by rw [HO.out, HSO'.out], hf6⟩
          | false =>
            have HNX' := Lib.hid (HNX.out (by first | rfl | trivial))
            clear HSO HNX
            go_wp2_with (go_at_call 29; refine (HCO.out _).mono ?_; rintro e wd ⟨rfl, hfd⟩)
            go_roundw
            case rel => exact ⟨j + 1, by omega, by go_num, Lib.hid (HFX.out.trans (HFA.out.trans hfd)), HNX'⟩
            case measure => simp [intOf]; omega
        · have := HCE
          exact (clO_end HD1.out.symm (fun m h => HNO.out m h (by omega))).elim
end
end Go.Proofs.Ytapdabebiinnnaa
