/-
  The reference's disk: add, its walk.
-/
import Derived.Test.YtpjoekjakjajcaaFi
import Derived.Deep.AppendLies
namespace Go.Proofs.Ytpjoekjakjajcaa
open Go.RowKit

theorem setF_len {l : List (Nat × Txt × Txt)} (h : Fine l) {f : Nat} (hf : f < 16) (x : Txt × Txt) : (setF l f x).length ≤ 16 := (h.set hf x).len
set_option maxHeartbeats 8000000 in
set_option maxRecDepth 100000 in
theorem radd_any {w : World} {O : Nat → Prop} {B : Nat} {r : FS} (h : (RfT B r).at_ w O) (f at_ : Nat) (l : Txt) (hf : f < 16) (hF : Fine r.fl) (hq : r.q.length ≤ 100000) (hn : (getF r.fl f).1.length ≤ 16777216) (ha : at_ + l.length ≤ 16777216) :
    Calls Try.prog 55 #[.pointer (some ⟨B, 0, none⟩), .int .i64 f, .int .i64 at_, .string (S l)] w fun e w' => e = .returned (.tuple #[]) ∧ (RfT B (addF r f at_ l)).step O w w' := by
  by_cases hl : l = []
  · have HS := Lib.hid (show (RfT B (addF r f at_ l)).step O w w by unfold addF; rw [if_pos hl]; exact Thing.step_fr h (Fr.refl w))
    subst hl
    clear h
    go_enter Try.func55, Try.ntmps55
    go_wp2
    exact bodyPost_ret (v := .tuple #[]) (by simp [results, Try.results55, go_sem]) rfl ⟨rfl, HS.out⟩
  have HTOT := Lib.hid (addC_tot r f at_ l hl)
  have hlen : 0 < l.length := List.length_pos_iff.2 hl
  have hne : l.isEmpty = false := by cases l with | nil => simp at hlen | cons _ _ => rfl
  have HFL := Lib.hid hF.len
  have HG := Lib.hid (rget_any h f hF.len)
  have HA := Lib.hid h
  have HFI := Lib.hid hF
  have HZ := Lib.hid (addC_zero r f at_ l)
  rw [getI_nat] at HG
  have HL0 := Lib.hid (fun x => setF_len hF hf x)
  have HQ := Lib.hid hq
  clear h hF hl hq
  obtain ⟨x1, x2, hx⟩ : ∃ x1 x2, (x1, x2) = getF r.fl f := ⟨_, _, rfl⟩
  rw [← hx] at HG hn HZ
  dsimp only at hn HZ
  unfold fileV at HG
  have HX := Lib.hid hx
  clear hx
  go_enter Try.func55, Try.ntmps55
  go_wp2_with fail
  refine HG.out.mono ?_
  rintro e w1 ⟨rfl, hf1⟩
  have HA1 := Lib.hid ((RfT B r).fr HA.out hf1)
  have HFR1 := Lib.hid hf1
  clear hf1 HG
  dsimp only
  go_wp2_with fail
  have hT1 := heap_alloc_new w1 (.cells #[.int .i64 f, .string (S x1), .string (S x2)] 64)
  have hFR2 := Fr.alloc w1 (.cells #[.int .i64 f, .string (S x1), .string (S x2)] 64)
  obtain ⟨T, hTd⟩ : ∃ T, T = w1.heap.size := ⟨_, rfl⟩
  rw [← hTd] at hT1 ⊢
  have HTd := Lib.hid hTd
  clear hTd
  generalize (w1.alloc (.cells #[.int .i64 f, .string (S x1), .string (S x2)] 64)) = w2 at *
  refine (rput_any x1 at_ l w2 hn ha).mono ?_
  rintro e w3 ⟨rfl, hf3⟩
  have hT3 := (hf3.block (Array.getElem?_eq_some_iff.1 hT1).1).trans hT1
  have hfz : w3.frozen? ⟨T, 1, none⟩ = false := frozenOf hT3 1
  have hc1 : w3.cell? ⟨T, 1, none⟩ = some (.string (S x1)) := cellOf hT3 rfl
  have hT4 := heapB (i := 1) (v := .string (S (putL x1 at_ l))) hT3
  have hA4 := (RfT B r).fr HA1.out ((hFR2.trans hf3).only (OnlyB.setCell w3 T 1 (.string (S (putL x1 at_ l)))) (by have := HTd.out; omega))
  have hF4 := HFR1.out.trans ((hFR2.trans hf3).only (OnlyB.setCell w3 T 1 (.string (S (putL x1 at_ l)))) (by have := HTd.out; omega))
  have t0 : (w3.setCell ⟨T, 1, none⟩ (.string (S (putL x1 at_ l)))).cell? ⟨T, 0, none⟩ = some (.int .i64 f) := cellOf hT4 rfl
  have t1 : (w3.setCell ⟨T, 1, none⟩ (.string (S (putL x1 at_ l)))).cell? ⟨T, 1, none⟩ = some (.string (S (putL x1 at_ l))) := cellOf hT4 rfl
  have t2 : (w3.setCell ⟨T, 1, none⟩ (.string (S (putL x1 at_ l)))).cell? ⟨T, 2, none⟩ = some (.string (S x2)) := cellOf hT4 rfl
  have HSET := Lib.hid (rset_any hA4 f (putL x1 at_ l, x2) HFL.out)
  have HF4 := Lib.hid hF4
  clear hT4 hA4 hF4 hT1 hFR2 hf3 hT3 HFR1 HA1
  unfold fileV at HSET
  dsimp only at HSET
  go_wp2_with fail
  refine HSET.out.mono ?_
  rintro e w5 ⟨rfl, hs5, _⟩
  have H5 : Hid ((RfT B (addC r f at_ l 0)).step O w w5) := Lib.hid (by rw [HZ.out]; exact Thing.step_left HF4.out hs5)
  clear hs5 HSET HF4 t0 t1 t2 hfz hc1 HTd HL0 HZ HX hn
  have htot : (tot at_ l.length : Nat) + at_ / 64 = (at_ + l.length - 1) / 64 + 1 := by unfold tot; omega
  generalize tot at_ l.length = N at *
  have HNL := Lib.hid htot
  clear htot
  obtain ⟨i0, hi, hz0, hz1, hz2⟩ := info_parts infoSector
  have HIN := Lib.hid hi
  clear hi
  go_wp2_with fail
  go_loopw [9] (fun i wr => ∃ (c : Nat), c ≤ N ∧ i = .int .i64 ((at_ / 64 + c : Nat) : Int) ∧ Hid ((RfT B (addC r f at_ l c)).step O w wr)) (fun i _ => at_ / 64 + N - (intOf i).toNat)
  case atStart => exact ⟨0, Nat.zero_le _, by go_num, H5⟩
  case round =>
    obtain ⟨c, hc, rfl, HS⟩ := hrel
    clear H5
    have hNL := HNL.out
    by_cases hlt : c < N
    · obtain ⟨O', hat, hG, hW⟩ := HS.out
      have hql : (addC r f at_ l c).q.length ≤ 400000 := by
        show (r.q ++ newF' r.q f (at_ / 64) c).length ≤ _
        rw [List.length_append]
        have := newF_len r.q f (at_ / 64) c
        have := HQ.out
        omega
      have HP := Lib.hid (rpend_any hat f (at_ / 64 + c) hf (by omega) (by omega))
      have HYES := Lib.hid (addC_yes r f at_ l c)
      have HNO := Lib.hid (addC_no r f at_ l c)
      have hm : at_ / 64 + c ≤ (at_ + l.length - 1) / 64 := by omega
      have hm2 : at_ / 64 + c ≤ 300000 := by omega
      have HAT := Lib.hid hat
      have HG2 := Lib.hid hG
      have HW2 := Lib.hid hW
      have HQL := Lib.hid hql
      clear hat hG hW hql
      obtain ⟨n, hn⟩ : ∃ n, n = at_ / 64 + c := ⟨_, rfl⟩
      rw [← hn] at HP HYES HNO hm hm2 ⊢
      have HN := Lib.hid hn
      clear hn
      generalize hqm : qMem (addC r f at_ l c) f n = bq at *
      clear hqm
      go_wp2_with fail
      refine HP.out.mono ?_
      rintro e w6 ⟨rfl, rfl⟩
      clear HP
      cases bq with
      | true =>
        have HE := Lib.hid (HYES.out rfl)
        clear HYES HNO
        go_wp2_with fail
        go_roundw
        case rel => exact ⟨c + 1, by omega, by have := HN.out; go_num, by rw [HE.out]; exact HS⟩
        case measure => have := HN.out; simp [intOf]; omega
      | false =>
        have HE := Lib.hid (HNO.out rfl)
        clear HYES HNO
        obtain ⟨fv, qv, kv, hr⟩ := HAT.out
        obtain ⟨a, cc, hqv⟩ := row_at hr.queue
        subst hqv
        obtain ⟨m0, hm0⟩ : ∃ m0, m0 = (addC r f at_ l c).q.length := ⟨_, rfl⟩
        have hm1 : m0 ≤ 400000 := by rw [hm0]; exact HQL.out
        rw [← hm0] at hr
        obtain ⟨_, c1, _, _, _, _⟩ := hr.c
        have HR := Lib.hid hr
        have HM0 := Lib.hid hm0
        clear hr hm0 HAT
        go_wp2_with (at_builtin; refine wpList_pushq rfl _ _ rfl HR.out rfl 1 (f, n) rfl (by rw [← HM0.out]; omega) ?_; rw [← HM0.out]; intro g' cap w7 h7 hs7; have c7 : w7.cell? ⟨B, 1, none⟩ = some (.slice a m0 cc) := cellOf h7 rfl; have z7 : w7.frozen? ⟨B, 1, none⟩ = false := frozenOf h7 1; have HS7 := Lib.hid hs7; clear hs7 h7)
        go_wp2_with fail
        go_roundw
        case rel => exact ⟨c + 1, by omega, by have := HN.out; go_num, by rw [HE.out]; exact Lib.hid (Thing.step_trans HG2.out HW2.out (HN.out ▸ HS7.out))⟩
        case measure => have := HN.out; simp [intOf]; omega
    · obtain rfl : c = N := by omega
      rw [HTOT.out] at HS
      go_wp2_with fail
      go_end0
      exact ⟨rfl, HS.out⟩
end Go.Proofs.Ytpjoekjakjajcaa
