/-
  Contracts: package claim: Read, denies, sizesClash, Contradict.
-/
import Derived.Test.YtapdabebiinnnaaGreatDoorCb
namespace Go.Proofs.YtapdabebiinnnaaGreatDoor
open Go.RowKit

/-- A claim that is stored into a new block. -/
theorem put4 {w w' : World} {R : Nat} {z0 z1 z2 z3 : Value} (h : w'.heap[R]? = some (.cells #[z0, z1, z2, z3] 35 (0, 0))) (hf : Fr w w') (hR : w.heap.size ≤ R) (c : C) :
    CAt ((((w'.setCell ⟨R, 0, none⟩ (.int .i64 c.k)).setCell ⟨R, 1, none⟩ (.int .i64 c.n)).setCell ⟨R, 2, none⟩ (.int .i64 c.t)).setCell ⟨R, 3, none⟩ (.string (S c.s))) R c ∧
    Fr w ((((w'.setCell ⟨R, 0, none⟩ (.int .i64 c.k)).setCell ⟨R, 1, none⟩ (.int .i64 c.n)).setCell ⟨R, 2, none⟩ (.int .i64 c.t)).setCell ⟨R, 3, none⟩ (.string (S c.s))) := by
  refine ⟨?_, (((hf.withB (FrB.set R 0 _ _) hR).withB (FrB.set R 1 _ _) hR).withB (FrB.set R 2 _ _) hR).withB (FrB.set R 3 _ _) hR⟩
  have h0 := heap_setCell_same w' R 0 _ _ (.int .i64 c.k) h
  have h1 := heap_setCell_same _ R 1 _ _ (.int .i64 c.n) h0
  have h2 := heap_setCell_same _ R 2 _ _ (.int .i64 c.t) h1
  have h3 := heap_setCell_same _ R 3 _ _ (.string (S c.s)) h2
  refine ⟨?_, ?_, ?_, ?_⟩ <;> (rw [Lib.cell_of_heap h3]; rfl)
def readV : Option C → Value
  | none => .tuple #[zeroC.v, .int .i64 2]
  | some c => .tuple #[c.v, .int .i64 0]
theorem rdC_fits (s : Txt) (hs : s.length ≤ 9223372036854775807) : (rdC s).fits := by
  have h1 := rd_len (Wm.numE 59) s
  have h2 := rd_len (Wm.numE 59) (rd1 s)
  have h3 := rd_len (Wm.numE 59) (rd2 s)
  have h4 := rd_txt (rd3 s)
  exact ⟨(rd_in s).int, (rd_in (rd1 s)).int, (rd_in (rd2 s)).int, by
    show (rdV Wm.textE [] (rd3 s)).length ≤ _
    unfold rd3 rd2 rd1 at *
    omega⟩
set_option maxHeartbeats 1000000 in
set_option maxRecDepth 100000 in
theorem read_any (s : Txt) (w : World) (hs : s.length ≤ 9223372036854775807) :
    Calls Tryz.prog 42 #[.string (S s)] w fun e w' => e = .returned (readV (readC s)) ∧ Fr w w' := by
  have h1 : (rd1 s).length ≤ s.length := rd_len _ _
  have h2 : (rd2 s).length ≤ (rd1 s).length := rd_len _ _
  have h3 : (rd3 s).length ≤ (rd2 s).length := rd_len _ _
  have HQ := Lib.hid (show readC s = if rdD s && okB (rdC s) then some (rdC s) else none from rfl)
  have HR := Lib.hid (fun w' => right_any (rdC s) w' (rdC_fits s hs))
  have HV : Hid ((rdC s).v = .agg #[.int .i64 (rdV (Wm.numE 59) 0 s), .int .i64 (rdV (Wm.numE 59) 0 (rd1 s)), .int .i64 (rdV (Wm.numE 59) 0 (rd2 s)), .string (S (rdV Wm.textE [] (rd3 s)))]) := Lib.hid rfl
  obtain ⟨d, hd⟩ : ∃ d, d = rdD s := ⟨_, rfl⟩
  obtain ⟨o, ho⟩ : ∃ o, o = okB (rdC s) := ⟨_, rfl⟩
  obtain ⟨c, hc⟩ : ∃ c, c = rdC s := ⟨_, rfl⟩
  rw [← hd, ← ho, ← hc] at HQ
  rw [← ho, ← hc] at HR
  rw [← hc] at HV
  have HDD := Lib.hid hd
  clear hd ho hc
  go_enter Tryz.func42, Tryz.ntmps42
  go_wp2_with fail
  have hF0 := Fr.alloc w (.cells #[.int .i64 0, .int .i64 0, .int .i64 0, .string ⟨#[]⟩] 35)
  have hR0 := heap_alloc_new w (.cells #[.int .i64 0, .int .i64 0, .int .i64 0, .string ⟨#[]⟩] 35)
  have hRB : w.heap.size < (w.alloc (.cells #[.int .i64 0, .int .i64 0, .int .i64 0, .string ⟨#[]⟩] 35)).heap.size := by simp
  generalize w.alloc (.cells #[.int .i64 0, .int .i64 0, .int .i64 0, .string ⟨#[]⟩] 35) = w0 at *
  obtain ⟨R, hR⟩ : ∃ R, R = w.heap.size := ⟨_, rfl⟩
  have HRR := Lib.hid hR
  rw [← hR] at hR0 hRB ⊢
  clear hR
  refine (wopen_any s _).mono ?_
  rintro e w1 ⟨rfl, hrd1, hf1⟩
  have hG1 : FrB w0.heap.size w0 w1 := hf1.frb _
  generalize w0.heap.size = B at *
  clear hf1
  go_wp2_with fail
  refine (rNum_det hrd1 (by omega)).mono ?_
  rintro e w2 ⟨rfl, hrd2, hf2⟩
  have hG2 := hG1.trans hf2
  clear hG1 hf2 hrd1
  replace hrd2 : Rd 125 B (rd1 s) (rdF (Wm.numE 59) s false) w2 := hrd2
  go_wp2_with fail
  refine (rNum_det hrd2 (show (rd1 s).length ≤ _ by omega)).mono ?_
  rintro e w3 ⟨rfl, hrd3, hf3⟩
  have hG3 := hG2.trans hf3
  clear hG2 hf3 hrd2
  replace hrd3 : Rd 125 B (rd2 s) (rdF (Wm.numE 59) (rd1 s) (rdF (Wm.numE 59) s false)) w3 := hrd3
  go_wp2_with fail
  refine (rNum_det hrd3 (show (rd2 s).length ≤ _ by omega)).mono ?_
  rintro e w4 ⟨rfl, hrd4, hf4⟩
  have hG4 := hG3.trans hf4
  clear hG3 hf4 hrd3
  replace hrd4 : Rd 125 B (rd3 s) (rdF (Wm.numE 59) (rd2 s) (rdF (Wm.numE 59) (rd1 s) (rdF (Wm.numE 59) s false))) w4 := hrd4
  go_wp2_with fail
  refine (rText_det hrd4 (show (rd3 s).length ≤ _ by omega)).mono ?_
  rintro e w5 ⟨rfl, hrd5, hf5⟩
  have hG5 := hG4.trans hf5
  clear hG4 hf5 hrd4
  have hrd5 : Rd 125 B (rd4 s) (rdB s) w5 := hrd5
  have HDE : Hid ((!rdB s && decide (rd4 s = [])) = d) := Lib.hid HDD.out.symm
  have hR5 : w5.heap[R]? = some (.cells #[.int .i64 0, .int .i64 0, .int .i64 0, .string ⟨#[]⟩] 35 (0, 0)) := by
    rw [hG5.block R (Array.getElem?_eq_some_iff.1 hR0).1 (by simp; omega)]; exact hR0
  have hF5 : Fr w w5 := hF0.withB hG5 (by rw [← HRR.out]; omega)
  rw [HV.out] at HR
  have HCV : Hid (∀ r, readV (some r) = .tuple #[r.v, .int .i64 0]) := Lib.hid fun _ => rfl
  clear HDD h1 h2 h3 hF0 hR0 hG5
  generalize rdB s = f at *
  generalize rd4 s = q at *
  generalize rdV Wm.textE [] (rd3 s) = x4 at *
  generalize rdV (Wm.numE 59) 0 (rd2 s) = x3 at *
  generalize rdV (Wm.numE 59) 0 (rd1 s) = x2 at *
  generalize rdV (Wm.numE 59) 0 s = x1 at *
  have hA := (CAt.new w5 ⟨x1, x2, x3, x4⟩)
  simp only at hA
  have hrd6 := hrd5.fr (Fr.alloc w5 (.cells #[.int .i64 x1, .int .i64 x2, .int .i64 x3, .string (S x4)] 35))
  have hR6 := (Fr.alloc w5 (.cells #[.int .i64 x1, .int .i64 x2, .int .i64 x3, .string (S x4)] 35)).heap hR5
  have hF6 := hF5.trans (Fr.alloc w5 (.cells #[.int .i64 x1, .int .i64 x2, .int .i64 x3, .string (S x4)] 35))
  have HDN := Lib.hid (done_any hrd6)
  rw [HDE.out] at HDN
  have hRw : w.heap.size ≤ R := by rw [← HRR.out]; omega
  clear hrd5 hrd6 hR5 hF5 hs
  go_wp2_with fail
  generalize w5.alloc (.cells #[.int .i64 x1, .int .i64 x2, .int .i64 x3, .string (S x4)] 35) = w6 at *
  generalize w5.heap.size = A at *
  obtain ⟨e0, e1, e2, e3⟩ := hA
  refine HDN.out.mono ?_
  rintro e w7 ⟨rfl, rfl⟩
  cases d with
  | false =>
    have r0 := Lib.cell_of_heap hR6 (j := 0)
    have r1 := Lib.cell_of_heap hR6 (j := 1)
    have r2 := Lib.cell_of_heap hR6 (j := 2)
    have r3 := Lib.cell_of_heap hR6 (j := 3)
    have f0 : w7.frozen? ⟨R, 0, none⟩ = false := Lib.frozen_of_heap hR6 0
    have f1 : w7.frozen? ⟨R, 1, none⟩ = false := Lib.frozen_of_heap hR6 1
    have f2 : w7.frozen? ⟨R, 2, none⟩ = false := Lib.frozen_of_heap hR6 2
    have f3 : w7.frozen? ⟨R, 3, none⟩ = false := Lib.frozen_of_heap hR6 3
    have HP := Lib.hid (put4 hR6 hF6 hRw zeroC)
    clear hR6 hF6 hRw
    go_wp2_with fail
    obtain ⟨w9, hw9⟩ : ∃ w9, w9 = (((w7.setCell ⟨R, 0, none⟩ (.int .i64 0)).setCell ⟨R, 1, none⟩ (.int .i64 0)).setCell ⟨R, 2, none⟩ (.int .i64 0)).setCell ⟨R, 3, none⟩ (.string ⟨#[]⟩) := ⟨_, rfl⟩
    have hP : CAt w9 R zeroC ∧ Fr w w9 := by rw [hw9]; exact HP.out
    obtain ⟨⟨g0, g1, g2, g3⟩, hF9⟩ := hP
    rw [← hw9]
    refine bodyPost_ret (v := readV none) (by simp [results, Tryz.results42, go_sem, g0, g1, g2, g3]; rfl) rfl ⟨?_, hF9⟩
    rw [HQ.out]; rfl
  | true =>
    go_wp2_with fail
    refine (HR.out _).mono ?_
    rintro e w8 ⟨rfl, hf8⟩
    have hF8 := hF6.trans hf8
    have hR8 := hf8.heap hR6
    replace e0 := hf8.cell e0
    replace e1 := hf8.cell e1
    replace e2 := hf8.cell e2
    replace e3 := hf8.cell e3
    have r0 := Lib.cell_of_heap hR8 (j := 0)
    have r1 := Lib.cell_of_heap hR8 (j := 1)
    have r2 := Lib.cell_of_heap hR8 (j := 2)
    have r3 := Lib.cell_of_heap hR8 (j := 3)
    have f0 : w8.frozen? ⟨R, 0, none⟩ = false := Lib.frozen_of_heap hR8 0
    have f1 : w8.frozen? ⟨R, 1, none⟩ = false := Lib.frozen_of_heap hR8 1
    have f2 : w8.frozen? ⟨R, 2, none⟩ = false := Lib.frozen_of_heap hR8 2
    have f3 : w8.frozen? ⟨R, 3, none⟩ = false := Lib.frozen_of_heap hR8 3
    have HPz := Lib.hid (put4 hR8 hF8 hRw zeroC)
    have HPc := Lib.hid (put4 hR8 hF8 hRw ⟨x1, x2, x3, x4⟩)
    clear hR6 hF6 hRw hf8 hR8 hF8 HR
    cases o with
    | false =>
      go_wp2_with fail
      obtain ⟨w9, hw9⟩ : ∃ w9, w9 = (((w8.setCell ⟨R, 0, none⟩ (.int .i64 0)).setCell ⟨R, 1, none⟩ (.int .i64 0)).setCell ⟨R, 2, none⟩ (.int .i64 0)).setCell ⟨R, 3, none⟩ (.string ⟨#[]⟩) := ⟨_, rfl⟩
      have hP : CAt w9 R zeroC ∧ Fr w w9 := by rw [hw9]; exact HPz.out
      obtain ⟨⟨g0, g1, g2, g3⟩, hF9⟩ := hP
      rw [← hw9]
      refine bodyPost_ret (v := readV none) (by simp [results, Tryz.results42, go_sem, g0, g1, g2, g3]; rfl) rfl ⟨?_, hF9⟩
      rw [HQ.out]; rfl
    | true =>
      go_wp2_with fail
      obtain ⟨w9, hw9⟩ : ∃ w9, w9 = (((w8.setCell ⟨R, 0, none⟩ (.int .i64 x1)).setCell ⟨R, 1, none⟩ (.int .i64 x2)).setCell ⟨R, 2, none⟩ (.int .i64 x3)).setCell ⟨R, 3, none⟩ (.string (S x4)) := ⟨_, rfl⟩
      have hP : CAt w9 R ⟨x1, x2, x3, x4⟩ ∧ Fr w w9 := by rw [hw9]; exact HPc.out
      obtain ⟨⟨g0, g1, g2, g3⟩, hF9⟩ := hP
      rw [← hw9]
      refine bodyPost_ret (v := readV (some c)) (by rw [HCV.out, HV.out]; simp [results, Tryz.results42, go_sem, g0, g1, g2, g3]) rfl ⟨?_, hF9⟩
      rw [HQ.out]; rfl
end Go.Proofs.YtapdabebiinnnaaGreatDoor
