/-
  Contracts: the reference of layer 6: Read, one, Contradict.
-/
import Derived.Test.YtdaiapopncpilaaDoorCs
namespace Go.Proofs.YtdaiapopncpilaaDoor
open Go.RowKit

/-- A block of a claim's cells. -/
def Bx (w : World) (D : Nat) (z0 z1 z2 z3 : Value) : Prop := w.heap[D]? = some (.cells #[z0, z1, z2, z3] 23 (0, 0))
theorem Bx.frb {w w' : World} {D B : Nat} {z0 z1 z2 z3 : Value} (h : Bx w D z0 z1 z2 z3) (hf : FrB B w w') (hne : D ≠ B) : Bx w' D z0 z1 z2 z3 := by
  unfold Bx at *
  rw [hf.block D (Array.getElem?_eq_some_iff.1 h).1 (by simpa using hne)]; exact h
theorem Bx.fr {w w' : World} {D : Nat} {z0 z1 z2 z3 : Value} (h : Bx w D z0 z1 z2 z3) (hf : Fr w w') : Bx w' D z0 z1 z2 z3 := hf.heap h
theorem Bx.c0 {w : World} {D : Nat} {z0 z1 z2 z3 : Value} (h : Bx w D z0 z1 z2 z3) : w.cell? ⟨D, 0, none⟩ = some z0 := by rw [Lib.cell_of_heap h]; rfl
theorem Bx.c1 {w : World} {D : Nat} {z0 z1 z2 z3 : Value} (h : Bx w D z0 z1 z2 z3) : w.cell? ⟨D, 1, none⟩ = some z1 := by rw [Lib.cell_of_heap h]; rfl
theorem Bx.c2 {w : World} {D : Nat} {z0 z1 z2 z3 : Value} (h : Bx w D z0 z1 z2 z3) : w.cell? ⟨D, 2, none⟩ = some z2 := by rw [Lib.cell_of_heap h]; rfl
theorem Bx.c3 {w : World} {D : Nat} {z0 z1 z2 z3 : Value} (h : Bx w D z0 z1 z2 z3) : w.cell? ⟨D, 3, none⟩ = some z3 := by rw [Lib.cell_of_heap h]; rfl
theorem Bx.f {w : World} {D : Nat} {z0 z1 z2 z3 : Value} (h : Bx w D z0 z1 z2 z3) (j : Nat) : w.frozen? ⟨D, j, none⟩ = false := Lib.frozen_of_heap h j
theorem Bx.s1 {w : World} {D : Nat} {z0 z1 z2 z3 : Value} (h : Bx w D z0 z1 z2 z3) (v : Value) : Bx (w.setCell ⟨D, 1, none⟩ v) D z0 v z2 z3 := heap_setCell_same w D 1 _ _ v h
theorem Bx.s2 {w : World} {D : Nat} {z0 z1 z2 z3 : Value} (h : Bx w D z0 z1 z2 z3) (v : Value) : Bx (w.setCell ⟨D, 2, none⟩ v) D z0 z1 v z3 := heap_setCell_same w D 2 _ _ v h
theorem Bx.s3 {w : World} {D : Nat} {z0 z1 z2 z3 : Value} (h : Bx w D z0 z1 z2 z3) (v : Value) : Bx (w.setCell ⟨D, 3, none⟩ v) D z0 z1 z2 v := heap_setCell_same w D 3 _ _ v h

set_option maxHeartbeats 1000000 in
theorem rread_any (s : Txt) (w : World) (hs : s.length ≤ 9223372036854775807) :
    Calls Tryd.prog 10 #[.string (S s)] w fun e w' => e = .returned (readV (readC s)) ∧ Fr w w' := by
  have h1 : (rd1 s).length ≤ s.length := rd_len _ _
  have h2 : (rd2 s).length ≤ (rd1 s).length := rd_len _ _
  have h3 : (rd3 s).length ≤ (rd2 s).length := rd_len _ _
  have HSH := Lib.hid (show rdF (Wm.numE 59) (rd2 s) (rdF (Wm.numE 59) (rd1 s) (rdF (Wm.numE 59) s false)) = true → rd3 s = [] from
    rd_shut _ (rd_shut _ (rd_shut _ (by simp))))
  have HQ := Lib.hid (show readC s = if rdD s && okB (rdC s) then some (rdC s) else none from rfl)
  have HR := Lib.hid (fun w' => rright_any (rdC s) w' (rdC_fits s hs))
  have HV : Hid ((rdC s).v = .agg #[.int .i64 (rdV (Wm.numE 59) 0 s), .int .i64 (rdV (Wm.numE 59) 0 (rd1 s)), .int .i64 (rdV (Wm.numE 59) 0 (rd2 s)), .string (S (rdV Wm.textE [] (rd3 s)))]) := Lib.hid rfl
  obtain ⟨d, hd⟩ : ∃ d, d = rdD s := ⟨_, rfl⟩
  obtain ⟨o, ho⟩ : ∃ o, o = okB (rdC s) := ⟨_, rfl⟩
  obtain ⟨c, hc⟩ : ∃ c, c = rdC s := ⟨_, rfl⟩
  rw [← hd, ← ho, ← hc] at HQ
  rw [← ho, ← hc] at HR
  rw [← hc] at HV
  have HDD := Lib.hid hd
  clear hd ho hc
  go_enter Tryd.func10, Tryd.ntmps10
  go_wp2_with fail
  have hF0 := Fr.alloc w (.cells #[.int .i64 0, .int .i64 0, .int .i64 0, .string ⟨#[]⟩] 23)
  have hR0 : Bx _ _ _ _ _ _ := heap_alloc_new w (.cells #[.int .i64 0, .int .i64 0, .int .i64 0, .string ⟨#[]⟩] 23)
  have hRB : w.heap.size < (w.alloc (.cells #[.int .i64 0, .int .i64 0, .int .i64 0, .string ⟨#[]⟩] 23)).heap.size := by simp
  generalize w.alloc (.cells #[.int .i64 0, .int .i64 0, .int .i64 0, .string ⟨#[]⟩] 23) = w0 at *
  obtain ⟨R, hR⟩ : ∃ R, R = w.heap.size := ⟨_, rfl⟩
  have HRR := Lib.hid hR
  have hRw : w.heap.size ≤ R := by omega
  rw [← hR] at hR0 hRB ⊢
  clear hR
  refine (qopen_any s _).mono ?_
  rintro e w1 ⟨rfl, hrd1, hf1⟩
  have hR1 := hR0.fr hf1
  have hF1 := hF0.trans hf1
  have hBw : w.heap.size ≤ w0.heap.size := by omega
  have hRne : R ≠ w0.heap.size := by omega
  generalize w0.heap.size = B at *
  clear hf1 hF0 hR0 hRB
  go_wp2_with fail
  refine (qNum_det hrd1 (by omega)).mono ?_
  rintro e w2 ⟨rfl, hrd2, hf2⟩
  replace hrd2 : Rd 51 B (rd1 s) (rdF (Wm.numE 59) s false) w2 := hrd2
  have hR2 := hR1.frb hf2 hRne
  have hF2 := hF1.withB hf2 hBw
  have hBD : B < w2.heap.size := hrd2.lt
  have hRD : R < w2.heap.size := (Array.getElem?_eq_some_iff.1 hR2).1
  have hDw : w.heap.size ≤ w2.heap.size := by omega
  have hD : Bx _ _ _ _ _ _ := heap_alloc_new w2 (.cells #[.int .i64 (rdV (Wm.numE 59) 0 s), .int .i64 0, .int .i64 0, .string ⟨#[]⟩] 23)
  have hfa := Fr.alloc w2 (.cells #[.int .i64 (rdV (Wm.numE 59) 0 s), .int .i64 0, .int .i64 0, .string ⟨#[]⟩] 23)
  replace hrd2 := hrd2.fr hfa
  replace hR2 := hR2.fr hfa
  replace hF2 := hF2.trans hfa
  clear hf2 hF1 hR1 hrd1 hfa
  go_wp2_with fail
  generalize w2.alloc (.cells #[.int .i64 (rdV (Wm.numE 59) 0 s), .int .i64 0, .int .i64 0, .string ⟨#[]⟩] 23) = w3 at *
  generalize w2.heap.size = D at *
  refine (qNum_det hrd2 (show (rd1 s).length ≤ _ by omega)).mono ?_
  rintro e w4 ⟨rfl, hrd4, hf4⟩
  replace hrd4 : Rd 51 B (rd2 s) (rdF (Wm.numE 59) (rd1 s) (rdF (Wm.numE 59) s false)) w4 := hrd4
  have hR4 := hR2.frb hf4 hRne
  have hD4 := hD.frb hf4 (by omega)
  have hF4 := hF2.withB hf4 hBw
  clear hf4 hF2 hR2 hrd2 hD
  have g1 := hD4.c1
  have f1 := hD4.f 1
  have hfs := FrB.set D 1 w4 (.int .i64 (rdV (Wm.numE 59) 0 (rd1 s)))
  have hD5 := hD4.s1 (.int .i64 (rdV (Wm.numE 59) 0 (rd1 s)))
  have hrd5 := hrd4.frb hfs (by omega)
  have hR5 := hR4.frb hfs (by omega)
  have hF5 := hF4.withB hfs hDw
  clear hfs hD4 hrd4 hR4 hF4
  go_wp2_with fail
  generalize w4.setCell ⟨D, 1, none⟩ (.int .i64 (rdV (Wm.numE 59) 0 (rd1 s))) = w5 at *
  clear g1 f1
  refine (qNum_det hrd5 (show (rd2 s).length ≤ _ by omega)).mono ?_
  rintro e w6 ⟨rfl, hrd6, hf6⟩
  replace hrd6 : Rd 51 B (rd3 s) (rdF (Wm.numE 59) (rd2 s) (rdF (Wm.numE 59) (rd1 s) (rdF (Wm.numE 59) s false))) w6 := hrd6
  have hR6 := hR5.frb hf6 hRne
  have hD6 := hD5.frb hf6 (by omega)
  have hF6 := hF5.withB hf6 hBw
  clear hf6 hF5 hR5 hrd5 hD5
  have g2 := hD6.c2
  have f2 := hD6.f 2
  have hfs := FrB.set D 2 w6 (.int .i64 (rdV (Wm.numE 59) 0 (rd2 s)))
  have hD7 := hD6.s2 (.int .i64 (rdV (Wm.numE 59) 0 (rd2 s)))
  have hrd7 := hrd6.frb hfs (by omega)
  have hR7 := hR6.frb hfs (by omega)
  have hF7 := hF6.withB hfs hDw
  clear hfs hD6 hrd6 hR6 hF6
  go_wp2_with fail
  generalize w6.setCell ⟨D, 2, none⟩ (.int .i64 (rdV (Wm.numE 59) 0 (rd2 s))) = w7 at *
  clear g2 f2
  refine (qText_det hrd7 (show (rd3 s).length ≤ _ by omega) HSH.out).mono ?_
  rintro e w8 ⟨rfl, hrd8, hf8⟩
  replace hrd8 : Rd 51 B (rd4 s) (rdB s) w8 := hrd8
  have hR8 := hR7.frb hf8 hRne
  have hD8 := hD7.frb hf8 (by omega)
  have hF8 := hF7.withB hf8 hBw
  clear hf8 hF7 hR7 hrd7 hD7
  have g3 := hD8.c3
  have f3 := hD8.f 3
  have hfs := FrB.set D 3 w8 (.string (S (rdV Wm.textE [] (rd3 s))))
  have hD9 := hD8.s3 (.string (S (rdV Wm.textE [] (rd3 s))))
  have hrd9 := hrd8.frb hfs (by omega)
  have hR9 := hR8.frb hfs (by omega)
  have hF9 := hF8.withB hfs hDw
  have HDE : Hid ((!rdB s && decide (rd4 s = [])) = d) := Lib.hid HDD.out.symm
  have HDN := Lib.hid (qdone_any hrd9)
  rw [HDE.out] at HDN
  rw [HV.out] at HR
  have HCV : Hid (∀ r, readV (some r) = .tuple #[r.v, .int .i64 0]) := Lib.hid fun _ => rfl
  clear hfs hD8 hrd8 hR8 hF8 hrd9 HDE HDD HSH h1 h2 h3 hs
  go_wp2_with fail
  generalize rdV Wm.textE [] (rd3 s) = x4 at *
  generalize rdV (Wm.numE 59) 0 (rd2 s) = x3 at *
  generalize rdV (Wm.numE 59) 0 (rd1 s) = x2 at *
  generalize rdV (Wm.numE 59) 0 s = x1 at *
  generalize w8.setCell ⟨D, 3, none⟩ (.string (S x4)) = w9 at *
  clear g3 f3
  have e0 := hD9.c0
  have e1 := hD9.c1
  have e2 := hD9.c2
  have e3 := hD9.c3
  refine HDN.out.mono ?_
  rintro e w10 ⟨rfl, rfl⟩
  cases d with
  | false =>
    have r0 := hR9.c0
    have r1 := hR9.c1
    have r2 := hR9.c2
    have r3 := hR9.c3
    have f0 := hR9.f 0
    have f1 := hR9.f 1
    have f2 := hR9.f 2
    have f3 := hR9.f 3
    have HP := Lib.hid (put4 hR9 hF9 hRw zeroC)
    clear hR9 hF9 hRw hD9
    go_wp2_with fail
    obtain ⟨w9, hw9⟩ : ∃ w9, w9 = (((w10.setCell ⟨R, 0, none⟩ (.int .i64 0)).setCell ⟨R, 1, none⟩ (.int .i64 0)).setCell ⟨R, 2, none⟩ (.int .i64 0)).setCell ⟨R, 3, none⟩ (.string ⟨#[]⟩) := ⟨_, rfl⟩
    have hP : CAt w9 R zeroC ∧ Fr w w9 := by rw [hw9]; exact HP.out
    obtain ⟨⟨g0, g1, g2, g3⟩, hF9⟩ := hP
    rw [← hw9]
    refine bodyPost_ret (v := readV none) (by simp [results, Tryd.results10, go_sem, g0, g1, g2, g3]; rfl) rfl ⟨?_, hF9⟩
    rw [HQ.out]; rfl
  | true =>
    go_wp2_with fail
    refine (HR.out _).mono ?_
    rintro e w8 ⟨rfl, hf8⟩
    have hF8 := hF9.trans hf8
    have hR8 := hR9.fr hf8
    replace e0 := hf8.cell e0
    replace e1 := hf8.cell e1
    replace e2 := hf8.cell e2
    replace e3 := hf8.cell e3
    have r0 := hR8.c0
    have r1 := hR8.c1
    have r2 := hR8.c2
    have r3 := hR8.c3
    have f0 := hR8.f 0
    have f1 := hR8.f 1
    have f2 := hR8.f 2
    have f3 := hR8.f 3
    have HPz := Lib.hid (put4 hR8 hF8 hRw zeroC)
    have HPc := Lib.hid (put4 hR8 hF8 hRw ⟨x1, x2, x3, x4⟩)
    clear hR9 hF9 hRw hf8 hR8 hF8 HR hD9
    cases o with
    | false =>
      go_wp2_with fail
      obtain ⟨w9, hw9⟩ : ∃ w9, w9 = (((w8.setCell ⟨R, 0, none⟩ (.int .i64 0)).setCell ⟨R, 1, none⟩ (.int .i64 0)).setCell ⟨R, 2, none⟩ (.int .i64 0)).setCell ⟨R, 3, none⟩ (.string ⟨#[]⟩) := ⟨_, rfl⟩
      have hP : CAt w9 R zeroC ∧ Fr w w9 := by rw [hw9]; exact HPz.out
      obtain ⟨⟨g0, g1, g2, g3⟩, hF9⟩ := hP
      rw [← hw9]
      refine bodyPost_ret (v := readV none) (by simp [results, Tryd.results10, go_sem, g0, g1, g2, g3]; rfl) rfl ⟨?_, hF9⟩
      rw [HQ.out]; rfl
    | true =>
      go_wp2_with fail
      obtain ⟨w9, hw9⟩ : ∃ w9, w9 = (((w8.setCell ⟨R, 0, none⟩ (.int .i64 x1)).setCell ⟨R, 1, none⟩ (.int .i64 x2)).setCell ⟨R, 2, none⟩ (.int .i64 x3)).setCell ⟨R, 3, none⟩ (.string (S x4)) := ⟨_, rfl⟩
      have hP : CAt w9 R ⟨x1, x2, x3, x4⟩ ∧ Fr w w9 := by rw [hw9]; exact HPc.out
      obtain ⟨⟨g0, g1, g2, g3⟩, hF9⟩ := hP
      rw [← hw9]
      refine bodyPost_ret (v := readV (some c)) (by rw [HCV.out, HV.out]; simp [results, Tryd.results10, go_sem, g0, g1, g2, g3]) rfl ⟨?_, hF9⟩
      rw [HQ.out]; rfl
end Go.Proofs.YtdaiapopncpilaaDoor
