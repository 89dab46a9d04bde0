/-
  The reference's view: Text, Size, Age, Absent, Known, Bytes.
-/
import Derived.Test.YtapdabebiinnnaaGreatDoorCs
import Derived.Test.YtapdabebiinnnaaGreatDoorQrd
import Derived.Test.YtapdabebiinnnaaGreatDoorSg
import Derived.Test.YtapdabebiinnnaaGreatDoorVsx
namespace Go.Proofs.YtapdabebiinnnaaGreatDoor
open Go.RowKit Go.MapKept Go.Maps Go.WideMaps

set_option maxHeartbeats 400000 in
set_option maxRecDepth 100000 in
theorem qNum_any {b : Nat} {r : List UInt8} {f : Bool} {w : World} (h : Rd 118 b r f w) (hr : r.length ≤ 9223372036854775807) :
    Calls Tryz.prog 59 #[.pointer (some ⟨b, 0, none⟩)] w fun e w' => Got 118 b (Wm.numE 59) r f (fun n => .int .i64 n) (.int .i64 0) e w' ∧ FrB b w w' := by
  go_enter Tryz.func59, Tryz.ntmps59
  go_wp2_with fail
  refine (number_any 59 h hr (by decide)).mono ?_
  rintro e w' ⟨hg, hf⟩
  rcases hg with ⟨u, r', hu, he, rfl, hrd⟩ | ⟨hn, rfl, hrd⟩
  · have HE := Lib.hid he
    clear he
    go_wp2_with fail
    go_ret
    exact ⟨.inl ⟨u, r', hu, HE.out, rfl, hrd⟩, hf⟩
  · have HN := Lib.hid hn
    clear hn
    go_wp2_with fail
    go_ret
    exact ⟨.inr ⟨HN.out, rfl, hrd⟩, hf⟩
set_option maxRecDepth 100000 in
theorem qleft_any {b : Nat} {r : List UInt8} {f : Bool} {w : World} (h : Rd 118 b r f w) :
    Calls Tryz.prog 60 #[.pointer (some ⟨b, 0, none⟩)] w fun e w' => e = .returned (.int .i64 r.length) ∧ w' = w := by
  have c0 := h.c0
  go_enter Tryz.func60, Tryz.ntmps60
  go_wp2
  go_ret
  exact ⟨rfl, rfl⟩
set_option maxRecDepth 100000 in
theorem qdone_any {b : Nat} {r : List UInt8} {f : Bool} {w : World} (h : Rd 118 b r f w) :
    Calls Tryz.prog 62 #[.pointer (some ⟨b, 0, none⟩)] w fun e w' => e = .returned (.bool (!f && decide (r = []))) ∧ w' = w := by
  have c0 := h.c0
  have c1 := h.c1
  cases f <;> cases r
  all_goals
    go_enter Tryz.func62, Tryz.ntmps62
    go_wp2
    go_ret
    exact ⟨rfl, rfl⟩
set_option maxRecDepth 100000 in
theorem qNum_det {b : Nat} {r : Txt} {f : Bool} {w : World} (h : Rd 118 b r f w) (hr : r.length ≤ 9223372036854775807) :
    Calls Tryz.prog 59 #[.pointer (some ⟨b, 0, none⟩)] w fun e w' => e = .returned (.int .i64 (rdV (Wm.numE 59) 0 r)) ∧ Rd 118 b (rdR (Wm.numE 59) r) (rdF (Wm.numE 59) r f) w' ∧ FrB b w w' := by
  refine (qNum_any h hr).mono ?_
  rintro e w' ⟨hg, hf⟩
  rcases hg with ⟨v, r', hv, rfl, rfl, hrd⟩ | ⟨hn, rfl, hrd⟩
  · obtain ⟨e1, e2, e3⟩ := rd_good 0 (Wm.numE_pf num59') (r := r') hv f
    rw [e1, e2, e3]; exact ⟨rfl, hrd, hf⟩
  · obtain ⟨e1, e2, e3⟩ := rd_bad (E := Wm.numE 59) 0 hn f
    rw [e1, e2, e3]; exact ⟨rfl, hrd, hf⟩
set_option maxRecDepth 100000 in
theorem qText_det {b : Nat} {r : Txt} {f : Bool} {w : World} (h : Rd 118 b r f w) (hr : r.length ≤ 9223372036854775807) (hfr : f = true → r = []) :
    Calls Tryz.prog 61 #[.pointer (some ⟨b, 0, none⟩)] w fun e w' => e = .returned (.string (S (rdV Wm.textE [] r))) ∧ Rd 118 b (rdR Wm.textE r) (rdF Wm.textE r f) w' ∧ FrB b w w' := by
  refine (qText_any h hr hfr).mono ?_
  rintro e w' ⟨hg, hf⟩
  rcases hg with ⟨v, r', hv, rfl, rfl, hrd⟩ | ⟨hn, rfl, hrd⟩
  · obtain ⟨e1, e2, e3⟩ := rd_good [] Wm.textE_pf (r := r') hv f
    rw [e1, e2, e3]; exact ⟨rfl, hrd, hf⟩
  · obtain ⟨e1, e2, e3⟩ := rd_bad (E := Wm.textE) [] hn f
    rw [e1, e2, e3]; exact ⟨rfl, hrd, hf⟩
theorem rd_shut {α : Type} (E : Wm.Enc α) {r : Txt} {f : Bool} (h : f = true → r = []) : rdF E r f = true → rdR E r = [] := by
  intro hb
  have hl := rd_len E r
  unfold rdF at hb
  unfold rdR at *
  cases hp : Wm.parse E r with
  | none => rfl
  | some p =>
    rw [hp] at hb hl
    have : r = [] := h hb
    rw [this, List.length_nil] at hl
    exact List.length_eq_zero_iff.1 (by omega)

set_option maxHeartbeats 2000000 in
set_option maxRecDepth 100000 in
theorem rvalid_out (O : Nat → Prop) (B : Nat) (q : List Sd) (s : Sg) (w : World) (h : (RefT B q).at_ w O) (hm : s.2.2 < 0 ∨ (q.length : Int) ≤ s.2.2) (hq : q.length ≤ 1000000) :
    Calls Tryz.prog 51 #[.pointer (some ⟨B, 0, none⟩), sgV s] w fun r w' => r = .returned (.bool false) ∧ Fr w w' := by
  obtain ⟨ev, hr⟩ := h
  obtain ⟨a, c, hev⟩ := row_form hr.row
  subst hev
  have c0 := (Fr.alloc w (.cells #[.int .i64 s.1, .string (S s.2.1), .int .i64 s.2.2] 32)).cell (cellOf (v := .slice a q.length c) hr.heap (i := 0) rfl)
  clear hr
  obtain ⟨k, t, m⟩ := s
  unfold sgV
  simp only at hm c0 ⊢
  rcases hm with hm | hm
  · have hm' : decide (0 ≤ m) = false := decide_eq_false (by omega)
    go_enter Tryz.func51, Tryz.ntmps51
    go_wp2_with fail
    go_quiet (fail)
    go_wp2_with fail
    go_ret
    exact ⟨rfl, (Fr.alloc _ _).trans (Fr.drewN _ _)⟩
  · have hm' : 0 ≤ m := by omega
    have hm2 : decide (m < (q.length : Int)) = false := decide_eq_false (by omega)
    go_enter Tryz.func51, Tryz.ntmps51
    go_wp2_with fail
    go_quiet (fail)
    go_wp2_with fail
    go_ret
    exact ⟨rfl, (Fr.alloc _ _).trans (Fr.drewN _ _)⟩
set_option maxHeartbeats 2000000 in
set_option maxRecDepth 100000 in
theorem rvalid_in (O : Nat → Prop) (B : Nat) (q : List Sd) (k : Int) (t : Txt) (m : Nat) (w : World) (h : (RefT B q).at_ w O) (hm : m < q.length) (hq : q.length ≤ 1000000) :
    Calls Tryz.prog 51 #[.pointer (some ⟨B, 0, none⟩), sgV (k, t, m)] w fun r w' => r = .returned (.bool (decide (q[m] = (k, t)))) ∧ Fr w w' := by
  obtain ⟨ev, hr⟩ := h
  obtain ⟨g, cap, hev, hcap, hcell⟩ := row_at hr.row rfl (by omega)
  subst hev
  have hf := Fr.alloc w (.cells #[.int .i64 k, .string (S t), .int .i64 m] 32)
  have c0 := hf.cell (cellOf (v := .slice (some ⟨g, 0, none⟩) q.length cap) hr.heap (i := 0) rfl)
  have c1 := hf.cell (hcell m hm).1
  have c2 := hf.cell (hcell m hm).2
  clear hr hcell
  generalize q[m] = e at *
  obtain ⟨k', t'⟩ := e
  simp only at c1 c2
  have HF := Lib.hid hf
  have hm1 : (m : Int) < (q.length : Int) := by omega
  clear hf
  unfold sgV
  by_cases h1 : k' = k
  · subst h1
    by_cases h2 : t' = t
    · subst h2
      rw [decide_eq_true rfl]
      go_enter Tryz.func51, Tryz.ntmps51
      go_wp2_with fail
      go_quiet (fail)
      go_wp2_with fail
      go_ret
      exact ⟨rfl, HF.out.trans (Fr.drewN _ _)⟩
    · rw [decide_eq_false (fun h => h2 (congrArg Prod.snd h))]
      have hbf : (t' == t) = false := beq_eq_false_iff_ne.2 h2
      go_enter Tryz.func51, Tryz.ntmps51
      go_wp2_with fail
      go_quiet (fail)
      go_wp2_with fail
      go_ret
      exact ⟨rfl, HF.out.trans (Fr.drewN _ _)⟩
  · rw [decide_eq_false (fun h => h1 (congrArg Prod.fst h))]
    go_enter Tryz.func51, Tryz.ntmps51
    go_wp2_with fail
    go_quiet (fail)
    go_wp2_with fail
    go_ret
    exact ⟨rfl, HF.out.trans (Fr.drewN _ _)⟩
set_option maxRecDepth 100000 in
theorem rvalid_any (O : Nat → Prop) (B : Nat) (q : List Sd) (s : Sg) (w : World) (h : (RefT B q).at_ w O) (hq : q.length ≤ 1000000) :
    Calls Tryz.prog 51 #[.pointer (some ⟨B, 0, none⟩), sgV s] w fun r w' => r = .returned (.bool (holds q s)) ∧ Fr w w' := by
  obtain ⟨k, t, m⟩ := s
  by_cases hm : m < 0 ∨ (q.length : Int) ≤ m
  · refine (rvalid_out O B q (k, t, m) w h hm hq).mono ?_
    rintro r w' ⟨rfl, hf⟩
    refine ⟨?_, hf⟩
    have : holds q (k, t, m) = false := by
      unfold holds
      refine decide_eq_false fun hh => ?_
      simp only at hh
      have := (List.getElem?_eq_some_iff.1 hh.2).1
      omega
    rw [this]
  · obtain ⟨n, rfl⟩ : ∃ n : Nat, m = n := ⟨m.toNat, by omega⟩
    have hn : n < q.length := by omega
    refine (rvalid_in O B q k t n w h hn hq).mono ?_
    rintro r w' ⟨rfl, hf⟩
    refine ⟨?_, hf⟩
    have : holds q (k, t, (n : Int)) = decide (q[n] = (k, t)) := by
      unfold holds
      rw [Bool.eq_iff_iff]
      simp only [decide_eq_true_eq, Int.toNat_natCast]
      rw [List.getElem?_eq_getElem hn, Option.some.injEq]
      exact ⟨fun h => h.2, fun h => ⟨by omega, h⟩⟩
    rw [this]
set_option maxRecDepth 100000 in
theorem Has.rvalid {W w : World} {B : Nat} {q : List Sd} {U : Thing} (h : Has W w ((RefT B q).sep U)) (s : Sg) (hq : q.length ≤ 1000000) :
    Calls Tryz.prog 51 #[.pointer (some ⟨B, 0, none⟩), sgV s] w fun r w' => r = .returned (.bool (holds q s)) ∧ Fr w w' := by
  obtain ⟨O, hT, _, _⟩ := h.open
  exact rvalid_any O B q s w hT hq
end Go.Proofs.YtapdabebiinnnaaGreatDoor
namespace Go.Proofs.YtapdabebiinnnaaGreatDoor
open Go.RowKit

/-- A block of a claim's cells. -/
def Bx (w : World) (D : Nat) (z0 z1 z2 z3 : Value) : Prop := w.heap[D]? = some (.cells #[z0, z1, z2, z3] 35 (0, 0))
theorem Bx.frb {w w' : World} {D B : Nat} {z0 z1 z2 z3 : Value} (h : Bx w D z0 z1 z2 z3) (hf : FrB B w w') (hne : D ≠ B) : Bx w' D z0 z1 z2 z3 := by
  unfold Bx at *
  rw [hf.block D (Array.getElem?_eq_some_iff.1 h).1 (by simpa using hne)]; exact h
theorem Bx.fr {w w' : World} {D : Nat} {z0 z1 z2 z3 : Value} (h : Bx w D z0 z1 z2 z3) (hf : Fr w w') : Bx w' D z0 z1 z2 z3 := hf.heap h
theorem Bx.c0 {w : World} {D : Nat} {z0 z1 z2 z3 : Value} (h : Bx w D z0 z1 z2 z3) : w.cell? ⟨D, 0, none⟩ = some z0 := by rw [Lib.cell_of_heap h]; rfl
theorem Bx.c1 {w : World} {D : Nat} {z0 z1 z2 z3 : Value} (h : Bx w D z0 z1 z2 z3) : w.cell? ⟨D, 1, none⟩ = some z1 := by rw [Lib.cell_of_heap h]; rfl
theorem Bx.c2 {w : World} {D : Nat} {z0 z1 z2 z3 : Value} (h : Bx w D z0 z1 z2 z3) : w.cell? ⟨D, 2, none⟩ = some z2 := by rw [Lib.cell_of_heap h]; rfl
theorem Bx.c3 {w : World} {D : Nat} {z0 z1 z2 z3 : Value} (h : Bx w D z0 z1 z2 z3) : w.cell? ⟨D, 3, none⟩ = some z3 := by rw [Lib.cell_of_heap h]; rfl
theorem Bx.f {w : World} {D : Nat} {z0 z1 z2 z3 : Value} (h : Bx w D z0 z1 z2 z3) (j : Nat) : w.frozen? ⟨D, j, none⟩ = false := Lib.frozen_of_heap h j
theorem Bx.s1 {w : World} {D : Nat} {z0 z1 z2 z3 : Value} (h : Bx w D z0 z1 z2 z3) (v : Value) : Bx (w.setCell ⟨D, 1, none⟩ v) D z0 v z2 z3 := heap_setCell_same w D 1 _ _ v h
theorem Bx.s2 {w : World} {D : Nat} {z0 z1 z2 z3 : Value} (h : Bx w D z0 z1 z2 z3) (v : Value) : Bx (w.setCell ⟨D, 2, none⟩ v) D z0 z1 v z3 := heap_setCell_same w D 2 _ _ v h
theorem Bx.s3 {w : World} {D : Nat} {z0 z1 z2 z3 : Value} (h : Bx w D z0 z1 z2 z3) (v : Value) : Bx (w.setCell ⟨D, 3, none⟩ v) D z0 z1 z2 v := heap_setCell_same w D 3 _ _ v h

set_option maxHeartbeats 1000000 in
set_option maxRecDepth 100000 in
theorem rread_any (s : Txt) (w : World) (hs : s.length ≤ 9223372036854775807) :
    Calls Tryz.prog 45 #[.string (S s)] w fun e w' => e = .returned (readV (readC s)) ∧ Fr w w' := by
  have h1 : (rd1 s).length ≤ s.length := rd_len _ _
  have h2 : (rd2 s).length ≤ (rd1 s).length := rd_len _ _
  have h3 : (rd3 s).length ≤ (rd2 s).length := rd_len _ _
  have HSH := Lib.hid (show rdF (Wm.numE 59) (rd2 s) (rdF (Wm.numE 59) (rd1 s) (rdF (Wm.numE 59) s false)) = true → rd3 s = [] from
    rd_shut _ (rd_shut _ (rd_shut _ (by simp))))
  have HQ := Lib.hid (show readC s = if rdD s && okB (rdC s) then some (rdC s) else none from rfl)
  have HR := Lib.hid (fun w' => rright_any (rdC s) w' (rdC_fits s hs))
  have HV : Hid ((rdC s).v = .agg #[.int .i64 (rdV (Wm.numE 59) 0 s), .int .i64 (rdV (Wm.numE 59) 0 (rd1 s)), .int .i64 (rdV (Wm.numE 59) 0 (rd2 s)), .string (S (rdV Wm.textE [] (rd3 s)))]) := Lib.hid rfl
  obtain ⟨d, hd⟩ : ∃ d, d = rdD s := ⟨_, rfl⟩
  obtain ⟨o, ho⟩ : ∃ o, o = okB (rdC s) := ⟨_, rfl⟩
  obtain ⟨c, hc⟩ : ∃ c, c = rdC s := ⟨_, rfl⟩
  rw [← hd, ← ho, ← hc] at HQ
  rw [← ho, ← hc] at HR
  rw [← hc] at HV
  have HDD := Lib.hid hd
  clear hd ho hc
  go_enter Tryz.func45, Tryz.ntmps45
  go_wp2_with fail
  have hF0 := Fr.alloc w (.cells #[.int .i64 0, .int .i64 0, .int .i64 0, .string ⟨#[]⟩] 35)
  have hR0 : Bx _ _ _ _ _ _ := heap_alloc_new w (.cells #[.int .i64 0, .int .i64 0, .int .i64 0, .string ⟨#[]⟩] 35)
  have hRB : w.heap.size < (w.alloc (.cells #[.int .i64 0, .int .i64 0, .int .i64 0, .string ⟨#[]⟩] 35)).heap.size := by simp
  generalize w.alloc (.cells #[.int .i64 0, .int .i64 0, .int .i64 0, .string ⟨#[]⟩] 35) = w0 at *
  obtain ⟨R, hR⟩ : ∃ R, R = w.heap.size := ⟨_, rfl⟩
  have HRR := Lib.hid hR
  have hRw : w.heap.size ≤ R := by omega
  rw [← hR] at hR0 hRB ⊢
  clear hR
  refine (qopen_any s _).mono ?_
  rintro e w1 ⟨rfl, hrd1, hf1⟩
  have hR1 := hR0.fr hf1
  have hF1 := hF0.trans hf1
  have hBw : w.heap.size ≤ w0.heap.size := by omega
  have hRne : R ≠ w0.heap.size := by omega
  generalize w0.heap.size = B at *
  clear hf1 hF0 hR0 hRB
  go_wp2_with fail
  refine (qNum_det hrd1 (by omega)).mono ?_
  rintro e w2 ⟨rfl, hrd2, hf2⟩
  replace hrd2 : Rd 118 B (rd1 s) (rdF (Wm.numE 59) s false) w2 := hrd2
  have hR2 := hR1.frb hf2 hRne
  have hF2 := hF1.withB hf2 hBw
  have hBD : B < w2.heap.size := hrd2.lt
  have hRD : R < w2.heap.size := (Array.getElem?_eq_some_iff.1 hR2).1
  have hDw : w.heap.size ≤ w2.heap.size := by omega
  have hD : Bx _ _ _ _ _ _ := heap_alloc_new w2 (.cells #[.int .i64 (rdV (Wm.numE 59) 0 s), .int .i64 0, .int .i64 0, .string ⟨#[]⟩] 35)
  have hfa := Fr.alloc w2 (.cells #[.int .i64 (rdV (Wm.numE 59) 0 s), .int .i64 0, .int .i64 0, .string ⟨#[]⟩] 35)
  replace hrd2 := hrd2.fr hfa
  replace hR2 := hR2.fr hfa
  replace hF2 := hF2.trans hfa
  clear hf2 hF1 hR1 hrd1 hfa
  go_wp2_with fail
  generalize w2.alloc (.cells #[.int .i64 (rdV (Wm.numE 59) 0 s), .int .i64 0, .int .i64 0, .string ⟨#[]⟩] 35) = w3 at *
  generalize w2.heap.size = D at *
  refine (qNum_det hrd2 (show (rd1 s).length ≤ _ by omega)).mono ?_
  rintro e w4 ⟨rfl, hrd4, hf4⟩
  replace hrd4 : Rd 118 B (rd2 s) (rdF (Wm.numE 59) (rd1 s) (rdF (Wm.numE 59) s false)) w4 := hrd4
  have hR4 := hR2.frb hf4 hRne
  have hD4 := hD.frb hf4 (by omega)
  have hF4 := hF2.withB hf4 hBw
  clear hf4 hF2 hR2 hrd2 hD
  have g1 := hD4.c1
  have f1 := hD4.f 1
  have hfs := FrB.set D 1 w4 (.int .i64 (rdV (Wm.numE 59) 0 (rd1 s)))
  have hD5 := hD4.s1 (.int .i64 (rdV (Wm.numE 59) 0 (rd1 s)))
  have hrd5 := hrd4.frb hfs (by omega)
  have hR5 := hR4.frb hfs (by omega)
  have hF5 := hF4.withB hfs hDw
  clear hfs hD4 hrd4 hR4 hF4
  go_wp2_with fail
  generalize w4.setCell ⟨D, 1, none⟩ (.int .i64 (rdV (Wm.numE 59) 0 (rd1 s))) = w5 at *
  clear g1 f1
  refine (qNum_det hrd5 (show (rd2 s).length ≤ _ by omega)).mono ?_
  rintro e w6 ⟨rfl, hrd6, hf6⟩
  replace hrd6 : Rd 118 B (rd3 s) (rdF (Wm.numE 59) (rd2 s) (rdF (Wm.numE 59) (rd1 s) (rdF (Wm.numE 59) s false))) w6 := hrd6
  have hR6 := hR5.frb hf6 hRne
  have hD6 := hD5.frb hf6 (by omega)
  have hF6 := hF5.withB hf6 hBw
  clear hf6 hF5 hR5 hrd5 hD5
  have g2 := hD6.c2
  have f2 := hD6.f 2
  have hfs := FrB.set D 2 w6 (.int .i64 (rdV (Wm.numE 59) 0 (rd2 s)))
  have hD7 := hD6.s2 (.int .i64 (rdV (Wm.numE 59) 0 (rd2 s)))
  have hrd7 := hrd6.frb hfs (by omega)
  have hR7 := hR6.frb hfs (by omega)
  have hF7 := hF6.withB hfs hDw
  clear hfs hD6 hrd6 hR6 hF6
  go_wp2_with fail
  generalize w6.setCell ⟨D, 2, none⟩ (.int .i64 (rdV (Wm.numE 59) 0 (rd2 s))) = w7 at *
  clear g2 f2
  refine (qText_det hrd7 (show (rd3 s).length ≤ _ by omega) HSH.out).mono ?_
  rintro e w8 ⟨rfl, hrd8, hf8⟩
  replace hrd8 : Rd 118 B (rd4 s) (rdB s) w8 := hrd8
  have hR8 := hR7.frb hf8 hRne
  have hD8 := hD7.frb hf8 (by omega)
  have hF8 := hF7.withB hf8 hBw
  clear hf8 hF7 hR7 hrd7 hD7
  have g3 := hD8.c3
  have f3 := hD8.f 3
  have hfs := FrB.set D 3 w8 (.string (S (rdV Wm.textE [] (rd3 s))))
  have hD9 := hD8.s3 (.string (S (rdV Wm.textE [] (rd3 s))))
  have hrd9 := hrd8.frb hfs (by omega)
  have hR9 := hR8.frb hfs (by omega)
  have hF9 := hF8.withB hfs hDw
  have HDE : Hid ((!rdB s && decide (rd4 s = [])) = d) := Lib.hid HDD.out.symm
  have HDN := Lib.hid (qdone_any hrd9)
  rw [HDE.out] at HDN
  rw [HV.out] at HR
  have HCV : Hid (∀ r, readV (some r) = .tuple #[r.v, .int .i64 0]) := Lib.hid fun _ => rfl
  clear hfs hD8 hrd8 hR8 hF8 hrd9 HDE HDD HSH h1 h2 h3 hs
  go_wp2_with fail
  generalize rdV Wm.textE [] (rd3 s) = x4 at *
  generalize rdV (Wm.numE 59) 0 (rd2 s) = x3 at *
  generalize rdV (Wm.numE 59) 0 (rd1 s) = x2 at *
  generalize rdV (Wm.numE 59) 0 s = x1 at *
  generalize w8.setCell ⟨D, 3, none⟩ (.string (S x4)) = w9 at *
  clear g3 f3
  have e0 := hD9.c0
  have e1 := hD9.c1
  have e2 := hD9.c2
  have e3 := hD9.c3
  refine HDN.out.mono ?_
  rintro e w10 ⟨rfl, rfl⟩
  cases d with
  | false =>
    have r0 := hR9.c0
    have r1 := hR9.c1
    have r2 := hR9.c2
    have r3 := hR9.c3
    have f0 := hR9.f 0
    have f1 := hR9.f 1
    have f2 := hR9.f 2
    have f3 := hR9.f 3
    have HP := Lib.hid (put4 hR9 hF9 hRw zeroC)
    clear hR9 hF9 hRw hD9
    go_wp2_with fail
    obtain ⟨w9, hw9⟩ : ∃ w9, w9 = (((w10.setCell ⟨R, 0, none⟩ (.int .i64 0)).setCell ⟨R, 1, none⟩ (.int .i64 0)).setCell ⟨R, 2, none⟩ (.int .i64 0)).setCell ⟨R, 3, none⟩ (.string ⟨#[]⟩) := ⟨_, rfl⟩
    have hP : CAt w9 R zeroC ∧ Fr w w9 := by rw [hw9]; exact HP.out
    obtain ⟨⟨g0, g1, g2, g3⟩, hF9⟩ := hP
    rw [← hw9]
    refine bodyPost_ret (v := readV none) (by simp [results, Tryz.results45, go_sem, g0, g1, g2, g3]; rfl) rfl ⟨?_, hF9⟩
    rw [HQ.out]; rfl
  | true =>
    go_wp2_with fail
    refine (HR.out _).mono ?_
    rintro e w8 ⟨rfl, hf8⟩
    have hF8 := hF9.trans hf8
    have hR8 := hR9.fr hf8
    replace e0 := hf8.cell e0
    replace e1 := hf8.cell e1
    replace e2 := hf8.cell e2
    replace e3 := hf8.cell e3
    have r0 := hR8.c0
    have r1 := hR8.c1
    have r2 := hR8.c2
    have r3 := hR8.c3
    have f0 := hR8.f 0
    have f1 := hR8.f 1
    have f2 := hR8.f 2
    have f3 := hR8.f 3
    have HPz := Lib.hid (put4 hR8 hF8 hRw zeroC)
    have HPc := Lib.hid (put4 hR8 hF8 hRw ⟨x1, x2, x3, x4⟩)
    clear hR9 hF9 hRw hf8 hR8 hF8 HR hD9
    cases o with
    | false =>
      go_wp2_with fail
      obtain ⟨w9, hw9⟩ : ∃ w9, w9 = (((w8.setCell ⟨R, 0, none⟩ (.int .i64 0)).setCell ⟨R, 1, none⟩ (.int .i64 0)).setCell ⟨R, 2, none⟩ (.int .i64 0)).setCell ⟨R, 3, none⟩ (.string ⟨#[]⟩) := ⟨_, rfl⟩
      have hP : CAt w9 R zeroC ∧ Fr w w9 := by rw [hw9]; exact HPz.out
      obtain ⟨⟨g0, g1, g2, g3⟩, hF9⟩ := hP
      rw [← hw9]
      refine bodyPost_ret (v := readV none) (by simp [results, Tryz.results45, go_sem, g0, g1, g2, g3]; rfl) rfl ⟨?_, hF9⟩
      rw [HQ.out]; rfl
    | true =>
      go_wp2_with fail
      obtain ⟨w9, hw9⟩ : ∃ w9, w9 = (((w8.setCell ⟨R, 0, none⟩ (.int .i64 x1)).setCell ⟨R, 1, none⟩ (.int .i64 x2)).setCell ⟨R, 2, none⟩ (.int .i64 x3)).setCell ⟨R, 3, none⟩ (.string (S x4)) := ⟨_, rfl⟩
      have hP : CAt w9 R ⟨x1, x2, x3, x4⟩ ∧ Fr w w9 := by rw [hw9]; exact HPc.out
      obtain ⟨⟨g0, g1, g2, g3⟩, hF9⟩ := hP
      rw [← hw9]
      refine bodyPost_ret (v := readV (some c)) (by rw [HCV.out, HV.out]; simp [results, Tryz.results45, go_sem, g0, g1, g2, g3]) rfl ⟨?_, hF9⟩
      rw [HQ.out]; rfl
end Go.Proofs.YtapdabebiinnnaaGreatDoor
namespace Go.Proofs.YtapdabebiinnnaaGreatDoor
open Go.RowKit

/-- What one computes. -/
def alike1 (a b : C) : Bool :=
  if a.k = 0 then decide (a.n = b.n ∧ a.s ≠ b.s) else if a.k = 1 then (decide (a.t = b.t ∧ a.n ≠ b.n) || decide (a.t < b.t ∧ b.n < a.n)) else if a.k = 3 then decide (a.s = b.s ∧ a.n ≠ b.n) else if a.k = 4 then decide (a.t = b.t ∧ a.n = b.n ∧ a.s ≠ b.s) else false
noncomputable def oneB (a b : C) : Bool := if a.k = b.k then alike1 a b else den a b
theorem alike_one {a b : C} (h : a.k = b.k) : (alike1 a b || alike1 b a) = alike a b := by
  unfold alike1 alike szs
  rw [← h]
  by_cases h0 : a.k = 0
  · simp only [if_pos h0]
    rw [Bool.eq_iff_iff]; simp only [Bool.or_eq_true, decide_eq_true_eq]
    exact ⟨fun h => by rcases h with h | h; exact h; exact ⟨h.1.symm, fun e => h.2 e.symm⟩, fun h => .inl h⟩
  simp only [if_neg h0]
  by_cases h1 : a.k = 1
  · simp only [if_pos h1]
    rw [Bool.eq_iff_iff]; simp only [Bool.or_eq_true, decide_eq_true_eq]
    omega
  simp only [if_neg h1]
  by_cases h3 : a.k = 3
  · simp only [if_pos h3]
    rw [Bool.eq_iff_iff]; simp only [Bool.or_eq_true, decide_eq_true_eq]
    exact ⟨fun h => by rcases h with h | h; exact h; exact ⟨h.1.symm, fun e => h.2 e.symm⟩, fun h => .inl h⟩
  simp only [if_neg h3]
  by_cases h4 : a.k = 4
  · simp only [if_pos h4]
    rw [Bool.eq_iff_iff]; simp only [Bool.or_eq_true, decide_eq_true_eq]
    exact ⟨fun h => by rcases h with h | h; exact ⟨h.2.1, h.1, h.2.2⟩; exact ⟨h.2.1.symm, h.1.symm, fun e => h.2.2 e.symm⟩, fun h => .inl ⟨h.2.1, h.1, h.2.2⟩⟩
  simp only [if_neg h4]; rfl
theorem contra_one (a b : C) : (okB a && okB b && (oneB a b || oneB b a)) = contra a b := by
  unfold contra oneB
  congr 1
  by_cases h : a.k = b.k
  · rw [if_pos h, if_pos h.symm, if_pos h, alike_one h]
  · rw [if_neg h, if_neg (fun e => h e.symm), if_neg h]

set_option maxHeartbeats 4000000 in
set_option maxRecDepth 100000 in
theorem rone_any (a b : C) (w : World) (hb : b.fits) (h0 : 0 ≤ a.k) (h4 : a.k ≤ 4) :
    Calls Tryz.prog 84 #[a.v, b.v] w fun e w' => e = .returned (.bool (oneB a b)) ∧ Fr w w' := by
  have HX := Lib.hid (show oneB a b = if a.k = b.k then alike1 a b else den a b from rfl)
  have HD := Lib.hid (show den a b = (decide (a.k = 2) && decide (b.k = 0) && decide (b.n < a.n) && decide (key b.s = some a.s)) from rfl)
  have HAL := Lib.hid (show alike1 a b = (if a.k = 0 then decide (a.n = b.n ∧ a.s ≠ b.s) else if a.k = 1 then (decide (a.t = b.t ∧ a.n ≠ b.n) || decide (a.t < b.t ∧ b.n < a.n)) else if a.k = 3 then decide (a.s = b.s ∧ a.n ≠ b.n) else if a.k = 4 then decide (a.t = b.t ∧ a.n = b.n ∧ a.s ≠ b.s) else false) from rfl)
  obtain ⟨w1, hw1, hA, hB, hF⟩ := boxes w a b
  have hF3 := hF
  have hs := hb.2.2.2
  clear hF hb
  generalize oneB a b = x at *
  generalize alike1 a b = l at *
  generalize den a b = d at *
  obtain ⟨k, n, t, s⟩ := a
  obtain ⟨k', n', t', s'⟩ := b
  simp only at HD HAL HX hw1 hs h0 h4
  obtain ⟨a0, a1, a2, a3⟩ := hA
  obtain ⟨b0, b1, b2, b3⟩ := hB
  simp only at a0 a1 a2 a3 b0 b1 b2 b3
  have hs2 : s'.length ≤ 9223372036854775807 := by omega
  unfold C.v
  simp only
  by_cases hd : k = 2 ∧ k' = 0
  · obtain ⟨rfl, rfl⟩ := hd
    obtain ⟨y, hy⟩ : ∃ y, y = key s' := ⟨_, rfl⟩
    have HO : Hid (x = (decide (n' < n) && decide (y = some s))) := Lib.hid (by rw [HX.out, hy, if_neg (by decide), HD.out]; simp)
    have HK := Lib.hid (fun w' => rkey_any s' w' hs2)
    rw [← hy] at HK
    clear hy HX HD HAL
    go_enter Tryz.func84, Tryz.ntmps84
    go_wp2_with fail
    rw [← hw1]
    refine (HK.out _).mono ?_
    unfold keyV
    rintro e w2 ⟨rfl, hf2⟩
    replace a1 := hf2.cell a1
    replace a3 := hf2.cell a3
    replace b1 := hf2.cell b1
    have hF4 := hF3.trans hf2
    cases y with
    | none =>
      have hx : x = false := by rw [HO.out]; simp
      subst hx
      go_wp2_with fail
      go_ret
      exact ⟨rfl, hF4⟩
    | some q =>
      by_cases hn : n' < n
      · have hx : x = (q == s) := by rw [HO.out, beq_dec]; simp [hn]
        subst hx
        go_wp2_with fail
        go_ret
        exact ⟨rfl, hF4⟩
      · have hx : x = false := by rw [HO.out]; simp [hn]
        subst hx
        go_wp2_with fail
        go_ret
        exact ⟨rfl, hF4⟩
  · by_cases hk : k = k'
    · subst hk
      have hx : x = l := by rw [HX.out, if_pos rfl]
      subst hx
      clear HX HD hd
      have hcase : k = 0 ∨ k = 1 ∨ k = 2 ∨ k = 3 ∨ k = 4 := by omega
      clear h0 h4
      rcases hcase with rfl | rfl | rfl | rfl | rfl
      · by_cases hn : n = n'
        · subst hn
          have hl : x = (s != s') := by rw [HAL.out, bne_dec]; simp
          subst hl
          go_enter Tryz.func84, Tryz.ntmps84
          go_wp2_with fail
          go_ret
          exact ⟨rfl, by rw [← hw1]; exact hF3⟩
        · have hl : x = false := by rw [HAL.out]; simp [hn]
          subst hl
          have hn' : (n == n') = false := beq_eq_false_iff_ne.2 hn
          go_enter Tryz.func84, Tryz.ntmps84
          go_wp2_with fail
          go_ret
          exact ⟨rfl, by rw [← hw1]; exact hF3⟩
      · by_cases ht : t = t'
        · subst ht
          by_cases hn : n = n'
          · subst hn
            have hl : x = false := by rw [HAL.out]; simp
            subst hl
            go_enter Tryz.func84, Tryz.ntmps84
            go_wp2_with fail
            go_ret
            exact ⟨rfl, by rw [← hw1]; exact hF3⟩
          · have hl : x = true := by rw [HAL.out]; simp [hn]
            subst hl
            have hn' : (n != n') = true := bne_iff_ne.2 hn
            go_enter Tryz.func84, Tryz.ntmps84
            go_wp2_with fail
            go_ret
            exact ⟨rfl, by rw [← hw1]; exact hF3⟩
        · have ht' : (t == t') = false := beq_eq_false_iff_ne.2 ht
          by_cases hlt : t < t'
          · have hl : x = decide (n' < n) := by rw [HAL.out]; simp [ht, hlt]
            subst hl
            go_enter Tryz.func84, Tryz.ntmps84
            go_wp2_with fail
            go_ret
            exact ⟨rfl, by rw [← hw1]; exact hF3⟩
          · have hl : x = false := by rw [HAL.out]; simp [ht, hlt]
            subst hl
            go_enter Tryz.func84, Tryz.ntmps84
            go_wp2_with fail
            go_ret
            exact ⟨rfl, by rw [← hw1]; exact hF3⟩
      · have hl : x = false := by rw [HAL.out]; simp
        subst hl
        go_enter Tryz.func84, Tryz.ntmps84
        go_wp2_with fail
        go_ret
        exact ⟨rfl, by rw [← hw1]; exact hF3⟩
      · by_cases hss : s = s'
        · subst hss
          have hl : x = (n != n') := by rw [HAL.out, bne_dec]; simp
          subst hl
          go_enter Tryz.func84, Tryz.ntmps84
          go_wp2_with fail
          go_ret
          exact ⟨rfl, by rw [← hw1]; exact hF3⟩
        · have hl : x = false := by rw [HAL.out]; simp [hss]
          subst hl
          have hs' : (s == s') = false := beq_eq_false_iff_ne.2 hss
          go_enter Tryz.func84, Tryz.ntmps84
          go_wp2_with fail
          go_ret
          exact ⟨rfl, by rw [← hw1]; exact hF3⟩
      · by_cases ht : t = t'
        · subst ht
          by_cases hn : n = n'
          · subst hn
            have hl : x = (s != s') := by rw [HAL.out, bne_dec]; simp
            subst hl
            go_enter Tryz.func84, Tryz.ntmps84
            go_wp2_with fail
            go_ret
            exact ⟨rfl, by rw [← hw1]; exact hF3⟩
          · have hl : x = false := by rw [HAL.out]; simp [hn]
            subst hl
            have hn' : (n == n') = false := beq_eq_false_iff_ne.2 hn
            go_enter Tryz.func84, Tryz.ntmps84
            go_wp2_with fail
            go_ret
            exact ⟨rfl, by rw [← hw1]; exact hF3⟩
        · have hl : x = false := by rw [HAL.out]; simp [ht]
          subst hl
          have ht' : (t == t') = false := beq_eq_false_iff_ne.2 ht
          go_enter Tryz.func84, Tryz.ntmps84
          go_wp2_with fail
          go_ret
          exact ⟨rfl, by rw [← hw1]; exact hF3⟩
    · have hk' : (k != k') = true := bne_iff_ne.2 hk
      have hx : x = false := by
        rw [HX.out, if_neg hk, HD.out]
        by_cases h2 : k = 2
        · have : k' ≠ 0 := fun e => hd ⟨h2, e⟩
          simp [this]
        · simp [h2]
      subst hx
      clear HX HD HAL
      by_cases h2 : k = 2
      · subst h2
        have hk0 : (k' == 0) = false := beq_eq_false_iff_ne.2 (fun e => hd ⟨rfl, e⟩)
        clear hd
        go_enter Tryz.func84, Tryz.ntmps84
        go_wp2_with fail
        go_ret
        exact ⟨rfl, by rw [← hw1]; exact hF3⟩
      · have hk2 : (k == 2) = false := beq_eq_false_iff_ne.2 h2
        clear hd
        go_enter Tryz.func84, Tryz.ntmps84
        go_wp2_with fail
        go_ret
        exact ⟨rfl, by rw [← hw1]; exact hF3⟩

set_option maxHeartbeats 4000000 in
set_option maxRecDepth 100000 in
theorem rcontra_any (a b : C) (w : World) (ha : a.fits) (hb : b.fits) :
    Calls Tryz.prog 46 #[a.v, b.v] w fun e w' => e = .returned (.bool (contra a b)) ∧ Fr w w' := by
  have HD := Lib.hid (contra_one a b)
  have HRa := Lib.hid (fun w' => rright_any a w' ha)
  have HRb := Lib.hid (fun w' => rright_any b w' hb)
  have HNa := Lib.hid (fun w' (h : okB a = true) => rone_any a b w' hb (ok_bounds h).1 (ok_bounds h).2.1)
  have HNb := Lib.hid (fun w' (h : okB b = true) => rone_any b a w' ha (ok_bounds h).1 (ok_bounds h).2.1)
  obtain ⟨w1, hw1, hA, hB, hF⟩ := boxes w a b
  have HF := Lib.hid hF
  have HCC : Hid (∀ w', Fr w1 w' → CAt w' w.heap.size a ∧ CAt w' (w.heap.size + 1) b) := Lib.hid fun w' h => ⟨hA.fr h, hB.fr h⟩
  clear hF ha hb hA hB
  generalize contra a b = x at *
  generalize oneB a b = d1 at *
  generalize oneB b a = d2 at *
  generalize okB a = oa at *
  generalize okB b = ob at *
  obtain ⟨k, n, t, s⟩ := a
  obtain ⟨k', n', t', s'⟩ := b
  unfold C.v at HRa HRb HNa HNb
  unfold CAt at HCC
  simp only at HD hw1 HRa HRb HNa HNb HCC
  unfold C.v
  simp only
  obtain ⟨⟨a0, a1, a2, a3⟩, ⟨b0, b1, b2, b3⟩⟩ := HCC.out w1 (Fr.refl _)
  go_enter Tryz.func46, Tryz.ntmps46
  go_wp2_with fail
  rw [← hw1]
  generalize w.heap.size = A at *
  clear hw1
  refine (HRa.out _).mono ?_
  rintro e w2 ⟨rfl, h2⟩
  clear a0 a1 a2 a3 b0 b1 b2 b3
  obtain ⟨⟨a0, a1, a2, a3⟩, ⟨b0, b1, b2, b3⟩⟩ := HCC.out w2 h2
  cases oa with
  | false =>
    have hx : x = false := by rw [← HD.out]; rfl
    subst hx
    go_wp2_with fail
    go_ret
    exact ⟨rfl, HF.out.trans h2⟩
  | true =>
    go_wp2_with fail
    refine (HRb.out _).mono ?_
    rintro e w3 ⟨rfl, h3⟩
    replace h3 := h2.trans h3
    clear a0 a1 a2 a3 b0 b1 b2 b3 h2
    obtain ⟨⟨a0, a1, a2, a3⟩, ⟨b0, b1, b2, b3⟩⟩ := HCC.out w3 h3
    cases ob with
    | false =>
      have hx : x = false := by rw [← HD.out]; rfl
      subst hx
      go_wp2_with fail
      go_ret
      exact ⟨rfl, HF.out.trans h3⟩
    | true =>
      have hx : x = (d1 || d2) := by rw [← HD.out]; simp
      subst hx
      go_wp2_with fail
      refine (HNa.out _ (by first | trivial | rfl)).mono ?_
      rintro e w4 ⟨rfl, h4⟩
      replace h4 := h3.trans h4
      clear a0 a1 a2 a3 b0 b1 b2 b3 h3
      obtain ⟨⟨a0, a1, a2, a3⟩, ⟨b0, b1, b2, b3⟩⟩ := HCC.out w4 h4
      cases d1 with
      | true =>
        go_wp2_with fail
        go_ret
        exact ⟨rfl, HF.out.trans h4⟩
      | false =>
        go_wp2_with fail
        refine (HNb.out _ (by first | trivial | rfl)).mono ?_
        rintro e w5 ⟨rfl, h5⟩
        go_wp2_with fail
        go_ret
        exact ⟨rfl, HF.out.trans (h4.trans h5)⟩
end Go.Proofs.YtapdabebiinnnaaGreatDoor
namespace Go.Proofs.YtapdabebiinnnaaGreatDoor
open Go.RowKit Go.MapKept Go.Maps Go.WideMaps Go.BigFrame

def RVC (Q : Nat) (k : Int) (v : Value) : Array Value := #[.pointer (some ⟨Q, 0, none⟩), .int .i64 k, v]
def RViewT (B Q : Nat) (k : Int) (l : List Sg) : Thing where
  at_ w O := ∃ v, ((BoxT 64 B (RVC Q k v)).sep ((RowT 32 3 v l.length (sgC l)).sep .emp)).at_ w O
  bound h k hk := let ⟨_, h'⟩ := h; Thing.bound _ h' k hk
  frame h hs hw := let ⟨v, h'⟩ := h; ⟨v, Thing.frame _ h' hs hw⟩
section
variable {W w : World} {B Q : Nat} {k : Int} {l : List Sg} {U : Thing}
theorem Has.rvopen (h : Has W w ((RViewT B Q k l).sep U)) : ∃ v, Has W w ((BoxT 64 B (RVC Q k v)).sep ((RowT 32 3 v l.length (sgC l)).sep U)) := by
  obtain ⟨hf, O, ⟨O1, O2, ⟨v, h1⟩, h2, h3, h4⟩, hO⟩ := h
  refine ⟨v, ?_⟩
  have h5 : Has W w (((BoxT 64 B (RVC Q k v)).sep ((RowT 32 3 v l.length (sgC l)).sep .emp)).sep U) := ⟨hf, O, ⟨O1, O2, h1, h2, h3, h4⟩, hO⟩
  exact h5.map fun _ h => sep_under (sep_assoc h) fun _ h => sep_emp h
theorem Has.rvclose {v : Value} (h : Has W w ((BoxT 64 B (RVC Q k v)).sep ((RowT 32 3 v l.length (sgC l)).sep U))) : Has W w ((RViewT B Q k l).sep U) := by
  have h1 : Has W w (((BoxT 64 B (RVC Q k v)).sep ((RowT 32 3 v l.length (sgC l)).sep .emp)).sep U) := h.map fun _ h => sep_assoc' (sep_under h fun _ h => emp_sep h)
  obtain ⟨hf, O, ⟨O1, O2, h2, h3, h4, h5⟩, hO⟩ := h1
  exact ⟨hf, O, ⟨O1, O2, ⟨v, h2⟩, h3, h4, h5⟩, hO⟩
end

/-! ### New -/
set_option maxRecDepth 100000 in
theorem rvnew_no (a : Option Addr) (k : Int) (w : World) (h : ¬ IsKey k) : Calls Tryz.prog 13 #[.pointer a, .int .i64 k] w fun e w' => e = .returned (.pointer none) ∧ Fr w w' := by
  cases a with
  | none =>
    go_enter Tryz.func13, Tryz.ntmps13
    go_wp2_with fail
    go_ret
    exact ⟨rfl, Fr.refl _⟩
  | some ad =>
    rcases notKey h with h | ⟨h0, h⟩
    · go_enter Tryz.func13, Tryz.ntmps13
      go_wp2_with fail
      go_ret
      exact ⟨rfl, Fr.refl _⟩
    · go_enter Tryz.func13, Tryz.ntmps13
      go_wp2_with fail
      go_ret
      exact ⟨rfl, Fr.refl _⟩
set_option maxRecDepth 100000 in
theorem rvnew_yes {W w : World} {U : Thing} (h : Has W w U) (Q : Nat) (k : Int) (hk : IsKey k) : Calls Tryz.prog 13 #[.pointer (some ⟨Q, 0, none⟩), .int .i64 k] w fun e w' => ∃ B, e = .returned (.pointer (some ⟨B, 0, none⟩)) ∧ Has W w' ((RViewT B Q k []).sep U) := by
  have h0 := hk.1
  have h1 := hk.2
  have H := Lib.hid ((h.nilRow 32 3).box 64 (RVC Q k (.slice none 0 0)))
  clear h hk
  go_enter Tryz.func13, Tryz.ntmps13
  go_wp2_with fail
  go_ret
  exact ⟨_, rfl, Has.rvclose (l := []) H.out⟩

/-! ### read -/
theorem LOk.txt {q : List Sd} {k : Int} {l : List Sg} (h : LOk q k l) {s : Sg} (hs : s ∈ l) : s.2.1.length ≤ 20100 := by
  have h1 := readC_some.1 (h.log s hs).1
  rw [h1.2]
  exact textC_len h1.1
theorem clm_get (t : Txt) : (readC t).getD zeroC = clm t := rfl
section
variable {W w : World} {B Q : Nat} {k : Int} {l : List Sg} {U : Thing}
set_option maxHeartbeats 1000000 in
set_option maxRecDepth 100000 in
theorem rvread (h : Has W w ((RViewT B Q k l).sep U)) (i : Nat) (hi : i < l.length) (hs : l[i].2.1.length ≤ 9223372036854775807) :
    Calls Tryz.prog 47 #[.pointer (some ⟨B, 0, none⟩), .int .i64 i] w fun e w' => e = .returned (clm l[i].2.1).v ∧ Fr w w' := by
  obtain ⟨v, hv⟩ := h.rvopen
  obtain ⟨g, cap, rfl, hcap, hcell⟩ := sg_at hv.right.row rfl (by omega)
  have c2 : w.cell? ⟨B, 2, none⟩ = some (.slice (some ⟨g, 0, none⟩) l.length cap) := cellOf hv.boxed rfl
  have t1 := (hcell i hi).c1
  generalize l[i] = s at *
  obtain ⟨sk, st, sm⟩ := s
  simp only at t1 hs ⊢
  have HRD := Lib.hid (fun w' => rread_any st w' hs)
  simp only [readV_eq, clm_get] at HRD
  have HCV : Hid ((clm st).v = .agg #[.int .i64 (clm st).k, .int .i64 (clm st).n, .int .i64 (clm st).t, .string (S (clm st).s)]) := Lib.hid rfl
  generalize rdF' (readC st) = e0 at *
  obtain ⟨n, hn⟩ : ∃ n, n = l.length := ⟨_, rfl⟩
  rw [← hn] at c2 hi hcap
  clear h hv hcell hs hn
  go_enter Tryz.func47, Tryz.ntmps47
  go_upto_region 1 with fail
  have hF0 := Fr.alloc w (.cells #[.int .i64 0, .int .i64 0, .int .i64 0, .string ⟨#[]⟩] 35)
  have hR0 := heap_alloc_new w (.cells #[.int .i64 0, .int .i64 0, .int .i64 0, .string ⟨#[]⟩] 35)
  obtain ⟨R, hR⟩ : ∃ R, R = w.heap.size := ⟨_, rfl⟩
  have HRR := Lib.hid hR
  rw [← hR] at hR0 ⊢
  replace c2 := hF0.cell c2
  replace t1 := hF0.cell t1
  generalize w.alloc (.cells #[.int .i64 0, .int .i64 0, .int .i64 0, .string ⟨#[]⟩] 35) = w0 at *
  clear hR
  go_upto_region 2 with (go_at_call 45; refine (HRD.out _).mono ?_; rintro e w1 ⟨rfl, hf1⟩)
  have hf2 := hf1.trans (Fr.alloc w1 (.cells #[.int .i64 (clm st).k, .int .i64 (clm st).n, .int .i64 (clm st).t, .string (S (clm st).s)] 35))
  obtain ⟨e0, e1, e2, e3⟩ := CAt.new w1 (clm st)
  have hR2 := hf2.heap hR0
  have hF2 := hF0.trans hf2
  obtain ⟨X, hX⟩ : ∃ X, X = w1.heap.size := ⟨_, rfl⟩
  rw [← hX] at e0 e1 e2 e3 ⊢
  clear hX hf2 hf1 hR0 hF0 c2 t1 HRD
  generalize w1.alloc (.cells #[.int .i64 (clm st).k, .int .i64 (clm st).n, .int .i64 (clm st).t, .string (S (clm st).s)] 35) = w2 at *
  have r0 := Lib.cell_of_heap hR2 (j := 0)
  have r1 := Lib.cell_of_heap hR2 (j := 1)
  have r2 := Lib.cell_of_heap hR2 (j := 2)
  have r3 := Lib.cell_of_heap hR2 (j := 3)
  have f0 : w2.frozen? ⟨R, 0, none⟩ = false := Lib.frozen_of_heap hR2 0
  have f1 : w2.frozen? ⟨R, 1, none⟩ = false := Lib.frozen_of_heap hR2 1
  have f2 : w2.frozen? ⟨R, 2, none⟩ = false := Lib.frozen_of_heap hR2 2
  have f3 : w2.frozen? ⟨R, 3, none⟩ = false := Lib.frozen_of_heap hR2 3
  have HP := Lib.hid (put4 hR2 hF2 (by rw [HRR.out]; exact Nat.le_refl _) (clm st))
  clear hR2 hF2
  go_wp2_with fail
  obtain ⟨w9, hw9⟩ : ∃ w9, w9 = (((w2.setCell ⟨R, 0, none⟩ (.int .i64 (clm st).k)).setCell ⟨R, 1, none⟩ (.int .i64 (clm st).n)).setCell ⟨R, 2, none⟩ (.int .i64 (clm st).t)).setCell ⟨R, 3, none⟩ (.string (S (clm st).s)) := ⟨_, rfl⟩
  have hP : CAt w9 R (clm st) ∧ Fr w w9 := by rw [hw9]; exact HP.out
  obtain ⟨⟨g0, g1, g2, g3⟩, hF9⟩ := hP
  rw [← hw9]
  refine bodyPost_ret (v := (clm st).v) (by rw [HCV.out]; simp [results, Tryz.results47, go_sem, g0, g1, g2, g3]) rfl ⟨rfl, hF9⟩

/-! ### had -/
def hadB (l : List Sg) (s : Sg) : Bool := decide (s ∈ l)
theorem hadB_yes {l : List Sg} {s : Sg} (h : s ∈ l) : hadB l s = true := by unfold hadB; exact decide_eq_true h
theorem hadB_no {l : List Sg} {s : Sg} (h : s ∉ l) : hadB l s = false := by unfold hadB; exact decide_eq_false h
set_option maxHeartbeats 1000000 in
set_option maxRecDepth 100000 in
theorem rvhad (h : Has W w ((RViewT B Q k l).sep U)) (hll : l.length ≤ 100000) (s : Sg) :
    Calls Tryz.prog 52 #[.pointer (some ⟨B, 0, none⟩), sgV s] w fun e w' => e = .returned (.bool (hadB l s)) ∧ Fr w w' := by
  have H := Lib.hid (h.box 32 #[.int .i64 s.1, .string (S s.2.1), .int .i64 s.2.2])
  have HF0 := Lib.hid (Fr.alloc w (.cells #[.int .i64 s.1, .string (S s.2.1), .int .i64 s.2.2] 32))
  have hb := H.out.boxed
  obtain ⟨v, hv⟩ := h.rvopen
  have c2 : w.cell? ⟨B, 2, none⟩ = some v := cellOf hv.boxed rfl
  have HGS := Lib.hid (GSl.own hv.right.row rfl)
  obtain ⟨a, c, rfl⟩ := row_form hv.right.row
  obtain ⟨hbl, hhb⟩ : ∃ hbl, hbl = hadB l s := ⟨_, rfl⟩
  have HY := Lib.hid (hadB_yes (l := l) (s := s))
  have HN := Lib.hid (hadB_no (l := l) (s := s))
  rw [← hhb] at HY HN ⊢
  clear h hv hhb
  obtain ⟨sk, st, sm⟩ := s
  unfold sgV
  simp only at hb HF0 ⊢
  go_enter Tryz.func52, Tryz.ntmps52
  go_upto_region 2 with fail
  replace c2 := HF0.out.cell c2
  have x0 := cellOf hb (i := 0) (v := .int .i64 sk) rfl
  have x1 := cellOf hb (i := 1) (v := .string (S st)) rfl
  have x2 := cellOf hb (i := 2) (v := .int .i64 sm) rfl
  obtain ⟨X, hX⟩ : ∃ X, X = w.heap.size := ⟨_, rfl⟩
  rw [← hX] at x0 x1 x2 ⊢
  clear hX hb H
  generalize w.alloc (.cells #[.int .i64 sk, .string (S st), .int .i64 sm] 32) = w1 at *
  go_wp2_with fail
  go_loopw [5] (fun i wr => ∃ j : Nat, j ≤ l.length ∧ i = .int .i64 j ∧ Hid (∀ (m : Nat) (h : m < l.length), m < j → l[m] ≠ (sk, st, sm)) ∧ Hid (Fr w1 wr)) (fun i _ => l.length - (intOf i).toNat)
  case atStart => exact ⟨0, Nat.zero_le _, by go_num, Lib.hid (fun m _ h => absurd h (by omega)), Lib.hid (Fr.refl _)⟩
  case round =>
    obtain ⟨j, hj, rfl, HA, HF⟩ := hrel
    replace c2 := HF.out.cell c2
    replace x0 := HF.out.cell x0
    replace x1 := HF.out.cell x1
    replace x2 := HF.out.cell x2
    by_cases hlt : j < l.length
    · rcases HGS.out with ⟨h0, _⟩ | ⟨b, o, c', hv, hcell⟩
      · rw [h0] at hlt; exact absurd hlt (by simp)
      obtain ⟨rfl, rfl⟩ : a = some ⟨b, o, none⟩ ∧ c = c' := by simpa using hv
      obtain ⟨e0, e1, e2⟩ := (hcell j hlt).fr (HF0.out.trans HF.out)
      have HMJ := Lib.hid (List.getElem_mem hlt)
      have HNX := Lib.hid (show l[j] ≠ (sk, st, sm) → ∀ (m : Nat) (h : m < l.length), m < j + 1 → l[m] ≠ (sk, st, sm) from fun hne m h hm => by
        rcases Nat.lt_or_ge m j with h1 | h1
        · exact HA.out m h h1
        · obtain rfl : m = j := by omega
          exact hne)
      clear hv hcell
      generalize l[j] = y at *
      obtain ⟨yk, yt, ym⟩ := y
      simp only at e0 e1 e2
      go_upto_region 4 with fail
      by_cases h1 : yk = sk
      · by_cases h2 : yt = st
        · by_cases h3 : ym = sm
          · subst h1 h2 h3
            obtain rfl := HY.out HMJ.out
            go_quiet (fail)
            go_wp2_with fail
            go_ret
            exact ⟨rfl, HF0.out.trans (HF.out.trans (Fr.drewN _ _))⟩
          · subst h1 h2
            have h3' : (ym == sm) = false := by simpa using h3
            have HX1 := Lib.hid (HNX.out (fun e => h3 (by injection e with _ e; injection e)))
            clear h3
            go_quiet (fail)
            have HF2 := Lib.hid (HF.out.trans (Fr.drewN wr nq))
            go_wp2_with fail
            go_roundw
            case rel => exact ⟨j + 1, by omega, by go_num, HX1, HF2⟩
            case measure => simp [intOf]; omega
        · subst h1
          have h2' : (yt == st) = false := by simpa using h2
          have HX1 := Lib.hid (HNX.out (fun e => h2 (by injection e with _ e; injection e)))
          clear h2
          go_quiet (fail)
          have HF2 := Lib.hid (HF.out.trans (Fr.drewN wr nq))
          go_wp2_with fail
          go_roundw
          case rel => exact ⟨j + 1, by omega, by go_num, HX1, HF2⟩
          case measure => simp [intOf]; omega
      · have h1' : (yk == sk) = false := by simpa using h1
        have HX1 := Lib.hid (HNX.out (fun e => h1 (by injection e)))
        clear h1
        go_quiet (fail)
        have HF2 := Lib.hid (HF.out.trans (Fr.drewN wr nq))
        go_wp2_with fail
        go_roundw
        case rel => exact ⟨j + 1, by omega, by go_num, HX1, HF2⟩
        case measure => simp [intOf]; omega
    · obtain rfl : j = l.length := by omega
      obtain rfl := HN.out (fun hm => by
        obtain ⟨m, hm1, hm2⟩ := List.getElem_of_mem hm
        exact HA.out m hm1 hm1 hm2)
      go_wp2_with fail
      go_ret
      exact ⟨rfl, HF0.out.trans HF.out⟩
end
end Go.Proofs.YtapdabebiinnnaaGreatDoor
namespace Go.Proofs.YtapdabebiinnnaaGreatDoor
open Go.RowKit Go.MapKept Go.Maps Go.WideMaps Go.BigFrame

/-- A signature that is stored into a new block. -/
theorem put3 {w w' : World} {R : Nat} {z0 z1 z2 : Value} (h : w'.heap[R]? = some (.cells #[z0, z1, z2] 32 (0, 0))) (hf : Fr w w') (hR : w.heap.size ≤ R) (s : Sg) :
    SgAt (((w'.setCell ⟨R, 0, none⟩ (.int .i64 s.1)).setCell ⟨R, 1, none⟩ (.string (S s.2.1))).setCell ⟨R, 2, none⟩ (.int .i64 s.2.2)) R 0 s ∧
    Fr w (((w'.setCell ⟨R, 0, none⟩ (.int .i64 s.1)).setCell ⟨R, 1, none⟩ (.string (S s.2.1))).setCell ⟨R, 2, none⟩ (.int .i64 s.2.2)) := by
  refine ⟨?_, ((hf.withB (FrB.set R 0 _ _) hR).withB (FrB.set R 1 _ _) hR).withB (FrB.set R 2 _ _) hR⟩
  have h0 := heap_setCell_same w' R 0 _ _ (.int .i64 s.1) h
  have h1 := heap_setCell_same _ R 1 _ _ (.string (S s.2.1)) h0
  have h2 := heap_setCell_same _ R 2 _ _ (.int .i64 s.2.2) h1
  refine ⟨?_, ?_, ?_⟩ <;> (rw [Lib.cell_of_heap h2]; rfl)
theorem clR_none' {l : List Sg} {s : Sg} (h : readC s.2.1 = none) : clR l s = none := by unfold clR; rw [h]
theorem clR_some' {l : List Sg} {s : Sg} {c : C} (h : readC s.2.1 = some c) : clR l s = clO l c := by unfold clR; rw [h]
theorem clO_all {l : List Sg} {c : C} (h0 : ∀ (j : Nat) (h : j < l.length), contra (clm l[j].2.1) c = false) : clO l c = none := by
  refine clO_none ?_
  rw [List.any_eq_false]
  intro x hx
  obtain ⟨j, hj, rfl⟩ := List.getElem_of_mem hx
  simpa using h0 j hj
section
variable {W w : World} {B Q : Nat} {k : Int} {l : List Sg} {q : List Sd} {U : Thing}
set_option maxHeartbeats 2000000 in
set_option maxRecDepth 100000 in
theorem rvclash (h : Has W w ((RViewT B Q k l).sep U)) (hl : LOk q k l) (hll : l.length ≤ 100000) (s : Sg) (hs : s.2.1.length ≤ 9223372036854775807) :
    Calls Tryz.prog 15 #[.pointer (some ⟨B, 0, none⟩), sgV s] w fun e w' => e = .returned (clV (clR l s)) ∧ Fr w w' := by
  have HH := Lib.hid h
  have HLO := Lib.hid hl
  obtain ⟨v, hv⟩ := h.rvopen
  have hb2 : w.cell? ⟨B, 2, none⟩ = some v := cellOf hv.boxed rfl
  have HGS := Lib.hid (GSl.own hv.right.row rfl)
  obtain ⟨a, c, rfl⟩ := row_form hv.right.row
  have HC2 : Hid (∀ w', Fr w w' → w'.cell? ⟨B, 2, none⟩ = some (.slice a l.length c)) := Lib.hid fun w' hf => hf.cell hb2
  have HRD := Lib.hid (fun w' => rread_any s.2.1 w' hs)
  have HNO := Lib.hid (fun h => clR_none' (l := l) (s := s) h)
  have HSO := Lib.hid (fun c h => clR_some' (l := l) (s := s) (c := c) h)
  have HOK := Lib.hid (show ∀ c, readC s.2.1 = some c → okB c = true from fun c hc => (readC_some.1 hc).1)
  have HRV := Lib.hid (fun w' (hf : Fr w w') (i : Nat) (hi : i < l.length) => rvread (HH.out.fr hf) i hi (by have := hl.txt (List.getElem_mem hi); omega))
  have HCM := Lib.hid (show ∀ i (hi : i < l.length), okB (clm l[i].2.1) = true from fun i hi => (readC_some.1 (hl.log _ (List.getElem_mem hi)).1).1)
  obtain ⟨x, hx⟩ : ∃ x, x = clR l s := ⟨_, rfl⟩
  rw [← hx] at HNO HSO ⊢
  clear h hl hv hb2 hx hs
  obtain ⟨sk, st, sm⟩ := s
  unfold sgV
  simp only at HRD HNO HSO HOK ⊢
  obtain ⟨o, ho⟩ : ∃ o, o = readC st := ⟨_, rfl⟩
  rw [← ho] at HRD HNO HSO HOK
  clear ho
  simp only [readV_eq] at HRD
  obtain ⟨cz, hcz⟩ : ∃ cz, cz = o.getD zeroC := ⟨_, rfl⟩
  obtain ⟨fe, hfe⟩ : ∃ fe, fe = rdF' o := ⟨_, rfl⟩
  rw [← hcz, ← hfe] at HRD
  have HCZ := Lib.hid hcz
  have HFE := Lib.hid hfe
  clear hcz hfe
  go_enter Tryz.func15, Tryz.ntmps15
  go_upto_region 1 with fail
  have hfA := Fr.alloc w (.cells #[.int .i64 sk, .string (S st), .int .i64 sm] 32)
  have hbA := heap_alloc_new w (.cells #[.int .i64 sk, .string (S st), .int .i64 sm] 32)
  have hsz : (w.alloc (.cells #[.int .i64 sk, .string (S st), .int .i64 sm] 32)).heap.size = w.heap.size + 1 := by simp
  obtain ⟨R, hR⟩ : ∃ R, R = w.heap.size + 1 := ⟨_, rfl⟩
  rw [← hR] at hsz ⊢
  obtain ⟨A, hA⟩ : ∃ A, A = w.heap.size := ⟨_, rfl⟩
  rw [← hA] at hbA ⊢
  generalize w.alloc (.cells #[.int .i64 sk, .string (S st), .int .i64 sm] 32) = w0 at *
  have hfB := Fr.alloc w0 (.cells #[.int .i64 0, .string ⟨#[]⟩, .int .i64 0] 32)
  have hR0 := heap_alloc_new w0 (.cells #[.int .i64 0, .string ⟨#[]⟩, .int .i64 0] 32)
  have hRw : w.heap.size ≤ R := by omega
  rw [hsz] at hR0
  have HRW := Lib.hid hRw
  have hF1 := hfA.trans hfB
  have a1 := cellOf (hfB.heap hbA) (i := 1) (v := .string (S st)) rfl
  clear hA hR hfA hfB hbA hRw hsz
  generalize w0.alloc (.cells #[.int .i64 0, .string ⟨#[]⟩, .int .i64 0] 32) = w1 at *
  go_upto_region 2 with (go_at_call 45; refine (HRD.out _).mono ?_; rintro e w2 ⟨rfl, hf2⟩)
  have hf3 := hf2.trans (Fr.alloc w2 (.cells #[.int .i64 cz.k, .int .i64 cz.n, .int .i64 cz.t, .string (S cz.s)] 35))
  have HCA := Lib.hid (CAt.new w2 cz)
  have HR3 := Lib.hid (hf3.heap hR0)
  have HF3 := Lib.hid (hF1.trans hf3)
  obtain ⟨X, hX⟩ : ∃ X, X = w2.heap.size := ⟨_, rfl⟩
  rw [← hX] at HCA ⊢
  clear hX hf2 hf3 hR0 hF1 a1 HRD
  generalize w2.alloc (.cells #[.int .i64 cz.k, .int .i64 cz.n, .int .i64 cz.t, .string (S cz.s)] 35) = w3 at *
  cases o with
  | none =>
    obtain rfl := HNO.out rfl
    obtain rfl : fe = 2 := HFE.out
    have c2 := HC2.out _ HF3.out
    have r0 := Lib.cell_of_heap HR3.out (j := 0)
    have r1 := Lib.cell_of_heap HR3.out (j := 1)
    have r2 := Lib.cell_of_heap HR3.out (j := 2)
    have f0 : w3.frozen? ⟨R, 0, none⟩ = false := Lib.frozen_of_heap HR3.out 0
    have f1 : w3.frozen? ⟨R, 1, none⟩ = false := Lib.frozen_of_heap HR3.out 1
    have f2 : w3.frozen? ⟨R, 2, none⟩ = false := Lib.frozen_of_heap HR3.out 2
    have HP := Lib.hid (put3 HR3.out HF3.out HRW.out (0, [], 0))
    go_wp2_with fail
    go_loopw [8] (fun i wr => i = .int .i64 0 ∧ wr = w3) (fun _ _ => 0)
    case atStart => exact ⟨rfl, rfl⟩
    case round =>
      obtain ⟨rfl, rfl⟩ := hrel
      by_cases h0 : 0 < l.length
      all_goals
        go_wp2_with fail
        obtain ⟨w9, hw9⟩ : ∃ w9, w9 = ((wr.setCell ⟨R, 0, none⟩ (.int .i64 0)).setCell ⟨R, 1, none⟩ (.string ⟨#[]⟩)).setCell ⟨R, 2, none⟩ (.int .i64 0) := ⟨_, rfl⟩
        have hP : SgAt w9 R 0 (0, [], 0) ∧ Fr w w9 := by rw [hw9]; exact HP.out
        obtain ⟨⟨g0, g1, g2⟩, hF9⟩ := hP
        rw [Nat.zero_add] at g1 g2
        rw [← hw9]
        refine bodyPost_ret (v := clV none) (by unfold clV; simp [results, Tryz.results15, go_sem, g0, g1, g2]; rfl) rfl ⟨rfl, hF9⟩
  | some c1 =>
    obtain rfl : cz = c1 := HCZ.out
    obtain rfl : fe = 0 := HFE.out
    have HO := Lib.hid (HOK.out cz rfl)
    have HXO := Lib.hid (HSO.out cz rfl)
    clear HNO HSO HOK HCZ HFE
    go_wp2_with fail
    go_loopw [8] (fun i wr => ∃ j : Nat, j ≤ l.length ∧ i = .int .i64 j ∧ Hid (∀ (m : Nat) (h : m < l.length), m < j → contra (clm l[m].2.1) cz = false) ∧ Hid (Fr w3 wr)) (fun i _ => l.length - (intOf i).toNat)
    case atStart => exact ⟨0, Nat.zero_le _, by go_num, Lib.hid (fun m _ h => absurd h (by omega)), Lib.hid (Fr.refl _)⟩
    case round =>
      obtain ⟨j, hj, rfl, HA, HF⟩ := hrel
      have c2 := HC2.out _ (HF3.out.trans HF.out)
      by_cases hlt : j < l.length
      · have HRX := Lib.hid (fun w' (hf : Fr wr w') => HRV.out w' (HF3.out.trans (HF.out.trans hf)) j hlt)
        have HMO := Lib.hid (HCM.out j hlt)
        have HNX := Lib.hid (show contra (clm l[j].2.1) cz = false → ∀ (m : Nat) (h : m < l.length), m < j + 1 → contra (clm l[m].2.1) cz = false from fun hne m h hm => by
          rcases Nat.lt_or_ge m j with h1 | h1
          · exact HA.out m h h1
          · obtain rfl : m = j := by omega
            exact hne)
        have HYX := Lib.hid (show contra (clm l[j].2.1) cz = true → x = some l[j] from fun hy => by rw [HXO.out]; exact clO_some hlt hy fun m h hm => HA.out m h hm)
        rcases HGS.out with ⟨h0, _⟩ | ⟨b, ob, c', hv, hcell⟩
        · rw [h0] at hlt; exact absurd hlt (by simp)
        obtain ⟨rfl, rfl⟩ : a = some ⟨b, ob, none⟩ ∧ c = c' := by simpa using hv
        have HCJ := Lib.hid (hcell j hlt)
        clear hv hcell HRV
        generalize l[j] = y at *
        obtain ⟨d, hd⟩ : ∃ d, d = clm y.2.1 := ⟨_, rfl⟩
        rw [← hd] at HRX HMO HNX HYX
        have HCC := Lib.hid (fun w' => rcontra_any d cz w' (ok_fits HMO.out) (ok_fits HO.out))
        unfold C.v at HRX HCC
        obtain ⟨bb, hbb⟩ : ∃ bb, bb = contra d cz := ⟨_, rfl⟩
        rw [← hbb] at HCC HNX HYX
        clear hd hbb
        obtain ⟨x0, x1, x2, x3⟩ := HCA.out.fr HF.out
        go_upto_region 5 with fail
        refine wp_region_cls (D := Cls wr) (by kernel_rfl) (by kernel_rfl) (Fr.drew wr) ?_
        repeat (go_big_quiet_step (first
          | (intro hw'; with_reducible rfl)
          | (intro hw'; go_at_call 47; exact (HRX.out _ hw').mono fun e w'' ⟨he, hf⟩ => ⟨he, hw'.of hf⟩)
          | (intro hw'; go_at_call 46; exact (HCC.out _).mono fun e w'' ⟨he, hf⟩ => ⟨he, hw'.of hf⟩)
          | (intro hw'; have g0 := Fr.cell hw' x0; have g1 := Fr.cell hw' x1; have g2 := Fr.cell hw' x2; have g3 := Fr.cell hw' x3; simp only [g0, g1, g2, g3, Result.andThen]; exact ⟨trivial, rfl⟩)))
        refine wpQuiet_nil ?_
        intro w4 hw4
        have HF4 := Lib.hid (HF.out.trans hw4)
        clear hw4 HF x0 x1 x2 x3 c2
        cases bb with
        | false =>
          have HX1 := Lib.hid (HNX.out rfl)
          clear HNX HYX HRX HCC HCJ
          go_wp2_with fail
          go_roundw
          case rel => exact ⟨j + 1, by omega, by go_num, HX1, HF4⟩
          case measure => simp [intOf]; omega
        | true =>
          obtain rfl := HYX.out rfl
          have hF := HF3.out.trans HF4.out
          have c2 := HC2.out _ hF
          obtain ⟨e0, e1, e2⟩ := HCJ.out.fr hF
          have hR4 := HF4.out.heap HR3.out
          have r0 := Lib.cell_of_heap hR4 (j := 0)
          have r1 := Lib.cell_of_heap hR4 (j := 1)
          have r2 := Lib.cell_of_heap hR4 (j := 2)
          have f0 : w4.frozen? ⟨R, 0, none⟩ = false := Lib.frozen_of_heap hR4 0
          have f1 : w4.frozen? ⟨R, 1, none⟩ = false := Lib.frozen_of_heap hR4 1
          have f2 : w4.frozen? ⟨R, 2, none⟩ = false := Lib.frozen_of_heap hR4 2
          have HP := Lib.hid (put3 hR4 hF HRW.out y)
          obtain ⟨yk, yt, ym⟩ := y
          simp only at e0 e1 e2 HP
          clear hF hR4
          go_wp2_with fail
          obtain ⟨w9, hw9⟩ : ∃ w9, w9 = ((w4.setCell ⟨R, 0, none⟩ (.int .i64 yk)).setCell ⟨R, 1, none⟩ (.string (S yt))).setCell ⟨R, 2, none⟩ (.int .i64 ym) := ⟨_, rfl⟩
          have hP : SgAt w9 R 0 (yk, yt, ym) ∧ Fr w w9 := by rw [hw9]; exact HP.out
          obtain ⟨⟨g0, g1, g2⟩, hF9⟩ := hP
          rw [Nat.zero_add] at g1 g2
          simp only at g0 g1 g2
          rw [← hw9]
          refine bodyPost_ret (v := clV (some (yk, yt, ym))) (by unfold clV sgV; simp [results, Tryz.results15, go_sem, g0, g1, g2]) rfl ⟨rfl, hF9⟩
      · obtain rfl : j = l.length := by omega
        obtain rfl : x = none := by rw [HXO.out]; exact clO_all fun m h => HA.out m h h
        have hF := HF3.out.trans HF.out
        have hR4 := HF.out.heap HR3.out
        have r0 := Lib.cell_of_heap hR4 (j := 0)
        have r1 := Lib.cell_of_heap hR4 (j := 1)
        have r2 := Lib.cell_of_heap hR4 (j := 2)
        have f0 : wr.frozen? ⟨R, 0, none⟩ = false := Lib.frozen_of_heap hR4 0
        have f1 : wr.frozen? ⟨R, 1, none⟩ = false := Lib.frozen_of_heap hR4 1
        have f2 : wr.frozen? ⟨R, 2, none⟩ = false := Lib.frozen_of_heap hR4 2
        have HP := Lib.hid (put3 hR4 hF HRW.out (0, [], 0))
        clear hF hR4 HRV
        go_wp2_with fail
        obtain ⟨w9, hw9⟩ : ∃ w9, w9 = ((wr.setCell ⟨R, 0, none⟩ (.int .i64 0)).setCell ⟨R, 1, none⟩ (.string ⟨#[]⟩)).setCell ⟨R, 2, none⟩ (.int .i64 0) := ⟨_, rfl⟩
        have hP : SgAt w9 R 0 (0, [], 0) ∧ Fr w w9 := by rw [hw9]; exact HP.out
        obtain ⟨⟨g0, g1, g2⟩, hF9⟩ := hP
        rw [Nat.zero_add] at g1 g2
        rw [← hw9]
        refine bodyPost_ret (v := clV none) (by unfold clV; simp [results, Tryz.results15, go_sem, g0, g1, g2]; rfl) rfl ⟨rfl, hF9⟩
/-! ### Accept -/
theorem RV.done {v v' : Value} {l' : List Sg} (h : Has W w ((RowT 32 3 v' l'.length (sgC l')).sep ((BoxT 64 B (RVC Q k v)).sep U))) :
    w.heap[B]? = some (.cells (RVC Q k v) 64 (0, 0)) ∧ Has W (w.setCell ⟨B, 2, none⟩ v') ((RViewT B Q k l').sep U) := by
  have h1 := h.turn
  exact ⟨h1.boxed, Has.rvclose (h1.set 2 v')⟩
set_option maxHeartbeats 4000000 in
set_option maxRecDepth 100000 in
theorem rvacc (h : Has W w ((RViewT B Q k l).sep ((RefT Q q).sep U))) (hl : LOk q k l) (hn : q.Nodup) (hq : q.length ≤ 1000000) (hll : l.length ≤ 100000) (s : Sg) (hs : GOk s) :
    Calls Tryz.prog 17 #[.pointer (some ⟨B, 0, none⟩), sgV s] w fun e w' => e = .returned (.int .i64 (aE q k l s)) ∧ Has W w' ((RViewT B Q k (acl q k l s)).sep ((RefT Q q).sep U)) := by
  have HLO := Lib.hid hl
  have HLL := Lib.hid hll
  have H18 := Lib.hid (fun h => acc_seal (k := k) (d := vd l) (s := s) (q := q) l h)
  have H22 := Lib.hid (fun h hk => acc_key (k := k) (d := vd l) (s := s) (q := q) l h hk)
  have H2n := Lib.hid (fun h hk hr => acc_none (k := k) (d := vd l) (s := s) (q := q) l h hk hr)
  have H2k := Lib.hid (fun h hk c hr hc => acc_kind (k := k) (d := vd l) (s := s) (q := q) l h hk (c := c) hr hc)
  have HMY := Lib.hid (mn_yes (s := s) hl hn)
  have HMN := Lib.hid (show ∀ c, holds q s = true → s.1 = k → readC s.2.1 = some c → c.k ≤ 2 → mnB q k s = true from fun c h1 h2 h3 h4 => by unfold mnB; rw [h1, h3, decide_eq_true h2]; simpa using h4)
  have HG := Lib.hid (fun h => (aE_zero hl hn s).1 h)
  have HOLD := Lib.hid (fun h => acl_old hl hn (s := s) (fun _ => h))
  have HNEW := Lib.hid (fun hg hni => acl_new hl hn (s := s) hg hni)
  obtain ⟨E, hE⟩ : ∃ E, E = aE q k l s := ⟨_, rfl⟩
  obtain ⟨L', hL'⟩ : ∃ L', L' = acl q k l s := ⟨_, rfl⟩
  change Hid (_ → aE q k l s = _ ∧ acl q k l s = _ ∧ _) at H18
  change Hid (_ → _ → aE q k l s = _ ∧ acl q k l s = _ ∧ _) at H22
  change Hid (_ → _ → _ → aE q k l s = _ ∧ acl q k l s = _ ∧ _) at H2n
  change Hid (_ → _ → ∀ c, _ → _ → aE q k l s = _ ∧ acl q k l s = _ ∧ _) at H2k
  rw [← hE] at H18 H22 H2n H2k HMY HG ⊢
  rw [← hL'] at H18 H22 H2n H2k HMY HOLD HNEW ⊢
  clear hE hL'
  have h1 : Has W (w.alloc (.cells #[.int .i64 s.1, .string (S s.2.1), .int .i64 s.2.2] 32)) ((RViewT B Q k l).sep ((SB w.heap.size s).sep ((RefT Q q).sep U))) := (h.box 32 #[.int .i64 s.1, .string (S s.2.1), .int .i64 s.2.2]).turn
  obtain ⟨s0, s1, s2⟩ := SB.at h1.right
  rw [Nat.zero_add] at s1 s2
  have H1 := Lib.hid h1
  obtain ⟨v0, hv0⟩ := h1.rvopen
  have c0 := cellOf hv0.boxed (i := 0) (v := .pointer (some ⟨Q, 0, none⟩)) rfl
  have c1 := cellOf hv0.boxed (i := 1) (v := .int .i64 k) rfl
  have HVA := Lib.hid (fun w' (hf : Fr (w.alloc (.cells #[.int .i64 s.1, .string (S s.2.1), .int .i64 s.2.2] 32)) w') => Has.rvalid ((h1.right.right).fr hf) s hq)
  have HRD := Lib.hid (fun w' => rread_any s.2.1 w' hs.2.1)
  have HCLS := Lib.hid (fun w' (V : Thing) (h : Has W w' ((RViewT B Q k l).sep V)) => rvclash h HLO.out HLL.out s hs.2.1)
  have HHAD := Lib.hid (fun w' (V : Thing) (h : Has W w' ((RViewT B Q k l).sep V)) => rvhad h HLL.out s)
  have HOK := Lib.hid (show ∀ c, readC s.2.1 = some c → okB c = true from fun c hc => (readC_some.1 hc).1)
  unfold sgV at HVA HCLS HHAD ⊢
  obtain ⟨hb, hhb⟩ : ∃ hb, hb = holds q s := ⟨_, rfl⟩
  obtain ⟨cr, hcr⟩ : ∃ cr, cr = clR l s := ⟨_, rfl⟩
  obtain ⟨hd, hhd⟩ : ∃ hd, hd = hadB l s := ⟨_, rfl⟩
  have HHY := Lib.hid (show hd = true → s ∈ l from fun h => by rw [hhd] at h; unfold hadB at h; exact of_decide_eq_true h)
  have HHN := Lib.hid (show hd = false → s ∉ l from fun h => by rw [hhd] at h; unfold hadB at h; exact of_decide_eq_false h)
  rw [← hhb] at H18 H22 H2n H2k HVA HMN
  rw [← hcr] at HMY HCLS
  rw [← hhd] at HHAD
  obtain ⟨sk, st, sm⟩ := s
  simp only at *
  obtain ⟨o, ho⟩ : ∃ o, o = readC st := ⟨_, rfl⟩
  rw [← ho] at H2n H2k HMN HRD HOK
  clear h h1 hv0 hl hn hq hll hs ho hhb hcr hhd
  go_enter Tryz.func17, Tryz.ntmps17
  go_upto_region 1 with fail
  obtain ⟨T, hT⟩ : ∃ T, T = w.heap.size := ⟨_, rfl⟩
  rw [← hT] at s0 s1 s2 H1 ⊢
  clear hT
  generalize w.alloc (.cells #[.int .i64 sk, .string (S st), .int .i64 sm] 32) = w1 at *
  refine wp_region_cls (D := Cls w1) (by kernel_rfl) (by kernel_rfl) (Fr.drew w1) ?_
  repeat (go_big_quiet_step (first
    | (intro hw'; with_reducible rfl)
    | (intro hw'; go_at_call 51; exact (HVA.out _ hw').mono fun e w'' ⟨he, hf⟩ => ⟨he, hw'.of hf⟩)
    | (intro hw'; have g1 := Fr.cell hw' c0; simp only [g1]; exact ⟨rfl, rfl⟩)
    | (intro hw'; have g0 := Fr.cell hw' s0; have g1 := Fr.cell hw' s1; have g2 := Fr.cell hw' s2; simp only [g0, g1, g2, Result.andThen]; exact ⟨trivial, rfl⟩)))
  refine wpQuiet_nil ?_
  intro w2 hw2
  have hg2 : Fr w1 w2 := hw2
  have H2 := Lib.hid (H1.out.fr hg2)
  replace c1 := hg2.cell c1
  replace s0 := hg2.cell s0
  replace s1 := hg2.cell s1
  replace s2 := hg2.cell s2
  have HFIN : Hid (∀ w', Fr w2 w' → Has W w' ((RViewT B Q k l).sep ((RefT Q q).sep U))) := Lib.hid fun w' hf => (H2.out.fr hf).turn.right
  clear hg2 hw2 H1 HVA c0
  clear w1
  cases hb with
  | false =>
    obtain ⟨rfl, rfl, _⟩ := H18.out (by first | rfl | trivial)
    go_wp2_with fail
    go_ret
    exact ⟨rfl, HFIN.out _ (Fr.refl _)⟩
  | true =>
  clear H18
  by_cases hk : sk = k
  · subst hk
    clear H22
    go_upto_region 3 with fail
    go_quiet (fail)
    have HF3 := Lib.hid (Fr.drewN w2 nq)
    replace s0 := (Fr.drewN _ nq).cell s0
    replace s1 := (Fr.drewN _ nq).cell s1
    replace s2 := (Fr.drewN _ nq).cell s2
    clear c1
    generalize w2.drewN nq = w3 at *
    cases o with
    | none =>
      obtain ⟨rfl, rfl, _⟩ := H2n.out (by first | rfl | trivial) (by first | rfl | trivial) (by first | rfl | trivial)
      simp only [readV_eq] at HRD
      have HE2 : Hid (rdF' (none : Option C) = 2) := Lib.hid rfl
      rw [HE2.out] at HRD
      go_wp2_with (go_at_call 45; refine (HRD.out _).mono ?_; rintro e w4 ⟨rfl, hf4⟩)
      go_ret
      exact ⟨rfl, HFIN.out _ (HF3.out.trans (hf4.trans (Fr.alloc _ _)))⟩
    | some c =>
    simp only [readV_eq, Option.getD_some, rdF'_some] at HRD
    clear H2n
    have hok := HOK.out c rfl
    have HB := Lib.hid (ok_bounds hok)
    go_upto_region 6 with (go_at_call 45; refine (HRD.out _).mono ?_; rintro e w4 ⟨rfl, hf4⟩)
    have hfX := hf4.trans (Fr.alloc w4 (.cells #[.int .i64 c.k, .int .i64 c.n, .int .i64 c.t, .string (S c.s)] 35))
    obtain ⟨x0, x1, x2, x3⟩ := CAt.new w4 c
    have HF5 := Lib.hid (HF3.out.trans hfX)
    replace s0 := hfX.cell s0
    replace s1 := hfX.cell s1
    replace s2 := hfX.cell s2
    obtain ⟨X, hX⟩ : ∃ X, X = w4.heap.size := ⟨_, rfl⟩
    rw [← hX] at x0 x1 x2 x3 ⊢
    clear hX hfX hf4 HF3 HRD hok
    generalize w4.alloc (.cells #[.int .i64 c.k, .int .i64 c.n, .int .i64 c.t, .string (S c.s)] 35) = w5 at *
    by_cases hkd : c.k ≤ 2
    · have h3 : (c.k == 3) = false := by simp; omega
      have h4 : (c.k == 4) = false := by simp; omega
      have HY := Lib.hid (HMY.out (HMN.out c (by first | rfl | trivial) (by first | rfl | trivial) (by first | rfl | trivial) hkd))
      clear H2k HMY HMN hkd x1 x2 x3
      go_upto_region 8 with fail
      have H5 := Lib.hid (H2.out.fr HF5.out)
      clear x0 h3 h4
      have HCV := Lib.hid (HCLS.out _ _ H5.out)
      simp only [clV_eq] at HCV
      obtain ⟨xz, hxz⟩ : ∃ xz, xz = cr.getD (0, [], 0) := ⟨_, rfl⟩
      obtain ⟨xb, hxb⟩ : ∃ xb, xb = cr.isSome := ⟨_, rfl⟩
      rw [← hxz, ← hxb] at HCV
      have HXB := Lib.hid hxb
      clear hxz hxb HCLS
      go_upto_region 9 with (go_at_call 15; refine HCV.out.mono ?_; rintro e w6 ⟨rfl, hf6⟩)
      have hfX := hf6.trans (Fr.alloc w6 (.cells #[.int .i64 xz.1, .string (S xz.2.1), .int .i64 xz.2.2] 32))
      have HF7 := Lib.hid (HF5.out.trans hfX)
      have H7 := Lib.hid (H5.out.fr hfX)
      replace s0 := hfX.cell s0
      replace s1 := hfX.cell s1
      replace s2 := hfX.cell s2
      clear hfX hf6 HF5 H5 HCV
      generalize w6.alloc (.cells #[.int .i64 xz.1, .string (S xz.2.1), .int .i64 xz.2.2] 32) = w7 at *
      rcases HY.out with ⟨he, hx⟩ | ⟨he, hla, y, hx⟩
      · obtain rfl := he
        obtain rfl : xb = false := by rw [HXB.out, hx]; rfl
        have HHD := Lib.hid (HHAD.out _ _ H7.out)
        clear hx HHAD HXB HY
        cases hd with
        | true =>
          obtain rfl := HOLD.out (HHY.out (by first | rfl | trivial))
          go_wp2_with (go_at_call 52; refine HHD.out.mono ?_; rintro e w8 ⟨rfl, hf8⟩)
          go_ret
          exact ⟨rfl, HFIN.out _ (HF7.out.trans hf8)⟩
        | false =>
          obtain rfl := HNEW.out (HG.out (by first | rfl | trivial)) (HHN.out (by first | rfl | trivial))
          clear HOLD HNEW HG HHY HHN HFIN
          go_upto_region 12 with (go_at_call 52; refine HHD.out.mono ?_; rintro e w8 ⟨rfl, hf8⟩)
          have H8 := Lib.hid (H7.out.fr hf8)
          clear H7 HF7 HHD hf8 s0 s1 s2
          obtain ⟨i0, hi, hz0, hz1, hz2⟩ := info_parts infoSg
          have HIN := Lib.hid hi
          obtain ⟨v, hv⟩ := H8.out.rvopen
          have HV := Lib.hid hv
          have hfX : Fr w8 (w8.alloc (.cells #[.int .i64 sk, .string (S st), .int .i64 sm] 32)).drew := (Fr.alloc _ _).trans (Fr.drew _)
          have c2 : w8.cell? ⟨B, 2, none⟩ = some v := cellOf hv.boxed rfl
          obtain ⟨s0, s1, s2⟩ := SB.at hv.right.right
          rw [Nat.zero_add] at s1 s2
          simp only at s0 s1 s2
          have HA := Lib.hid (Has.turn (hv.fr hfX))
          obtain ⟨a, cc, rfl⟩ := row_form HA.out.row
          have d2 := (Fr.drew w8).cell c2
          have d0 := (Fr.drew w8).cell s0
          have d1 := (Fr.drew w8).cell s1
          have d3 := (Fr.drew w8).cell s2
          have y2 := hfX.cell c2
          have y0 := hfX.cell s0
          have y1 := hfX.cell s1
          have y3 := hfX.cell s2
          have HSL := Lib.hid (show sgC (l ++ [(sk, st, sm)]) = sgC l ++ [.int .i64 sk, .string (S st), .int .i64 sm] from by rw [sgC_append]; simp [sgC])
          have HLE := Lib.hid (show (l ++ [(sk, st, sm)]).length = l.length + 1 from by simp)
          generalize sgC l = xs at *
          clear hfX hi s0 s1 s2 c2 hv H8 HV
          go_region_law
            ((refine step_append_lies _ (by rfl) (.tmp 56) (.tmp 58) 29 (by rfl) 0 32 i0 (.agg #[.int .i64 0, .string (S []), .int .i64 0]) 3 32 Tryz.underlying29 HIN.out hz0 hz1 hz2 rfl (by decide) (.slice a l.length cc) l.length xs (by rfl) HA.out.row
                ⟨w8.heap.size, 0, none⟩ 1 1 [.int .i64 sk, .string (S st), .int .i64 sm] (by rfl) (by rfl) (World.news_of_block (cs := #[.int .i64 sk, .string (S st), .int .i64 sm]) (t := 32) (fr := (0, 0)) (heap_alloc_new w8 _)) (by simp [Value.oneCell'])
                (by decide) (by have := HLL.out; unfold maxLen; omega) (by have := HLL.out; omega) (Nat.zero_le _) (w8.heap.size + 1) (by simp) ?_
              intro gg cap1 w10 hown1 hgrow hat1 hlt1
              have h10 := HA.out.app hown1 hgrow (fun x hx => by
                simp only [Value.ownBlock, Option.some.injEq] at hx
                subst hx
                rcases hat1 with h | h
                · exact .inl h
                · exact .inr (by rw [h]; simp))
              rw [← HSL.out, ← HLE.out] at h10
              obtain ⟨hb10, hv10⟩ := RV.done h10
              have c33' : w10.cell? ⟨B, 2, none⟩ = some (.slice a l.length cc) := cellOf hb10 rfl
              have f33' : w10.frozen? ⟨B, 2, none⟩ = false := frozenOf hb10 2
              rw [HLE.out] at hv10
              have HV10 := Lib.hid hv10
              clear h10 hb10 hv10 hown1 hgrow hat1 hlt1))
          all_goals
            have HV11 := Lib.hid (HV10.out)
            go_wp2_with fail
            go_ret
            exact ⟨rfl, HV11.out.turn.right⟩
      · obtain rfl := he
        obtain rfl : L' = l := hla
        obtain rfl : xb = true := by rw [HXB.out, hx]; rfl
        go_wp2_with fail
        go_ret
        exact ⟨rfl, HFIN.out _ HF7.out⟩
    · obtain ⟨rfl, rfl, _⟩ := H2k.out (by first | rfl | trivial) (by first | rfl | trivial) c (by first | rfl | trivial) (by omega)
      have hb := HB.out
      have h34 : c.k = 3 ∨ c.k = 4 := by have := hb.1; have := hb.2.1; omega
      clear hb hkd x1 x2 x3 HMY HMN HCLS HHAD
      rcases h34 with h34 | h34
      all_goals
        rw [h34] at x0
        go_wp2_with fail
        go_ret
        exact ⟨rfl, HFIN.out _ HF5.out⟩
  · obtain ⟨rfl, rfl, _⟩ := H22.out (by first | rfl | trivial) hk
    have hk' : (sk != k) = true := bne_iff_ne.2 hk
    clear H2n H2k HMY HMN HCLS HHAD
    go_upto_region 3 with fail
    go_quiet (fail)
    go_wp2_with fail
    go_ret
    exact ⟨rfl, HFIN.out _ (Fr.drewN _ _)⟩
end
end Go.Proofs.YtapdabebiinnnaaGreatDoor
namespace Go.Proofs.YtapdabebiinnnaaGreatDoor
open Go.RowKit Go.MapKept Go.Maps Go.WideMaps Go.BigFrame

/-! ### What the accepted claims say -/
section
variable {q : List Sd} {k : Int} {l : List Sg}
theorem LOk.okc (h : LOk q k l) {j : Nat} (hj : j < l.length) : okB (clm l[j].2.1) = true := (readC_some.1 (h.log _ (List.getElem_mem hj)).1).1
theorem mem_cs {l : List Sg} {c : C} : c ∈ cs l ↔ ∃ (j : Nat) (h : j < l.length), clm l[j].2.1 = c := by
  unfold cs
  rw [List.mem_map]
  constructor
  · rintro ⟨s, hs, rfl⟩
    obtain ⟨j, hj, rfl⟩ := List.getElem_of_mem hs
    exact ⟨j, hj, rfl⟩
  · rintro ⟨j, hj, rfl⟩
    exact ⟨_, List.getElem_mem hj, rfl⟩
theorem en_yes (h : LOk q k l) (hq : q.Nodup) {j : Nat} (hj : j < l.length) (h0 : (clm l[j].2.1).k = 0) : (vd l).en (clm l[j].2.1).n = some (clm l[j].2.1).s := by
  rw [vd_en, ld_en _ (h.cok hq), mem_cs]
  exact ⟨j, hj, (ok_0 (h.okc hj) h0).1⟩
theorem en_no (h : LOk q k l) (hq : q.Nodup) {i : Int} (hn : ∀ (m : Nat) (hm : m < l.length), (clm l[m].2.1).k = 0 → (clm l[m].2.1).n ≠ i) : (vd l).en i = none := by
  cases ho : (vd l).en i with
  | none => rfl
  | some t =>
    rw [vd_en, ld_en _ (h.cok hq), mem_cs] at ho
    obtain ⟨j, hj, e⟩ := ho
    exact absurd (by rw [e]) (hn j hj (by rw [e]))
/-- The greatest moment of the first j, and how many entries there are then. -/
def SzP (l : List Sg) (j : Nat) (a b : Int) : Prop :=
  ((a = 0 ∧ b = -1 ∧ ∀ (m : Nat) (h : m < l.length), m < j → (clm l[m].2.1).k ≠ 1) ∨ (∃ (m : Nat) (h : m < l.length), m < j ∧ (clm l[m].2.1).k = 1 ∧ (clm l[m].2.1).n = a ∧ (clm l[m].2.1).t = b)) ∧
  (∀ (m : Nat) (h : m < l.length), m < j → (clm l[m].2.1).k = 1 → (clm l[m].2.1).t ≤ b) ∧ -1 ≤ b
theorem SzP.zero (l : List Sg) : SzP l 0 0 (-1) := ⟨.inl ⟨rfl, rfl, fun m _ h => absurd h (by omega)⟩, fun m _ h => absurd h (by omega), by omega⟩
theorem SzP.keep {j : Nat} {a b : Int} (h : SzP l j a b) (hj : j < l.length) (hc : (clm l[j].2.1).k = 1 → (clm l[j].2.1).t ≤ b) : SzP l (j + 1) a b := by
  obtain ⟨h1, h2, h3⟩ := h
  have hb0 : (clm l[j].2.1).k = 1 → okB (clm l[j].2.1) = true → b ≠ -1 := fun e ho => by
    have := (ok_bounds ho).2.2.2.2.1
    have := hc e
    omega
  refine ⟨?_, fun m h hm hk => ?_, h3⟩
  · rcases h1 with ⟨ha, hb, hno⟩ | ⟨m, h, hm, hk⟩
    · left
      refine ⟨ha, hb, fun m h hm hk => ?_⟩
      rcases Nat.lt_or_ge m j with h5 | h5
      · exact hno m h h5 hk
      · obtain rfl : m = j := by omega
        have h6 := hc hk
        have h7 : okB (clm l[m].2.1) = true ∨ okB (clm l[m].2.1) = false := by cases okB (clm l[m].2.1) <;> simp
        rcases h7 with h7 | h7
        · exact hb0 hk h7 hb
        · have h8 : clm l[m].2.1 = zeroC := by
            unfold clm
            cases ho : readC l[m].2.1 with
            | none => rfl
            | some c =>
              have h9 := (readC_some.1 ho).1
              rw [readC_clm ho] at h7
              rw [h7] at h9; exact absurd h9 (by simp)
          rw [h8] at hk
          exact absurd hk (by decide)
    · exact .inr ⟨m, h, by omega, hk⟩
  · rcases Nat.lt_or_ge m j with h5 | h5
    · exact h2 m h h5 hk
    · obtain rfl : m = j := by omega
      exact hc hk
theorem SzP.take {j : Nat} {a b : Int} (h : SzP l j a b) (hj : j < l.length) (hk : (clm l[j].2.1).k = 1) (ht : b < (clm l[j].2.1).t) : SzP l (j + 1) (clm l[j].2.1).n (clm l[j].2.1).t := by
  obtain ⟨_, h2, h3⟩ := h
  refine ⟨.inr ⟨j, hj, by omega, hk, rfl, rfl⟩, fun m h hm hk => ?_, by omega⟩
  rcases Nat.lt_or_ge m j with h5 | h5
  · have := h2 m h h5 hk; omega
  · obtain rfl : m = j := by omega
    exact Int.le_refl _
theorem SzP.fin (h : LOk q k l) (hq : q.Nodup) {a b : Int} (hz : SzP l l.length a b) : a = szN (vd l) ∧ b = szT (vd l) := by
  obtain ⟨h1, h2, _⟩ := hz
  obtain ⟨hm, hs⟩ := ld_hd _ (h.cok hq)
  have hmem : ∀ c, c ∈ (vd l).hd ↔ c ∈ cs l ∧ c.k = 1 := by rw [vd_hd]; exact hm
  have hsrt : Srt (vd l).hd := by rw [vd_hd]; exact hs
  unfold szN szT
  rcases h1 with ⟨ha, hb, hno⟩ | ⟨m, hml, _, hk, hn, ht⟩
  · have he : (vd l).hd = [] := List.eq_nil_iff_forall_not_mem.2 fun c hc => by
      obtain ⟨h5, h6⟩ := (hmem c).1 hc
      obtain ⟨j, hj, rfl⟩ := mem_cs.1 h5
      exact hno j hj hj h6
    rw [he]
    exact ⟨ha, hb⟩
  · have hc : clm l[m].2.1 ∈ (vd l).hd := (hmem _).2 ⟨mem_cs.2 ⟨m, hml, rfl⟩, hk⟩
    obtain ⟨i, hi, he⟩ := List.getElem_of_mem hc
    have hlast : (vd l).hd.getLast? = some (vd l).hd[(vd l).hd.length - 1] := by rw [List.getLast?_eq_getElem?, List.getElem?_eq_getElem]
    rw [hlast]
    simp only
    have hlm : (vd l).hd[(vd l).hd.length - 1] ∈ (vd l).hd := List.getElem_mem _
    obtain ⟨h5, h6⟩ := (hmem _).1 hlm
    obtain ⟨j, hj, he2⟩ := mem_cs.1 h5
    have h7 := h2 j hj hj (by rw [he2]; exact h6)
    rw [he2] at h7
    have hi2 : i = (vd l).hd.length - 1 := by
      rcases Nat.lt_or_ge i ((vd l).hd.length - 1) with h8 | h8
      · have h9 := (hsrt.get h8 (by omega)).1
        rw [he, ht] at h9; omega
      · omega
    subst hi2
    rw [he]
    exact ⟨hn.symm, ht.symm⟩
/-- What the first j say of an absent key. -/
def AbQ (l : List Sg) (t : Txt) (j : Nat) (a : Int) (bo : Bool) : Prop :=
  0 ≤ a ∧ ((bo = false ∧ a = 0 ∧ ∀ (m : Nat) (h : m < l.length), m < j → (clm l[m].2.1).k = 2 → (clm l[m].2.1).s ≠ t) ∨
  (bo = true ∧ (∃ (m : Nat) (h : m < l.length), m < j ∧ (clm l[m].2.1).k = 2 ∧ (clm l[m].2.1).s = t ∧ (clm l[m].2.1).n = a) ∧ ∀ (m : Nat) (h : m < l.length), m < j → (clm l[m].2.1).k = 2 → (clm l[m].2.1).s = t → (clm l[m].2.1).n ≤ a))
theorem AbQ.zero (l : List Sg) (t : Txt) : AbQ l t 0 0 false := ⟨by omega, .inl ⟨rfl, rfl, fun m _ h => absurd h (by omega)⟩⟩
theorem AbQ.keep {t : Txt} {j : Nat} {a : Int} {bo : Bool} (h : AbQ l t j a bo) (hj : j < l.length) (hc : (clm l[j].2.1).k = 2 → (clm l[j].2.1).s ≠ t) : AbQ l t (j + 1) a bo := by
  obtain ⟨h0, h | h⟩ := h
  · obtain ⟨h1, h2, h3⟩ := h
    refine ⟨h0, .inl ⟨h1, h2, fun m h hm hk => ?_⟩⟩
    rcases Nat.lt_or_ge m j with h5 | h5
    · exact h3 m h h5 hk
    · obtain rfl : m = j := by omega
      exact hc hk
  · obtain ⟨h1, ⟨m0, g1, g2, g3⟩, h3⟩ := h
    refine ⟨h0, .inr ⟨h1, ⟨m0, g1, by omega, g3⟩, fun m h hm hk hs => ?_⟩⟩
    rcases Nat.lt_or_ge m j with h5 | h5
    · exact h3 m h h5 hk hs
    · obtain rfl : m = j := by omega
      exact absurd hs (hc hk)
theorem AbQ.take {t : Txt} {j : Nat} {a : Int} {bo : Bool} (h : AbQ l t j a bo) (hj : j < l.length) (hk : (clm l[j].2.1).k = 2) (hs : (clm l[j].2.1).s = t) (hn : 0 ≤ (clm l[j].2.1).n) : AbQ l t (j + 1) (max a (clm l[j].2.1).n) true := by
  obtain ⟨h0, h⟩ := h
  refine ⟨by omega, .inr ⟨rfl, ?_, fun m hm1 hm hk hs => ?_⟩⟩
  · rcases Int.le_total a (clm l[j].2.1).n with h5 | h5
    · exact ⟨j, hj, by omega, hk, hs, by omega⟩
    · rcases h with ⟨h1, h2, h3⟩ | ⟨h1, ⟨m0, g1, g2, g3, g4, g5⟩, h3⟩
      · exact ⟨j, hj, by omega, hk, hs, by omega⟩
      · exact ⟨m0, g1, by omega, g3, g4, by omega⟩
  · rcases Nat.lt_or_ge m j with h5 | h5
    · rcases h with ⟨h1, h2, h3⟩ | ⟨h1, _, h3⟩
      · exact absurd hs (h3 m hm1 h5 hk)
      · have := h3 m hm1 h5 hk hs; omega
    · obtain rfl : m = j := by omega
      omega
theorem AbQ.fin (h : LOk q k l) (hq : q.Nodup) {t : Txt} {a : Int} {bo : Bool} (hz : AbQ l t l.length a bo) : absV ((vd l).ab t) = .tuple #[.int .i64 a, .bool bo] := by
  obtain ⟨_, hz⟩ := hz
  have hp := ld_ab (cs l) (fun c hc => (ok_bounds ((h.cok hq).ok c hc)).2.2.1) t
  rw [← vd_ab] at hp
  cases ho : (vd l).ab t with
  | none =>
    rw [ho] at hp
    rcases hz with ⟨rfl, rfl, _⟩ | ⟨_, ⟨m, h1, _, h3, h4, _⟩, _⟩
    · rfl
    · exact absurd h4 (hp _ (mem_cs.2 ⟨m, h1, rfl⟩) h3)
  | some n =>
    rw [ho] at hp
    obtain ⟨⟨c, hc, hk, hs, hn⟩, hmax⟩ := hp
    obtain ⟨j, hj, rfl⟩ := mem_cs.1 hc
    rcases hz with ⟨_, _, hno⟩ | ⟨rfl, ⟨m, h1, _, h3, h4, h5⟩, h6⟩
    · exact absurd hs (hno j hj hj hk)
    · have h7 := h6 j hj hj hk hs
      have h8 := hmax _ (mem_cs.2 ⟨m, h1, rfl⟩) h3 h4
      have : n = a := by omega
      subst this; rfl
theorem ints_le : ∀ (m : Nat) (ns : List Int), (∀ i : Nat, i < m → (i : Int) ∈ ns) → m ≤ ns.length := by
  intro m
  induction m with
  | zero => intro ns _; exact Nat.zero_le _
  | succ m ih =>
    intro ns h
    have hm := h m (by omega)
    have h1 := ih (ns.erase (m : Int)) (fun i hi => (List.mem_erase_of_ne (by omega)).2 (h i (by omega)))
    rw [List.length_erase_of_mem hm] at h1
    have := List.length_pos_of_mem hm
    omega
theorem kn_many (h : LOk q k l) (hq : q.Nodup) {n : Int} (hn : (l.length : Int) < n) : knB (vd l) n = false := by
  cases hb : knB (vd l) n with
  | false => rfl
  | true =>
    have h1 := knB_iff.1 hb
    have h2 := ints_le (l.length + 1) ((cs l).map (·.n)) (fun i hi => by
      have h3 := h1 i (by omega) (by omega)
      obtain ⟨t, ht⟩ := Option.isSome_iff_exists.1 h3
      rw [vd_en, ld_en _ (h.cok hq)] at ht
      exact List.mem_map.2 ⟨_, ht, rfl⟩)
    rw [List.length_map] at h2
    unfold cs at h2
    rw [List.length_map] at h2
    omega
end

/-! ### The walks -/
section
variable {W w : World} {B Q : Nat} {k : Int} {l : List Sg} {q : List Sd} {U : Thing}
/-- What the walks want of a view. -/
structure RVH (w : World) (B : Nat) (l : List Sg) (a : Option Addr) (c : Nat) : Prop where
  len : ∀ w', Fr w w' → w'.cell? ⟨B, 2, none⟩ = some (.slice a l.length c)
  read : ∀ w', Fr w w' → ∀ (i : Nat) (_ : i < l.length), Calls Tryz.prog 47 #[.pointer (some ⟨B, 0, none⟩), .int .i64 i] w' fun e w'' => e = .returned (clm l[i].2.1).v ∧ Fr w' w''
theorem rvh (h : Has W w ((RViewT B Q k l).sep U)) (hl : LOk q k l) : ∃ a c, RVH w B l a c := by
  obtain ⟨v, hv⟩ := h.rvopen
  obtain ⟨a, c, rfl⟩ := row_form hv.right.row
  have hb : w.cell? ⟨B, 2, none⟩ = some (.slice a l.length c) := cellOf hv.boxed rfl
  exact ⟨a, c, fun w' hf => hf.cell hb, fun w' hf i hi => rvread (h.fr hf) i hi (by have := hl.txt (List.getElem_mem hi); omega)⟩
set_option maxHeartbeats 1000000 in
set_option maxRecDepth 100000 in
theorem rvtext (h : Has W w ((RViewT B Q k l).sep U)) (hl : LOk q k l) (hq : q.Nodup) (hll : l.length ≤ 100000) (i : Int) :
    Calls Tryz.prog 19 #[.pointer (some ⟨B, 0, none⟩), .int .i64 i] w fun e w' => e = .returned (txtV ((vd l).en i)) ∧ Fr w w' := by
  obtain ⟨a, c, hh⟩ := rvh h hl
  have HH := Lib.hid hh
  have HY := Lib.hid (fun j hj h0 => en_yes hl hq (j := j) hj h0)
  have HN := Lib.hid (fun hn => en_no hl hq (i := i) hn)
  clear h hh hl hq
  generalize (vd l).en = en at *
  go_enter Tryz.func19, Tryz.ntmps19
  go_wp2_with fail
  go_loopw [6] (fun v wr => ∃ j : Nat, j ≤ l.length ∧ v = .int .i64 j ∧ Hid (∀ (m : Nat) (h : m < l.length), m < j → (clm l[m].2.1).k = 0 → (clm l[m].2.1).n ≠ i) ∧ Hid (Fr w wr)) (fun v _ => l.length - (intOf v).toNat)
  case atStart => exact ⟨0, Nat.zero_le _, by go_num, Lib.hid (fun m _ h => absurd h (by omega)), Lib.hid (Fr.refl _)⟩
  case round =>
    obtain ⟨j, hj, rfl, HA, HF⟩ := hrel
    have c2 := HH.out.len wr HF.out
    by_cases hlt : j < l.length
    · have HRX := Lib.hid (HH.out.read wr HF.out j hlt)
      have HYX := Lib.hid (fun h0 => HY.out j hlt h0)
      have HNX := Lib.hid (show ((clm l[j].2.1).k = 0 → (clm l[j].2.1).n ≠ i) → ∀ (m : Nat) (h : m < l.length), m < j + 1 → (clm l[m].2.1).k = 0 → (clm l[m].2.1).n ≠ i from fun hne m h hm => by
        rcases Nat.lt_or_ge m j with h1 | h1
        · exact HA.out m h h1
        · obtain rfl : m = j := by omega
          exact hne)
      unfold C.v at HRX
      generalize clm l[j].2.1 = d at *
      go_upto_region 5 with (go_at_call 47; refine HRX.out.mono ?_; rintro e w2 ⟨rfl, hf2⟩)
      have HF3 := Lib.hid (HF.out.trans (hf2.trans (Fr.alloc w2 (.cells #[.int .i64 d.k, .int .i64 d.n, .int .i64 d.t, .string (S d.s)] 35))))
      obtain ⟨x0, x1, x2, x3⟩ := CAt.new w2 d
      obtain ⟨X, hX⟩ : ∃ X, X = w2.heap.size := ⟨_, rfl⟩
      rw [← hX] at x0 x1 x2 x3 ⊢
      clear hX hf2 HF HRX c2
      generalize w2.alloc (.cells #[.int .i64 d.k, .int .i64 d.n, .int .i64 d.t, .string (S d.s)] 35) = w3 at *
      by_cases h0 : d.k = 0
      · by_cases h1 : d.n = i
        · have he := HYX.out h0
          subst h1
          have HEE := Lib.hid he
          rw [h0] at x0
          clear he h0 HYX HNX
          go_wp2_with fail
          go_ret2
          exact ⟨by rw [HEE.out]; rfl, HF3.out⟩
        · have h1' : (d.n == i) = false := by simpa using h1
          have HX1 := Lib.hid (HNX.out (fun _ => h1))
          rw [h0] at x0
          clear h0 h1 HYX HNX
          go_wp2_with fail
          go_roundw
          case rel => exact ⟨j + 1, by omega, by go_num, HX1, HF3⟩
          case measure => simp [intOf]; omega
      · have h0' : (d.k == 0) = false := by simpa using h0
        have HX1 := Lib.hid (HNX.out (fun h => absurd h h0))
        clear h0 HYX HNX
        go_wp2_with fail
        go_roundw
        case rel => exact ⟨j + 1, by omega, by go_num, HX1, HF3⟩
        case measure => simp [intOf]; omega
    · obtain rfl : j = l.length := by omega
      have HEE := Lib.hid (HN.out (fun m h => HA.out m h h))
      go_wp2_with fail
      go_ret2
      exact ⟨by rw [HEE.out]; rfl, HF.out⟩
set_option maxHeartbeats 1000000 in
set_option maxRecDepth 100000 in
theorem rvsize (h : Has W w ((RViewT B Q k l).sep U)) (hl : LOk q k l) (hq : q.Nodup) (hll : l.length ≤ 100000) :
    Calls Tryz.prog 23 #[.pointer (some ⟨B, 0, none⟩)] w fun e w' => e = .returned (.tuple #[.int .i64 (szN (vd l)), .int .i64 (szT (vd l))]) ∧ Fr w w' := by
  obtain ⟨a, c, hh⟩ := rvh h hl
  have HH := Lib.hid hh
  have HE := Lib.hid (fun a b h => SzP.fin hl hq (a := a) (b := b) h)
  clear h hh hl hq
  generalize szN (vd l) = zn at *
  generalize szT (vd l) = zt at *
  go_enter Tryz.func23, Tryz.ntmps23
  go_wp2_with fail
  go_loopw [4, 5, 6] (fun va vb v wr => ∃ (j : Nat) (a b : Int), j ≤ l.length ∧ v = .int .i64 j ∧ va = .int .i64 a ∧ vb = .int .i64 b ∧ Hid (SzP l j a b) ∧ Hid (Fr w wr)) (fun _ _ v _ => l.length - (intOf v).toNat)
  case atStart => exact ⟨0, 0, -1, Nat.zero_le _, by go_num, rfl, rfl, Lib.hid (SzP.zero l), Lib.hid (Fr.refl _)⟩
  case round =>
    obtain ⟨j, a, b, hj, rfl, rfl, rfl, HA, HF⟩ := hrel
    have c2 := HH.out.len wr HF.out
    by_cases hlt : j < l.length
    · have HRX := Lib.hid (HH.out.read wr HF.out j hlt)
      have HKX := Lib.hid (HA.out.keep hlt)
      have HTX := Lib.hid (HA.out.take hlt)
      unfold C.v at HRX
      generalize clm l[j].2.1 = d at *
      go_upto_region 7 with (go_at_call 47; refine HRX.out.mono ?_; rintro e w2 ⟨rfl, hf2⟩)
      have HF3 := Lib.hid (HF.out.trans (hf2.trans (Fr.alloc w2 (.cells #[.int .i64 d.k, .int .i64 d.n, .int .i64 d.t, .string (S d.s)] 35))))
      obtain ⟨x0, x1, x2, x3⟩ := CAt.new w2 d
      obtain ⟨X, hX⟩ : ∃ X, X = w2.heap.size := ⟨_, rfl⟩
      rw [← hX] at x0 x1 x2 x3 ⊢
      clear hX hf2 HF HRX c2 HA
      generalize w2.alloc (.cells #[.int .i64 d.k, .int .i64 d.n, .int .i64 d.t, .string (S d.s)] 35) = w3 at *
      by_cases h0 : d.k = 1
      · by_cases h1 : b < d.t
        · have HX1 := Lib.hid (HTX.out h0 h1)
          rw [h0] at x0
          clear h0 HKX HTX
          go_wp2_with fail
          go_roundw
          case rel => exact ⟨j + 1, _, _, by omega, by go_num, rfl, rfl, HX1, HF3⟩
          case measure => simp [intOf]; omega
        · have HX1 := Lib.hid (HKX.out (fun _ => by omega))
          rw [h0] at x0
          clear h0 HKX HTX
          go_wp2_with fail
          go_roundw
          case rel => exact ⟨j + 1, _, _, by omega, by go_num, rfl, rfl, HX1, HF3⟩
          case measure => simp [intOf]; omega
      · have h0' : (d.k == 1) = false := by simpa using h0
        have HX1 := Lib.hid (HKX.out (fun h => absurd h h0))
        clear h0 HKX HTX
        go_wp2_with fail
        go_roundw
        case rel => exact ⟨j + 1, _, _, by omega, by go_num, rfl, rfl, HX1, HF3⟩
        case measure => simp [intOf]; omega
    · obtain rfl : j = l.length := by omega
      obtain ⟨rfl, rfl⟩ := HE.out _ _ HA.out
      go_wp2_with fail
      go_ret2
      exact ⟨rfl, HF.out⟩
set_option maxRecDepth 100000 in
theorem rvage (h : Has W w ((RViewT B Q k l).sep U)) (hl : LOk q k l) (hq : q.Nodup) (hll : l.length ≤ 100000) (now : Int) (hi : Wm.inInt now) :
    Calls Tryz.prog 25 #[.pointer (some ⟨B, 0, none⟩), .int .i64 now] w fun e w' => e = .returned (.int .i64 (agO (vd l) now)) ∧ Fr w w' := by
  have HS := Lib.hid (rvsize h hl hq hll)
  clear h hl hq
  have h0 := hi.1
  have h1 := hi.2
  unfold agO
  generalize szT (vd l) = t at *
  generalize szN (vd l) = n at *
  by_cases a : t < 0
  · rw [if_pos (.inl a)]
    go_enter Tryz.func25, Tryz.ntmps25
    go_wp2_with (go_at_call 23; refine HS.out.mono ?_; rintro e w2 ⟨rfl, hf⟩)
    go_ret
    exact ⟨rfl, hf⟩
  · by_cases b : now < t
    · rw [if_pos (.inr b)]
      go_enter Tryz.func25, Tryz.ntmps25
      go_wp2_with (go_at_call 23; refine HS.out.mono ?_; rintro e w2 ⟨rfl, hf⟩)
      go_ret
      exact ⟨rfl, hf⟩
    · rw [if_neg (by omega)]
      go_enter Tryz.func25, Tryz.ntmps25
      go_wp2_with (go_at_call 23; refine HS.out.mono ?_; rintro e w2 ⟨rfl, hf⟩)
      go_ret
      exact ⟨rfl, hf⟩
set_option maxHeartbeats 1000000 in
set_option maxRecDepth 100000 in
theorem rvabsent (h : Has W w ((RViewT B Q k l).sep U)) (hl : LOk q k l) (hq : q.Nodup) (hll : l.length ≤ 100000) (t : Txt) :
    Calls Tryz.prog 21 #[.pointer (some ⟨B, 0, none⟩), .string (S t)] w fun e w' => e = .returned (absV ((vd l).ab t)) ∧ Fr w w' := by
  obtain ⟨a, c, hh⟩ := rvh h hl
  have HH := Lib.hid hh
  have HE := Lib.hid (fun a b h => AbQ.fin hl hq (t := t) (a := a) (bo := b) h)
  have HP := Lib.hid (fun (j : Nat) (hj : j < l.length) => (ok_bounds (hl.okc hj)).2.2.1)
  clear h hh hl hq
  generalize absV ((vd l).ab t) = z at *
  go_enter Tryz.func21, Tryz.ntmps21
  go_wp2_with fail
  go_loopw [6, 7, 8] (fun va vb v wr => ∃ (j : Nat) (a : Int) (b : Bool), j ≤ l.length ∧ v = .int .i64 j ∧ va = .int .i64 a ∧ vb = .bool b ∧ Hid (AbQ l t j a b) ∧ Hid (Fr w wr)) (fun _ _ v _ => l.length - (intOf v).toNat)
  case atStart => exact ⟨0, 0, false, Nat.zero_le _, by go_num, rfl, rfl, Lib.hid (AbQ.zero l t), Lib.hid (Fr.refl _)⟩
  case round =>
    obtain ⟨j, a, b, hj, rfl, rfl, rfl, HA, HF⟩ := hrel
    have c2 := HH.out.len wr HF.out
    by_cases hlt : j < l.length
    · have HRX := Lib.hid (HH.out.read wr HF.out j hlt)
      have HKX := Lib.hid (HA.out.keep hlt)
      have HTX := Lib.hid (HA.out.take hlt)
      have HPX := Lib.hid (HP.out j hlt)
      have HA0 := Lib.hid HA.out.1
      unfold C.v at HRX
      generalize clm l[j].2.1 = d at *
      go_upto_region 7 with (go_at_call 47; refine HRX.out.mono ?_; rintro e w2 ⟨rfl, hf2⟩)
      have HF3 := Lib.hid (HF.out.trans (hf2.trans (Fr.alloc w2 (.cells #[.int .i64 d.k, .int .i64 d.n, .int .i64 d.t, .string (S d.s)] 35))))
      obtain ⟨x0, x1, x2, x3⟩ := CAt.new w2 d
      obtain ⟨X, hX⟩ : ∃ X, X = w2.heap.size := ⟨_, rfl⟩
      rw [← hX] at x0 x1 x2 x3 ⊢
      clear hX hf2 HF HRX c2 HA HP
      generalize w2.alloc (.cells #[.int .i64 d.k, .int .i64 d.n, .int .i64 d.t, .string (S d.s)] 35) = w3 at *
      by_cases h0 : d.k = 2
      · by_cases h1 : d.s = t
        · have HX1 := Lib.hid (HTX.out h0 h1 HPX.out)
          rw [h0] at x0
          rw [h1] at x3
          obtain ⟨mx, hmx⟩ : ∃ mx, mx = max a d.n := ⟨_, rfl⟩
          rw [← hmx] at HX1
          have HMX := Lib.hid hmx
          clear h0 h1 HKX HTX hmx
          go_wp2_with fail
          go_roundw
          case rel => exact ⟨j + 1, mx, true, by omega, by go_num, by rw [HMX.out], rfl, HX1, HF3⟩
          case measure => simp [intOf]; omega
        · have h1' : (d.s == t) = false := by simpa using h1
          have HX1 := Lib.hid (HKX.out (fun _ => h1))
          rw [h0] at x0
          clear h0 h1 HKX HTX
          go_wp2_with fail
          go_roundw
          case rel => exact ⟨j + 1, _, _, by omega, by go_num, rfl, rfl, HX1, HF3⟩
          case measure => simp [intOf]; omega
      · have h0' : (d.k == 2) = false := by simpa using h0
        have HX1 := Lib.hid (HKX.out (fun h => absurd h h0))
        clear h0 HKX HTX
        go_wp2_with fail
        go_roundw
        case rel => exact ⟨j + 1, _, _, by omega, by go_num, rfl, rfl, HX1, HF3⟩
        case measure => simp [intOf]; omega
    · obtain rfl : j = l.length := by omega
      have HZ := Lib.hid (HE.out _ _ HA.out)
      go_wp2_with fail
      go_ret2
      exact ⟨by rw [HZ.out]; rfl, HF.out⟩
set_option maxHeartbeats 1000000 in
set_option maxRecDepth 100000 in
theorem rvknown (h : Has W w ((RViewT B Q k l).sep U)) (hl : LOk q k l) (hq : q.Nodup) (hll : l.length ≤ 100000) (n : Int) (hi : Wm.inInt n) :
    Calls Tryz.prog 27 #[.pointer (some ⟨B, 0, none⟩), .int .i64 n] w fun e w' => e = .returned (.bool (knB (vd l) n)) ∧ Fr w w' := by
  obtain ⟨a, c, hh⟩ := rvh h hl
  have c2 := hh.len w (Fr.refl _)
  have HT := Lib.hid (fun w' (hf : Fr w w') i => rvtext (h.fr hf) hl hq hll i)
  have HM := Lib.hid (fun hn => kn_many hl hq (n := n) hn)
  have h1 := hi.2
  have HI := Lib.hid (show knB (vd l) n = true ↔ _ from knB_iff)
  generalize (vd l).en = en at *
  obtain ⟨kb, hkb⟩ : ∃ kb, kb = knB (vd l) n := ⟨_, rfl⟩
  rw [← hkb] at HM HI ⊢
  clear h hh hl hq hi hkb
  by_cases hbig : (l.length : Int) < n
  · obtain rfl := HM.out hbig
    go_enter Tryz.func27, Tryz.ntmps27
    go_wp2_with fail
    go_ret
    exact ⟨rfl, Fr.refl _⟩
  · have hsm : n ≤ (l.length : Int) := by omega
    clear hbig HM
    go_enter Tryz.func27, Tryz.ntmps27
    go_wp2_with fail
    go_loopw [5] (fun v wr => ∃ j : Nat, (j = 0 ∨ (j : Int) ≤ n) ∧ v = .int .i64 j ∧ Hid (∀ i : Int, 0 ≤ i → i < j → (en i).isSome = true) ∧ Hid (Fr w wr)) (fun v _ => (n - intOf v).toNat)
    case atStart => exact ⟨0, .inl rfl, by go_num, Lib.hid (fun i h1 h2 => by omega), Lib.hid (Fr.refl _)⟩
    case round =>
      obtain ⟨j, hjn, rfl, HA, HF⟩ := hrel
      by_cases hlt : (j : Int) < n
      · have HTX := Lib.hid (HT.out wr HF.out j)
        cases ho : en (j : Int) with
        | none =>
          obtain rfl : kb = false := by
            cases kb with
            | false => rfl
            | true => have := HI.out.1 rfl j (by omega) hlt; rw [ho] at this; cases this
          rw [ho] at HTX
          unfold txtV at HTX
          clear ho
          go_wp2_with (go_at_call 19; refine HTX.out.mono ?_; rintro e w2 ⟨rfl, hf⟩)
          go_ret
          exact ⟨rfl, HF.out.trans hf⟩
        | some t =>
          have HX1 := Lib.hid (show ∀ i : Int, 0 ≤ i → i < (j + 1 : Nat) → (en i).isSome = true from fun i g1 g2 => by
            by_cases h3 : i < j
            · exact HA.out i g1 h3
            · obtain rfl : i = j := by omega
              rw [ho]; rfl)
          rw [ho] at HTX
          unfold txtV at HTX
          clear ho
          go_wp2_with (go_at_call 19; refine HTX.out.mono ?_; rintro e w2 ⟨rfl, hf⟩; have HF2 := Lib.hid (HF.out.trans hf); clear hf)
          go_roundw
          case rel => exact ⟨j + 1, .inr (by omega), by go_num, HX1, HF2⟩
          case measure => simp [intOf]; omega
      · obtain rfl : kb = true := HI.out.2 fun i g1 g2 => HA.out i g1 (by omega)
        go_wp2_with fail
        go_ret
        exact ⟨rfl, HF.out⟩
set_option maxHeartbeats 2000000 in
set_option maxRecDepth 100000 in
theorem rvbytes (h : Has W w ((RViewT B Q k l).sep U)) (hk : IsKey k) (hn : l.length ≤ 10000) (hw : WOk l) :
    Calls Tryz.prog 29 #[.pointer (some ⟨B, 0, none⟩)] w fun e w' => e = .returned (.string (S (byT k l))) ∧ Fr w w' := by
  obtain ⟨v, hv⟩ := h.rvopen
  have HGS := Lib.hid (GSl.own hv.right.row rfl)
  obtain ⟨a, c, rfl⟩ := row_form hv.right.row
  have c1 : w.cell? ⟨B, 1, none⟩ = some (.int .i64 k) := cellOf hv.boxed rfl
  have c2 : w.cell? ⟨B, 2, none⟩ = some (.slice a l.length c) := cellOf hv.boxed rfl
  have HCS : Hid (∀ w', Fr w w' → w'.cell? ⟨B, 2, none⟩ = some (.slice a l.length c)) := Lib.hid fun w' hf => hf.cell c2
  have hk1 := hk.1
  have hk2 : k ≤ 9223372036854775807 := by have := hk.2; omega
  have HN1 := Lib.hid (fun w' => rnum_any k w' hk1 hk2)
  have HN2 := Lib.hid (fun w' => rnum_any (l.length : Int) w' (by omega) (by omega))
  have hl1 := num_len k hk1 hk2
  have hl2 := num_len (l.length : Int) (by omega) (by omega)
  have HBY := Lib.hid (show byT k l = (Wm.numE 59).f k ++ (Wm.numE 59).f (l.length : Int) ++ l.flatMap sgE from rfl)
  have HW := Lib.hid hw
  generalize byT k l = z at *
  generalize (Wm.numE 59).f k = n1 at *
  generalize (Wm.numE 59).f (l.length : Int) = n2 at *
  obtain ⟨n3, hn3⟩ : ∃ n3, n3 = n1 ++ n2 := ⟨_, rfl⟩
  have hl3 : n3.length ≤ 80 := by rw [hn3, List.length_append]; omega
  have s1 : ∀ w', (Op.stringOp .add (S n1) (S n2)).run Tryz.prog w' = .ok (.string (S n3)) w' := fun w' => by rw [hn3]; exact run_concat w' _ _ (by omega)
  rw [← hn3] at HBY
  have HL3 := Lib.hid hl3
  clear hv h hw hk hn3 hl1 hl2 hk1 hk2 hl3
  go_enter Tryz.func29, Tryz.ntmps29
  go_upto_region 1 with fail
  refine wp_region_cls (D := Cls w) (by kernel_rfl) (by kernel_rfl) (Fr.drew w) ?_
  repeat (go_big_quiet_step (first
    | (intro hw'; with_reducible rfl)
    | (intro hw'; go_at_call 55; first
        | (with_reducible refine (HN1.out _).mono ?_; exact fun e w'' h => ⟨h.1, hw'.of h.2⟩)
        | (with_reducible refine (HN2.out _).mono ?_; exact fun e w'' h => ⟨h.1, hw'.of h.2⟩))
    | (intro hw'; have g1 := Fr.cell hw' c1; simp only [g1]; exact ⟨rfl, rfl⟩)
    | (intro hw'; have g1 := Fr.cell hw' c2; simp only [g1]; exact ⟨rfl, rfl⟩)))
  refine wpQuiet_nil ?_
  intro w1 hw1
  have HF1 : Hid (Fr w w1) := Lib.hid hw1
  have H0 : Hid ((S n3) = S (n3 ++ (l.take 0).flatMap sgE)) := Lib.hid (by simp)
  clear s1 HN1 HN2 hw1 c1 c2
  go_wp2_with fail
  go_loopw [3, 4] (fun sv v wr => ∃ (j : Nat) (s : Txt), j ≤ l.length ∧ v = .int .i64 j ∧ sv = .string (S s) ∧ Hid (s = n3 ++ (l.take j).flatMap sgE) ∧ Hid (Fr w wr)) (fun _ v _ => l.length - (intOf v).toNat)
  case atStart => exact ⟨0, n3, Nat.zero_le _, by go_num, rfl, Lib.hid (by simp), HF1⟩
  case round =>
    obtain ⟨j, s, hj, rfl, rfl, HS, HF⟩ := hrel
    clear H0 HF1
    have c2 := HCS.out wr HF.out
    by_cases hlt : j < l.length
    · rcases HGS.out with ⟨h0, _⟩ | ⟨g, o, c', hv, hcell⟩
      · rw [h0] at hlt; exact absurd hlt (by simp)
      obtain ⟨rfl, rfl⟩ : a = some ⟨g, o, none⟩ ∧ c = c' := by simpa using hv
      obtain ⟨t0, t1, t2⟩ := (hcell j hlt).fr HF.out
      have hwj := HW.out _ (List.getElem_mem hlt)
      have HFT := Lib.hid (flat_takeS l j hlt)
      have hfl : ((l.take j).flatMap sgE).length ≤ 10000 * 20240 := by
        have h1 := flat_sg (HW.out.take j)
        have h2 : (l.take j).length ≤ 10000 := by rw [List.length_take]; omega
        calc _ ≤ (l.take j).length * 20240 := h1
          _ ≤ 10000 * 20240 := Nat.mul_le_mul_right _ h2
      generalize l[j] = y at *
      obtain ⟨yk, yt, ym⟩ := y
      simp only at t0 t1 t2 hwj HFT
      have hm1 := hwj.1.1
      have hm2 := hwj.1.2
      have HN3 := Lib.hid (fun w' => rnum_any ym w' hm1 hm2)
      have HN4 := Lib.hid (fun w' => rtext_any yt w' (by have := hwj.2; omega))
      have hl3 := num_len ym hm1 hm2
      have hl4 := text_lenE yt hwj.2
      generalize (Wm.numE 59).f ym = m1 at *
      generalize Wm.textE.f yt = m2 at *
      have hls : s.length ≤ 300000000 := by rw [HS.out, List.length_append]; have := HL3.out; omega
      obtain ⟨s3, hs3⟩ : ∃ s3, s3 = s ++ m1 := ⟨_, rfl⟩
      obtain ⟨s4, hs4⟩ : ∃ s4, s4 = s3 ++ m2 := ⟨_, rfl⟩
      have hls3 : s3.length ≤ 300000040 := by rw [hs3, List.length_append]; omega
      have a1 : ∀ w', (Op.stringOp .add (S s) (S m1)).run Tryz.prog w' = .ok (.string (S s3)) w' := fun w' => by rw [hs3]; exact run_concat w' _ _ (by omega)
      have a2 : ∀ w', (Op.stringOp .add (S s3) (S m2)).run Tryz.prog w' = .ok (.string (S s4)) w' := fun w' => by rw [hs4]; exact run_concat w' _ _ (by omega)
      have HS4 := Lib.hid (show s4 = n3 ++ (l.take (j + 1)).flatMap sgE from by rw [hs4, hs3, HS.out, HFT.out]; simp only [List.append_assoc])
      clear hcell hv hwj hm1 hm2 hfl hls hls3 hl3 hl4 hs3 hs4 t0 HFT HS
      go_upto_region 5 with fail
      refine wp_region_cls (D := Cls wr) (by kernel_rfl) (by kernel_rfl) (Fr.drew wr) ?_
      repeat (go_big_quiet_step (first
        | (intro hw'; with_reducible rfl)
        | (intro hw'; go_at_call 55; exact (HN3.out _).mono fun e w'' h => ⟨h.1, hw'.of h.2⟩)
        | (intro hw'; go_at_call 56; exact (HN4.out _).mono fun e w'' h => ⟨h.1, hw'.of h.2⟩)
        | (intro hw'; have g1 := Fr.cell hw' c2; simp only [g1]; exact ⟨rfl, rfl⟩)
        | (intro hw'; have g1 := Fr.cell hw' t1; simp only [g1]; exact ⟨rfl, rfl⟩)
        | (intro hw'; have g1 := Fr.cell hw' t2; simp only [g1]; exact ⟨rfl, rfl⟩)))
      refine wpQuiet_nil ?_
      intro w4 hw4
      have HF4 := Lib.hid (HF.out.trans hw4)
      clear hw4 HF a1 a2 c2 t1 t2 HN3 HN4
      go_wp2_with fail
      go_roundw
      case rel => exact ⟨j + 1, s4, by omega, by go_num, rfl, HS4, HF4⟩
      case measure => simp [intOf]; omega
    · obtain rfl : j = l.length := by omega
      rw [List.take_length, ← HBY.out] at HS
      obtain rfl := HS.out
      go_wp2_with fail
      go_ret
      exact ⟨rfl, HF.out⟩
end
end Go.Proofs.YtapdabebiinnnaaGreatDoor
