/-
  Gossip: what the law asks of a book.
-/
import Derived.Test.YthppefkamklakaaDoorVwb
namespace Go.Proofs.YthppefkamklakaaDoor
open Go.RowKit Go.MapKept Go.Maps Go.WideMaps

theorem text_lenE (t : Txt) (h : t.length ≤ 20100) : (Wm.textE.f t).length ≤ 20200 := by
  have := Lib.itoa_length_le t.length (by omega) (by omega)
  rw [Wm.textE_f]; simp; omega
/-- What a turn gives: the signature and the error. -/
noncomputable def tuX (key : Int) (p : BS × List Sd) (u : Tu) : Sg := if 1 ≤ u.1 ∧ u.1 ≤ 3 then sgO p.2 (opO p.1 (tuO key u)) else (0, [], 0)
noncomputable def tuF (key : Int) (p : BS × List Sd) (u : Tu) : Int := if 1 ≤ u.1 ∧ u.1 ≤ 3 then opE p.1 (tuO key u) else 4
theorem tuM_eq (key : Int) (p : BS × List Sd) (u : Tu) : tuM key p u = if tuF key p u = 0 then some (tuX key p u) else none := by
  unfold tuM tuF tuX
  by_cases h : 1 ≤ u.1 ∧ u.1 ≤ 3
  · rw [if_pos h, if_pos h]
    by_cases he : opE p.1 (tuO key u) = 0
    · rw [if_pos ⟨h.1, h.2, he⟩, if_pos he]
    · rw [if_neg (fun hh => he hh.2.2), if_neg he]
  · rw [if_neg h, if_neg h, if_neg (fun hh => h ⟨hh.1, hh.2.1⟩), if_neg (by decide)]
def askV (x : Sg) (E : Int) : Value := .tuple #[.agg #[.int .i64 x.1, .string (S x.2.1), .int .i64 x.2.2], .bool (decide (E = 0))]
section
variable {W w : World} {A B C E U : Thing} {t : TypeId} {X : Nat} {v0 v1 v2 : Value}
theorem box2_at (h : Has W w (A.sep ((BoxT t X #[v0, v1, v2]).sep E))) : w.heap[X]? = some (.cells #[v0, v1, v2] t (0, 0)) := h.turn.boxed
theorem box2_set (h : Has W w (A.sep ((BoxT t X #[v0, v1, v2]).sep E))) (u0 u1 u2 : Value) : Has W (((w.setCell ⟨X, 0, none⟩ u0).setCell ⟨X, 1, none⟩ u1).setCell ⟨X, 2, none⟩ u2) (A.sep ((BoxT t X #[u0, u1, u2]).sep E)) :=
  (((h.turn.set 0 u0).set 1 u1).set 2 u2).turn
end
section
variable {W w : World} {B R : Nat} {s : BS} {q : List Sd} {U : Thing}
set_option maxHeartbeats 8000000 in
set_option maxRecDepth 100000 in
theorem asked_any (h : Has W w ((BookT B R s q).sep U)) (ht : Tab W) (u : Tu) (hu : u.ok) (hfe : u.2.1.length ≤ 100 ∧ u.2.2.1.length ≤ 100) (hok : s.ok) (hql : q.length ≤ 1000000) :
    Calls Tryd.prog 9 #[.pointer (some ⟨B, 0, none⟩), .agg #[.int .i64 u.1, .string (S u.2.1), .string (S u.2.2.1), .int .i64 u.2.2.2]] w fun e w' =>
      e = .returned (askV (tuX s.k (s, q) u) (tuF s.k (s, q) u)) ∧ Has W w' ((BookT B R (stepS (s, q) (tuO s.k u)).1 (stepS (s, q) (tuO s.k u)).2).sep U) := by
  have HT := Lib.hid ht
  have HU := Lib.hid hu
  have HFE := Lib.hid hfe
  obtain ⟨x, hx⟩ : ∃ x, x = tuX s.k (s, q) u := ⟨_, rfl⟩
  obtain ⟨E, hE⟩ : ∃ E, E = tuF s.k (s, q) u := ⟨_, rfl⟩
  obtain ⟨P, hP⟩ : ∃ P, P = stepS (s, q) (tuO s.k u) := ⟨_, rfl⟩
  rw [← hx, ← hE, ← hP]
  have HE := Lib.hid (And.intro hx (And.intro hE hP))
  clear hx hE hP
  obtain ⟨uk, un, ut, ui⟩ := u
  simp only at *
  have H0 := Lib.hid ((((h.box 41 #[.int .i64 uk, .string (S un), .string (S ut), .int .i64 ui]).box 37 #[.int .i64 0, .string ⟨#[]⟩, .int .i64 0]).box 37 #[.int .i64 0, .string ⟨#[]⟩, .int .i64 0]).map fun _ h => sp4 h)
  have hs1 : (w.alloc (.cells #[.int .i64 uk, .string (S un), .string (S ut), .int .i64 ui] 41)).heap.size = w.heap.size + 1 := by simp
  have hs2 : ((w.alloc (.cells #[.int .i64 uk, .string (S un), .string (S ut), .int .i64 ui] 41)).alloc (.cells #[.int .i64 0, .string ⟨#[]⟩, .int .i64 0] 37)).heap.size = w.heap.size + 2 := by simp
  rw [hs1, hs2] at H0
  clear h ht hu hfe hs1 hs2
  go_enter Tryd.func9, Tryd.ntmps9
  go_upto_region 2 with fail
  obtain ⟨A, hA⟩ : ∃ A, A = w.heap.size := ⟨_, rfl⟩
  rw [← hA] at H0 ⊢
  clear hA
  generalize ((w.alloc (.cells #[.int .i64 uk, .string (S un), .string (S ut), .int .i64 ui] 41)).alloc (.cells #[.int .i64 0, .string ⟨#[]⟩, .int .i64 0] 37)).alloc (.cells #[.int .i64 0, .string ⟨#[]⟩, .int .i64 0] 37) = w6 at *
  rw [show A + 1 + 1 = A + 2 from rfl]
  have HC : Hid (∀ (w' : World) (X Y : Thing), Has W w' (X.sep (Y.sep ((BoxT 37 (A + 1) #[.int .i64 0, .string ⟨#[]⟩, .int .i64 0]).sep ((BoxT 41 A #[.int .i64 uk, .string (S un), .string (S ut), .int .i64 ui]).sep U)))) →
      w'.cell? ⟨A, 0, none⟩ = some (.int .i64 uk) ∧ w'.cell? ⟨A, 1, none⟩ = some (.string (S un)) ∧ w'.cell? ⟨A, 2, none⟩ = some (.string (S ut)) ∧ w'.cell? ⟨A, 3, none⟩ = some (.int .i64 ui)) := Lib.hid fun w' X Y h => by
    have hb := h.right.right.right.boxed
    exact ⟨cellOf hb rfl, cellOf hb rfl, cellOf hb rfl, cellOf hb rfl⟩
  obtain ⟨c0, c1, c2, c3⟩ := HC.out _ _ _ H0.out
  go_upto_block 0 with fail
  obtain ⟨R1, hR1⟩ : ∃ R1, R1 = (BoxT 37 (A + 1) #[.int .i64 0, .string ⟨#[]⟩, .int .i64 0]).sep ((BoxT 41 A #[.int .i64 uk, .string (S un), .string (S ut), .int .i64 ui]).sep U) := ⟨_, rfl⟩
  rw [← hR1] at H0 HC
  have HR1 := Lib.hid hR1
  clear hR1
  go_cut [7] (fun f wx => f = .int .i64 E ∧ Hid (Has W wx ((BookT B R P.1 P.2).sep ((BoxT 37 (A + 2) #[.int .i64 x.1, .string (S x.2.1), .int .i64 x.2.2]).sep R1))))
  case first =>
    by_cases k0 : uk = 0
    · subst k0
      have hfe := HFE.out
      try simp only at hfe
      have htl := text_lenE un (by omega)
      obtain ⟨nt, hnt⟩ : ∃ nt, nt = Wm.textE.f un := ⟨_, rfl⟩
      have HTX := Lib.hid (fun w' (hf : Fr w6 w') => text_any un w' (by omega) (HT.out.fr (H0.out.toFr.trans hf)))
      rw [← hnt] at htl HTX
      obtain rfl : x = (0, [], 0) := HE.out.1
      obtain rfl : E = 4 := HE.out.2.1
      have HP : Hid (P = (apS s (nt ++ ut), q)) := Lib.hid (by rw [HE.out.2.2, hnt]; rfl)
      have HAP := Lib.hid (fun w' (hf : Fr w6 w') => bappend (H0.out.fr hf) (nt ++ ut) (by rw [List.length_append]; omega) hok.1)
      have a1 : ∀ w', (Op.stringOp .add (S nt) (S ut)).run Tryd.prog w' = .ok (.string (S (nt ++ ut))) w' := fun w' => run_concat w' _ _ (by omega)
      have HSD := Lib.hid (HC.out _ _ _ (H0.out.fr (Fr.drew w6)))
      have hfd := Fr.drew w6
      clear hnt
      go_upto_region 5 with fail
      go_region_held_law (fun w' => w'.cell? ⟨A, 0, none⟩ = some (.int .i64 0) ∧ w'.cell? ⟨A, 1, none⟩ = some (.string (S un)) ∧ w'.cell? ⟨A, 2, none⟩ = some (.string (S ut)) ∧ w'.cell? ⟨A, 3, none⟩ = some (.int .i64 ui))
        (first | exact HC.out _ _ _ H8.out | exact HC.out _ _ _ (H0.out.fr HF7.out) | exact HSD.out)
        (first
          | (go_at_call 19; refine (HAP.out _ HF7.out).mono ?_; rintro e w8 ⟨rfl, h8⟩; have H8 := Lib.hid h8; clear h8)
          | (go_at_call 20; refine (HTX.out _ hfd).mono ?_; rintro e w7 ⟨rfl, hf7⟩; have HF7 := Lib.hid (hfd.trans hf7); clear hf7))
      all_goals
        go_wp2_with fail
        go_meet
        exact ⟨rfl, by rw [HP.out]; exact H8⟩
    · have e0 : (uk == 0) = false := by simpa using k0
      by_cases k1 : uk = 1
      · subst k1
        have HEN : Hid (Calls Tryd.prog 21 #[.pointer (some ⟨B, 0, none⟩), .int .i64 ui] w6 fun e w' => e = .returned (.tuple #[.agg #[.int .i64 x.1, .string (S x.2.1), .int .i64 x.2.2], .int .i64 E]) ∧ Has W w' ((BookT B R P.1 P.2).sep ((BoxT 37 (A + 2) #[.int .i64 0, .string ⟨#[]⟩, .int .i64 0]).sep R1))) := Lib.hid (by
          rw [HE.out.1, HE.out.2.1, HE.out.2.2]; exact bentry H0.out HT.out ui HU.out.2.2.2 hok hql)
        go_wp2_with (go_at_call 21; refine HEN.out.mono ?_; rintro e w7 ⟨rfl, h7⟩; have H8 := Lib.hid (box2_set h7 (.int .i64 x.1) (.string (S x.2.1)) (.int .i64 x.2.2)); have bx := box2_at h7; have r0 := cellOf bx (i := 0) (v := .int .i64 0) rfl; have r1 := cellOf bx (i := 1) (v := .string ⟨#[]⟩) rfl; have r2 := cellOf bx (i := 2) (v := .int .i64 0) rfl; have z0 := frozenOf bx 0; have z1 := frozenOf bx 1; have z2 := frozenOf bx 2; clear bx h7)
        go_meet
        exact ⟨rfl, H8⟩
      · have e1 : (uk == 1) = false := by simpa using k1
        by_cases k2 : uk = 2
        · subst k2
          have HEN : Hid (Calls Tryd.prog 22 #[.pointer (some ⟨B, 0, none⟩), .int .i64 ui] w6 fun e w' => e = .returned (.tuple #[.agg #[.int .i64 x.1, .string (S x.2.1), .int .i64 x.2.2], .int .i64 E]) ∧ Has W w' ((BookT B R P.1 P.2).sep ((BoxT 37 (A + 2) #[.int .i64 0, .string ⟨#[]⟩, .int .i64 0]).sep R1))) := Lib.hid (by
            rw [HE.out.1, HE.out.2.1, HE.out.2.2]; exact bhead H0.out HT.out ui hok hql)
          go_wp2_with (go_at_call 22; refine HEN.out.mono ?_; rintro e w7 ⟨rfl, h7⟩; have H8 := Lib.hid (box2_set h7 (.int .i64 x.1) (.string (S x.2.1)) (.int .i64 x.2.2)); have bx := box2_at h7; have r0 := cellOf bx (i := 0) (v := .int .i64 0) rfl; have r1 := cellOf bx (i := 1) (v := .string ⟨#[]⟩) rfl; have r2 := cellOf bx (i := 2) (v := .int .i64 0) rfl; have z0 := frozenOf bx 0; have z1 := frozenOf bx 1; have z2 := frozenOf bx 2; clear bx h7)
          go_meet
          exact ⟨rfl, H8⟩
        · have e2 : (uk == 2) = false := by simpa using k2
          by_cases k3 : uk = 3
          · subst k3
            have HEN : Hid (Calls Tryd.prog 23 #[.pointer (some ⟨B, 0, none⟩), .string (S un), .int .i64 ui] w6 fun e w' => e = .returned (.tuple #[.agg #[.int .i64 x.1, .string (S x.2.1), .int .i64 x.2.2], .int .i64 E]) ∧ Has W w' ((BookT B R P.1 P.2).sep ((BoxT 37 (A + 2) #[.int .i64 0, .string ⟨#[]⟩, .int .i64 0]).sep R1))) := Lib.hid (by
              rw [HE.out.1, HE.out.2.1, HE.out.2.2]; exact babsent H0.out HT.out un ui hok hql)
            go_wp2_with (go_at_call 23; refine HEN.out.mono ?_; rintro e w7 ⟨rfl, h7⟩; have H8 := Lib.hid (box2_set h7 (.int .i64 x.1) (.string (S x.2.1)) (.int .i64 x.2.2)); have bx := box2_at h7; have r0 := cellOf bx (i := 0) (v := .int .i64 0) rfl; have r1 := cellOf bx (i := 1) (v := .string ⟨#[]⟩) rfl; have r2 := cellOf bx (i := 2) (v := .int .i64 0) rfl; have z0 := frozenOf bx 0; have z1 := frozenOf bx 1; have z2 := frozenOf bx 2; clear bx h7)
            go_meet
            exact ⟨rfl, H8⟩
          · have e3 : (uk == 3) = false := by simpa using k3
            have hop : tuO s.k (uk, un, ut, ui) = (4, s.k, []) := by unfold tuO; rw [if_neg k0, if_neg (by omega)]
            have hkd : ¬ (1 ≤ uk ∧ uk ≤ 3) := by omega
            obtain rfl : x = (0, [], 0) := by rw [HE.out.1]; unfold tuX; rw [if_neg hkd]
            obtain rfl : E = 4 := by rw [HE.out.2.1]; unfold tuF; rw [if_neg hkd]
            obtain rfl : P = (s, q) := by
              rw [HE.out.2.2, hop]
              show (opB s (4, s.k, []), qO q (opO s (4, s.k, []))) = (s, q)
              have h1 : opO s (4, s.k, []) = none := by
                unfold opO
                rw [if_neg (show ¬ ((4 : Int) = 0) by decide), if_neg (show ¬ ((4 : Int) = 1) by decide), if_neg (show ¬ ((4 : Int) = 2) by decide), if_neg (show ¬ ((4 : Int) = 3) by decide), if_pos rfl]
              rw [h1]; rfl
            go_wp2_with fail
            go_meet
            exact ⟨rfl, H0⟩
  case rest =>
    rename World => w9
    obtain ⟨rfl, H9⟩ := hcut
    clear H0 HC HE HU HFE c0 c1 c2 c3
    obtain ⟨x0, x1, x2⟩ := x
    have h9 := H9.out
    rw [HR1.out] at h9
    have hb := h9.right.boxed
    have hr := h9.right.right.boxed
    have y0 : w9.cell? ⟨A + 2, 0, none⟩ = some (.int .i64 x0) := cellOf hb rfl
    have y1 : w9.cell? ⟨A + 2, 1, none⟩ = some (.string (S x1)) := cellOf hb rfl
    have y2 : w9.cell? ⟨A + 2, 2, none⟩ = some (.int .i64 x2) := cellOf hb rfl
    have r0 := cellOf hr (i := 0) (v := .int .i64 0) rfl
    have r1 := cellOf hr (i := 1) (v := .string ⟨#[]⟩) rfl
    have r2 := cellOf hr (i := 2) (v := .int .i64 0) rfl
    have z0 := frozenOf hr 0
    have z1 := frozenOf hr 1
    have z2 := frozenOf hr 2
    have h10 := (((h9.turn.right.turn.set 0 (.int .i64 x0)).set 1 (.string (S x1))).set 2 (.int .i64 x2))
    have d0 := cellOf h10.boxed (i := 0) (v := .int .i64 x0) rfl
    have d1 := cellOf h10.boxed (i := 1) (v := .string (S x1)) rfl
    have d2 := cellOf h10.boxed (i := 2) (v := .int .i64 x2) rfl
    have H10 := Lib.hid (h10.right.turn.right)
    clear hb hr h9 h10 HR1
    have hE0 : decide (E = 0) = (E == 0) := rfl
    go_wp2_with fail
    refine bodyPost_ret (v := askV (x0, x1, x2) E) (by simp [results, Tryd.results9, go_sem, d0, d1, d2]; rfl) rfl ⟨rfl, H10.out⟩
end
end Go.Proofs.YthppefkamklakaaDoor
