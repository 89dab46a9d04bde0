/-
  Book: Head.
-/
import Derived.Test.YthppefkamklakaaDoorBd
namespace Go.Proofs.YthppefkamklakaaDoor
open Go.RowKit Go.MapKept Go.Maps Go.WideMaps

noncomputable def hdE (s : BS) (now : Int) : Int := if now < 0 ∨ 1073741824 < now then 1 else if now < s.t ∨ (now = s.t ∧ (s.es.length : Int) ≠ s.n) then 7 else 0
noncomputable def hdO (s : BS) (now : Int) : Option Sd := if hdE s now = 0 then some (s.k, textR ⟨1, s.es.length, now, []⟩) else none
noncomputable def hdS (s : BS) (now : Int) : BS := if hdE s now = 0 then { s with n := s.es.length, t := now } else s
theorem hd_arg {s : BS} {now : Int} (h : now < 0 ∨ 1073741824 < now) : hdE s now = 1 ∧ hdO s now = none ∧ hdS s now = s := by
  have h1 : hdE s now = 1 := by unfold hdE; rw [if_pos h]
  exact ⟨h1, by unfold hdO; rw [h1, if_neg (by decide)], by unfold hdS; rw [h1, if_neg (by decide)]⟩
theorem hd_state {s : BS} {now : Int} (h : ¬ (now < 0 ∨ 1073741824 < now)) (h2 : now < s.t ∨ (now = s.t ∧ (s.es.length : Int) ≠ s.n)) : hdE s now = 7 ∧ hdO s now = none ∧ hdS s now = s := by
  have h1 : hdE s now = 7 := by unfold hdE; rw [if_neg h, if_pos h2]
  exact ⟨h1, by unfold hdO; rw [h1, if_neg (by decide)], by unfold hdS; rw [h1, if_neg (by decide)]⟩
theorem hd_ok {s : BS} {now : Int} (h : ¬ (now < 0 ∨ 1073741824 < now)) (h2 : ¬ (now < s.t ∨ (now = s.t ∧ (s.es.length : Int) ≠ s.n))) : hdE s now = 0 ∧ hdO s now = some (s.k, textR ⟨1, s.es.length, now, []⟩) ∧ hdS s now = { s with n := s.es.length, t := now } := by
  have h1 : hdE s now = 0 := by unfold hdE; rw [if_neg h, if_neg h2]
  exact ⟨h1, by unfold hdO; rw [h1, if_pos rfl], by unfold hdS; rw [h1, if_pos rfl]⟩
theorem BP.head {W w : World} {B R M : Nat} {ev : Value} {m : Nat} {s : BS} {q : List Sd} {U : Thing} (h : BP W w B R M ev m s q U) (n t : Int) :
    Has W ((w.setCell ⟨B, 4, none⟩ (.int .i64 n)).setCell ⟨B, 5, none⟩ (.int .i64 t)) ((BookT B R { s with n := n, t := t } q).sep U) := by
  have h1 := (((Has.turn h).set 4 (.int .i64 n)).set 5 (.int .i64 t)).turn
  exact BP.close (M := M) (ev := ev) (m := m) (s := { s with n := n, t := t }) h1
set_option maxHeartbeats 2000000 in
set_option maxRecDepth 100000 in
theorem bhead_arg {W w : World} {B R : Nat} {s : BS} {q : List Sd} {U : Thing} (h : Has W w ((BookT B R s q).sep U)) (now : Int) (hx : now < 0 ∨ 1073741824 < now) :
    Calls Tryd.prog 22 #[.pointer (some ⟨B, 0, none⟩), .int .i64 now] w fun e w' => e = .returned (.tuple #[sgV (0, [], 0), .int .i64 1]) ∧ Has W w' ((BookT B R s q).sep U) := by
  have HS := Lib.hid h.sgBox
  clear h
  by_cases h0 : now < 0
  · clear hx
    go_enter Tryd.func22, Tryd.ntmps22
    go_wp2_with fail
    refine bodyPost_ret (v := .tuple #[sgV (0, [], 0), .int .i64 1]) (by simp [results, Tryd.results22, go_sem]; rfl) rfl ⟨rfl, ?_⟩
    exact HS.out.turn.right
  · have h1 : (1073741824 : Int) < now := by omega
    clear hx
    go_enter Tryd.func22, Tryd.ntmps22
    go_wp2_with fail
    refine bodyPost_ret (v := .tuple #[sgV (0, [], 0), .int .i64 1]) (by simp [results, Tryd.results22, go_sem]; rfl) rfl ⟨rfl, ?_⟩
    exact HS.out.turn.right
set_option maxHeartbeats 2000000 in
set_option maxRecDepth 100000 in
theorem bhead_state {W w : World} {B R : Nat} {s : BS} {q : List Sd} {U : Thing} (h : Has W w ((BookT B R s q).sep U)) (now : Int) (h0 : 0 ≤ now) (h1 : now ≤ 1073741824) (hx : now < s.t ∨ (now = s.t ∧ (s.es.length : Int) ≠ s.n)) :
    Calls Tryd.prog 22 #[.pointer (some ⟨B, 0, none⟩), .int .i64 now] w fun e w' => e = .returned (.tuple #[sgV (0, [], 0), .int .i64 7]) ∧ Has W w' ((BookT B R s q).sep U) := by
  have HS := Lib.hid h.sgBox
  have hbx : ∃ w1, w1 = (w.alloc (.cells #[.int .i64 0, .string ⟨#[]⟩, .int .i64 0] 37)).alloc (.cells #[.int .i64 s.es.length, .int .i64 now] 61) ∧ Has W w1 ((BookT B R s q).sep ((BoxT 61 (w.heap.size + 1) #[.int .i64 s.es.length, .int .i64 now]).sep ((BoxT 37 w.heap.size #[.int .i64 0, .string ⟨#[]⟩, .int .i64 0]).sep U))) := by
    have h2 := (HS.out.box 61 #[.int .i64 s.es.length, .int .i64 now]).turn
    rw [show (w.alloc (.cells #[.int .i64 0, .string ⟨#[]⟩, .int .i64 0] 37)).heap.size = w.heap.size + 1 by simp] at h2
    exact ⟨_, rfl, h2⟩
  obtain ⟨w1, hw1, hS1⟩ := hbx
  obtain ⟨M, ev, m, hb⟩ := HS.out.bopen
  have c2 : (w.alloc (.cells #[.int .i64 0, .string ⟨#[]⟩, .int .i64 0] 37)).cell? ⟨B, 2, none⟩ = some ev := cellOf hb.heap rfl
  obtain ⟨a, c, rfl⟩ := row_form hb.row
  have h0' : ¬ (now < 0) := by omega
  have h1' : ¬ (1073741824 < now) := by omega
  have HW1 := Lib.hid hw1
  have H1 := Lib.hid hS1
  clear h hb hw1 hS1 h0 h1
  have hx' : now < s.t ∨ (s.t = now ∧ (s.es.length : Int) ≠ s.n) := by omega
  clear hx
  rcases hx' with hlt | ⟨heq, hne⟩
  · go_enter Tryd.func22, Tryd.ntmps22
    go_upto_region 4 with fail
    rw [← HW1.out]
    obtain ⟨P, hP⟩ : ∃ P, P = w.heap.size + 1 := ⟨_, rfl⟩
    rw [← hP] at H1 ⊢
    clear HW1 hP c2 HS
    obtain ⟨M1, ev1, m1, hb1⟩ := H1.out.bopen
    have b2 : w1.cell? ⟨B, 2, none⟩ = some ev1 := cellOf hb1.heap rfl
    have b4 : w1.cell? ⟨B, 4, none⟩ = some (.int .i64 s.n) := cellOf hb1.heap rfl
    have b5 : w1.cell? ⟨B, 5, none⟩ = some (.int .i64 s.t) := cellOf hb1.heap rfl
    have hH := H1.out.right.boxed
    have p0 : w1.cell? ⟨P, 0, none⟩ = some (.int .i64 s.es.length) := cellOf hH rfl
    have p1 : w1.cell? ⟨P, 1, none⟩ = some (.int .i64 now) := cellOf hH rfl
    clear hb1 hH
    go_quiet (fail)
    have H3 := Lib.hid ((H1.out.fr (Fr.drewN w1 nq)).turn.right)
    generalize w1.drewN nq = w3 at *
    clear b2 b4 b5 p0 p1 H1
    have hR := H3.out.turn.boxed
    have d0 : w3.cell? ⟨w.heap.size, 0, none⟩ = some (.int .i64 0) := cellOf hR rfl
    have d1 : w3.cell? ⟨w.heap.size, 1, none⟩ = some (.string ⟨#[]⟩) := cellOf hR rfl
    have d2 : w3.cell? ⟨w.heap.size, 2, none⟩ = some (.int .i64 0) := cellOf hR rfl
    have e0 := frozenOf hR 0
    have e1 := frozenOf hR 1
    have e2 := frozenOf hR 2
    clear hR
    go_wp2_with fail
    obtain ⟨hR, hF⟩ := sg_end H3.out (.int .i64 0) (.string ⟨#[]⟩) (.int .i64 0)
    generalize (((w3.setCell ⟨w.heap.size, 0, none⟩ (.int .i64 0)).setCell ⟨w.heap.size, 1, none⟩ (.string ⟨#[]⟩)).setCell ⟨w.heap.size, 2, none⟩ (.int .i64 0)) = w4 at *
    have k0 : w4.cell? ⟨w.heap.size, 0, none⟩ = some (.int .i64 0) := cellOf hR rfl
    have k1 : w4.cell? ⟨w.heap.size, 1, none⟩ = some (.string ⟨#[]⟩) := cellOf hR rfl
    have k2 : w4.cell? ⟨w.heap.size, 2, none⟩ = some (.int .i64 0) := cellOf hR rfl
    refine bodyPost_ret (v := .tuple #[sgV (0, [], 0), .int .i64 7]) (by simp [results, Tryd.results22, go_sem, k0, k1, k2]; rfl) rfl ⟨rfl, ?_⟩
    exact hF
  · have hlt : ¬ (now < s.t) := by omega
    go_enter Tryd.func22, Tryd.ntmps22
    go_upto_region 4 with fail
    rw [← HW1.out]
    obtain ⟨P, hP⟩ : ∃ P, P = w.heap.size + 1 := ⟨_, rfl⟩
    rw [← hP] at H1 ⊢
    clear HW1 hP c2 HS
    obtain ⟨M1, ev1, m1, hb1⟩ := H1.out.bopen
    have b2 : w1.cell? ⟨B, 2, none⟩ = some ev1 := cellOf hb1.heap rfl
    have b4 : w1.cell? ⟨B, 4, none⟩ = some (.int .i64 s.n) := cellOf hb1.heap rfl
    have b5 : w1.cell? ⟨B, 5, none⟩ = some (.int .i64 s.t) := cellOf hb1.heap rfl
    have hH := H1.out.right.boxed
    have p0 : w1.cell? ⟨P, 0, none⟩ = some (.int .i64 s.es.length) := cellOf hH rfl
    have p1 : w1.cell? ⟨P, 1, none⟩ = some (.int .i64 now) := cellOf hH rfl
    clear hb1 hH
    go_quiet (fail)
    have H3 := Lib.hid ((H1.out.fr (Fr.drewN w1 nq)).turn.right)
    generalize w1.drewN nq = w3 at *
    clear b2 b4 b5 p0 p1 H1
    have hR := H3.out.turn.boxed
    have d0 : w3.cell? ⟨w.heap.size, 0, none⟩ = some (.int .i64 0) := cellOf hR rfl
    have d1 : w3.cell? ⟨w.heap.size, 1, none⟩ = some (.string ⟨#[]⟩) := cellOf hR rfl
    have d2 : w3.cell? ⟨w.heap.size, 2, none⟩ = some (.int .i64 0) := cellOf hR rfl
    have e0 := frozenOf hR 0
    have e1 := frozenOf hR 1
    have e2 := frozenOf hR 2
    clear hR
    go_wp2_with fail
    obtain ⟨hR, hF⟩ := sg_end H3.out (.int .i64 0) (.string ⟨#[]⟩) (.int .i64 0)
    generalize (((w3.setCell ⟨w.heap.size, 0, none⟩ (.int .i64 0)).setCell ⟨w.heap.size, 1, none⟩ (.string ⟨#[]⟩)).setCell ⟨w.heap.size, 2, none⟩ (.int .i64 0)) = w4 at *
    have k0 : w4.cell? ⟨w.heap.size, 0, none⟩ = some (.int .i64 0) := cellOf hR rfl
    have k1 : w4.cell? ⟨w.heap.size, 1, none⟩ = some (.string ⟨#[]⟩) := cellOf hR rfl
    have k2 : w4.cell? ⟨w.heap.size, 2, none⟩ = some (.int .i64 0) := cellOf hR rfl
    refine bodyPost_ret (v := .tuple #[sgV (0, [], 0), .int .i64 7]) (by simp [results, Tryd.results22, go_sem, k0, k1, k2]; rfl) rfl ⟨rfl, ?_⟩
    exact hF
set_option maxHeartbeats 2000000 in
set_option maxRecDepth 100000 in
theorem bhead_ok {W w : World} {B R : Nat} {s : BS} {q : List Sd} {U : Thing} (h : Has W w ((BookT B R s q).sep U)) (now : Int) (h0 : 0 ≤ now) (h1 : now ≤ 1073741824) (hx : ¬ (now < s.t ∨ (now = s.t ∧ (s.es.length : Int) ≠ s.n))) (hT : Tab W) (hs : s.ok) (hq : q.length ≤ 1000000) :
    Calls Tryd.prog 22 #[.pointer (some ⟨B, 0, none⟩), .int .i64 now] w fun e w' => e = .returned (.tuple #[sgV (signR q (s.k, textR ⟨1, s.es.length, now, []⟩)), .int .i64 0]) ∧ Has W w' ((BookT B R { s with n := s.es.length, t := now } (signL q (s.k, textR ⟨1, s.es.length, now, []⟩))).sep U) := by
  have HC := Lib.hid (fits3 1 (by decide) s.es.length (by have := hs.1; constructor <;> omega) now ⟨h0, h1⟩ [] (by decide))
  have HT := Lib.hid hT
  clear hT hs
  have HS := Lib.hid h.sgBox
  have hbx : ∃ w1, w1 = (w.alloc (.cells #[.int .i64 0, .string ⟨#[]⟩, .int .i64 0] 37)).alloc (.cells #[.int .i64 s.es.length, .int .i64 now] 61) ∧ Has W w1 ((BookT B R s q).sep ((BoxT 61 (w.heap.size + 1) #[.int .i64 s.es.length, .int .i64 now]).sep ((BoxT 37 w.heap.size #[.int .i64 0, .string ⟨#[]⟩, .int .i64 0]).sep U))) := by
    have h2 := (HS.out.box 61 #[.int .i64 s.es.length, .int .i64 now]).turn
    rw [show (w.alloc (.cells #[.int .i64 0, .string ⟨#[]⟩, .int .i64 0] 37)).heap.size = w.heap.size + 1 by simp] at h2
    exact ⟨_, rfl, h2⟩
  obtain ⟨w1, hw1, hS1⟩ := hbx
  obtain ⟨M, ev, m, hb⟩ := HS.out.bopen
  have c2 : (w.alloc (.cells #[.int .i64 0, .string ⟨#[]⟩, .int .i64 0] 37)).cell? ⟨B, 2, none⟩ = some ev := cellOf hb.heap rfl
  obtain ⟨a, c, rfl⟩ := row_form hb.row
  have h0' : ¬ (now < 0) := by omega
  have h1' : ¬ (1073741824 < now) := by omega
  have HW1 := Lib.hid hw1
  have H1 := Lib.hid hS1
  clear h hb hw1 hS1 h0 h1
  have hlt : ¬ (now < s.t) := by omega
  have hx2 : ¬ (now = s.t) ∨ (s.t = now ∧ s.n = (s.es.length : Int)) := by omega
  clear hx
  rcases hx2 with hne | ⟨hq2, heq⟩
  · go_enter Tryd.func22, Tryd.ntmps22
    go_upto_region 4 with fail
    rw [← HW1.out]
    obtain ⟨P, hP⟩ : ∃ P, P = w.heap.size + 1 := ⟨_, rfl⟩
    rw [← hP] at H1 ⊢
    clear HW1 hP c2 HS
    obtain ⟨M1, ev1, m1, hb1⟩ := H1.out.bopen
    have b2 : w1.cell? ⟨B, 2, none⟩ = some ev1 := cellOf hb1.heap rfl
    have b4 : w1.cell? ⟨B, 4, none⟩ = some (.int .i64 s.n) := cellOf hb1.heap rfl
    have b5 : w1.cell? ⟨B, 5, none⟩ = some (.int .i64 s.t) := cellOf hb1.heap rfl
    have hH := H1.out.right.boxed
    have p0 : w1.cell? ⟨P, 0, none⟩ = some (.int .i64 s.es.length) := cellOf hH rfl
    have p1 : w1.cell? ⟨P, 1, none⟩ = some (.int .i64 now) := cellOf hH rfl
    clear hb1 hH
    go_quiet (fail)
    have H2 := Lib.hid (H1.out.fr (Fr.drewN w1 nq))
    generalize w1.drewN nq = w2 at *
    clear b2 b4 b5 p0 p1 H1
    obtain ⟨M2, ev2, m2, hb2⟩ := H2.out.bopen
    have c4 : w2.cell? ⟨B, 4, none⟩ = some (.int .i64 s.n) := cellOf hb2.heap rfl
    have c5 : w2.cell? ⟨B, 5, none⟩ = some (.int .i64 s.t) := cellOf hb2.heap rfl
    have f4 := frozenOf hb2.heap 4
    have f5 := frozenOf hb2.heap 5
    have hH := H2.out.right.boxed
    have p0 : w2.cell? ⟨P, 0, none⟩ = some (.int .i64 s.es.length) := cellOf hH rfl
    have p1 : w2.cell? ⟨P, 1, none⟩ = some (.int .i64 now) := cellOf hH rfl
    have HB := Lib.hid (hb2.head s.es.length now)
    clear hb2 hH
    go_upto_region 7 with fail
    generalize (w2.setCell ⟨B, 4, none⟩ (.int .i64 s.es.length)).setCell ⟨B, 5, none⟩ (.int .i64 now) = wa at *
    clear c4 c5 f4 f5 p0 p1
    have hH := HB.out.right.boxed
    have p0 : wa.cell? ⟨P, 0, none⟩ = some (.int .i64 s.es.length) := cellOf hH rfl
    have p1 : wa.cell? ⟨P, 1, none⟩ = some (.int .i64 now) := cellOf hH rfl
    clear hH
    go_wp2_with (first
      | (go_at_call 40; refine (bsign HB.out HT.out ⟨1, s.es.length, now, []⟩ HC.out hq).mono ?_; rintro e w3 ⟨rfl, h3⟩
         obtain ⟨g, hg⟩ : ∃ g, g = signR q (s.k, textR ⟨1, s.es.length, now, []⟩) := ⟨_, rfl⟩
         rw [← hg]
         have HG := Lib.hid hg
         have h3 := h3.turn.right
         have hR := h3.turn.boxed
         have d0 : w3.cell? ⟨w.heap.size, 0, none⟩ = some (.int .i64 0) := cellOf hR rfl
         have d1 : w3.cell? ⟨w.heap.size, 1, none⟩ = some (.string ⟨#[]⟩) := cellOf hR rfl
         have d2 : w3.cell? ⟨w.heap.size, 2, none⟩ = some (.int .i64 0) := cellOf hR rfl
         have e0 := frozenOf hR 0
         have e1 := frozenOf hR 1
         have e2 := frozenOf hR 2
         have H3 := Lib.hid h3
         unfold sgV
         clear hg hR h3))
    obtain ⟨hR, hF⟩ := sg_end H3.out (.int .i64 g.1) (.string (S g.2.1)) (.int .i64 g.2.2)
    generalize (((w3.setCell ⟨w.heap.size, 0, none⟩ (.int .i64 g.1)).setCell ⟨w.heap.size, 1, none⟩ (.string (S g.2.1))).setCell ⟨w.heap.size, 2, none⟩ (.int .i64 g.2.2)) = w4 at *
    have k0 : w4.cell? ⟨w.heap.size, 0, none⟩ = some (.int .i64 g.1) := cellOf hR rfl
    have k1 : w4.cell? ⟨w.heap.size, 1, none⟩ = some (.string (S g.2.1)) := cellOf hR rfl
    have k2 : w4.cell? ⟨w.heap.size, 2, none⟩ = some (.int .i64 g.2.2) := cellOf hR rfl
    refine bodyPost_ret (v := .tuple #[sgV g, .int .i64 0]) (by simp [results, Tryd.results22, go_sem, k0, k1, k2]; rfl) rfl ⟨by rw [HG.out], ?_⟩
    exact hF
  · go_enter Tryd.func22, Tryd.ntmps22
    go_upto_region 4 with fail
    rw [← HW1.out]
    obtain ⟨P, hP⟩ : ∃ P, P = w.heap.size + 1 := ⟨_, rfl⟩
    rw [← hP] at H1 ⊢
    clear HW1 hP c2 HS
    obtain ⟨M1, ev1, m1, hb1⟩ := H1.out.bopen
    have b2 : w1.cell? ⟨B, 2, none⟩ = some ev1 := cellOf hb1.heap rfl
    have b4 : w1.cell? ⟨B, 4, none⟩ = some (.int .i64 s.n) := cellOf hb1.heap rfl
    have b5 : w1.cell? ⟨B, 5, none⟩ = some (.int .i64 s.t) := cellOf hb1.heap rfl
    have hH := H1.out.right.boxed
    have p0 : w1.cell? ⟨P, 0, none⟩ = some (.int .i64 s.es.length) := cellOf hH rfl
    have p1 : w1.cell? ⟨P, 1, none⟩ = some (.int .i64 now) := cellOf hH rfl
    clear hb1 hH
    go_quiet (fail)
    have H2 := Lib.hid (H1.out.fr (Fr.drewN w1 nq))
    generalize w1.drewN nq = w2 at *
    clear b2 b4 b5 p0 p1 H1
    obtain ⟨M2, ev2, m2, hb2⟩ := H2.out.bopen
    have c4 : w2.cell? ⟨B, 4, none⟩ = some (.int .i64 s.n) := cellOf hb2.heap rfl
    have c5 : w2.cell? ⟨B, 5, none⟩ = some (.int .i64 s.t) := cellOf hb2.heap rfl
    have f4 := frozenOf hb2.heap 4
    have f5 := frozenOf hb2.heap 5
    have hH := H2.out.right.boxed
    have p0 : w2.cell? ⟨P, 0, none⟩ = some (.int .i64 s.es.length) := cellOf hH rfl
    have p1 : w2.cell? ⟨P, 1, none⟩ = some (.int .i64 now) := cellOf hH rfl
    have HB := Lib.hid (hb2.head s.es.length now)
    clear hb2 hH
    go_upto_region 7 with fail
    generalize (w2.setCell ⟨B, 4, none⟩ (.int .i64 s.es.length)).setCell ⟨B, 5, none⟩ (.int .i64 now) = wa at *
    clear c4 c5 f4 f5 p0 p1
    have hH := HB.out.right.boxed
    have p0 : wa.cell? ⟨P, 0, none⟩ = some (.int .i64 s.es.length) := cellOf hH rfl
    have p1 : wa.cell? ⟨P, 1, none⟩ = some (.int .i64 now) := cellOf hH rfl
    clear hH
    go_wp2_with (first
      | (go_at_call 40; refine (bsign HB.out HT.out ⟨1, s.es.length, now, []⟩ HC.out hq).mono ?_; rintro e w3 ⟨rfl, h3⟩
         obtain ⟨g, hg⟩ : ∃ g, g = signR q (s.k, textR ⟨1, s.es.length, now, []⟩) := ⟨_, rfl⟩
         rw [← hg]
         have HG := Lib.hid hg
         have h3 := h3.turn.right
         have hR := h3.turn.boxed
         have d0 : w3.cell? ⟨w.heap.size, 0, none⟩ = some (.int .i64 0) := cellOf hR rfl
         have d1 : w3.cell? ⟨w.heap.size, 1, none⟩ = some (.string ⟨#[]⟩) := cellOf hR rfl
         have d2 : w3.cell? ⟨w.heap.size, 2, none⟩ = some (.int .i64 0) := cellOf hR rfl
         have e0 := frozenOf hR 0
         have e1 := frozenOf hR 1
         have e2 := frozenOf hR 2
         have H3 := Lib.hid h3
         unfold sgV
         clear hg hR h3))
    obtain ⟨hR, hF⟩ := sg_end H3.out (.int .i64 g.1) (.string (S g.2.1)) (.int .i64 g.2.2)
    generalize (((w3.setCell ⟨w.heap.size, 0, none⟩ (.int .i64 g.1)).setCell ⟨w.heap.size, 1, none⟩ (.string (S g.2.1))).setCell ⟨w.heap.size, 2, none⟩ (.int .i64 g.2.2)) = w4 at *
    have k0 : w4.cell? ⟨w.heap.size, 0, none⟩ = some (.int .i64 g.1) := cellOf hR rfl
    have k1 : w4.cell? ⟨w.heap.size, 1, none⟩ = some (.string (S g.2.1)) := cellOf hR rfl
    have k2 : w4.cell? ⟨w.heap.size, 2, none⟩ = some (.int .i64 g.2.2) := cellOf hR rfl
    refine bodyPost_ret (v := .tuple #[sgV g, .int .i64 0]) (by simp [results, Tryd.results22, go_sem, k0, k1, k2]; rfl) rfl ⟨by rw [HG.out], ?_⟩
    exact hF
theorem bhead {W w : World} {B R : Nat} {s : BS} {q : List Sd} {U : Thing} (h : Has W w ((BookT B R s q).sep U)) (hT : Tab W) (now : Int) (hs : s.ok) (hq : q.length ≤ 1000000) :
    Calls Tryd.prog 22 #[.pointer (some ⟨B, 0, none⟩), .int .i64 now] w fun e w' => e = .returned (.tuple #[sgV (sgO q (hdO s now)), .int .i64 (hdE s now)]) ∧ Has W w' ((BookT B R (hdS s now) (qO q (hdO s now))).sep U) := by
  by_cases hx : now < 0 ∨ 1073741824 < now
  · obtain ⟨h1, h2, h3⟩ := hd_arg (s := s) hx
    rw [h1, h2, h3]
    exact bhead_arg h now hx
  · by_cases h2 : now < s.t ∨ (now = s.t ∧ (s.es.length : Int) ≠ s.n)
    · obtain ⟨h3, h4, h5⟩ := hd_state hx h2
      rw [h3, h4, h5]
      exact bhead_state h now (by omega) (by omega) h2
    · obtain ⟨h3, h4, h5⟩ := hd_ok hx h2
      rw [h3, h4, h5]
      exact bhead_ok h now (by omega) (by omega) h2 hT hs hq
end Go.Proofs.YthppefkamklakaaDoor
