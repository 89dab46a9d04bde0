/-
  The reference's book in memory (RBookT); New, Text, Append, sign.
-/
import Derived.Test.YtailbappdfbjoaaDoorBe
namespace Go.Proofs.YtailbappdfbjoaaDoor
open Go.RowKit Go.MapKept Go.Maps Go.WideMaps

def RBookT (B R : Nat) (s : BS) (q : List Sd) : Thing where
  at_ w O := ∃ ev, ((RefT R q).sep ((BoxT 48 B #[.pointer (some ⟨R, 0, none⟩), .int .i64 s.k, ev, .int .i64 s.t, .int .i64 s.n]).sep (RowT 9 1 ev s.es.length (strs s.es)))).at_ w O
  bound h k hk := let ⟨_, h'⟩ := h; Thing.bound _ h' k hk
  frame h hs hw := let ⟨ev, h'⟩ := h; ⟨ev, Thing.frame _ h' hs hw⟩
/-- Its parts. -/
def RP (W w : World) (B R : Nat) (ev : Value) (s : BS) (q : List Sd) (U : Thing) : Prop := Has W w ((RefT R q).sep ((BoxT 48 B #[.pointer (some ⟨R, 0, none⟩), .int .i64 s.k, ev, .int .i64 s.t, .int .i64 s.n]).sep ((RowT 9 1 ev s.es.length (strs s.es)).sep U)))
theorem Has.ropen {W w : World} {B R : Nat} {s : BS} {q : List Sd} {U : Thing} (h : Has W w ((RBookT B R s q).sep U)) : ∃ ev, RP W w B R ev s q U := by
  obtain ⟨hf, O, ⟨O1, O2, ⟨ev, h1⟩, h2, h3, h4⟩, hO⟩ := h
  refine ⟨ev, ?_⟩
  have h5 : Has W w (((RefT R q).sep ((BoxT 48 B #[.pointer (some ⟨R, 0, none⟩), .int .i64 s.k, ev, .int .i64 s.t, .int .i64 s.n]).sep (RowT 9 1 ev s.es.length (strs s.es)))).sep U) := ⟨hf, O, ⟨O1, O2, h1, h2, h3, h4⟩, hO⟩
  exact h5.assoc.map fun _ h => sep_under h fun _ h => sep_assoc h
theorem RP.close {W w : World} {B R : Nat} {ev : Value} {s : BS} {q : List Sd} {U : Thing} (h : RP W w B R ev s q U) : Has W w ((RBookT B R s q).sep U) := by
  have h1 := (Has.map h fun _ h => sep_under h fun _ h => sep_assoc' h).assoc'
  obtain ⟨hf, O, ⟨O1, O2, h2, h3, h4, h5⟩, hO⟩ := h1
  exact ⟨hf, O, ⟨O1, O2, ⟨ev, h2⟩, h3, h4, h5⟩, hO⟩
theorem RP.heap {W w : World} {B R : Nat} {ev : Value} {s : BS} {q : List Sd} {U : Thing} (h : RP W w B R ev s q U) : w.heap[B]? = some (.cells #[.pointer (some ⟨R, 0, none⟩), .int .i64 s.k, ev, .int .i64 s.t, .int .i64 s.n] 48 (0, 0)) := (Has.right h).boxed
theorem RP.row {W w : World} {B R : Nat} {ev : Value} {s : BS} {q : List Sd} {U : Thing} (h : RP W w B R ev s q U) : w.ownsRow 0 9 1 ev s.es.length (strs s.es) := (Has.right (Has.right h)).row
theorem RP.fr {W w w' : World} {B R : Nat} {ev : Value} {s : BS} {q : List Sd} {U : Thing} (h : RP W w B R ev s q U) (hf : Fr w w') : RP W w' B R ev s q U := Has.fr h hf

/-! ### New -/
set_option maxRecDepth 100000 in
theorem rbnew_no (a : Option Addr) (k : Int) (w : World) (hk : ¬ IsKey k) :
    Calls Tryd.prog 12 #[.pointer a, .int .i64 k] w fun e w' => e = .returned (.tuple #[.pointer none, .int .i64 22]) ∧ Fr w w' := by
  rcases notKey hk with h | ⟨h0, h⟩
  · go_enter Tryd.func12, Tryd.ntmps12
    go_wp2_with fail
    go_ret2
    exact ⟨rfl, Fr.refl _⟩
  · go_enter Tryd.func12, Tryd.ntmps12
    go_wp2_with fail
    go_ret2
    exact ⟨rfl, Fr.refl _⟩
theorem rbnew_has {W w : World} {R : Nat} {q : List Sd} {U : Thing} (h : Has W w ((RefT R q).sep U)) (k : Int) :
    Has W (w.alloc (.cells #[.pointer (some ⟨R, 0, none⟩), .int .i64 k, .slice none 0 0, .int .i64 (-1), .int .i64 0] 48)) ((RBookT w.heap.size R ⟨k, [], 0, -1⟩ q).sep U) := by
  have h1 := h.nilRow 9 1
  have h2 := h1.box 48 #[.pointer (some ⟨R, 0, none⟩), .int .i64 k, .slice none 0 0, .int .i64 (-1), .int .i64 0]
  exact RP.close (ev := .slice none 0 0) h2.pull3
set_option maxRecDepth 100000 in
theorem rbnew_yes {W w : World} {R : Nat} {q : List Sd} {U : Thing} (h : Has W w ((RefT R q).sep U)) (k : Int) (hk : IsKey k) :
    Calls Tryd.prog 12 #[.pointer (some ⟨R, 0, none⟩), .int .i64 k] w fun e w' => ∃ B, e = .returned (.tuple #[.pointer (some ⟨B, 0, none⟩), .int .i64 0]) ∧ Has W w' ((RBookT B R ⟨k, [], 0, -1⟩ q).sep U) := by
  have h0 := hk.1
  have h1 := hk.2
  have H := Lib.hid h
  clear h hk
  go_enter Tryd.func12, Tryd.ntmps12
  go_wp2_with fail
  go_ret2
  exact ⟨_, rfl, rbnew_has H.out k⟩

/-! ### Text -/
set_option maxRecDepth 100000 in
theorem rbtext {W w : World} {B R : Nat} {s : BS} {q : List Sd} {U : Thing} (h : Has W w ((RBookT B R s q).sep U)) (i : Int) (hn : s.es.length ≤ 1000000) :
    Calls Tryd.prog 16 #[.pointer (some ⟨B, 0, none⟩), .int .i64 i] w fun e w' => e = .returned (txtV (txtO s i)) ∧ Fr w w' := by
  obtain ⟨ev, hp⟩ := h.ropen
  have c2 : w.cell? ⟨B, 2, none⟩ = some ev := cellOf hp.heap rfl
  have hrow := hp.row
  obtain ⟨a, c, rfl⟩ := row_form hrow
  cases ho : txtO s i with
  | none =>
    unfold txtV
    rcases txtO_no ho with h1 | ⟨h0, h1⟩
    · clear hp h ho hrow
      go_enter Tryd.func16, Tryd.ntmps16
      go_wp2_with fail
      go_ret2
      exact ⟨rfl, Fr.refl _⟩
    · clear hp h ho hrow
      go_enter Tryd.func16, Tryd.ntmps16
      go_wp2_with fail
      go_ret2
      exact ⟨rfl, Fr.refl _⟩
  | some t =>
    obtain ⟨h0, hi, ht⟩ := txtO_yes ho
    obtain ⟨j, rfl⟩ : ∃ j : Nat, i = j := ⟨i.toNat, by omega⟩
    simp only [Int.toNat_natCast] at hi ht
    obtain ⟨g, cap, he, hc⟩ := str_row hrow rfl (by omega)
    cases he
    have c9 := hc j hi
    rw [ht] at c9
    unfold txtV
    clear hp h ho hrow ht hc
    go_enter Tryd.func16, Tryd.ntmps16
    go_wp2_with fail
    go_ret2
    exact ⟨rfl, Fr.refl _⟩

/-! ### Append -/
theorem rkeyCall_none {t : Txt} (h : key t = none) (w : World) (ht : t.length ≤ 9223372036854775807) :
    Calls Tryd.prog 57 #[.string (S t)] w fun e w' => e = .returned (.tuple #[.string ⟨#[]⟩, .bool false]) ∧ Fr w w' :=
  (rkey_any t w ht).mono fun _ _ ⟨he, hf⟩ => ⟨by rw [he, h]; rfl, hf⟩
theorem rkeyCall_some {t k : Txt} (h : key t = some k) (w : World) (ht : t.length ≤ 9223372036854775807) :
    Calls Tryd.prog 57 #[.string (S t)] w fun e w' => e = .returned (.tuple #[.string (S k), .bool true]) ∧ Fr w w' :=
  (rkey_any t w ht).mono fun _ _ ⟨he, hf⟩ => ⟨by rw [he, h]; rfl, hf⟩
theorem RP.rowFirst {W w : World} {B R : Nat} {ev : Value} {s : BS} {q : List Sd} {U : Thing} (h : RP W w B R ev s q U) : Has W w ((RowT 9 1 ev s.es.length (strs s.es)).sep ((RefT R q).sep ((BoxT 48 B #[.pointer (some ⟨R, 0, none⟩), .int .i64 s.k, ev, .int .i64 s.t, .int .i64 s.n]).sep U))) := Has.pull3 h
theorem RP.appended {W w : World} {B R g cap : Nat} {s : BS} {t : Txt} {q : List Sd} {U : Thing} {ev : Value}
    (h : Has W w ((RowT 9 1 (.slice (some ⟨g, 0, none⟩) (s.es.length + 1) cap) (s.es.length + 1) (strs s.es ++ [.string (S t)])).sep ((RefT R q).sep ((BoxT 48 B #[.pointer (some ⟨R, 0, none⟩), .int .i64 s.k, ev, .int .i64 s.t, .int .i64 s.n]).sep U)))) :
    Has W (w.setCell ⟨B, 2, none⟩ (.slice (some ⟨g, 0, none⟩) (s.es.length + 1) cap)) ((RBookT B R { s with es := s.es ++ [t] } q).sep U) ∧
    (w.setCell ⟨B, 2, none⟩ (.slice (some ⟨g, 0, none⟩) (s.es.length + 1) cap)).cell? ⟨B, 2, none⟩ = some (.slice (some ⟨g, 0, none⟩) (s.es.length + 1) cap) := by
  have h1 := h.pull3.set 2 (.slice (some ⟨g, 0, none⟩) (s.es.length + 1) cap)
  rw [← strs_app] at h1
  have h3 := h1.pull3
  refine ⟨RP.close (ev := .slice (some ⟨g, 0, none⟩) (s.es.length + 1) cap) (s := { s with es := s.es ++ [t] }) ?_, cellOf h1.boxed rfl⟩
  show Has _ _ _
  rw [show ({ s with es := s.es ++ [t] } : BS).es.length = s.es.length + 1 from by simp]
  exact h3
set_option maxHeartbeats 1000000 in
set_option maxRecDepth 100000 in
theorem rbappend_yes {W w : World} {B R : Nat} {s : BS} {q : List Sd} {U : Thing} (h : Has W w ((RBookT B R s q).sep U)) (t k : Txt) (ht : t.length ≤ 9223372036854775807) (hk : key t = some k) (hl : t.length ≤ 20000) (hn : s.es.length ≤ 1000) :
    Calls Tryd.prog 35 #[.pointer (some ⟨B, 0, none⟩), .string (S t)] w fun e w' => e = .returned (.tuple #[.int .i64 s.es.length, .int .i64 0]) ∧ Has W w' ((RBookT B R { s with es := s.es ++ [t] } q).sep U) := by
  obtain ⟨i0, hi, hz0, hz1, hz2⟩ := info_parts infoStr
  have HIN := Lib.hid hi
  obtain ⟨ev, hb⟩ := h.ropen
  have HP := Lib.hid hb
  have c2 : w.cell? ⟨B, 2, none⟩ = some ev := cellOf hb.heap rfl
  obtain ⟨a, c, rfl⟩ := row_form hb.row
  have HK := Lib.hid hk
  clear h hb hi hk
  go_enter Tryd.func35, Tryd.ntmps35
  go_upto_region 6 with (go_at_call 57; refine (rkeyCall_some HK.out _ ht).mono ?_; rintro e w1 ⟨rfl, hf⟩; have c2' := hf.cell c2; have HP1 := Lib.hid (HP.out.fr hf); clear c2 HP)
  have hx : ¬ ((200000 : Int) ≤ (s.es.length : Int)) := by omega
  have HN := Lib.hid hn
  clear hn
  go_upto_region 9 with (first
    | (at_builtin; refine wpList_app rfl _ _ 46 rfl 9 i0 (.string (S [])) 1 16 Tryd.underlying46 HIN.out hz0 hz1 hz2 rfl (by decide) rfl HP1.out.rowFirst 1 1 [.string (S t)] rfl rfl (by simp [Value.oneCell']) (by decide) (by have := HN.out; omega) (by decide) ?_
       intro g cap w2 h2
       have hB2 := h2.pull3.boxed
       have d2 : w2.cell? ⟨B, 2, none⟩ = some (.slice a s.es.length c) := cellOf hB2 rfl
       have e2 := frozenOf hB2 2
       obtain ⟨h3, h4⟩ := RP.appended h2
       have H3 := Lib.hid h3
       have H4 := Lib.hid h4
       clear h2 hB2 h3 h4))
  have d3 := H4.out
  generalize w2.setCell ⟨B, 2, none⟩ (.slice (some ⟨g, 0, none⟩) (s.es.length + 1) cap) = w3 at *
  have hx1 : (((s.es.length + 1 : Nat) : Int) - 1) = (s.es.length : Int) := by omega
  clear d2 e2
  go_wp2_with fail
  go_ret2
  exact ⟨by first | rfl | (congr 4; omega), H3.out⟩
set_option maxRecDepth 100000 in
theorem rbappend_none {B : Nat} (w : World) (t : Txt) (ht : t.length ≤ 9223372036854775807) (hk : key t = none) :
    Calls Tryd.prog 35 #[.pointer (some ⟨B, 0, none⟩), .string (S t)] w fun e w' => e = .returned (.tuple #[.int .i64 0, .int .i64 2]) ∧ Fr w w' := by
  have HK := Lib.hid hk
  clear hk
  go_enter Tryd.func35, Tryd.ntmps35
  go_wp2_with (go_at_call 57; refine (rkeyCall_none HK.out _ ht).mono ?_; rintro e w1 ⟨rfl, hf⟩)
  go_ret2
  exact ⟨rfl, hf⟩
set_option maxRecDepth 100000 in
theorem rbappend_long {B : Nat} (w : World) (t k : Txt) (ht : t.length ≤ 9223372036854775807) (hk : key t = some k) (hl : ¬ t.length ≤ 20000) :
    Calls Tryd.prog 35 #[.pointer (some ⟨B, 0, none⟩), .string (S t)] w fun e w' => e = .returned (.tuple #[.int .i64 0, .int .i64 3]) ∧ Fr w w' := by
  have HK := Lib.hid hk
  clear hk
  go_enter Tryd.func35, Tryd.ntmps35
  go_wp2_with (go_at_call 57; refine (rkeyCall_some HK.out _ ht).mono ?_; rintro e w1 ⟨rfl, hf⟩)
  go_ret2
  exact ⟨rfl, hf⟩
theorem rbappend {W w : World} {B R : Nat} {s : BS} {q : List Sd} {U : Thing} (h : Has W w ((RBookT B R s q).sep U)) (t : Txt) (ht : t.length ≤ 9223372036854775807) (hn : s.es.length ≤ 1000) :
    Calls Tryd.prog 35 #[.pointer (some ⟨B, 0, none⟩), .string (S t)] w fun e w' => e = .returned (.tuple #[.int .i64 (apN s t), .int .i64 (apE t)]) ∧ Has W w' ((RBookT B R (apS s t) q).sep U) := by
  cases hk : key t with
  | none =>
    obtain ⟨h1, h2, h3⟩ := ap_none (s := s) hk
    rw [h1, h2, h3]
    exact (rbappend_none w t ht hk).mono fun _ _ ⟨he, hf⟩ => ⟨he, h.fr hf⟩
  | some k =>
    by_cases hl : t.length ≤ 20000
    · obtain ⟨h1, h2, h3⟩ := ap_yes (s := s) hk hl
      rw [h1, h2, h3]
      exact rbappend_yes h t k ht hk hl hn
    · obtain ⟨h1, h2, h3⟩ := ap_long (s := s) hk hl
      rw [h1, h2, h3]
      exact (rbappend_long w t k ht hk hl).mono fun _ _ ⟨he, hf⟩ => ⟨he, h.fr hf⟩

/-! ### sign -/
theorem sg_pack {W w : World} {L P : Nat} {x y z : Value} {A V : Thing} (h : Has W w ((BoxT 37 L #[x, y, z]).sep (A.sep ((BoxT 37 P #[.int .i64 0, .string ⟨#[]⟩, .int .i64 0]).sep V)))) :
    w.cell? ⟨L, 0, none⟩ = some x ∧ w.cell? ⟨L, 1, none⟩ = some y ∧ w.cell? ⟨L, 2, none⟩ = some z ∧
    w.cell? ⟨P, 0, none⟩ = some (.int .i64 0) ∧ w.cell? ⟨P, 1, none⟩ = some (.string ⟨#[]⟩) ∧ w.cell? ⟨P, 2, none⟩ = some (.int .i64 0) ∧
    w.frozen? ⟨P, 0, none⟩ = false ∧ w.frozen? ⟨P, 1, none⟩ = false ∧ w.frozen? ⟨P, 2, none⟩ = false ∧ Has W w (A.sep ((BoxT 37 P #[.int .i64 0, .string ⟨#[]⟩, .int .i64 0]).sep V)) :=
  have h1 := h.boxed
  have h2 := h.right.turn.boxed
  ⟨cellOf h1 rfl, cellOf h1 rfl, cellOf h1 rfl, cellOf h2 rfl, cellOf h2 rfl, cellOf h2 rfl, frozenOf h2 0, frozenOf h2 1, frozenOf h2 2, h.right⟩
theorem six_fr {w w' : World} {B R D : Nat} {s : BS} {c : C} (h : w.cell? ⟨B, 0, none⟩ = some (.pointer (some ⟨R, 0, none⟩)) ∧ w.cell? ⟨B, 1, none⟩ = some (.int .i64 s.k) ∧ w.cell? ⟨D, 0, none⟩ = some (.int .i64 c.k) ∧ w.cell? ⟨D, 1, none⟩ = some (.int .i64 c.n) ∧ w.cell? ⟨D, 2, none⟩ = some (.int .i64 c.t) ∧ w.cell? ⟨D, 3, none⟩ = some (.string (S c.s))) (hf : Fr w w') :
    w'.cell? ⟨B, 0, none⟩ = some (.pointer (some ⟨R, 0, none⟩)) ∧ w'.cell? ⟨B, 1, none⟩ = some (.int .i64 s.k) ∧ w'.cell? ⟨D, 0, none⟩ = some (.int .i64 c.k) ∧ w'.cell? ⟨D, 1, none⟩ = some (.int .i64 c.n) ∧ w'.cell? ⟨D, 2, none⟩ = some (.int .i64 c.t) ∧ w'.cell? ⟨D, 3, none⟩ = some (.string (S c.s)) := ⟨hf.cell h.1, hf.cell h.2.1, hf.cell h.2.2.1, hf.cell h.2.2.2.1, hf.cell h.2.2.2.2.1, hf.cell h.2.2.2.2.2⟩
theorem six_of {W w : World} {B R D : Nat} {ev : Value} {s : BS} {c : C} {A X Y U : Thing} (h : Has W w (A.sep (X.sep ((BoxT 48 B #[.pointer (some ⟨R, 0, none⟩), .int .i64 s.k, ev, .int .i64 s.t, .int .i64 s.n]).sep (Y.sep ((BoxT 58 D #[.int .i64 c.k, .int .i64 c.n, .int .i64 c.t, .string (S c.s)]).sep U)))))) :
    w.cell? ⟨B, 0, none⟩ = some (.pointer (some ⟨R, 0, none⟩)) ∧ w.cell? ⟨B, 1, none⟩ = some (.int .i64 s.k) ∧ w.cell? ⟨D, 0, none⟩ = some (.int .i64 c.k) ∧ w.cell? ⟨D, 1, none⟩ = some (.int .i64 c.n) ∧ w.cell? ⟨D, 2, none⟩ = some (.int .i64 c.t) ∧ w.cell? ⟨D, 3, none⟩ = some (.string (S c.s)) :=
  have h1 := h.right.right.boxed
  have h2 := h.right.right.right.right.boxed
  ⟨cellOf h1 rfl, cellOf h1 rfl, cellOf h2 rfl, cellOf h2 rfl, cellOf h2 rfl, cellOf h2 rfl⟩
set_option maxHeartbeats 2000000 in
set_option maxRecDepth 100000 in
theorem rbsign {W w : World} {B R : Nat} {s : BS} {q : List Sd} {U : Thing} (h : Has W w ((RBookT B R s q).sep U)) (c : C) (hc : c.fits) (hq : q.length ≤ 1000000) :
    Calls Tryd.prog 58 #[.pointer (some ⟨B, 0, none⟩), c.v] w fun e w' => e = .returned (sgV (signR q (s.k, textR c))) ∧ Has W w' ((RBookT B R s (signL q (s.k, textR c))).sep U) := by
  obtain ⟨w0, hw0⟩ : ∃ w0, w0 = w.alloc (.cells #[.int .i64 c.k, .int .i64 c.n, .int .i64 c.t, .string (S c.s)] 58) := ⟨_, rfl⟩
  obtain ⟨D, hD⟩ : ∃ D, D = w.heap.size := ⟨_, rfl⟩
  have h0 : Has W w0 ((RBookT B R s q).sep ((BoxT 58 D #[.int .i64 c.k, .int .i64 c.n, .int .i64 c.t, .string (S c.s)]).sep U)) := by
    rw [hw0, hD]
    exact (h.box 58 #[.int .i64 c.k, .int .i64 c.n, .int .i64 c.t, .string (S c.s)]).turn
  obtain ⟨ev, hb⟩ := h0.ropen
  have HS : Hid (Has W (w0.alloc (.cells #[.int .i64 0, .string ⟨#[]⟩, .int .i64 0] 37)).drew ((RefT R q).sep ((BoxT 37 w0.heap.size #[.int .i64 0, .string ⟨#[]⟩, .int .i64 0]).sep ((BoxT 48 B #[.pointer (some ⟨R, 0, none⟩), .int .i64 s.k, ev, .int .i64 s.t, .int .i64 s.n]).sep ((RowT 9 1 ev s.es.length (strs s.es)).sep ((BoxT 58 D #[.int .i64 c.k, .int .i64 c.n, .int .i64 c.t, .string (S c.s)]).sep U)))))) :=
    Lib.hid (((Has.box hb 37 #[.int .i64 0, .string ⟨#[]⟩, .int .i64 0]).fr (Fr.drew _)).turn)
  have HX := Lib.hid (fun w' => rtextC_any c w' hc)
  have HW0 := Lib.hid hw0
  have HDD := Lib.hid hD
  unfold C.v
  clear h hb hw0 hD h0
  go_enter Tryd.func58, Tryd.ntmps58
  go_upto_region 1 with fail
  rw [← HW0.out]
  obtain ⟨P, hP⟩ : ∃ P, P = w.heap.size + 1 := ⟨_, rfl⟩
  rw [show w0.heap.size = P by rw [HW0.out, hP]; simp] at HS
  rw [← hP, ← HDD.out]
  clear HW0 hP HDD
  generalize w0.alloc (.cells #[.int .i64 0, .string ⟨#[]⟩, .int .i64 0] 37) = w1 at *
  have HC0 := Lib.hid (six_of HS.out)
  go_region_held3 (fun w' => w'.cell? ⟨B, 0, none⟩ = some (.pointer (some ⟨R, 0, none⟩)) ∧ w'.cell? ⟨B, 1, none⟩ = some (.int .i64 s.k) ∧ w'.cell? ⟨D, 0, none⟩ = some (.int .i64 c.k) ∧ w'.cell? ⟨D, 1, none⟩ = some (.int .i64 c.n) ∧ w'.cell? ⟨D, 2, none⟩ = some (.int .i64 c.t) ∧ w'.cell? ⟨D, 3, none⟩ = some (.string (S c.s)))
    (first | exact HCS.out | exact HC3.out | exact six_fr HC3.out (Fr.alloc _ _) | exact HC2.out | exact six_fr HC2.out (Fr.alloc _ _) | exact HC0.out | exact six_fr HC0.out (Fr.alloc _ _))
    (first
    | (go_at_call 67; refine (HX.out _).mono ?_; rintro e w2 ⟨rfl, hf2⟩
       first
         | (have HS2 := Lib.hid (HS.out.fr hf2); have HC2 := Lib.hid (six_fr HC0.out hf2))
         | (have hh := (HS.out.box 37 #[.int .i64 0, .string ⟨#[]⟩, .int .i64 0]).fr hf2; rw [show w1.drew.heap.size = w1.heap.size from rfl] at hh; have HT2 := Lib.hid hh; clear hh; have HC2 := Lib.hid (six_fr (six_fr HC0.out (Fr.alloc _ _)) hf2)))
    | (go_at_call 39
       first
         | (refine (HS2.out.rsign s.k (textR c) hq).mono ?_; rintro e w3 ⟨rfl, h3⟩; have H3A := Lib.hid h3; have HC3 := Lib.hid (six_of h3))
         | (refine ((HS2.out.box 37 #[.int .i64 0, .string ⟨#[]⟩, .int .i64 0]).turn.rsign s.k (textR c) hq).mono ?_; rintro e w3 ⟨rfl, h3⟩; have hR := h3.turn.boxed; have H3B := Lib.hid h3; have HC3 := Lib.hid (six_of h3.right)
            have d0 := cellOf hR (i := 0) (v := .int .i64 0) rfl
            have d1 := cellOf hR (i := 1) (v := .string ⟨#[]⟩) rfl
            have d2 := cellOf hR (i := 2) (v := .int .i64 0) rfl
            have e0 := frozenOf hR 0
            have e1 := frozenOf hR 1
            have e2 := frozenOf hR 2
            clear hR)
         | (refine (HT2.out.turn.rsign s.k (textR c) hq).mono ?_; rintro e w3 ⟨rfl, h3⟩; have hR := h3.turn.boxed; have H3B := Lib.hid h3; have HC3 := Lib.hid (six_of h3.right)
            have d0 : w3.cell? ⟨w1.heap.size, 0, none⟩ = some (.int .i64 0) := cellOf hR rfl
            have d1 : w3.cell? ⟨w1.heap.size, 1, none⟩ = some (.string ⟨#[]⟩) := cellOf hR rfl
            have d2 : w3.cell? ⟨w1.heap.size, 2, none⟩ = some (.int .i64 0) := cellOf hR rfl
            have e0 : w3.frozen? ⟨w1.heap.size, 0, none⟩ = false := frozenOf hR 0
            have e1 : w3.frozen? ⟨w1.heap.size, 1, none⟩ = false := frozenOf hR 1
            have e2 : w3.frozen? ⟨w1.heap.size, 2, none⟩ = false := frozenOf hR 2
            clear hR)
       obtain ⟨g, hg⟩ : ∃ g, g = signR q (s.k, textR c) := ⟨_, rfl⟩
       rw [← hg]
       have HG := Lib.hid hg
       try have HCS := Lib.hid (six_of (H3B.out.turn.sg3 (.int .i64 g.1) (.string (S g.2.1)) (.int .i64 g.2.2)).right)
       unfold sgV
       clear hg h3))
  all_goals (first
    | (have HF := H3A.out.box 37 #[.int .i64 g.1, .string (S g.2.1), .int .i64 g.2.2])
    | (have HF := H3B.out.turn.sg3 (.int .i64 g.1) (.string (S g.2.1)) (.int .i64 g.2.2)))
  all_goals
    obtain ⟨l0, l1, l2, x0, x1, x2, z0, z1, z2, HE⟩ := sg_pack HF
    have HE := Lib.hid HE
    clear HF
    go_wp2_with fail
    obtain ⟨hR, hF⟩ := sg_end HE.out (.int .i64 g.1) (.string (S g.2.1)) (.int .i64 g.2.2)
    have k0 := cellOf hR (i := 0) (v := .int .i64 g.1) rfl
    have k1 := cellOf hR (i := 1) (v := .string (S g.2.1)) rfl
    have k2 := cellOf hR (i := 2) (v := .int .i64 g.2.2) rfl
    refine bodyPost_ret (v := sgV g) (by simp [results, Tryd.results58, go_sem, k0, k1, k2]; rfl) rfl ⟨by rw [HG.out], ?_⟩
    exact (RP.close hF).turn.right
end Go.Proofs.YtailbappdfbjoaaDoor
