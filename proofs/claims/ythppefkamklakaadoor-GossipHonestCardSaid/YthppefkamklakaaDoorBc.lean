/-
  Book: sign, Entry, Head, Absent.
-/
import Derived.Test.YthppefkamklakaaDoorBb
import Derived.Test.YthppefkamklakaaDoorQb
namespace Go.Proofs.YthppefkamklakaaDoor
open Go.RowKit Go.MapKept Go.Maps Go.WideMaps

/-- What is signed, if anything: the signature and the ring then. -/
def sgO (q : List Sd) : Option Sd → Sg
  | none => (0, [], 0)
  | some e => signR q e
def qO (q : List Sd) : Option Sd → List Sd
  | none => q
  | some e => signL q e
theorem textR_len (c : C) : (textR c).length ≤ 20100 := by
  unfold textR
  split
  · next h => exact textC_len h
  · simp
/-- The cells of a result that has been stored. -/
theorem Has.sg3 {W w : World} {t : TypeId} {B : Nat} {a b c : Value} {U : Thing} (h : Has W w ((BoxT t B #[a, b, c]).sep U)) (x y z : Value) :
    Has W (((w.setCell ⟨B, 0, none⟩ x).setCell ⟨B, 1, none⟩ y).setCell ⟨B, 2, none⟩ z) ((BoxT t B #[x, y, z]).sep U) := ((h.set 0 x).set 1 y).set 2 z

theorem sg_end {W w : World} {P : Nat} {a b c : Value} {A V : Thing} (h : Has W w (A.sep ((BoxT 37 P #[a, b, c]).sep V))) (x y z : Value) :
    (((w.setCell ⟨P, 0, none⟩ x).setCell ⟨P, 1, none⟩ y).setCell ⟨P, 2, none⟩ z).heap[P]? = some (.cells #[x, y, z] 37 (0, 0)) ∧
    Has W (((w.setCell ⟨P, 0, none⟩ x).setCell ⟨P, 1, none⟩ y).setCell ⟨P, 2, none⟩ z) (A.sep V) :=
  let h1 := h.turn.sg3 x y z
  ⟨h1.boxed, h1.right⟩

set_option maxHeartbeats 2000000 in
set_option maxRecDepth 100000 in
theorem bsign {W w : World} {B R : Nat} {s : BS} {q : List Sd} {U : Thing} (h : Has W w ((BookT B R s q).sep U)) (hT : Tab W) (c : C) (hc : c.fits) (hq : q.length ≤ 1000000) :
    Calls Tryd.prog 40 #[.pointer (some ⟨B, 0, none⟩), c.v] w fun e w' => e = .returned (.tuple #[sgV (signR q (s.k, textR c)), .int .i64 0]) ∧ Has W w' ((BookT B R s (signL q (s.k, textR c))).sep U) := by
  obtain ⟨M, ev, m, hb⟩ := h.bopen
  obtain ⟨w0, hw0⟩ : ∃ w0, w0 = w.alloc (.cells #[.int .i64 c.k, .int .i64 c.n, .int .i64 c.t, .string (S c.s)] 68) := ⟨_, rfl⟩
  have hf0 : Fr w w0 := hw0 ▸ Fr.alloc w _
  have hf1 : Fr w0 (w0.alloc (.cells #[.int .i64 0, .string ⟨#[]⟩, .int .i64 0] 37)).drew := (Fr.alloc w0 _).trans (Fr.drew _)
  have HC := Lib.hid (((hw0 ▸ CAt.new w c : CAt w0 w.heap.size c)).fr hf1)
  have HS : Hid (Has W (w0.alloc (.cells #[.int .i64 0, .string ⟨#[]⟩, .int .i64 0] 37)).drew ((RingT R q).sep ((BoxT 37 w0.heap.size #[.int .i64 0, .string ⟨#[]⟩, .int .i64 0]).sep ((BoxT 65 B #[.pointer (some ⟨R, 0, none⟩), .int .i64 s.k, ev, .map (some M), .int .i64 s.n, .int .i64 s.t]).sep ((RowT 9 1 ev s.es.length (strs s.es)).sep ((MapT M (pmK (ks s.es)) m).sep U)))))) :=
    Lib.hid ((((Has.fr hb hf0).box 37 #[.int .i64 0, .string ⟨#[]⟩, .int .i64 0]).fr (Fr.drew _)).turn)
  have hB := HS.out.right.right.boxed
  have b0 : (w0.alloc (.cells #[.int .i64 0, .string ⟨#[]⟩, .int .i64 0] 37)).drew.cell? ⟨B, 0, none⟩ = some (.pointer (some ⟨R, 0, none⟩)) := cellOf hB rfl
  have b1 : (w0.alloc (.cells #[.int .i64 0, .string ⟨#[]⟩, .int .i64 0] 37)).drew.cell? ⟨B, 1, none⟩ = some (.int .i64 s.k) := cellOf hB rfl
  obtain ⟨p0, p1, p2, p3⟩ := HC.out
  have HX := Lib.hid (fun w' => textC_any c w' hc)
  have HT := Lib.hid (hT.fr (h.toFr.trans (hf0.trans hf1)))
  have HTL := Lib.hid (show (textR c).length ≤ maxLen by have := textR_len c; unfold maxLen; omega)
  have HW0 := Lib.hid hw0
  unfold C.v
  clear h hb hf0 hf1 hB hT hw0
  go_enter Tryd.func40, Tryd.ntmps40
  go_upto_region 1 with fail
  rw [← HW0.out]
  obtain ⟨P, hP⟩ : ∃ P, P = w.heap.size + 1 := ⟨_, rfl⟩
  rw [show w0.heap.size = P by rw [HW0.out, hP]; simp] at HS
  rw [← hP]
  clear HC HW0 hP
  generalize w0.alloc (.cells #[.int .i64 0, .string ⟨#[]⟩, .int .i64 0] 37) = w1 at *
  go_region_with (first
    | (go_at_call 56; refine (HX.out _ HT.out).mono ?_; rintro e w2 ⟨rfl, hf2⟩; have HS2 := Lib.hid (HS.out.fr hf2); try have b0' := hf2.cell b0; try have b1' := hf2.cell b1)
    | (go_at_call 14; refine (HS2.out.sign s.k (textR c) HTL.out hq).mono ?_; rintro e w3 ⟨rfl, h3⟩
       obtain ⟨g, hg⟩ : ∃ g, g = signR q (s.k, textR c) := ⟨_, rfl⟩
       rw [← hg]
       have HG := Lib.hid hg
       have hR := h3.turn.boxed
       have d0 : w3.cell? ⟨P, 0, none⟩ = some (.int .i64 0) := cellOf hR rfl
       have d1 : w3.cell? ⟨P, 1, none⟩ = some (.string ⟨#[]⟩) := cellOf hR rfl
       have d2 : w3.cell? ⟨P, 2, none⟩ = some (.int .i64 0) := cellOf hR rfl
       have e0 := frozenOf hR 0
       have e1 := frozenOf hR 1
       have e2 := frozenOf hR 2
       have H3 := Lib.hid h3
       unfold sgV
       clear hg hR h3))
  all_goals
    go_wp2_with fail
    obtain ⟨hR, hF⟩ := sg_end H3.out (.int .i64 g.1) (.string (S g.2.1)) (.int .i64 g.2.2)
    generalize (((w3.setCell ⟨P, 0, none⟩ (.int .i64 g.1)).setCell ⟨P, 1, none⟩ (.string (S g.2.1))).setCell ⟨P, 2, none⟩ (.int .i64 g.2.2)) = w4 at *
    have k0 : w4.cell? ⟨P, 0, none⟩ = some (.int .i64 g.1) := cellOf hR rfl
    have k1 : w4.cell? ⟨P, 1, none⟩ = some (.string (S g.2.1)) := cellOf hR rfl
    have k2 : w4.cell? ⟨P, 2, none⟩ = some (.int .i64 g.2.2) := cellOf hR rfl
    refine bodyPost_ret (v := .tuple #[sgV g, .int .i64 0]) (by simp [results, Tryd.results40, go_sem, k0, k1, k2]; rfl) rfl ⟨by rw [HG.out], ?_⟩
    exact BP.close hF
end Go.Proofs.YthppefkamklakaaDoor
