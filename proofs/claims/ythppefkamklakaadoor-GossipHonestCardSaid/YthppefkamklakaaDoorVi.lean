/-
  View: learn, a head.
-/
import Derived.Test.YthppefkamklakaaDoorVh
namespace Go.Proofs.YthppefkamklakaaDoor
open Go.RowKit Go.MapKept Go.Maps Go.WideMaps Go.BigFrame

def VQ.rest7 (p : VQ) (B R : Nat) (k : Int) (l : List Sg) (d : VD) (U : Thing) : Thing :=
  (BoxT 87 B (p.cells R k)).sep ((RowT 37 3 p.av l.length (sgC l)).sep ((MbT p.mM (mmV d) p.n1).sep ((MeT p.mE (enV d) p.n2).sep ((MapT p.mF (fiV d) p.n3).sep ((MapT p.mA (abV d) p.n4).sep U)))))
section
variable {W w : World} {p : VQ} {B R : Nat} {k : Int} {l : List Sg} {d : VD} {U : Thing}
/-- The heads ahead of all, a new claim behind them. -/
theorem VP.forInsert (h : VP W w p B R k l d U) (c : C) : Has W (w.alloc (.cells #[.int .i64 c.k, .int .i64 c.n, .int .i64 c.t, .string (S c.s)] 68))
    ((RowT 68 4 p.hv d.hd.length (cC d.hd)).sep ((BoxT 68 w.heap.size #[.int .i64 c.k, .int .i64 c.n, .int .i64 c.t, .string (S c.s)]).sep (p.rest7 B R k l d U))) :=
  (Has.box h 68 #[.int .i64 c.k, .int .i64 c.n, .int .i64 c.t, .string (S c.s)]).map fun _ h => sep_turn (sep_under h fun _ h => sp7 h)
theorem heads_done {v : Value} {hd' : List C} {X : Nat} {t : TypeId} {Cs : Array Value} (h : Has W w ((RowT 68 4 v hd'.length (cC hd')).sep ((BoxT t X Cs).sep (p.rest7 B R k l d U)))) :
    w.heap[B]? = some (.cells (p.cells R k) 87 (0, 0)) ∧ Has W (w.setCell ⟨B, 7, none⟩ v) ((ViewT B R k l { d with hd := hd' }).sep U) := by
  have h1 := h.turn.right.turn
  refine ⟨h1.boxed, VP.close (p := { p with hv := v }) ?_⟩
  exact (h1.set 7 v).map fun _ h => sep_under h fun _ h => ps6 h
theorem cat_of {T : Nat} {c : C} {X : Thing} (h : Has W w (X.sep ((CB T c).sep U))) : CAt w T c := by
  have hb := h.right.boxed
  refine ⟨?_, ?_, ?_, ?_⟩ <;> (rw [Lib.cell_of_heap hb]; rfl)
set_option maxHeartbeats 8000000 in
set_option maxRecDepth 100000 in
theorem vlearn_1 (h : Has W w ((ViewT B R k l d).sep U)) (hd : HdOk d) (n t : Int) (s : Txt) :
    Calls Tryd.prog 29 #[.pointer (some ⟨B, 0, none⟩), .agg #[.int .i64 1, .int .i64 n, .int .i64 t, .string (S s)]] w fun e w' => e = .returned (.tuple #[]) ∧ Has W w' ((ViewT B R k l (lrn d ⟨1, n, t, s⟩)).sep U) := by
  have h1 : Has W (w.alloc (.cells #[.int .i64 1, .int .i64 n, .int .i64 t, .string (S s)] 68)) ((ViewT B R k l d).sep ((CB w.heap.size ⟨1, n, t, s⟩).sep U)) := h.vbox ⟨1, n, t, s⟩
  obtain ⟨p, hp⟩ := h1.vopen
  have HPL := Lib.hid (fun w' (hf : Fr (w.alloc (.cells #[.int .i64 1, .int .i64 n, .int .i64 t, .string (S s)] 68)) w') => vplace (h1.fr hf) hd.srt (by have := hd.len; omega) ⟨1, n, t, s⟩)
  unfold C.v at HPL
  simp only at HPL
  have hle := plc_le t d.hd
  obtain ⟨i, hi⟩ : ∃ i, i = plc t d.hd := ⟨_, rfl⟩
  rw [← hi] at HPL hle
  have HL := Lib.hid (show lrn d ⟨1, n, t, s⟩ = { d with hd := ins d.hd i ⟨1, n, t, s⟩ } from by rw [lrn_1 rfl, hi])
  have HP := Lib.hid hp
  have HLN := Lib.hid hd.len
  have HLE := Lib.hid hle
  have c7 := hp.cell 7 p.hv rfl
  obtain ⟨a0, a1, a2, a3⟩ := hp.cb
  simp only at a0 a1 a2 a3
  clear h h1 hd hp hle hi
  generalize lrn d ⟨1, n, t, s⟩ = D' at *
  go_enter Tryd.func29, Tryd.ntmps29
  go_upto_region 9 with fail
  obtain ⟨T, hT⟩ : ∃ T, T = w.heap.size := ⟨_, rfl⟩
  rw [← hT] at a0 a1 a2 a3 HP ⊢
  clear hT
  generalize w.alloc (.cells #[.int .i64 1, .int .i64 n, .int .i64 t, .string (S s)] 68) = w1 at *
  obtain ⟨hv, hhv⟩ : ∃ hv, hv = p.hv := ⟨_, rfl⟩
  rw [← hhv] at c7
  have HHV := Lib.hid hhv
  clear hhv
  -- facts in the worlds that can come
  have e7 := (Fr.drew w1).cell c7
  have e0 := (Fr.drew w1).cell a0
  have e1 := (Fr.drew w1).cell a1
  have e2 := (Fr.drew w1).cell a2
  have e3 := (Fr.drew w1).cell a3
  have hfX : Fr w1 (w1.alloc (.cells #[.int .i64 1, .int .i64 n, .int .i64 t, .string (S s)] 68)).drew := (Fr.alloc _ _).trans (Fr.drew _)
  have x7 := hfX.cell c7
  have x0 := hfX.cell a0
  have x1 := hfX.cell a1
  have x2 := hfX.cell a2
  have x3 := hfX.cell a3
  have HFX := Lib.hid hfX
  clear hfX
  go_region_with (first
    | (go_at_call 49
       first
         | (refine (HPL.out _ (Fr.drew w1)).mono ?_; rintro e w3 ⟨rfl, hf3⟩
            have HV3 := Lib.hid (VP.fr HP.out ((Fr.drew w1).trans hf3)); have hg := (Fr.drew w1).trans hf3
            have y7 := hg.cell c7; have y0 := hg.cell a0; have y1 := hg.cell a1; have y2 := hg.cell a2; have y3 := hg.cell a3
            have hgx := hg.trans (Fr.alloc w3 (.cells #[.int .i64 1, .int .i64 n, .int .i64 t, .string (S s)] 68))
            have z7 := hgx.cell c7; have z0 := hgx.cell a0; have z1 := hgx.cell a1; have z2 := hgx.cell a2; have z3 := hgx.cell a3
            clear hg hgx)
         | (refine (HPL.out _ HFX.out).mono ?_; rintro e w3 ⟨rfl, hf3⟩
            have HX3 := Lib.hid ((VP.forInsert HP.out ⟨1, n, t, s⟩).fr ((Fr.drew _).trans hf3)); have hg := HFX.out.trans hf3
            have y7 := hg.cell c7; have y0 := hg.cell a0; have y1 := hg.cell a1; have y2 := hg.cell a2; have y3 := hg.cell a3
            clear hg))
    | (go_at_call 52; rw [HHV.out]
       first
         | (refine (Has.insert (VP.forInsert HV3.out ⟨1, n, t, s⟩) HLN.out i HLE.out).mono ?_; rintro e w5 ⟨v', rfl, h5⟩)
         | (refine (Has.insert (c := ⟨1, n, t, s⟩) HX3.out HLN.out i HLE.out).mono ?_; rintro e w5 ⟨v', rfl, h5⟩)
       obtain ⟨va, vc, rfl⟩ := row_form h5.row
       obtain ⟨hb5, hd5⟩ := heads_done h5
       have d7 : w5.cell? ⟨B, 7, none⟩ = some p.hv := cellOf hb5 rfl
       have f7 := frozenOf hb5 7
       have H5 := Lib.hid hd5
       clear h5 hb5 hd5))
  all_goals go_wp2_with fail
  all_goals go_end0
  all_goals exact ⟨rfl, by rw [HL.out]; exact H5.out.turn.right⟩
end
end Go.Proofs.YthppefkamklakaaDoor
