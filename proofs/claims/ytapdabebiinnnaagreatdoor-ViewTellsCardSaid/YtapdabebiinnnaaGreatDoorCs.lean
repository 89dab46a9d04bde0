/-
  Contracts: the reference of layer 6: Text, Read.
-/
import Derived.Test.YtapdabebiinnnaaGreatDoorCr
namespace Go.Proofs.YtapdabebiinnnaaGreatDoor
open Go.RowKit

set_option maxHeartbeats 1000000 in
set_option maxRecDepth 100000 in
theorem rtextC_any (c : C) (w : World) (hc : c.fits) :
    Calls Tryz.prog 41 #[c.v] w fun e w' => e = .returned (.string (S (textR c))) ∧ Fr w w' := by
  have HR := Lib.hid (fun w' => rright_any c w' hc)
  have HA := Lib.hid (CAt.new w c)
  have HB := Lib.hid (ok_bounds (c := c))
  have HX := Lib.hid (show textR c = if okB c then textC c else [] from rfl)
  have HD := Lib.hid (show textC c = (Wm.numE 59).f c.k ++ (Wm.numE 59).f c.n ++ (Wm.numE 59).f c.t ++ Wm.textE.f c.s from rfl)
  obtain ⟨c0, c1, c2, c3⟩ := HA.out
  have hv : c.v = .agg #[.int .i64 c.k, .int .i64 c.n, .int .i64 c.t, .string (S c.s)] := rfl
  obtain ⟨o, ho⟩ : ∃ o, o = okB c := ⟨_, rfl⟩
  rw [← ho] at HR HX HB
  rw [hv] at HR ⊢
  obtain ⟨x, hx⟩ : ∃ x, x = textR c := ⟨_, rfl⟩
  rw [← hx] at HX ⊢
  clear hx hv ho
  go_enter Tryz.func41, Tryz.ntmps41
  go_wp2_with (go_at_call 72; refine (HR.out _).mono ?_; rintro e w1 ⟨rfl, hf1⟩; cases o)
  · go_wp2_with fail
    go_ret
    exact ⟨by rw [HX.out]; rfl, (Fr.alloc _ _).trans hf1⟩
  · have hF : Fr w w1 := (Fr.alloc _ _).trans hf1
    have HCT : Hid (∀ w', Fr w1 w' → w'.cell? ⟨w.heap.size, 0, none⟩ = some (.int .i64 c.k) ∧ w'.cell? ⟨w.heap.size, 1, none⟩ = some (.int .i64 c.n) ∧ w'.cell? ⟨w.heap.size, 2, none⟩ = some (.int .i64 c.t) ∧ w'.cell? ⟨w.heap.size, 3, none⟩ = some (.string (S c.s))) := Lib.hid fun w' h => HA.out.fr (hf1.trans h)
    have HF := Lib.hid hF
    have hb := HB.out (by first | trivial | rfl)
    have hk := hb.1
    have hk2 := hb.2.1
    have hn := hb.2.2.1
    have hn2 := hb.2.2.2.1
    have ht := hb.2.2.2.2.1
    have ht2 := hb.2.2.2.2.2.1
    have hs := hb.2.2.2.2.2.2
    have HL : Hid (∀ z : Int, 0 ≤ z → z ≤ 1073741824 → ((Wm.numE 59).f z).length ≤ 30) := Lib.hid fun z h0 h1 => by
      have := Lib.itoa_length_le z (by omega) (by omega)
      rw [Wm.numE_f]; simp only [List.length_append, List.length_cons, List.length_nil]; omega
    have hlk := HL.out c.k (by omega) (by omega)
    have hln := HL.out c.n (by omega) (by omega)
    have hlt := HL.out c.t (by omega) (by omega)
    have hls : (Wm.textE.f c.s).length ≤ 30000 := by
      have := Lib.itoa_length_le (c.s.length : Int) (by omega) (by omega)
      rw [Wm.textE_f]; simp only [List.length_append, List.length_cons, List.length_nil]; omega
    obtain ⟨d0, d1, d2, d3⟩ := HCT.out w1 (Fr.refl w1)
    have HCD := Lib.hid (HCT.out _ (Fr.drew w1))
    have HX1 := Lib.hid (show x = textC c from HX.out)
    rw [HD.out] at HX1
    clear hf1 hF hb HA c0 c1 c2 c3 HR HB HL HX HD hc
    generalize w.heap.size = B at *
    obtain ⟨fk, hfk⟩ : ∃ f, (Wm.numE 59).f c.k = f := ⟨_, rfl⟩
    obtain ⟨fn, hfn⟩ : ∃ f, (Wm.numE 59).f c.n = f := ⟨_, rfl⟩
    obtain ⟨ft, hft⟩ : ∃ f, (Wm.numE 59).f c.t = f := ⟨_, rfl⟩
    obtain ⟨fs, hfs⟩ : ∃ f, Wm.textE.f c.s = f := ⟨_, rfl⟩
    rw [hfk, hfn, hft, hfs] at HX1
    rw [hfk] at hlk
    rw [hfn] at hln
    rw [hft] at hlt
    rw [hfs] at hls
    have HE := Lib.hid (And.intro hfk (And.intro hfn (And.intro hft hfs)))
    clear hfk hfn hft hfs
    have a1 : ∀ w', (Op.stringOp .add (S fk) (S fn)).run Tryz.prog w' = .ok (.string (S (fk ++ fn))) w' := fun w' => run_concat w' _ _ (by omega)
    have a2 : ∀ w', (Op.stringOp .add (S (fk ++ fn)) (S ft)).run Tryz.prog w' = .ok (.string (S (fk ++ (fn ++ ft)))) w' := fun w' => by rw [run_concat w' _ _ (by rw [List.length_append]; omega), List.append_assoc]
    have a3 : ∀ w', (Op.stringOp .add (S (fk ++ (fn ++ ft))) (S fs)).run Tryz.prog w' = .ok (.string (S (fk ++ (fn ++ (ft ++ fs))))) w' := fun w' => by rw [run_concat w' _ _ (by rw [List.length_append, List.length_append]; omega), List.append_assoc, List.append_assoc]
    rw [List.append_assoc, List.append_assoc] at HX1
    go_upto_region 3 with fail
    go_region_held3 (fun w' => w'.cell? ⟨B, 0, none⟩ = some (.int .i64 c.k) ∧ w'.cell? ⟨B, 1, none⟩ = some (.int .i64 c.n) ∧ w'.cell? ⟨B, 2, none⟩ = some (.int .i64 c.t) ∧ w'.cell? ⟨B, 3, none⟩ = some (.string (S c.s)))
      (first | exact HCD.out | exact HC4.out | exact HC3.out | exact HC2.out | exact HC1.out)
      (first
        | (go_at_call 56; refine (rtext_any c.s _ (by omega)).mono ?_; rw [HE.out.2.2.2]; rintro e w5 ⟨rfl, f5⟩; have F4 := Lib.hid (F3.out.trans f5); have HC4 := Lib.hid (HCT.out _ ((Fr.drew w1).trans F4.out)); clear f5)
        | (go_at_call 55; have hz := F2.out; refine (rnum_any c.t _ (by omega) (by omega)).mono ?_; rw [HE.out.2.2.1]; rintro e w4 ⟨rfl, f4⟩; have F3 := Lib.hid (hz.trans f4); have HC3 := Lib.hid (HCT.out _ ((Fr.drew w1).trans F3.out)); clear f4 hz)
        | (go_at_call 55; have hz := F1.out; refine (rnum_any c.n _ (by omega) (by omega)).mono ?_; rw [HE.out.2.1]; rintro e w3 ⟨rfl, f3⟩; have F2 := Lib.hid (hz.trans f3); have HC2 := Lib.hid (HCT.out _ ((Fr.drew w1).trans F2.out)); clear f3 hz)
        | (go_at_call 55; refine (rnum_any c.k _ (by omega) (by omega)).mono ?_; rw [HE.out.1]; rintro e w2 ⟨rfl, f2⟩; have F1 := Lib.hid f2; have HC1 := Lib.hid (HCT.out _ ((Fr.drew w1).trans F1.out)); clear f2))
    all_goals (go_wp2_with fail; go_ret; exact ⟨by rw [HX1.out]; rfl, HF.out.trans ((Fr.drew w1).trans F4.out)⟩)
end Go.Proofs.YtapdabebiinnnaaGreatDoor
