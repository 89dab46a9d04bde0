/-
  Gossip: place, and views that are made.
-/
import Derived.Test.YthppefkamklakaaDoorEad
import Derived.Test.YthppefkamklakaaDoorEe
namespace Go.Proofs.YthppefkamklakaaDoor
open Go.RowKit Go.MapKept Go.Maps Go.WideMaps

set_option maxRecDepth 100000 in
theorem place_any (x : Int) (hx : Wm.inInt x) : ∃ j : Nat, j < 3 ∧ ∀ w : World, Calls Tryd.prog 11 #[.int .i64 x, .int .i64 3] w fun e w' => e = .returned (.int .i64 (j : Int)) ∧ w' = w := by
  obtain ⟨j, hj, hje, hb1, hb2⟩ := order_ix x 3 (by decide) hx (by decide)
  refine ⟨j, hj, fun w => ?_⟩
  have hb1' : -1000 ≤ x.tmod 3 := hb1
  have hb2' : x.tmod 3 ≤ 1000 := hb2
  have hw : wrap64 (x.tmod 3 + 3) = x.tmod 3 + 3 := by unfold wrap64; omega
  have hje' : (x.tmod 3 + 3).tmod 3 = (j : Int) := hje
  go_enter Tryd.func11, Tryd.ntmps11
  go_wp2_with fail
  go_ret
  exact ⟨rfl, rfl⟩

theorem infoPt : (Tryd.prog.info? 43).map (fun i => (i.zero, i.size, i.bytes)) = some (some (.pointer none), 1, 8) := by kernel_rfl
def ptC (ps : List Nat) : List Value := ps.map fun V => .pointer (some ⟨V, 0, none⟩)
/-- New views. -/
def vsT (R : Nat) (k : Int) (U : Thing) : List Nat → Thing
  | [] => U
  | V :: ps => (ViewT V R k [] vd0).sep (vsT R k U ps)
section
variable {W w : World} {R : Nat} {k : Int} {U : Thing}
set_option maxHeartbeats 4000000 in
set_option maxRecDepth 100000 in
theorem views_any (h : Has W w U) (hk : IsKey k) :
    Calls Tryd.prog 8 #[.pointer (some ⟨R, 0, none⟩), .slice none 0 0, .slice none 0 0, .int .i64 3, .int .i64 k] w fun e w' =>
      ∃ (V0 V1 V2 : Nat) (v : Value), e = .returned v ∧ Has W w' ((ViewT V0 R k [] vd0).sep ((ViewT V1 R k [] vd0).sep ((ViewT V2 R k [] vd0).sep ((RowT 43 1 v 3 (ptC [V0, V1, V2])).sep U)))) := by
  have H := Lib.hid (h.nilRow 43 1)
  have HK := Lib.hid hk
  have hk1 := hk.1
  have hk2 := hk.2
  clear h hk
  go_enter Tryd.func8, Tryd.ntmps8
  go_wp2_with fail
  go_loopw [11, 12] (fun sv iv wr => ∃ (ps : List Nat) (a0 : Option Addr) (c0 : Nat), ps.length ≤ 3 ∧ iv = .int .i64 ps.length ∧ sv = .slice a0 ps.length c0 ∧ Hid (Has W wr ((RowT 43 1 (.slice a0 ps.length c0) ps.length (ptC ps)).sep (vsT R k U ps.reverse)))) (fun _ iv _ => 3 - (intOf iv).toNat)
  case atStart => exact ⟨[], none, 0, by decide, by go_num, rfl, H⟩
  case round =>
    obtain ⟨ps, a0, c0, hps, rfl, rfl, HR⟩ := hrel
    clear H
    by_cases hlt : ps.length < 3
    · obtain ⟨i0, hi, hz0, hz1, hz2⟩ := info_parts infoPt
      have HIN := Lib.hid hi
      clear hi
      go_upto_region 8 with (go_at_call 15; refine (vnew_yes HR.out _ k HK.out).mono ?_; rintro e w5 ⟨V, rfl, h5⟩; have H5 := Lib.hid (h5.map fun _ h => sep_turn h); clear h5)
      go_wp2_with (at_builtin; refine wpList_app rfl _ _ 33 rfl 43 i0 (.pointer none) 1 8 Tryd.underlying33 HIN.out hz0 hz1 hz2 rfl (by decide) rfl H5.out 1 1 [.pointer (some ⟨V, 0, none⟩)] rfl rfl (by simp [Value.oneCell']) (by decide) (by omega) (by decide) ?_; intro a1g cc1 w10 h10)
      have e1 : ps.length + 1 = (ps ++ [V]).length := by simp
      have e2 : ptC ps ++ [.pointer (some ⟨V, 0, none⟩)] = ptC (ps ++ [V]) := by simp [ptC]
      have e3 : (ViewT V R k [] vd0).sep (vsT R k U ps.reverse) = vsT R k U (ps ++ [V]).reverse := by rw [List.reverse_append]; rfl
      rw [e1, e2, e3] at h10
      have H10 := Lib.hid h10
      clear h10
      go_roundw
      case rel => exact ⟨ps ++ [V], some ⟨a1g, 0, none⟩, cc1, by rw [← e1]; omega, by rw [← e1]; go_num, by rw [← e1], H10⟩
      case measure => simp [intOf]; omega
    · obtain ⟨V0, V1, V2, rfl⟩ : ∃ V0 V1 V2, ps = [V0, V1, V2] := by
        match ps, (show ps.length = 3 by omega) with
        | [V0, V1, V2], _ => exact ⟨V0, V1, V2, rfl⟩
      have H9 := Lib.hid (show Has W wr ((RowT 43 1 (.slice a0 3 c0) 3 (ptC [V0, V1, V2])).sep ((ViewT V2 R k [] vd0).sep ((ViewT V1 R k [] vd0).sep ((ViewT V0 R k [] vd0).sep U)))) from HR.out)
      clear HR hlt hps
      simp only [List.length_cons, List.length_nil]
      go_wp2_with fail
      go_loopw [14] (fun iv wx => iv = .int .i64 0 ∧ wx = wr) (fun _ _ => 0)
      case atStart => exact ⟨rfl, rfl⟩
      case round =>
        obtain ⟨rfl, rfl⟩ := hrel
        go_wp2_with fail
        go_ret
        exact ⟨V0, V1, V2, _, rfl, H9.out.map fun _ h => sep_under (sp4 h) fun _ h => sep_under (sp3 h) fun _ h => sep_turn h⟩
end
end Go.Proofs.YthppefkamklakaaDoor
