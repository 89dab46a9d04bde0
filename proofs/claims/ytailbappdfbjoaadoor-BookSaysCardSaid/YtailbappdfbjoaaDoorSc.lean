/-
  Copy and Open.
-/
import Derived.Test.YtailbappdfbjoaaDoorSv
namespace Go.Proofs.YtailbappdfbjoaaDoor
open Go.RowKit Go.MapKept Go.Maps Go.WideMaps

/-- A ring that has just been made out of its parts. -/
theorem ring_made {w wa : World} (hf : Fr w wa) {v : Value} {M : Nat} {q : List Sd} (ho : wa.ownsRow w.heap.size 56 2 v q.length (sdC q)) (hm : MapIs wa M (pmV q) q.length) (hM : w.heap.size ≤ M) (hq : q.Nodup) :
    (RingT wa.heap.size q).step (fun _ => False) w (wa.alloc (.cells #[v, .map (some M)] 77)) := by
  have hfa := Fr.alloc wa (.cells #[v, .map (some M)] 77)
  have hs : (wa.alloc (.cells #[v, .map (some M)] 77)).heap.size = wa.heap.size + 1 := by simp
  have hlt := hm.lt
  refine ⟨fun k => w.heap.size ≤ k ∧ k < wa.heap.size + 1, ⟨M, v, fun k hk => by rw [hs]; exact hk.2, ⟨hf.size, by omega⟩, ⟨hM, by omega⟩, fun p hp => ?_, heap_alloc_new wa _, hm.fr hfa, own_base (own_fr ho hfa) (Nat.zero_le _), hq⟩, fun k hk => .inr ⟨hk.1, by rw [hs]; exact hk.2⟩, .of_fr (hf.trans hfa)⟩
  have := ho.lt p hp
  omega

set_option maxHeartbeats 1000000 in
set_option maxRecDepth 100000 in
theorem mapsClone_any (M : Nat) (es : Array MapEntry) (clock : Nat) (w : World) (hb : w.heap[M]? = some (.map es clock)) :
    Calls Tryd.prog 51 #[.map (some M)] w fun e w' => e = .returned (.map (some w.heap.size)) ∧ w' = w.alloc (.map es clock) := by
  have hq := fun w => run_eql_map_nil_sl (P := Tryd.prog) w 75 _ _ (some M) Tryd.underlying75
  go_enter Tryd.func51, Tryd.ntmps51
  go_wp2
  rw [run_callFunc_extern Tryd.func63 (by kernel_rfl) (by kernel_rfl) (by kernel_rfl) (e := Extern.MapsClone.clone) (by kernel_rfl), run_maps_clone_sl w 75 hb]
  simp only [Result.andThen]
  rw [Oper.upon_value]
  go_wp2
  rw [run_typeAssert_map_sl _ 75 20 _ _ _ Tryd.underlying75]
  simp only [Result.andThen]
  rw [Oper.upon_value]
  go_wp2
  go_ret
  exact ⟨rfl, rfl⟩
set_option maxRecDepth 100000 in
theorem mapsClone_is {M : Nat} {m : Sd → Option Value} {n : Nat} (w : World) (h : MapIs w M m n) :
    Calls Tryd.prog 51 #[.map (some M)] w fun e w' => e = .returned (.map (some w.heap.size)) ∧ MapIs w' w.heap.size m n ∧ Fr w w' := by
  obtain ⟨es, clock, hb, h'⟩ := h
  refine (mapsClone_any M es clock w hb).mono ?_
  rintro e w' ⟨rfl, rfl⟩
  exact ⟨rfl, ⟨es, clock, heap_alloc_new w _, h'⟩, Fr.alloc w _⟩

set_option maxHeartbeats 2000000 in
set_option maxRecDepth 100000 in
theorem copy_any (O : Nat → Prop) (B : Nat) (q : List Sd) (w : World) (h : (RingT B q).at_ w O) (hq : q.length ≤ 1000000) :
    Calls Tryd.prog 29 #[.pointer (some ⟨B, 0, none⟩)] w fun r w' => ∃ B', r = .returned (.pointer (some ⟨B', 0, none⟩)) ∧ (RingT B' q).step (fun _ => False) w w' := by
  obtain ⟨M, ev, hr⟩ := h
  have c0 := (Fr.drew w).cell (cellOf hr.heap (i := 0) rfl)
  have c1 := (Fr.drew w).cell (cellOf hr.heap (i := 1) rfl)
  have HS := Lib.hid ((Sl.own hr.row rfl).fr (Fr.drew w))
  have HM := Lib.hid (hr.map.fr (Fr.drew w))
  have HN := Lib.hid hr.nodup
  obtain ⟨a, c, hev⟩ := row_form hr.row
  subst hev
  clear hr
  go_enter Tryd.func29, Tryd.ntmps29
  go_wp2_with fail
  go_region_with (first
    | (go_at_call 40; refine (clone_any _ q _ (by first | exact HS.out | exact HS.out.fr hfm) hq).mono ?_; rintro e w3 ⟨v', rfl, ho, hfs⟩; obtain ⟨va, vc, rfl⟩ := row_form ho; try have c1' := hfs.cell c1)
    | (go_at_call 51; refine (mapsClone_is _ (by first | exact HM.out | exact HM.out.fr hfs)).mono ?_; rintro e w4 ⟨rfl, hm, hfm⟩; try have c0' := hfm.cell c0))
  all_goals (go_wp2_with fail; go_ret)
  all_goals exact ⟨w4.heap.size, rfl, Thing.step_left (Fr.drew w) (ring_made (w := w.drew) (hfs.trans hfm) (own_fr ho hfm) hm hfs.size HN.out)⟩
end Go.Proofs.YtailbappdfbjoaaDoor
