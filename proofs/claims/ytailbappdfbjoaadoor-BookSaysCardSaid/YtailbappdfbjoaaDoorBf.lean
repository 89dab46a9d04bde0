/-
  Book: Copy.
-/
import Derived.Test.YtailbappdfbjoaaDoorBe
namespace Go.Proofs.YtailbappdfbjoaaDoor
open Go.RowKit Go.MapKept Go.Maps Go.WideMaps

theorem sclone {w : World} {base : Nat} {v : Value} {l : List Txt} (h : w.ownsRow base 9 1 v l.length (strs l)) (hn : l.length ≤ 1000000) :
    Calls Tryd.prog 52 #[v] w fun e w' => ∃ v', e = .returned v' ∧ w'.ownsRow w.heap.size 9 1 v' l.length (strs l) ∧ Fr w w' := by
  by_cases h0 : 0 < l.length
  · obtain ⟨g, cap, rfl, hc⟩ := str_row h rfl h0
    refine (Tryd.slices_Clone_string g 0 l.length cap (l.map S) w (by simp) (by omega) (fun j hj => ?_)).mono fun e w' ⟨v', he, ho, _, hb⟩ => ⟨_, he, ?_, .of_below hb⟩
    · have hj' : j < l.length := by simpa using hj
      rw [Nat.zero_add, hc j hj']
      simp [List.getD, hj']
    · have e1 : List.take l.length (l.map S) = l.map S := by rw [List.take_of_length_le]; simp
      rw [e1, List.map_map] at ho
      exact ho
  · obtain rfl : l = [] := List.length_eq_zero_iff.1 (by omega)
    obtain ⟨a, c, rfl⟩ := row_form h
    cases a with
    | none => exact (Tryd.slices_Clone_string_nil 0 c w).mono fun e w' ⟨he, hw⟩ => ⟨_, he, ⟨rfl, .inl ⟨rfl, rfl⟩⟩, hw ▸ Fr.refl _⟩
    | some a => exact (Tryd.slices_Clone_string_zero a c w).mono fun e w' ⟨v', he, ho, _, hb⟩ => ⟨_, he, ho, .of_below hb⟩

/-- A copy out of its parts. -/
theorem copy_made {W w : World} {B R R2 M2 : Nat} {s : BS} {q q2 : List Sd} {U : Thing} {v2 : Value} {m2 : Nat}
    (h : Has W w ((MapT M2 (pmK (ks s.es)) m2).sep ((RowT 9 1 v2 s.es.length (strs s.es)).sep ((BookT B R s q).sep ((RingT R2 q2).sep U))))) :
    Has W (w.alloc (.cells #[.pointer (some ⟨R2, 0, none⟩), .int .i64 s.k, v2, .map (some M2), .int .i64 s.n, .int .i64 s.t] 85)) ((BookT w.heap.size R2 s q2).sep ((BookT B R s q).sep U)) := by
  have h1 := h.box 85 #[.pointer (some ⟨R2, 0, none⟩), .int .i64 s.k, v2, .map (some M2), .int .i64 s.n, .int .i64 s.t]
  have h2 := h1.map fun _ h => sep_under h fun _ h => sep_under h fun _ h => sep_under h fun _ h => sep_turn h
  have h3 := h2.pull4.map fun _ h => sep_under h fun _ h => sep_under h fun _ h => sep_turn h
  exact BP.close (M := M2) (ev := v2) (m := m2) h3
theorem five_fr {w w' : World} {B M c : Nat} {a : Option Addr} {s : BS} (h : w.cell? ⟨B, 1, none⟩ = some (.int .i64 s.k) ∧ w.cell? ⟨B, 2, none⟩ = some (.slice a s.es.length c) ∧ w.cell? ⟨B, 3, none⟩ = some (.map (some M)) ∧ w.cell? ⟨B, 4, none⟩ = some (.int .i64 s.n) ∧ w.cell? ⟨B, 5, none⟩ = some (.int .i64 s.t)) (hf : Fr w w') :
    w'.cell? ⟨B, 1, none⟩ = some (.int .i64 s.k) ∧ w'.cell? ⟨B, 2, none⟩ = some (.slice a s.es.length c) ∧ w'.cell? ⟨B, 3, none⟩ = some (.map (some M)) ∧ w'.cell? ⟨B, 4, none⟩ = some (.int .i64 s.n) ∧ w'.cell? ⟨B, 5, none⟩ = some (.int .i64 s.t) := ⟨hf.cell h.1, hf.cell h.2.1, hf.cell h.2.2.1, hf.cell h.2.2.2.1, hf.cell h.2.2.2.2⟩
set_option maxHeartbeats 4000000 in
set_option maxRecDepth 100000 in
theorem bcopy {W w : World} {B R R2 : Nat} {s : BS} {q q2 : List Sd} {U : Thing} (h : Has W w ((BookT B R s q).sep ((RingT R2 q2).sep U))) (hs : s.ok) :
    Calls Tryd.prog 30 #[.pointer (some ⟨B, 0, none⟩), .pointer (some ⟨R2, 0, none⟩)] w fun e w' => ∃ B', e = .returned (.pointer (some ⟨B', 0, none⟩)) ∧ Has W w' ((BookT B' R2 s q2).sep ((BookT B R s q).sep U)) := by
  have HH := Lib.hid (h.fr (Fr.drew w))
  obtain ⟨M, ev, m, hb⟩ := HH.out.bopen
  have HB := Lib.hid hb
  obtain ⟨a, c, rfl⟩ := row_form hb.row
  have HC0 : Hid (w.drew.cell? ⟨B, 1, none⟩ = some (.int .i64 s.k) ∧ w.drew.cell? ⟨B, 2, none⟩ = some (.slice a s.es.length c) ∧ w.drew.cell? ⟨B, 3, none⟩ = some (.map (some M)) ∧ w.drew.cell? ⟨B, 4, none⟩ = some (.int .i64 s.n) ∧ w.drew.cell? ⟨B, 5, none⟩ = some (.int .i64 s.t)) := Lib.hid ⟨cellOf hb.heap rfl, cellOf hb.heap rfl, cellOf hb.heap rfl, cellOf hb.heap rfl, cellOf hb.heap rfl⟩
  have HN := Lib.hid hs.1
  clear h hb hs
  go_enter Tryd.func30, Tryd.ntmps30
  go_wp2_with fail
  go_region_held3 (fun w' => w'.cell? ⟨B, 1, none⟩ = some (.int .i64 s.k) ∧ w'.cell? ⟨B, 2, none⟩ = some (.slice a s.es.length c) ∧ w'.cell? ⟨B, 3, none⟩ = some (.map (some M)) ∧ w'.cell? ⟨B, 4, none⟩ = some (.int .i64 s.n) ∧ w'.cell? ⟨B, 5, none⟩ = some (.int .i64 s.t))
    (first | exact HC4.out | exact five_fr HC4.out (Fr.alloc _ _) | exact HC3.out | exact HC0.out)
    (first
    | (go_at_call 52; refine (sclone HB.out.row (by have := HN.out; omega)).mono ?_; rintro e w3 ⟨v', rfl, ho, hfs⟩
       have H3 := Lib.hid (HH.out.radd ho hfs)
       obtain ⟨va, vc, rfl⟩ := row_form ho
       have HC3 := Lib.hid (five_fr HC0.out hfs)
       have HM3 := Lib.hid ((HB.out.fr hfs).map))
    | (go_at_call 53; refine (Ms.mapsClone_is _ HM3.out).mono ?_; rintro e w4 ⟨rfl, hm, hfm⟩
       have H4 := Lib.hid (H3.out.madd hm (Nat.le_refl _) hfm)
       have HC4 := Lib.hid (five_fr HC3.out hfm)))
  all_goals (go_wp2_with fail; go_ret)
  all_goals exact ⟨_, rfl, copy_made H4.out⟩
end Go.Proofs.YtailbappdfbjoaaDoor
