/-
  Valid inside of the list; slices of entries (Sl); slices.Clone, All.
-/
import Derived.Test.YtapdabebiinnnaaGreatDoorSo
namespace Go.Proofs.YtapdabebiinnnaaGreatDoor
open Go.RowKit Go.MapKept Go.Maps Go.WideMaps

/-- An own row of entries, element by element. -/
theorem row_at {w : World} {base n : Nat} {v : Value} {l : List Sd} (h : w.ownsRow base 78 2 v n (sdC l)) (hl : n = l.length) (h0 : 0 < l.length) :
    ∃ g cap, v = .slice (some ⟨g, 0, none⟩) l.length cap ∧ l.length ≤ cap ∧ ∀ (i : Nat) (h : i < l.length), w.cell? ⟨g, i * 2, none⟩ = some (.int .i64 l[i].1) ∧ w.cell? ⟨g, i * 2 + 1, none⟩ = some (.string (S l[i].2)) := by
  subst hl
  rcases h.2 with ⟨rfl, h1⟩ | ⟨g, cap, cur, rfl, hB, hg, hc, _, hs, ht⟩
  · omega
  · refine ⟨g, cap, rfl, hc, fun i hi => ?_⟩
    have hget : ∀ j u, j < l.length * 2 → (sdC l)[j]? = some u → w.cell? ⟨g, j, none⟩ = some u := fun j u hj hu => by
      rw [Lib.cell_of_heap hg]
      rw [← ht, List.getElem?_take, if_pos hj] at hu
      simpa using hu
    have hc := sdC_get l i hi
    exact ⟨hget _ _ (by omega) (by rw [Nat.mul_comm]; exact hc.1), hget _ _ (by omega) (by rw [Nat.mul_comm]; exact hc.2)⟩

set_option maxHeartbeats 1000000 in
set_option maxRecDepth 100000 in
theorem valid_in (O : Nat → Prop) (B : Nat) (q : List Sd) (k : Int) (t : Txt) (m : Nat) (w : World) (h : (RingT B q).at_ w O) (hm : m < q.length) (hq : q.length ≤ 1000000) :
    Calls Tryz.prog 48 #[.pointer (some ⟨B, 0, none⟩), sgV (k, t, m)] w fun r w' => r = .returned (.bool (decide (q[m] = (k, t)))) ∧ Fr w w' := by
  obtain ⟨M, ev, hr⟩ := h
  obtain ⟨g, cap, hev, hcap, hcell⟩ := row_at hr.row rfl (by omega)
  subst hev
  have hf := Fr.alloc w (.cells #[.int .i64 k, .string (S t), .int .i64 m] 32)
  have c0 := hf.cell (cellOf hr.heap (i := 0) rfl)
  have c1 := hf.cell (hcell m hm).1
  have c2 := hf.cell (hcell m hm).2
  clear hr hcell
  generalize q[m] = e at *
  obtain ⟨k', t'⟩ := e
  simp only at c1 c2
  have HF := Lib.hid hf
  clear hf
  unfold sgV
  by_cases h1 : k' = k
  · subst h1
    by_cases h2 : t' = t
    · subst h2
      rw [decide_eq_true rfl]
      go_enter Tryz.func48, Tryz.ntmps48
      go_wp2_with fail
      go_quiet (fail)
      go_wp2_with fail
      go_quiet (fail)
      go_wp2_with fail
      go_ret
      exact ⟨rfl, HF.out.trans ((Fr.drewN _ _).trans (Fr.drewN _ _))⟩
    · rw [decide_eq_false (fun h => h2 (congrArg Prod.snd h))]
      go_enter Tryz.func48, Tryz.ntmps48
      go_wp2_with fail
      go_quiet (fail)
      go_wp2_with fail
      go_quiet (fail)
      go_wp2_with fail
      go_ret
      exact ⟨rfl, HF.out.trans ((Fr.drewN _ _).trans (Fr.drewN _ _))⟩
  · rw [decide_eq_false (fun h => h1 (congrArg Prod.fst h))]
    go_enter Tryz.func48, Tryz.ntmps48
    go_wp2_with fail
    go_quiet (fail)
    go_wp2_with fail
    go_quiet (fail)
    go_wp2_with fail
    go_ret
    exact ⟨rfl, HF.out.trans ((Fr.drewN _ _).trans (Fr.drewN _ _))⟩
set_option maxRecDepth 100000 in
theorem valid_any (O : Nat → Prop) (B : Nat) (q : List Sd) (s : Sg) (w : World) (h : (RingT B q).at_ w O) (hq : q.length ≤ 1000000) :
    Calls Tryz.prog 48 #[.pointer (some ⟨B, 0, none⟩), sgV s] w fun r w' => r = .returned (.bool (holds q s)) ∧ Fr w w' := by
  obtain ⟨k, t, m⟩ := s
  by_cases hm : m < 0 ∨ (q.length : Int) ≤ m
  · refine (valid_out O B q (k, t, m) w h hm hq).mono ?_
    rintro r w' ⟨rfl, hf⟩
    refine ⟨?_, hf⟩
    have : holds q (k, t, m) = false := by
      unfold holds
      refine decide_eq_false fun hh => ?_
      simp only at hh
      have := (List.getElem?_eq_some_iff.1 hh.2).1
      omega
    rw [this]
  · obtain ⟨n, rfl⟩ : ∃ n : Nat, m = n := ⟨m.toNat, by omega⟩
    have hn : n < q.length := by omega
    refine (valid_in O B q k t n w h hn hq).mono ?_
    rintro r w' ⟨rfl, hf⟩
    refine ⟨?_, hf⟩
    have : holds q (k, t, (n : Int)) = decide (q[n] = (k, t)) := by
      unfold holds
      rw [Bool.eq_iff_iff]
      simp only [decide_eq_true_eq, Int.toNat_natCast]
      rw [List.getElem?_eq_getElem hn, Option.some.injEq]
      exact ⟨fun h => h.2, fun h => ⟨by omega, h⟩⟩
    rw [this]

/-! ### Slices of entries; Clone, All -/
/-- The entries lie from place o of block b on. -/
def At (w : World) (b o : Nat) (l : List Sd) : Prop := ∀ (i : Nat) (h : i < l.length), w.cell? ⟨b, o + i * 2, none⟩ = some (.int .i64 l[i].1) ∧ w.cell? ⟨b, o + i * 2 + 1, none⟩ = some (.string (S l[i].2))
theorem At.fr {w w' : World} {b o : Nat} {l : List Sd} (h : At w b o l) (hf : Fr w w') : At w' b o l := fun i hi => ⟨hf.cell (h i hi).1, hf.cell (h i hi).2⟩
/-- A slice of entries: empty, or entries at an address. -/
def Sl (w : World) (v : Value) (l : List Sd) : Prop := (l = [] ∧ ∃ a c, v = .slice a 0 c) ∨ ∃ b o c, v = .slice (some ⟨b, o, none⟩) l.length c ∧ At w b o l
theorem Sl.fr {w w' : World} {v : Value} {l : List Sd} (h : Sl w v l) (hf : Fr w w') : Sl w' v l := by
  rcases h with h | ⟨b, o, c, hv, hc⟩
  · exact .inl h
  · exact .inr ⟨b, o, c, hv, hc.fr hf⟩
theorem Sl.len {w : World} {v : Value} {l : List Sd} (h : Sl w v l) : ∃ a c, v = .slice a l.length c := by
  rcases h with ⟨rfl, a, c, rfl⟩ | ⟨b, o, c, rfl, _⟩
  · exact ⟨a, c, rfl⟩
  · exact ⟨_, _, rfl⟩
theorem Sl.nil (w : World) (a : Option Addr) (c : Nat) : Sl w (.slice a 0 c) [] := .inl ⟨rfl, _, _, rfl⟩
theorem Sl.own {B n : Nat} {w : World} {v : Value} {l : List Sd} (h : w.ownsRow B 78 2 v n (sdC l)) (hn : n = l.length) : Sl w v l := by
  rcases Nat.eq_zero_or_pos l.length with h0 | h0
  · have hl : l = [] := List.length_eq_zero_iff.1 h0
    obtain ⟨a, c, rfl⟩ := row_form h
    subst hl
    exact .inl ⟨rfl, a, c, by rw [hn]; rfl⟩
  · obtain ⟨g, cap, rfl, _, hc⟩ := row_at h hn h0
    exact .inr ⟨g, 0, cap, rfl, fun i hi => by rw [Nat.zero_add]; exact hc i hi⟩
theorem At.cells {w : World} {b o : Nat} {l : List Sd} (h : At w b o l) : ∀ j u, (sdC l)[j]? = some u → w.cell? ((⟨b, o, none⟩ : Addr).add j) = some u := by
  intro j u hu
  have hj : j < l.length * 2 := by have := (List.getElem?_eq_some_iff.1 hu).1; rwa [sdC_length] at this
  have hi : j / 2 < l.length := by omega
  have h1 := h (j / 2) hi
  have h2 := sdC_get l (j / 2) hi
  rw [Addr.add_mid]
  rcases Nat.mod_two_eq_zero_or_one j with hm | hm
  · have e : j = 2 * (j / 2) := by omega
    rw [e] at hu
    rw [h2.1] at hu
    rw [← hu, ← h1.1]
    congr 2
    omega
  · have e : j = 2 * (j / 2) + 1 := by omega
    rw [e] at hu
    rw [h2.2] at hu
    rw [← hu, ← h1.2]
    congr 2
    omega

def CloneP (l : List Sd) (w : World) (e : Ending) (w' : World) : Prop := ∃ v', e = .returned v' ∧ w'.ownsRow w.heap.size 78 2 v' l.length (sdC l) ∧ Fr w w'
end Go.Proofs.YtapdabebiinnnaaGreatDoor
