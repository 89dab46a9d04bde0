/-
  What BookCopies wants: the results of a list of operations as lists; a ring's copy; rows of errors.
-/
import Derived.Test.YtailbappdfbjoaaDoorBm
namespace Go.Proofs.YtailbappdfbjoaaDoor
open Go.RowKit Go.MapKept Go.Maps Go.WideMaps

/-- What operation number j returns, run from p. -/
noncomputable def rG (p : BS × List Sd) (l : List Op3) (j : Nat) : Sg := sgO (runS p (l.take j)).2 (opO (runS p (l.take j)).1 (l.getD j (0, 0, [])))
noncomputable def rE (p : BS × List Sd) (l : List Op3) (j : Nat) : Int := opE (runS p (l.take j)).1 (l.getD j (0, 0, []))
noncomputable def gL (p : BS × List Sd) (l : List Op3) (k : Nat) : List Sg := (List.range k).map (rG p l)
noncomputable def eL (p : BS × List Sd) (l : List Op3) (k : Nat) : List Int := (List.range k).map (rE p l)
theorem gL_len (p : BS × List Sd) (l : List Op3) (k : Nat) : (gL p l k).length = k := by unfold gL; simp
theorem eL_len (p : BS × List Sd) (l : List Op3) (k : Nat) : (eL p l k).length = k := by unfold eL; simp
theorem gL_succ (p : BS × List Sd) (l : List Op3) (k : Nat) : gL p l (k + 1) = gL p l k ++ [rG p l k] := by unfold gL; rw [List.range_succ, List.map_append]; rfl
theorem eL_succ (p : BS × List Sd) (l : List Op3) (k : Nat) : eL p l (k + 1) = eL p l k ++ [rE p l k] := by unfold eL; rw [List.range_succ, List.map_append]; rfl
theorem gL_get (p : BS × List Sd) (l : List Op3) (n k : Nat) (h : k < n) : (gL p l n)[k]? = some (rG p l k) := by unfold gL; simp [h]
theorem eL_get (p : BS × List Sd) (l : List Op3) (n k : Nat) (h : k < n) : (eL p l n)[k]? = some (rE p l k) := by unfold eL; simp [h]
theorem rG_at (p : BS × List Sd) (l : List Op3) (k : Nat) (h : k < l.length) : rG p l k = sgO (runS p (l.take k)).2 (opO (runS p (l.take k)).1 l[k]) := by unfold rG; simp [h]
theorem rE_at (p : BS × List Sd) (l : List Op3) (k : Nat) (h : k < l.length) : rE p l k = opE (runS p (l.take k)).1 l[k] := by unfold rE; simp [h]
theorem runS_ok {key : Int} {n : Nat} {p : BS × List Sd} (h : StOk key n p) (l : List Op3) (k : Nat) : StOk key (n + k) (runS p (l.take k)) := by
  have h := h.run (l.take k)
  have hl : (l.take k).length ≤ k := by rw [List.length_take]; omega
  exact ⟨h.key, by have := h.len; omega, h.txt, by have := h.ring; omega⟩

theorem BP_at {B R M : Nat} {ev : Value} {m : Nat} {s : BS} {q : List Sd} {U : Thing} {w : World} {O : Nat → Prop}
    (h : ((RingT R q).sep ((BoxT 85 B #[.pointer (some ⟨R, 0, none⟩), .int .i64 s.k, ev, .map (some M), .int .i64 s.n, .int .i64 s.t]).sep ((RowT 9 1 ev s.es.length (strs s.es)).sep ((MapT M (pmK (ks s.es)) m).sep U)))).at_ w O) : ((BookT B R s q).sep U).at_ w O := by
  have h1 := sep_assoc' (sep_under h fun _ h => sep_assoc' (sep_under h fun _ h => sep_assoc' h))
  obtain ⟨O1, O2, h2, h3, h4, h5⟩ := h1
  exact ⟨O1, O2, ⟨M, ev, m, h2⟩, h3, h4, h5⟩
theorem Has.bring {W w : World} {B R : Nat} {s : BS} {q : List Sd} {U : Thing} (h : Has W w ((BookT B R s q).sep U)) (hq : q.length ≤ 1000000) :
    Calls Tryd.prog 29 #[.pointer (some ⟨R, 0, none⟩)] w fun r w' => ∃ R', r = .returned (.pointer (some ⟨R', 0, none⟩)) ∧ Has W w' ((BookT B R s q).sep ((RingT R' q).sep U)) := by
  obtain ⟨M, ev, m, hb⟩ := h.bopen
  refine (Has.copy hb hq).mono ?_
  rintro r w' ⟨R', rfl, h1⟩
  exact ⟨R', rfl, (h1.map fun _ h => sep_under h fun _ h => BP_at h).turn⟩

def ints (l : List Int) : List Value := l.map fun k => Value.int .i64 k
theorem ints_app (l : List Int) (k : Int) : ints (l ++ [k]) = ints l ++ [.int .i64 k] := by simp [ints]
theorem infoErr : (Tryd.prog.info? 30).map (fun i => (i.zero, i.size, i.bytes)) = some (some (.int .i64 0), 1, 8) := by kernel_rfl
theorem int_row {w : World} {base n : Nat} {v : Value} {l : List Int} (h : w.ownsRow base 30 1 v n (ints l)) (h0 : 0 < n) :
    ∃ g cap, v = .slice (some ⟨g, 0, none⟩) n cap ∧ ∀ (i : Nat) (x : Int), l[i]? = some x → w.cell? ⟨g, i, none⟩ = some (.int .i64 x) := by
  rcases h.2 with ⟨_, h1⟩ | ⟨g, cap, cur, h1, h2, h3, h4, h5, h6, h7⟩
  · omega
  · refine ⟨g, cap, h1, fun i x hx => ?_⟩
    rw [Lib.cell_of_heap h3]
    have hs : (ints l)[i]? = some (.int .i64 x) := by simp [ints, hx]
    rw [← h7, List.getElem?_take] at hs
    split at hs
    · simpa using hs
    · cases hs
end Go.Proofs.YtailbappdfbjoaaDoor
