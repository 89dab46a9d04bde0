/-
  The reference's ring: New, find, Sign, Valid, All, Open.
-/
import Derived.Test.YtapdabebiinnnaaDoorSk
namespace Go.Proofs.YtapdabebiinnnaaDoor
open Go.RowKit Go.MapKept Go.Maps Go.WideMaps

/-- The index, or -1. -/
def ixI (q : List Sd) (e : Sd) : Int := match pm 0 q e with | some k => (k : Int) | none => -1
theorem pm_take_none {q : List Sd} {e : Sd} {k : Nat} (hk : k < q.length) (h : e ∉ q.take k) (hn : q[k] ≠ e) : e ∉ q.take (k + 1) := by
  rw [List.take_succ_eq_append_getElem hk, List.mem_append, List.mem_singleton]
  rintro (h' | h')
  · exact h h'
  · exact hn h'.symm
theorem ixI_here {q : List Sd} {k : Nat} {e : Sd} (hk : k < q.length) (he : q[k] = e) (h : e ∉ q.take k) : ixI q e = (k : Int) := by
  have h1 := pm_new (q.drop (k + 1)) h
  rw [show q.take k ++ e :: q.drop (k + 1) = q by rw [← he, ← List.drop_eq_getElem_cons hk, List.take_append_drop], List.length_take] at h1
  unfold ixI
  rw [h1]
  show ((min k q.length : Nat) : Int) = _
  omega
set_option maxRecDepth 100000 in
theorem ixI_none {q : List Sd} {e : Sd} (h : e ∉ q) : ixI q e = -1 := by unfold ixI; rw [pm_none.2 h]
/-! ### Sign -/
set_option maxRecDepth 100000 in
theorem ixI_some {q : List Sd} {e : Sd} {n : Nat} (h : pm 0 q e = some n) : ixI q e = (n : Int) := by unfold ixI; rw [h]
end Go.Proofs.YtapdabebiinnnaaDoor
