/-
  The steps beside other things (Has.sign ..); the law's Few, Same, small.
-/
import Derived.Test.YtapdabebiinnnaaGreatDoorSc
namespace Go.Proofs.YtapdabebiinnnaaGreatDoor
open Go.RowKit Go.MapKept Go.Maps Go.WideMaps

/-! ### Steps beside other things -/
theorem Has.sign {W w : World} {B : Nat} {q : List Sd} {U : Thing} (h : Has W w ((RingT B q).sep U)) (k : Int) (t : Txt) (ht : t.length ≤ maxLen) (hq : q.length ≤ 1000000) :
    Calls Tryz.prog 38 #[.pointer (some ⟨B, 0, none⟩), .int .i64 k, .string (S t)] w fun r w' => r = .returned (sgV (signR q (k, t))) ∧ Has W w' ((RingT B (signL q (k, t))).sep U) := by
  obtain ⟨O, hT, _, hb⟩ := h.open
  refine (sign_any O B q k t w hT ht hq).mono ?_
  rintro r w' ⟨rfl, hs⟩
  exact ⟨rfl, hb w' _ hs⟩
set_option maxRecDepth 100000 in
theorem Has.valid {W w : World} {B : Nat} {q : List Sd} {U : Thing} (h : Has W w ((RingT B q).sep U)) (s : Sg) (hq : q.length ≤ 1000000) :
    Calls Tryz.prog 48 #[.pointer (some ⟨B, 0, none⟩), sgV s] w fun r w' => r = .returned (.bool (holds q s)) ∧ Fr w w' := by
  obtain ⟨O, hT, _, _⟩ := h.open
  exact valid_any O B q s w hT hq
set_option maxRecDepth 100000 in
theorem Has.ring {W w : World} {U : Thing} (h : Has W w U) : Calls Tryz.prog 7 #[] w fun r w' => ∃ B, r = .returned (.pointer (some ⟨B, 0, none⟩)) ∧ Has W w' ((RingT B []).sep U) := by
  refine (new_any w).mono ?_
  rintro r w' ⟨B, rfl, hs⟩
  exact ⟨B, rfl, h.new hs⟩
/-! ### Same, of equal lists -/
end Go.Proofs.YtapdabebiinnnaaGreatDoor
