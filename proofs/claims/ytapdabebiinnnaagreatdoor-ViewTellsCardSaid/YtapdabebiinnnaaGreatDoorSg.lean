/-
  The reference's ring: Valid, All, Open.
-/
import Derived.Test.YtapdabebiinnnaaGreatDoorSe
namespace Go.Proofs.YtapdabebiinnnaaGreatDoor
open Go.RowKit Go.MapKept Go.Maps Go.WideMaps

set_option maxRecDepth 100000 in
theorem Has.rsign {W w : World} {B : Nat} {q : List Sd} {U : Thing} (h : Has W w ((RefT B q).sep U)) (k : Int) (t : Txt) (hq : q.length ≤ 1000000) :
    Calls Tryz.prog 10 #[.pointer (some ⟨B, 0, none⟩), .int .i64 k, .string (S t)] w fun r w' => r = .returned (sgV (signR q (k, t))) ∧ Has W w' ((RefT B (signL q (k, t))).sep U) := by
  obtain ⟨O, hT, _, hb⟩ := h.open
  refine (rsign_any O B q k t w hT hq).mono ?_
  rintro r w' ⟨rfl, hs⟩
  exact ⟨rfl, hb w' _ hs⟩
set_option maxRecDepth 100000 in
theorem Has.rring {W w : World} {U : Thing} (h : Has W w U) : Calls Tryz.prog 8 #[] w fun r w' => ∃ B, r = .returned (.pointer (some ⟨B, 0, none⟩)) ∧ Has W w' ((RefT B []).sep U) := by
  refine (rnew_any w).mono ?_
  rintro r w' ⟨B, rfl, hs⟩
  exact ⟨B, rfl, h.new hs⟩

end Go.Proofs.YtapdabebiinnnaaGreatDoor
