/-
  Copy and Open.
-/
import Derived.Test.YtapdabebiinnnaaGreatDoorSv
namespace Go.Proofs.YtapdabebiinnnaaGreatDoor
open Go.RowKit Go.MapKept Go.Maps Go.WideMaps

/-- A ring that has just been made out of its parts. -/
theorem ring_made {w wa : World} (hf : Fr w wa) {v : Value} {M : Nat} {q : List Sd} (ho : wa.ownsRow w.heap.size 78 2 v q.length (sdC q)) (hm : MapIs wa M (pmV q) q.length) (hM : w.heap.size ≤ M) (hq : q.Nodup) :
    (RingT wa.heap.size q).step (fun _ => False) w (wa.alloc (.cells #[v, .map (some M)] 72)) := by
  have hfa := Fr.alloc wa (.cells #[v, .map (some M)] 72)
  have hs : (wa.alloc (.cells #[v, .map (some M)] 72)).heap.size = wa.heap.size + 1 := by simp
  have hlt := hm.lt
  refine ⟨fun k => w.heap.size ≤ k ∧ k < wa.heap.size + 1, ⟨M, v, fun k hk => by rw [hs]; exact hk.2, ⟨hf.size, by omega⟩, ⟨hM, by omega⟩, fun p hp => ?_, heap_alloc_new wa _, hm.fr hfa, own_base (own_fr ho hfa) (Nat.zero_le _), hq⟩, fun k hk => .inr ⟨hk.1, by rw [hs]; exact hk.2⟩, .of_fr (hf.trans hfa)⟩
  have := ho.lt p hp
  omega

end Go.Proofs.YtapdabebiinnnaaGreatDoor
