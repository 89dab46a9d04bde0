/-
  Contracts: the functions of the reference (ladingref01) that write.
-/
import Derived.Test.YthppefkamklakaaDoorEnc
namespace Go.Proofs.YthppefkamklakaaDoor
open Go.RowKit

theorem digits_len (u : Nat) (h : u ≤ 9223372036854775808) : (Lib.decDigits u).length ≤ 20 := by
  rw [Lib.decDigits_length]; exact Lib.nDigits_le20 u (by omega)
theorem dec_snoc (u : Nat) (h : ¬ u < 10) : Lib.decDigits u = Lib.decDigits (u / 10) ++ [UInt8.ofNat (48 + u % 10)] := by
  rw [Lib.decDigits, dif_neg h]

def chr (u : Nat) : UInt8 := UInt8.ofNat (48 + u % 10)
theorem chr_run (u : Nat) (w : World) :
    (convert 132 9 (.slice (some ⟨w.heap.size, 0, none⟩) 1 1)).run Tryd.prog (w.alloc (.cells #[.int .u8 (48 + (u : Int) % 10)] 5)) =
      .ok (.string (S [chr u])) (w.alloc (.cells #[.int .u8 (48 + (u : Int) % 10)] 5)) := by
  refine run_convert_bytes_back _ _ _ _ ⟨w.heap.size, 0, none⟩ 1 [UInt8.ofNat (48 + u % 10)] Tryd.underlying132 Tryd.underlying5 Tryd.underlying9 ?_
  intro j hj
  match j, hj with
  | 0, hj =>
    rw [List.getElem_cons_zero, Wm.ofNat_dig (by omega)]
    simp [Addr.add]

end Go.Proofs.YthppefkamklakaaDoor
