/-
  Contracts: the functions of the reference (ladingref01) that write.
-/
import Derived.Test.YtgncliigmjeffaaDoorEnc
namespace Go.Proofs.YtgncliigmjeffaaDoor
open Go.RowKit

theorem digits_len (u : Nat) (h : u ≤ 9223372036854775808) : (Lib.decDigits u).length ≤ 20 := by
  rw [Lib.decDigits_length]; exact Lib.nDigits_le20 u (by omega)
theorem dec_snoc (u : Nat) (h : ¬ u < 10) : Lib.decDigits u = Lib.decDigits (u / 10) ++ [UInt8.ofNat (48 + u % 10)] := by
  rw [Lib.decDigits, dif_neg h]

end Go.Proofs.YtgncliigmjeffaaDoor
