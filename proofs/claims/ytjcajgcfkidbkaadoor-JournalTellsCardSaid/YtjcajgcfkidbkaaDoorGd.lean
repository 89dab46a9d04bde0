/-
  The state of a disk and its bounds (Good).
-/
import Derived.Test.YtjcajgcfkidbkaaDoorRead
namespace Go.Proofs.YtjcajgcfkidbkaaDoor
open Go.RowKit

/-- The state and its bounds. -/
structure Good (s : RS) : Prop where
  inv : Inv s
  calls : s.calls ≤ 9223372036854775807
  lost : s.lost ≤ 9223372036854775807
  keep : s.keep.length ≤ 60
theorem good_new : Good newS := ⟨inv_new, by decide, by decide, by decide⟩
theorem good_crash {s : RS} (h : Good s) (ks : List Int) : Good (crashS s ks) := by
  refine ⟨inv_crash h.inv ks, ?_, ?_, ?_⟩ <;> unfold crashS <;> split
  · exact h.calls
  · exact Nat.zero_le _
  · exact h.lost
  · show (crK s ks s.q.length).lost ≤ _
    rw [(crK_rest _ _ _).2.2.1]; exact h.lost
  · exact h.keep
  · exact Nat.zero_le _
theorem good_strike {s : RS} (h : Good s) : Good (strikeS s) := by
  unfold strikeS
  split
  · exact h
  · split
    · exact good_crash (s := { s with calls := 0 }) ⟨inv_calls h.inv 0, Nat.zero_le _, h.lost, h.keep⟩ _
    · exact ⟨inv_calls h.inv _, Nat.le_trans (Nat.sub_le _ _) h.calls, h.lost, h.keep⟩
theorem good_wr {s : RS} (h : Good s) (f at_ : Int) (l : List UInt8) : Good (wrS s f at_ l) := by
  refine ⟨inv_wr h.inv f at_ l, ?_, ?_, ?_⟩ <;> unfold wrS <;> split
  · exact h.calls
  · exact h.calls
  · exact h.lost
  · exact h.lost
  · exact h.keep
  · exact h.keep
theorem good_write {s : RS} (h : Good s) (f at_ : Int) (l : List UInt8) : Good (writeS s f at_ l) := by
  unfold writeS
  split
  · exact h
  · exact good_strike (good_wr h f at_ l)
theorem good_settle {s : RS} (h : Good s) (f : Nat) : Good (settleS s f) := ⟨inv_settle h.inv f, h.calls, h.lost, h.keep⟩
theorem good_sync {s : RS} (h : Good s) (f : Int) : Good (syncS s f) := by
  have g := good_strike h
  unfold syncS
  split
  · exact h
  · split
    · exact g
    · split
      · exact g
      · split
        · exact ⟨inv_lost g.inv _, g.calls, Nat.le_trans (Nat.sub_le _ _) g.lost, g.keep⟩
        · exact good_settle g _
theorem good_trunc {s : RS} (h : Good s) (f n : Int) : Good (truncS s f n) := by
  have g := good_strike h
  have hi := inv_trunc h.inv f n
  refine ⟨hi, ?_, ?_, ?_⟩ <;> unfold truncS <;> split
  · exact h.calls
  · split
    · exact g.calls
    · split <;> exact g.calls
  · exact h.lost
  · split
    · exact g.lost
    · split <;> exact g.lost
  · exact h.keep
  · split
    · exact g.keep
    · split <;> exact g.keep
end Go.Proofs.YtjcajgcfkidbkaaDoor
