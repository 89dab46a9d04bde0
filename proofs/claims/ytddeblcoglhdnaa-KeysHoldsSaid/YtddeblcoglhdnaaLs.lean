/-
  A slice of slices appended to a row of slices that was written out.
-/
import Derived.Test.YtddeblcoglhdnaaLr
namespace Go.Proofs.Ytddeblcoglhdnaa
open Go.RowKit Mb Go.BigFrame

section
variable {ops : Array Oper} {rest : List Oper} {op : Oper} {a : Act} {w : World} {Q : Exit → Act → World → Prop}
theorem wpList_append_slices2 {W0 : World} (hg : op.guard = none) (s x : Operand) (hop : op.op = .call { callee := .builtin .append, args := #[s, x], argTypes := #[24, 24] }) (vs : List Value) (ls : List (List Int))
    (hw : w = W0.alloc (.cells vs.toArray 23)) (hs : a.eval s = .slice (some ⟨W0.heap.size, 0, none⟩) vs.length vs.length) (hvl : vs.length = ls.length) (hvs : ∀ (i : Nat) (h1 : i < vs.length) (h2 : i < ls.length), Sl W0 vs[i] ls[i])
    (xv : Value) (l : List (List Int)) (hx : a.eval x = xv) (hsl : SsSl W0 xv l)
    (b1 : vs.length ≤ 1000) (b2 : (vs.length + l.length) * 24 ≤ 140737488355328) (hK : ∀ v' w', Fr W0 w' → SsSl w' v' (ls ++ l) → wpList Try.prog ops Q rest (a.put op.dst v') w') :
    wpList Try.prog ops Q (op :: rest) a w := by
  obtain ⟨i0, hi, hz0, hz1, hz2⟩ := info_parts infoSl
  obtain ⟨ws, hwl, hws, hsrc⟩ := hsl.vals
  have hW : Fr W0 w := by rw [hw]; exact Fr.alloc _ _
  have hrow : w.ownsRow W0.heap.size 23 1 (.slice (some ⟨W0.heap.size, 0, none⟩) vs.length vs.length) vs.length vs := by
    have := World.ownsRow_lit (base := W0.heap.size) (e := 23) (size := 1) W0 vs.toArray vs.length (Nat.le_refl _) (by unfold maxLen; omega) (by simp)
    rw [hw]; simpa using this
  refine wpList_plain hg fun _ hK' => wp_append_src s x 24 hop W0.heap.size 23 i0 (.slice none 0 0) 1 24 Try.underlying24 hi hz0 hz1 hz2 rfl (by decide) _ vs.length vs hs hrow xv l.length ws hx (hsrc.fr hW) (by omega) (fun u hu => ?_) (by unfold maxLen; omega) b2 hW.size
    (fun v' w' r1 r2 => ?_)
  · obtain ⟨i, hi, rfl⟩ := List.getElem_of_mem hu
    exact (hws i hi (by omega)).one
  · have hf : Fr W0 w' := Fr.growO hW r2 (fun k hk => Nat.le_of_eq (Option.some.inj hk))
    refine hK' _ _ (hK v' w' hf (SsSl.own r1 (by simp [hvl, hwl]) (fun i h1 h2 => ?_)))
    rcases Nat.lt_or_ge i vs.length with h | h
    · rw [List.getElem_append_left h, List.getElem_append_left (by omega)]
      exact (hvs i h (by omega)).fr hf
    · rw [List.getElem_append_right h, List.getElem_append_right (by omega)]
      have := (hws (i - vs.length) (by simp at h1; omega) (by simp at h2; omega)).fr hf
      simpa only [hvl] using this
end
theorem two_sl {w : World} {v1 v2 : Value} {a b : List Int} (h1 : Sl w v1 a) (h2 : Sl w v2 b) : ∀ (i : Nat) (_p : i < [v1, v2].length) (q : i < [a, b].length), Sl w [v1, v2][i] [a, b][i] := by
  intro i p q
  rcases i with _ | _ | i
  · exact h1
  · exact h2
  · simp at p; omega
theorem three_sl {w : World} {v1 v2 v3 : Value} {a b c : List Int} (h1 : Sl w v1 a) (h2 : Sl w v2 b) (h3 : Sl w v3 c) : ∀ (i : Nat) (_p : i < [v1, v2, v3].length) (q : i < [a, b, c].length), Sl w [v1, v2, v3][i] [a, b, c][i] := by
  intro i p q
  rcases i with _ | _ | _ | i
  · exact h1
  · exact h2
  · exact h3
  · simp at p; omega
/-- What is known of lists that came in. -/
def Rng (l : List Int) : Prop := ∀ z ∈ l, -9223372036854775808 ≤ z ∧ z ≤ 9223372036854775807
end Go.Proofs.Ytddeblcoglhdnaa
