/-
  The reference's disk: Crash: what is plain.
-/
import Derived.Test.YtpjoekjakjajcaaFk
import Derived.Laws.Bits128
namespace Go.Proofs.Ytpjoekjakjajcaa
open Go.RowKit

theorem i64_and1 (n : Int) : bits .and .i64 n 1 = n % 2 := by
  have h1 : (BitVec.ofInt 64 1).toNat = 2 ^ 1 - 1 := by decide
  have key : (BitVec.ofInt 64 n &&& BitVec.ofInt 64 1).toNat = (n % ((2 ^ 64 : Nat) : Int)).toNat % 2 ^ 1 := by
    rw [BitVec.toNat_and, BitVec.toNat_ofInt, h1, Nat.and_two_pow_sub_one_eq_mod]
  show IntKind.i64.wrap ((BitVec.ofInt 64 n &&& BitVec.ofInt 64 1).toNat : Nat) = n % 2
  rw [key, IntKind.wrap_i64]
  omega
theorem kept_iff (ks : List Int) (k : Nat) (h : k % ks.length < ks.length) : (kept ks k = true) ↔ bits .and .i64 (ks[k % ks.length]) 1 = 1 := by
  rw [i64_and1]
  unfold kept
  have h0 : 0 < ks.length := by omega
  rw [List.getD_eq_getElem?_getD, List.getElem?_eq_getElem h]
  generalize ks[k % ks.length] = x
  have e : x.tmod 2 = 0 ↔ (2 : Int) ∣ x := (Int.dvd_iff_tmod_eq_zero).symm
  rw [decide_eq_true h0, Bool.true_and, bne_iff_ne, ne_eq, show ((some x).getD 0 : Int) = x from rfl, e]
  omega
theorem kept_nil (k : Nat) : kept [] k = false := rfl
theorem crF_nil (fl : List (Nat × Txt × Txt)) (q : List (Nat × Nat)) (k : Nat) : crF fl q [] k = fl := by
  induction k with
  | zero => rfl
  | succ k ih =>
    unfold crF
    split
    · rw [kept_nil]; exact ih
    · exact ih
/-- One of the plain cells is another now. -/
theorem RfAt.scalar {w : World} {O : Nat → Prop} {B : Nat} {fv qv kv : Value} {r : FS} (h : RfAt w O B fv qv kv r) (i : Nat) (v : Value) (r' : FS)
    (e : (#[fv, qv, .int .i64 r.lost, .bool r.down, .int .i64 r.armed, kv] : Array Value).setIfInBounds i v = #[fv, qv, .int .i64 r'.lost, .bool r'.down, .int .i64 r'.armed, kv])
    (h1 : r'.fl = r.fl) (h2 : r'.q = r.q) (h3 : r'.keep = r.keep) : RfAt (w.setCell ⟨B, i, none⟩ v) O B fv qv kv r' := by
  have hob := OnlyB.setCell w B i v
  have hsz : (w.setCell ⟨B, i, none⟩ v).heap.size = w.heap.size := hob.2.2.2.1
  have ho := hob.2.2.2.2
  refine ⟨fun k hk => by rw [hsz]; exact h.bound k hk, h.oB, h.oF, h.oQ, h.oK, by rw [← e]; exact heapB h.heap, ?_, ?_, ?_⟩
  · rw [h1]; exact ownsRow_heap h.files fun p hp => ho p (rowB_ne h.files h.heap (by decide) p hp)
  · rw [h2]; exact ownsRow_heap h.queue fun p hp => ho p (rowB_ne h.queue h.heap (by decide) p hp)
  · rw [h3]; exact ownsRow_heap h.keep fun p hp => ho p (rowB_ne h.keep h.heap (by decide) p hp)
theorem lastL_succ (l : List (Nat × Txt × Txt)) (k : Nat) (hk : k < l.length) : lastL (l.take (k + 1)) = lastL (l.take k) ++ [((l[k]).1, (l[k]).2.2, (l[k]).2.2)] := by
  unfold lastL
  rw [List.take_add_one, List.getElem?_eq_getElem hk, List.map_append]
  rfl
theorem lastL_len (l : List (Nat × Txt × Txt)) : (lastL l).length = l.length := by unfold lastL; simp
end Go.Proofs.Ytpjoekjakjajcaa
