/-
  The reference's disk: get, Size, pending.
-/
import Derived.Test.YtpjoekjakjajcaaFa
namespace Go.Proofs.Ytpjoekjakjajcaa
open Go.RowKit

theorem row_at {w : World} {base e size n : Nat} {v : Value} {xs : List Value} (h : w.ownsRow base e size v n xs) : ∃ a c, v = .slice a n c := by
  rcases h.2 with ⟨rfl, rfl⟩ | ⟨g, cap, cur, rfl, _⟩
  · exact ⟨_, _, rfl⟩
  · exact ⟨_, _, rfl⟩
/-- A sector in the queue. -/
def qMem (r : FS) (f n : Nat) : Bool := decide ((f, n) ∈ r.q)
theorem qMem_hit {r : FS} {f n k : Nat} (hk : k < r.q.length) (h1 : (r.q[k]).1 = f) (h2 : (r.q[k]).2 = n) : qMem r f n = true := by
  have := List.getElem_mem hk
  rw [show r.q[k] = (f, n) from Prod.ext h1 h2] at this
  unfold qMem; simpa using this
theorem qMem_miss {r : FS} {f n : Nat} (h : ∀ j (hj : j < r.q.length), ¬ ((r.q[j]).1 = f ∧ (r.q[j]).2 = n)) : qMem r f n = false := by
  unfold qMem
  rw [decide_eq_false_iff_not]
  intro hm
  obtain ⟨j, hj, e⟩ := List.mem_iff_getElem.1 hm
  exact h j hj ⟨by rw [e], by rw [e]⟩

set_option maxHeartbeats 4000000 in
theorem rpend_any {w : World} {O : Nat → Prop} {B : Nat} {r : FS} (h : (RfT B r).at_ w O) (f n : Nat) (hf : f < 16) (hn : n ≤ 1000000) (hq : r.q.length ≤ 1000000000000) :
    Calls Try.prog 59 #[.pointer (some ⟨B, 0, none⟩), .int .i64 f, .int .i64 n] w fun e w' => e = .returned (.bool (qMem r f n)) ∧ w' = w := by
  obtain ⟨fv, qv, kv, hr⟩ := h
  obtain ⟨_, c1, _, _, _, _⟩ := hr.c
  obtain ⟨a, c, rfl⟩ := row_at hr.queue
  have HQ := Lib.hid hr.queue
  clear hr
  obtain ⟨nq, hnq⟩ : ∃ nq, nq = r.q.length := ⟨_, rfl⟩
  rw [← hnq] at c1 hq
  have HN := Lib.hid hnq
  clear hnq
  go_enter Try.func59, Try.ntmps59
  go_wp2_with fail
  go_loopw [7] (fun i wr => ∃ (k : Nat), k ≤ nq ∧ i = .int .i64 k ∧ wr = w ∧ Hid (∀ j (hj : j < r.q.length), j < k → ¬ ((r.q[j]).1 = f ∧ (r.q[j]).2 = n))) (fun i _ => nq - (intOf i).toNat)
  case atStart => exact ⟨0, Nat.zero_le _, by go_num, rfl, Lib.hid (fun j _ hj => by omega)⟩
  case round =>
    obtain ⟨k, hk, rfl, rfl, HM⟩ := hrel
    by_cases hlt : k < nq
    · have hlt' : k < r.q.length := by rw [← HN.out]; exact hlt
      have h0 : 0 < r.q.length := by omega
      obtain ⟨g, rfl, _, hc⟩ := own_cell HQ.out h0
      obtain ⟨e1, e2⟩ := qCells_get r.q k hlt'
      have d1 := hc (2 * k) _ (by omega) e1
      have d2 := hc (2 * k + 1) _ (by omega) e2
      rw [Nat.mul_comm] at d1 d2
      clear hc e1 e2 h0
      have HS := Lib.hid (show ∀ (_ : ¬ ((r.q[k]).1 = f ∧ (r.q[k]).2 = n)) j (hj : j < r.q.length), j < k + 1 → ¬ ((r.q[j]).1 = f ∧ (r.q[j]).2 = n) from fun hh j hj hjk => by
        rcases Nat.lt_or_ge j k with hjk' | hjk'
        · exact HM.out j hj hjk'
        · obtain rfl : j = k := by omega
          exact hh)
      have HH := Lib.hid (show (r.q[k]).1 = f → (r.q[k]).2 = n → qMem r f n = true from fun a b => qMem_hit hlt' a b)
      generalize (r.q[k]).1 = x at *
      generalize (r.q[k]).2 = y at *
      by_cases hx : x = f
      · by_cases hy : y = n
        · have HT := Lib.hid (HH.out hx hy)
          subst hx hy
          go_wp2
          go_ret
          exact ⟨by rw [HT.out]; rfl, rfl⟩
        · have hy' : (y : Int) ≠ n := by omega
          have HT := Lib.hid (HS.out (fun h => hy h.2))
          subst hx
          go_wp2
          go_roundw
          case rel => exact ⟨k + 1, by omega, by go_num, trivial, HT⟩
          case measure => simp [intOf]; omega
      · have hx' : (x : Int) ≠ f := by omega
        have HT := Lib.hid (HS.out (fun h => hx h.1))
        go_wp2
        go_roundw
        case rel => exact ⟨k + 1, by omega, by go_num, trivial, HT⟩
        case measure => simp [intOf]; omega
    · have HT := Lib.hid (qMem_miss (fun j hj => HM.out j hj (by have := HN.out; omega)))
      go_wp2
      go_ret
      exact ⟨by rw [HT.out]; rfl, rfl⟩
end Go.Proofs.Ytpjoekjakjajcaa
