/-
  The reference's disk: get, Size.
-/
import Derived.Test.YtpjoekjakjajcaaFb
namespace Go.Proofs.Ytpjoekjakjajcaa
open Go.RowKit

set_option maxHeartbeats 4000000 in
theorem rget_any {w : World} {O : Nat → Prop} {B : Nat} {r : FS} (h : (RfT B r).at_ w O) (f : Int) (hl : r.fl.length ≤ 16) :
    Calls Try.prog 40 #[.pointer (some ⟨B, 0, none⟩), .int .i64 f] w fun e w' => e = .returned (fileV f (getI r.fl f)) ∧ Fr w w' := by
  obtain ⟨fv, qv, kv, hr⟩ := h
  obtain ⟨c0, _, _, _, _, _⟩ := hr.c
  obtain ⟨a, c, rfl⟩ := row_at hr.files
  have HQ := Lib.hid hr.files
  clear hr
  obtain ⟨nq, hnq⟩ : ∃ nq, nq = r.fl.length := ⟨_, rfl⟩
  rw [← hnq] at c0 hl
  have HN := Lib.hid hnq
  clear hnq
  go_enter Try.func40, Try.ntmps40
  go_wp2_with fail
  go_loopw [5] (fun i wr => ∃ (k : Nat), k ≤ nq ∧ i = .int .i64 k ∧ wr = w.alloc (.cells #[.int .i64 0, .string (S []), .string (S [])] 64) ∧ Hid (∀ j (hj : j < r.fl.length), j < k → (((r.fl[j]).1 : Nat) : Int) ≠ f)) (fun i _ => nq - (intOf i).toNat)
  case atStart => exact ⟨0, Nat.zero_le _, by go_num, rfl, Lib.hid (fun j _ hj => by omega)⟩
  case round =>
    obtain ⟨k, hk, rfl, rfl, HM⟩ := hrel
    have hfr : Fr w (w.alloc (.cells #[.int .i64 0, .string (S []), .string (S [])] 64)) := .alloc _ _
    have HFR := Lib.hid hfr
    have c1 := hfr.cell c0
    by_cases hlt : k < nq
    · have hlt' : k < r.fl.length := by rw [← HN.out]; exact hlt
      have h0 : 0 < r.fl.length := by omega
      obtain ⟨g, rfl, _, hc⟩ := own_cell HQ.out h0
      obtain ⟨e1, e2, e3⟩ := fC_get r.fl k hlt'
      have d1 := hc (3 * k) _ (by omega) e1
      have d2 := hc (3 * k + 1) _ (by omega) e2
      have d3 := hc (3 * k + 2) _ (by omega) e3
      rw [Nat.mul_comm] at d1 d2 d3
      replace d1 := hfr.cell d1
      replace d2 := hfr.cell d2
      replace d3 := hfr.cell d3
      clear hc e1 e2 e3 h0
      have HS := Lib.hid (show ∀ (_ : (((r.fl[k]).1 : Nat) : Int) ≠ f) j (hj : j < r.fl.length), j < k + 1 → (((r.fl[j]).1 : Nat) : Int) ≠ f from fun hh j hj hjk => by
        rcases Nat.lt_or_ge j k with hjk' | hjk'
        · exact HM.out j hj hjk'
        · obtain rfl : j = k := by omega
          exact hh)
      have HH := Lib.hid (show (((r.fl[k]).1 : Nat) : Int) = f → getI r.fl f = (r.fl[k]).2 from fun a => getI_hit hlt' a HM.out)
      clear hfr
      generalize (r.fl[k]).2 = y at *
      generalize (r.fl[k]).1 = x at *
      by_cases hx : (x : Int) = f
      · have HT := Lib.hid (HH.out hx)
        subst hx
        go_wp2_with fail
        exact bodyPost_ret (v := .agg #[.int .i64 x, .string (S y.1), .string (S y.2)]) (by simp [results, Try.results40, go_sem]) rfl ⟨by rw [HT.out]; rfl, .alloc _ _⟩
      · have HT := Lib.hid (HS.out hx)
        go_wp2
        go_roundw
        case rel => exact ⟨k + 1, by omega, by go_num, trivial, HT⟩
        case measure => simp [intOf]; omega
    · have HT := Lib.hid (getI_miss (fun j hj => HM.out j hj (by have := HN.out; omega)))
      go_wp2_with fail
      exact bodyPost_ret (v := .agg #[.int .i64 f, .string (S []), .string (S [])]) (by simp [results, Try.results40, go_sem]; rfl) rfl ⟨by rw [HT.out]; rfl, .alloc _ _⟩
theorem fileF1 (f : Int) (x1 x2 : Txt) (w : World) : (Instr.field 64 (.agg #[.int .i64 f, .string (S x1), .string (S x2)]) 1).run Try.prog w = .ok (.string (S x1)) w := by kernel_rfl
theorem rsize_any {w : World} {O : Nat → Prop} {B : Nat} {r : FS} (h : (RfT B r).at_ w O) (f : Int) (hl : r.fl.length ≤ 16) :
    Calls Try.prog 17 #[.pointer (some ⟨B, 0, none⟩), .int .i64 f] w fun e w' => e = .returned (.int .i64 ((getI r.fl f).1.length : Nat)) ∧ Fr w w' := by
  have HG := Lib.hid (rget_any h f hl)
  clear h
  generalize getI r.fl f = x at *
  obtain ⟨x1, x2⟩ := x
  unfold fileV at HG
  go_enter Try.func17, Try.ntmps17
  go_wp2_with fail
  refine HG.out.mono ?_
  rintro e w1 ⟨rfl, hf⟩
  have HF := fun w' => fileF1 f x1 x2 w'
  go_wp2_with fail
  go_ret
  exact ⟨by simp, hf⟩
end Go.Proofs.Ytpjoekjakjajcaa
