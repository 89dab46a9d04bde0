/-
  The reference's disk: survive.
-/
import Derived.Test.YtpjoekjakjajcaaFj
namespace Go.Proofs.Ytpjoekjakjajcaa
open Go.RowKit

set_option maxHeartbeats 8000000 in
set_option maxRecDepth 100000 in
theorem rsurv_any {w : World} {O : Nat → Prop} {B : Nat} {r : FS} (h : (RfT B r).at_ w O) (p : Nat × Nat) (hn : p.2 ≤ 262144) (hF : r.fl.length ≤ 16) (h1 : (getF r.fl p.1).1.length ≤ 16777216) (h2 : (getF r.fl p.1).2.length ≤ 16777216) :
    Calls Try.prog 53 #[.pointer (some ⟨B, 0, none⟩), .agg #[.int .i64 p.1, .int .i64 p.2]] w fun e w' => e = .returned (.tuple #[]) ∧ (RfT B { r with fl := survL r.fl p }).step O w w' ∧ Own (fun k => k = B) w w' := by
  obtain ⟨f, n⟩ := p
  dsimp only at hn h1 h2 ⊢
  have HSV := Lib.hid (show survL r.fl (f, n) = setF r.fl f ((getF r.fl f).1, if 64 * n < (getF r.fl f).1.length then putL (getF r.fl f).2 (64 * n) (((getF r.fl f).1.drop (64 * n)).take (min (64 * n + 64) (getF r.fl f).1.length - 64 * n)) else (getF r.fl f).2) from rfl)
  obtain ⟨x1, x2, hx⟩ : ∃ x1 x2, (x1, x2) = getF r.fl f := ⟨_, _, rfl⟩
  rw [← hx] at HSV h1 h2
  dsimp only at HSV h1 h2
  have HA := Lib.hid h
  have HA0 := Lib.hid ((RfT B r).fr h (Fr.alloc w (.cells #[.int .i64 f, .int .i64 n] 82)))
  have HG := Lib.hid (rget_any HA0.out f hF)
  rw [getI_nat, ← hx] at HG
  unfold fileV at HG
  dsimp only at HG
  clear h hx
  have hF0 := Fr.alloc w (.cells #[.int .i64 f, .int .i64 n] 82)
  have hT0 := heap_alloc_new w (.cells #[.int .i64 f, .int .i64 n] 82)
  have HFL := Lib.hid hF
  clear hF
  go_enter Try.func53, Try.ntmps53
  go_wp2_with fail
  generalize w.heap.size = T0 at *
  generalize (w.alloc (.cells #[.int .i64 f, .int .i64 n] 82)) = w0 at *
  refine HG.out.mono ?_
  rintro e w1 ⟨rfl, hf1⟩
  dsimp only
  go_upto_region 2 with fail
  have hF2 := Fr.alloc w1 (.cells #[.int .i64 f, .string (S x1), .string (S x2)] 64)
  have hT1 := heap_alloc_new w1 (.cells #[.int .i64 f, .string (S x1), .string (S x2)] 64)
  have hT00 := ((hf1.trans hF2).block (Array.getElem?_eq_some_iff.1 hT0).1).trans hT0
  have hlt : w.heap.size ≤ w1.heap.size := (hF0.trans hf1).size
  have HA2 := Lib.hid ((RfT B r).fr HA0.out (hf1.trans hF2))
  have HF2 := Lib.hid (hF0.trans (hf1.trans hF2))
  clear HG HA0 hF2 hF0 hf1 hT0
  generalize w1.heap.size = T at *
  generalize (w1.alloc (.cells #[.int .i64 f, .string (S x1), .string (S x2)] 64)) = w2 at *
  have s0 : w2.cell? ⟨T0, 0, none⟩ = some (.int .i64 f) := cellOf hT00 rfl
  have s1 : w2.cell? ⟨T0, 1, none⟩ = some (.int .i64 n) := cellOf hT00 rfl
  have t0 : w2.cell? ⟨T, 0, none⟩ = some (.int .i64 f) := cellOf hT1 rfl
  have t1 : w2.cell? ⟨T, 1, none⟩ = some (.string (S x1)) := cellOf hT1 rfl
  have t2 : w2.cell? ⟨T, 2, none⟩ = some (.string (S x2)) := cellOf hT1 rfl
  have HT1 := Lib.hid hT1
  have HLT := Lib.hid hlt
  clear hT00 hT1 hlt
  by_cases hc : 64 * n < x1.length
  · rw [if_pos hc] at HSV
    obtain ⟨m, hm⟩ : ∃ m, m = min (64 * n + 64) x1.length := ⟨_, rfl⟩
    rw [← hm] at HSV
    have hd : (m = x1.length ∧ (x1.length : Int) < 64 * (n : Int) + 64 ∧ (0 : Int) ≤ (x1.length : Int)) ∨ (m = 64 * n + 64 ∧ ¬ ((x1.length : Int) < 64 * (n : Int) + 64) ∧ 64 * (n : Int) + 64 ≤ (x1.length : Int)) := by omega
    have hm1 : 64 * n < m := by omega
    have hm2 : m ≤ x1.length := by omega
    clear hm
    generalize hy : (x1.drop (64 * n)).take (m - 64 * n) = y at *
    have hyl : 64 * n + y.length ≤ 16777216 := by rw [← hy, List.length_take, List.length_drop]; omega
    have hY : (S x1).extract (64 * n) m = S y := by rw [S_extract, hy]
    have hb0 : (0 : Int) ≤ 64 * (n : Int) := by omega
    have hn1 : (64 * (n : Int)).toNat = 64 * n := by omega
    have hn2 : (64 * (n : Int) + 64).toNat = 64 * n + 64 := by omega
    have hb3 : (0 : Int) ≤ 64 * (n : Int) + 64 := by omega
    have hb4 : 64 * (n : Int) ≤ 64 * (n : Int) + 64 := by omega
    have hb1 : 64 * (n : Int) ≤ (m : Int) := by omega
    have hb2 : (m : Int) ≤ (x1.length : Int) := by omega
    clear hy
    have HPUT := Lib.hid (fun w' => rput_any x2 (64 * n) y w' h2 hyl)
    clear hyl
    have hw1 : IntKind.i64.wrap (64 * (n : Int)) = 64 * n := IntWalk.i64_in _ (by omega)
    have hw2 : IntKind.i64.wrap (64 * (n : Int) + 64) = 64 * n + 64 := IntWalk.i64_in _ (by omega)
    have q1 := (Fr.drew w2).cell s1
    have q2 := (Fr.drew w2).cell t1
    have q3 := (Fr.drew w2).cell t2
    have HZ := Lib.hid (show ∀ w', Fr w2 w' → w'.heap[T]? = some (.cells #[.int .i64 f, .string (S x1), .string (S x2)] 64 (0, 0)) from fun w' hw' => (hw'.block (Array.getElem?_eq_some_iff.1 HT1.out).1).trans HT1.out)
    go_upto_region 3 with fail
    go_cut [4] (fun v wx => v = .pointer (some ⟨T, 0, none⟩) ∧ ∃ w8, Fr w2 w8 ∧ wx = w8.setCell ⟨T, 2, none⟩ (.string (S (putL x2 (64 * n) y))))
    case first =>
      rcases hd with ⟨rfl, hd, hd6⟩ | ⟨rfl, hd, hd6⟩
      all_goals refine wp_region_still_tail 19 (by kernel_rfl) (by kernel_rfl) ?_
      all_goals simp only [List.take_succ_cons, List.take_zero, List.drop_succ_cons, List.drop_zero]
      all_goals iterate 19 still_step
      all_goals refine wpStill_nil ?_
      all_goals (go_wp2_with (first | (go_at_call 58; refine (HPUT.out _).mono ?_; rintro e w8 ⟨rfl, hf8⟩; have H8 := Lib.hid hf8; have e8 : w8.cell? ⟨T, 2, none⟩ = some (.string (S x2)) := cellOf (HZ.out _ ((Fr.drew w2).trans hf8)) rfl; have z8 : w8.frozen? ⟨T, 2, none⟩ = false := frozenOf (HZ.out _ ((Fr.drew w2).trans hf8)) 2; clear hf8)))
      all_goals (go_wp2_with fail; go_meet; exact ⟨rfl, _, (Fr.drew w2).trans H8.out, rfl⟩)
    case rest =>
      obtain ⟨rfl, w8, hf8, rfl⟩ := hcut
      have hT8 := HZ.out _ hf8
      have hT9 := heapB (i := 2) (v := .string (S (putL x2 (64 * n) y))) hT8
      have hw : w.heap.size ≤ T := HLT.out
      have hob := OnlyB.setCell w8 T 2 (.string (S (putL x2 (64 * n) y)))
      have hF9 := Lib.hid ((HF2.out.trans hf8).only hob hw)
      have r0 : (w8.setCell ⟨T, 2, none⟩ (.string (S (putL x2 (64 * n) y)))).cell? ⟨T, 0, none⟩ = some (.int .i64 f) := cellOf hT9 rfl
      have r1 : (w8.setCell ⟨T, 2, none⟩ (.string (S (putL x2 (64 * n) y)))).cell? ⟨T, 1, none⟩ = some (.string (S x1)) := cellOf hT9 rfl
      have r2 : (w8.setCell ⟨T, 2, none⟩ (.string (S (putL x2 (64 * n) y)))).cell? ⟨T, 2, none⟩ = some (.string (S (putL x2 (64 * n) y))) := cellOf hT9 rfl
      have HSET := Lib.hid (rset_any ((RfT B r).fr HA.out hF9.out) f (x1, putL x2 (64 * n) y) HFL.out)
      unfold fileV at HSET
      dsimp only at HSET
      clear hT8 hT9 hob hf8 HPUT HZ
      go_wp2_with fail
      refine HSET.out.mono ?_
      rintro e w10 ⟨rfl, hs5, ho5⟩
      have HS := Lib.hid (Thing.step_left hF9.out hs5)
      have HO5 := Lib.hid ((Own.of_fr (O := fun k => k = B) hF9.out).trans (fun k hk => .inl hk) ho5)
      clear hs5 ho5
      go_wp2_with fail
      go_end0
      exact ⟨rfl, by rw [HSV.out]; exact HS.out, HO5.out⟩
  · rw [if_neg hc] at HSV
    have HSET := Lib.hid (rset_any HA2.out f (x1, x2) HFL.out)
    unfold fileV at HSET
    dsimp only at HSET
    have hc' : ¬ (64 * (n : Int) < (x1.length : Int)) := by omega
    go_wp2_with fail
    refine HSET.out.mono ?_
    rintro e w5 ⟨rfl, hs5, ho5⟩
    have HS := Lib.hid (Thing.step_left HF2.out hs5)
    have HO5 := Lib.hid ((Own.of_fr (O := fun k => k = B) HF2.out).trans (fun k hk => .inl hk) ho5)
    clear hs5 ho5
    go_wp2_with fail
    go_end0
    exact ⟨rfl, by rw [HSV.out]; exact HS.out, HO5.out⟩
end Go.Proofs.Ytpjoekjakjajcaa
