/-
  ContentFull.
-/
import Derived.Test.YthibdppjhfhomaaCg
import Derived.Laws.BytesArg
namespace Go.Proofs.Ythibdppjhfhomaa
open Go.RowKit Go.MapKept Go.Maps Go.WideMaps

def zeros (n : Nat) : Txt := List.replicate n 0
theorem zeros_length (n : Nat) : (zeros n).length = n := List.length_replicate
theorem infoU8 : (Try.prog.info? 5).map (fun i => (i.zero, i.size, i.bytes)) = some (some (.int .u8 0), 1, 1) := by kernel_rfl
theorem make_bytes (z : Int) (n : Nat) (hz : z = (n : Int)) (hn : n ≤ 281474976710656) (w : World) :
    (Instr.makeSlice 40 (.int .i64 z) (.int .i64 z)).run Try.prog w = .ok (.slice (some ⟨w.heap.size, 0, none⟩) n n) (w.alloc (.cells (madeCells #[Value.int .u8 0] n) 5)) := by
  subst hz
  exact run_make_row' (P := Try.prog) 40 5 (.int .u8 0) 1 Try.underlying40 infoU8 rfl .i64 .i64 n (by omega) (by omega) w
theorem conv_bytes (n : Nat) (w : World) :
    (convert 40 9 (.slice (some ⟨w.heap.size, 0, none⟩) n n)).run Try.prog (w.alloc (.cells (madeCells #[Value.int .u8 0] n) 5)) = .ok (.string (S (zeros n))) (w.alloc (.cells (madeCells #[Value.int .u8 0] n) 5)) := by
  have hr := World.rowIs_made w (.int .u8 0) n 5
  rw [run_convert_bytes_arg (P := Try.prog) _ 40 5 Try.underlying40 Try.underlying5 w.heap.size 0 n n (List.replicate n 0) List.length_replicate (fun i hi => by rw [Nat.zero_add, hr.cell hi]; simp [hi]) 9 Try.underlying9]
  congr 2
  unfold strOfNums S zeros
  simp

set_option maxHeartbeats 2000000 in
set_option maxRecDepth 100000 in
theorem full_not (s : Txt) (r : Nat) (w : World) (hs : s.length ≤ 9223372036854775807) (hr : r ≤ 255) (hf : ¬ (s.length ≤ 100 ∧ r ≤ 100)) :
    Calls Try.prog 7 #[.string (S s), .int .u8 r] w fun e w' => e = .returned (.bool true) ∧ Fr w w' := by
  go_enter Try.func7, Try.ntmps7
  by_cases h1 : s.length ≤ 100
  · have h2 : 100 < r := by omega
    clear hf
    go_wp2_with (go_at_call 8; refine (small_any _).mono ?_; rintro e w1 ⟨rfl, hf1⟩)
    go_ret
    exact ⟨rfl, hf1⟩
  · clear hf
    go_wp2_with (go_at_call 8; refine (small_any _).mono ?_; rintro e w1 ⟨rfl, hf1⟩)
    go_ret
    exact ⟨rfl, hf1⟩

theorem rt_one {z : Txt} (h : z.length ≤ 1048576) : Rt [z] := ⟨by simp, by simpa [tot] using h⟩
theorem ok_one' {z : Txt} (h : z.length ≤ 1048576) : Ok [z] := ⟨by simp, by simp [tot]; omega⟩

set_option maxHeartbeats 4000000 in
set_option maxRecDepth 100000 in
theorem full_yes (s : Txt) (r : Nat) (w : World) (hs : s.length ≤ 100) (hr : r ≤ 100) :
    Calls Try.prog 7 #[.string (S s), .int .u8 r] w fun e w' => e = .returned (.bool true) ∧ Fr w w' := by
  obtain ⟨N, hN⟩ : ∃ N : Nat, N + r = 1048576 := ⟨1048576 - r, by omega⟩
  have hmk1 := fun W => make_bytes (1048576 - (r : Int)) N (by omega) (by omega) W
  have hmk2 := fun W => make_bytes ((r : Int) + 1) (r + 1) (by omega) (by omega) W
  have hcv1 := conv_bytes N
  have hcv2 := conv_bytes (r + 1)
  have HN := Lib.hid hN
  have hzl := zeros_length N
  have HNone := Lib.hid (show pm 0 [zeros N] s = none from pm_none.2 (by
    rw [List.mem_singleton]
    intro h
    rw [h, hzl] at hs
    omega))
  have HZero := Lib.hid (show pm 0 [zeros N] (zeros N) = some 0 from by rw [pm_cons, if_pos rfl])
  have HRt := Lib.hid (rt_one (z := zeros N) (by omega))
  have HOk := Lib.hid (ok_one' (z := zeros N) (by omega))
  have HTot := Lib.hid (show tot [zeros N] = N by simp [tot, hzl])
  have HNot := Lib.hid (show ¬ Rt [zeros N, zeros (r + 1)] from fun h => by
    have := h.2
    simp only [tot, zeros_length] at this
    omega)
  have HOk2 := Lib.hid (show Ok [zeros N, zeros (r + 1)] from ⟨by simp, by simp only [tot, zeros_length]; omega⟩)
  have HZL := Lib.hid hzl
  clear hzl hN
  go_enter Try.func7, Try.ntmps7
  go_upto_region 6 with (go_at_call 8; refine (small_any _).mono ?_; rintro e w1 ⟨rfl, hf1⟩)
  have HL1 := Lib.hid (Sl.lit (w1.alloc (.cells (madeCells #[Value.int .u8 0] N) 5)) [zeros N] #[.string (S (zeros N))] (w1.heap.size + 1) 1 rfl (by simp) rfl)
  have HF1 := Lib.hid (hf1.trans ((Fr.alloc w1 (.cells (madeCells #[Value.int .u8 0] N) 5)).trans (Fr.alloc _ (.cells #[.string (S (zeros N))] 9))))
  clear hf1 hmk1 hcv1
  generalize ((w1.alloc (.cells (madeCells #[Value.int .u8 0] N) 5)).alloc (.cells #[.string (S (zeros N))] 9)) = w2 at *
  generalize w1.heap.size = B1 at *
  by_cases hfit : s.length ≤ r
  · have HFit := Lib.hid (show tot [zeros N] + s.length ≤ 1048576 by rw [HTot.out]; have := HN.out; omega)
    go_upto_region 7 with (go_at_call 10; refine (add_new s _ HL1.out HOk.out HRt.out (by omega) HNone.out HFit.out).mono ?_; rintro e w3 ⟨v3, rfl, hv3, hf3⟩; obtain ⟨a3, c3, rfl⟩ := hv3.len)
    have HF3 := Lib.hid (HF1.out.trans hf3)
    have HL3 := Lib.hid (HL1.out.fr hf3)
    clear hv3 hf3 HF1 HL1
    go_upto_region 8 with (go_at_call 10; refine (add_old (zeros N) _ HL3.out HOk.out HRt.out (by rw [HZL.out]; have := HN.out; omega) HZero.out).mono ?_; rintro e w4 ⟨v4, rfl, _, hf4⟩)
    have HF4 := Lib.hid (HF3.out.trans hf4)
    have HL4 := Lib.hid (HL3.out.fr hf4)
    clear hf4 HF3 HL3
    go_upto_region 9 with fail
    have HL5 := Lib.hid ((HL4.out.fr (Fr.alloc w4 (.cells (madeCells #[Value.int .u8 0] (r + 1)) 5))).fr (Fr.alloc _ (.cells #[.string (S (zeros N)), .string (S (zeros (r + 1)))] 9)))
    have HO5 := Lib.hid (Sl.lit (w4.alloc (.cells (madeCells #[Value.int .u8 0] (r + 1)) 5)) [zeros N, zeros (r + 1)] #[.string (S (zeros N)), .string (S (zeros (r + 1)))] (w4.heap.size + 1) 2 rfl (by simp) rfl)
    have HF5 := Lib.hid (HF4.out.trans ((Fr.alloc w4 (.cells (madeCells #[Value.int .u8 0] (r + 1)) 5)).trans (Fr.alloc _ (.cells #[.string (S (zeros N)), .string (S (zeros (r + 1)))] 9))))
    clear hmk2 hcv2 HF4 HL4
    generalize ((w4.alloc (.cells (madeCells #[Value.int .u8 0] (r + 1)) 5)).alloc (.cells #[.string (S (zeros N)), .string (S (zeros (r + 1)))] 9)) = w5 at *
    generalize w4.heap.size = B4 at *
    go_wp2_with (first
      | (go_at_call 20; refine (right_good _ ((HL5.out.fr hf6).fr hf7) HOk.out HRt.out).mono ?_; rintro e w8 ⟨rfl, hf8⟩)
      | (go_at_call 20; refine (right_bad _ (HO5.out.fr hf6) HOk2.out HNot.out).mono ?_; rintro e w7 ⟨rfl, hf7⟩)
      | (go_at_call 10; refine (add_bad s _ HO5.out HOk2.out HNot.out).mono ?_; rintro e w6 ⟨rfl, hf6⟩))
    go_ret
    exact ⟨rfl, HF5.out.trans (hf6.trans (hf7.trans hf8))⟩
  · have HFit := Lib.hid (show 1048576 < tot [zeros N] + s.length by rw [HTot.out]; have := HN.out; omega)
    go_upto_region 7 with (go_at_call 10; refine (add_full s _ HL1.out HOk.out HRt.out (by omega) HNone.out HFit.out).mono ?_; rintro e w3 ⟨rfl, hf3⟩)
    have HF3 := Lib.hid (HF1.out.trans hf3)
    have HL3 := Lib.hid (HL1.out.fr hf3)
    clear hf3 HF1 HL1
    go_upto_region 8 with (go_at_call 10; refine (add_old (zeros N) _ HL3.out HOk.out HRt.out (by rw [HZL.out]; have := HN.out; omega) HZero.out).mono ?_; rintro e w4 ⟨v4, rfl, _, hf4⟩)
    have HF4 := Lib.hid (HF3.out.trans hf4)
    have HL4 := Lib.hid (HL3.out.fr hf4)
    clear hf4 HF3 HL3
    go_upto_region 9 with fail
    have HL5 := Lib.hid ((HL4.out.fr (Fr.alloc w4 (.cells (madeCells #[Value.int .u8 0] (r + 1)) 5))).fr (Fr.alloc _ (.cells #[.string (S (zeros N)), .string (S (zeros (r + 1)))] 9)))
    have HO5 := Lib.hid (Sl.lit (w4.alloc (.cells (madeCells #[Value.int .u8 0] (r + 1)) 5)) [zeros N, zeros (r + 1)] #[.string (S (zeros N)), .string (S (zeros (r + 1)))] (w4.heap.size + 1) 2 rfl (by simp) rfl)
    have HF5 := Lib.hid (HF4.out.trans ((Fr.alloc w4 (.cells (madeCells #[Value.int .u8 0] (r + 1)) 5)).trans (Fr.alloc _ (.cells #[.string (S (zeros N)), .string (S (zeros (r + 1)))] 9))))
    clear hmk2 hcv2 HF4 HL4
    generalize ((w4.alloc (.cells (madeCells #[Value.int .u8 0] (r + 1)) 5)).alloc (.cells #[.string (S (zeros N)), .string (S (zeros (r + 1)))] 9)) = w5 at *
    generalize w4.heap.size = B4 at *
    go_wp2_with (first
      | (go_at_call 20; refine (right_good _ ((HL5.out.fr hf6).fr hf7) HOk.out HRt.out).mono ?_; rintro e w8 ⟨rfl, hf8⟩)
      | (go_at_call 20; refine (right_bad _ (HO5.out.fr hf6) HOk2.out HNot.out).mono ?_; rintro e w7 ⟨rfl, hf7⟩)
      | (go_at_call 10; refine (add_bad s _ HO5.out HOk2.out HNot.out).mono ?_; rintro e w6 ⟨rfl, hf6⟩))
    go_ret
    exact ⟨rfl, HF5.out.trans (hf6.trans (hf7.trans hf8))⟩

theorem full_any (s : Txt) (n : Int) (w : World) (hs : s.length ≤ 9223372036854775807) (h0 : 0 ≤ n) (h1 : n ≤ 255) :
    Calls Try.prog 7 #[.string (S s), .int .u8 n] w fun e w' => e = .returned (.bool true) ∧ Fr w w' := by
  obtain ⟨r, rfl⟩ : ∃ r : Nat, n = (r : Int) := ⟨n.toNat, by omega⟩
  by_cases hf : s.length ≤ 100 ∧ r ≤ 100
  · exact full_yes s r w hf.1 hf.2
  · exact full_not s r w hs (by omega) hf
end Go.Proofs.Ythibdppjhfhomaa
