/-
  The law's small: the examples of the documentation.
-/
import Derived.Test.YtjcajgcfkidbkaaDoorJq
namespace Go.Proofs.YtjcajgcfkidbkaaDoor
open Go.RowKit

def ab : List UInt8 := [97, 98]
theorem ex_ab : Jm.forms [ab, []] = [50, 58, 97, 98, 44, 50, 57, 51, 59, 48, 58, 44, 48, 59] := by decide +kernel
theorem ex_ab1 : Jm.forms [ab] = [50, 58, 97, 98, 44, 50, 57, 51, 59] := by decide +kernel
theorem ex_sum0 : Jm.sum [] = 0 := rfl
theorem ex_sum1 : Jm.sum [97] = 97 := by decide +kernel
theorem ex_sum2 : Jm.sum ab = 293 := by decide +kernel
/-- 2:ab,293;1:a,98; -/
def bad : List UInt8 := [50, 58, 97, 98, 44, 50, 57, 51, 59, 49, 58, 97, 44, 57, 56, 59]
theorem ex_bad : Jm.Recs bad [ab] [49, 58, 97, 44, 57, 56, 59] := by
  refine ⟨by rw [ex_ab1]; rfl, fun r hr => ?_, ?_⟩
  · rw [List.mem_singleton.1 hr]; decide
  · refine Jm.stops_sum (x := [97]) (r2 := [57, 56, 59]) (r3 := []) (n := 98) ?_ ?_ ?_ ?_ ?_
    · decide +kernel
    · show ([97] : List UInt8).length ≤ 9223372036854775807; decide
    · decide +kernel
    · exact ⟨by decide, by decide⟩
    · right; rw [ex_sum1]; decide

set_option maxHeartbeats 4000000 in
set_option maxRecDepth 100000 in
theorem jsmall_any (w : World) (ht : Tab w) : Calls Tryd.prog 8 #[] w fun e w' => e = .returned (.bool true) ∧ Fr w w' := by
  go_enter Tryd.func8, Tryd.ntmps8
  go_wp2_with fail
  refine (q_new w).mono ?_
  rintro e w1 ⟨B, O1, rfl, hd1, hs1⟩
  have hn1 := (New.refl w).step hs1
  have HD1 := Lib.hid hd1
  have HN1 := Lib.hid hn1
  clear hd1 hs1 hn1
  go_wp2_with fail
  refine (q_open (f := 3) HD1.out (by decide)).mono ?_
  rintro e w2 ⟨J, O2, rs, rest, hr, rfl, hj2, hs2⟩
  obtain ⟨rfl, rfl⟩ := hr.unique (Jm.Recs.all (rs := []) (by intro r hr; simp at hr))
  rw [Jm.forms_nil] at hj2
  have HN2 := Lib.hid (HN1.out.step hs2)
  have HJ2 := Lib.hid hj2
  clear hr hj2 hs2
  go_wp2_with fail
  refine (q_append HJ2.out (by decide) (put_same _ _ _) ab (by decide) (by decide +kernel) (HN2.out.tab ht)).mono ?_
  rintro e w3 ⟨O3, rfl, hj3, hs3⟩
  have HN3 := Lib.hid (HN2.out.step hs3)
  have HJ3 := Lib.hid hj3
  clear hj3 hs3
  go_wp2_with fail
  refine (q_append HJ3.out (by decide) (put_same _ _ _) [] (by decide) (by decide +kernel) (HN3.out.tab ht)).mono ?_
  rintro e w4 ⟨O4, rfl, hj4, hs4⟩
  have HN4 := Lib.hid (HN3.out.step hs4)
  obtain ⟨Od, rv, hd4, hsub, hjn4, hnJ, hnR⟩ := hj4.disk
  have HD4 := Lib.hid hd4
  have HM4 : Hid (New w w4 Od) := Lib.hid ⟨HN4.out.fr, fun k hk => HN4.out.up k (hsub k hk)⟩
  have HJN4 := Lib.hid hjn4
  have HNJ := Lib.hid hnJ
  have HNR := Lib.hid hnR
  clear hj4 hs4 hd4 hsub hjn4 hnJ hnR HJ2 HJ3 HN2 HN3 HD1 HN1
  go_wp2_with fail
  refine (q_read (n := 99) HD4.out (by decide) (by decide)).mono ?_
  rintro e w5 ⟨rfl, hf5⟩
  have e5 : (put (put (put (fun x => []) 3 []) 3 (Jm.forms ([] ++ [ab]))) 3 (Jm.forms ([] ++ [ab] ++ [[]])) 3).take 99 = [50, 58, 97, 98, 44, 50, 57, 51, 59, 48, 58, 44, 48, 59] := by rw [put_same]; exact (congrArg (List.take 99) ex_ab).trans rfl
  rw [e5]
  have HD5 := Lib.hid (HD4.out.fr hf5)
  have HM5 := Lib.hid (HM4.out.step (.fr hf5))
  have HJN5 := Lib.hid (HJN4.out.step (.fr hf5) HNJ.out HNR.out)
  clear hf5 e5 HD4 HM4 HJN4
  go_wp2_with fail
  refine (q_put (f := 4) HD5.out (by decide) bad (by decide +kernel)).mono ?_
  rintro e w6 ⟨O6, rfl, hd6, hs6⟩
  have HM6 := Lib.hid (HM5.out.step hs6)
  have HJN6 := Lib.hid (HJN5.out.1.step hs6 HJN5.out.2.1 HJN5.out.2.2)
  have HD6 := Lib.hid hd6
  clear hd6 hs6 HD5 HM5 HJN5
  go_wp2_with fail
  refine (q_open (f := 4) HD6.out (by decide)).mono ?_
  rintro e w7 ⟨K, O7, rs, rest, hr, rfl, hj7, hs7⟩
  obtain ⟨rfl, rfl⟩ := hr.unique (show Jm.Recs _ [ab] _ from ex_bad)
  have HM7 := Lib.hid (HM6.out.step hs7)
  have HJN7 := Lib.hid (HJN6.out.1.step hs7 HJN6.out.2.1 HJN6.out.2.2)
  have HJ7 := Lib.hid hj7
  clear hr hj7 hs7 HD6 HM6 HJN6
  go_wp2_with fail
  refine (sum_any [] w7 (by decide)).mono ?_
  rintro e w8 ⟨rfl, rfl⟩
  rw [ex_sum0]
  go_wp2_with fail
  refine (sum_any [97] w8 (by decide)).mono ?_
  rintro e w9 ⟨rfl, rfl⟩
  rw [ex_sum1]
  go_wp2_with fail
  refine (sum_any ab w9 (by decide)).mono ?_
  rintro e wa ⟨rfl, rfl⟩
  rw [ex_sum2]
  go_wp2_with fail
  have hl7 : Calls Tryd.prog 44 #[.pointer (some ⟨J, 0, none⟩)] wa fun e w' => e = .returned (.int .i64 2) ∧ w' = wa := len_any HJN7.out.1
  have hg7 : Calls Tryd.prog 45 #[.pointer (some ⟨J, 0, none⟩), .int .i64 0] wa fun e w' => e = .returned (.string (S ab)) ∧ w' = wa := get_any HJN7.out.1 0
  refine hl7.mono ?_
  rintro e wb ⟨rfl, rfl⟩
  go_wp2_with fail
  refine hg7.mono ?_
  rintro e wc ⟨rfl, rfl⟩
  clear hl7 hg7
  obtain ⟨rvk, hjk⟩ := HJ7.out.jn
  go_wp2_with fail
  refine (all_any hjk (by decide)).mono ?_
  rintro e wd ⟨v, rfl, hrow, hfd⟩
  have HR := Lib.hid hrow
  have HFD := Lib.hid hfd
  clear hrow hfd hjk
  obtain ⟨we, hwe⟩ : ∃ we, we = wd.alloc (.cells #[.string (S ab)] 9) := ⟨_, rfl⟩
  have hsl : IsSl we (.slice (some ⟨wd.heap.size, 0, none⟩) 1 1) ([ab].map (fun z => .string (S z))) := by
    refine .inr ⟨wd.heap.size, 0, 1, rfl, fun i x hx => ?_⟩
    match i, hx with
    | 0, hx => rw [hwe, Lib.cell_of_heap (heap_alloc_new wd _)]; exact hx
    | i + 1, hx => simp at hx
  have hfe : Fr wd we := hwe ▸ Fr.alloc wd _
  have HSL := Lib.hid hsl
  have HFE := Lib.hid hfe
  have HWE := Lib.hid hwe
  clear hsl hfe hwe
  go_wp2_with fail
  have hst : Calls Tryd.prog 28 #[v, .slice (some ⟨wd.heap.size, 0, none⟩) 1 1] we fun e w' => e = .returned (.bool true) ∧ Fr we w' :=
    sameTexts_any v _ [ab] we ((Row.isSl (row_mono HR.out (Nat.zero_le _))).fr HFE.out) HSL.out (by decide)
  rw [HWE.out] at hst
  refine hst.mono ?_
  rintro e wf ⟨rfl, hff⟩
  have HFF := Lib.hid hff
  clear hff hst
  go_wp2_with fail
  have hfr : Fr wc wf := HFD.out.trans (HFE.out.trans (HWE.out ▸ HFF.out))
  obtain ⟨Of, rvf, hdf, _⟩ := (HJ7.out.fr hfr).disk
  have hz : Calls Tryd.prog 31 #[.pointer (some ⟨B, 0, none⟩), .int .i64 4] wf fun e w' => e = .returned (.int .i64 9) ∧ w' = wf := by
    have h := q_size (f := 4) hdf (by decide)
    rw [put_same, show Jm.forms [ab] = [50, 58, 97, 98, 44, 50, 57, 51, 59] from ex_ab1] at h
    exact h
  refine hz.mono ?_
  rintro e wg ⟨rfl, rfl⟩
  clear hz hdf
  go_wp2_with fail
  go_ret
  exact ⟨rfl, HM7.out.fr.trans hfr⟩
end Go.Proofs.YtjcajgcfkidbkaaDoor
