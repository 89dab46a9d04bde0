/-
  few at any slice of Values; the walk of WireBack.
-/
import Derived.Test.YtjabpagfoclajaaDoorLawP
namespace Go.Proofs.YtjabpagfoclajaaDoor
open Go.RowKit

/-- A slice of Values. -/
def IsVs (w : World) (v : Value) (vs : List V) : Prop :=
  (vs = [] ∧ ∃ a c, v = .slice a 0 c) ∨ ∃ b o c, v = .slice (some ⟨b, o, none⟩) vs.length c ∧ ∀ (k : Nat) (h : k < vs.length), At w b (o + k * 5) vs[k]
theorem IsVs.fr {w w' : World} {v : Value} {vs : List V} (h : IsVs w v vs) (hf : Fr w w') : IsVs w' v vs := by
  rcases h with h | ⟨b, o, c, hv, hc⟩
  · exact .inl h
  · exact .inr ⟨b, o, c, hv, fun k hk => (hc k hk).fr hf⟩
theorem few_empty (a : Option Addr) (c : Nat) (w : World) :
    Calls Tryd.prog 10 #[.slice a 0 c] w fun e w' => FewPost [] w e w' := by
  have HT : Hid (fewB [] = true) := by
    have := fewB_all (vs := []) (by simp) (by simp)
    rw [← this]; simp [vsum, Hid]
  go_enter Tryd.func10, Tryd.ntmps10
  go_wp2_with fail
  go_loopw [3, 4] (fun n i wr => n = .int .i64 0 ∧ i = .int .i64 0 ∧ wr = w) (fun _ _ _ => 0)
  case atStart => exact ⟨rfl, rfl, rfl⟩
  case round =>
    obtain ⟨rfl, rfl, rfl⟩ := hrel
    go_wp2_with fail
    go_ret
    exact ⟨by rw [HT.out]; rfl, Fr.refl _⟩
theorem few_any (v : Value) (vs : List V) (w : World) (h : IsVs w v vs) (hl : vs.length ≤ maxLen) :
    Calls Tryd.prog 10 #[v] w fun e w' => FewPost vs w e w' := by
  unfold maxLen at hl
  rcases h with ⟨rfl, a, c, rfl⟩ | ⟨b, o, c, rfl, hc⟩
  · exact few_empty a c w
  · by_cases hn : vs.length ≤ 20
    · exact few_at b o c vs w hn hc
    · exact (few_big _ _ c w (by omega) (by omega)).mono fun e w' ⟨he, hf⟩ => ⟨by rw [he, fewB_no (fun hh => hn hh.1)], hf⟩

theorem encs_len {vs : List V} {w : World} (h : ∀ v ∈ vs, v.ok w) (hf : ∀ v ∈ vs, v.few) : (vs.flatMap V.enc).length ≤ 400000 * vs.length := by
  induction vs with
  | nil => simp
  | cons v vs ih =>
    have h1 := V.enc_len (h v (by simp)) (hf v (by simp))
    have h2 := ih (fun x hx => h x (by simp [hx])) (fun x hx => hf x (by simp [hx]))
    simp only [List.flatMap_cons, List.length_append, List.length_cons]; omega

set_option maxHeartbeats 4000000 in
set_option maxRecDepth 100000 in
theorem back_at (b o c : Nat) (vs : List V) (tail : List UInt8) (w : World) (hat : ∀ (k : Nat) (h : k < vs.length), At w b (o + k * 5) vs[k]) (hn : vs.length ≤ maxLen) (hB : fewB vs = true) (ht4 : tail.length ≤ 400) (ht : Tab w) :
    Calls Tryd.prog 5 #[.slice (some ⟨b, o, none⟩) vs.length c, .string (S tail)] w fun e w' => e = .returned (.bool true) ∧ Fr w w' := by
  obtain ⟨hn20, hfew, _⟩ := fewB_true hB
  have hok : ∀ v ∈ vs, v.ok w := fun v hv => by
    obtain ⟨k, hk, rfl⟩ := List.mem_iff_getElem.1 hv
    exact (hat k hk).ok
  have hlen := encs_len hok hfew
  have HA := Lib.hid hat
  have HF := Lib.hid hfew
  have HO := Lib.hid hok
  clear hat hfew hok
  go_enter Tryd.func5, Tryd.ntmps5
  go_wp2_with fail
  refine (small_any _ ht).mono ?_
  rintro e w1 ⟨rfl, hf1⟩
  have ht1 := ht.fr hf1
  go_wp2_with fail
  refine (few_any _ vs _ (.inr ⟨b, o, c, rfl, fun k hk => (HA.out k hk).fr hf1⟩) hn).mono ?_
  rintro e w2 ⟨rfl, hf2⟩
  have hw2 := hf1.trans hf2
  have ht2 := ht1.fr hf2
  clear hf1 hf2 ht1 ht
  go_wp2_with fail
  go_loopw [6, 7] (fun s i wr => ∃ k : Nat, k ≤ vs.length ∧ i = .int .i64 k ∧ s = .string (S ((vs.take k).flatMap V.enc)) ∧ Fr w wr ∧ Tab wr) (fun _ i _ => vs.length - (intOf i).toNat)
  case atStart => exact ⟨0, Nat.zero_le _, rfl, rfl, hw2, ht2⟩
  case round =>
    obtain ⟨k, hk, rfl, rfl, hwr, htr⟩ := hrel
    clear hw2 ht2
    by_cases hlt : k < vs.length
    · have hat := (HA.out k hlt).fr hwr
      have HFK := Lib.hid (HF.out vs[k] (List.getElem_mem hlt))
      have hL := flat_get_le V.enc vs k hlt
      have HS := Lib.hid (flat_take V.enc vs k hlt)
      generalize vs[k] = v at *
      generalize hfl : (vs.take k).flatMap V.enc = fl at *
      have HFL := Lib.hid hfl
      clear hfl
      have c0 := hat.c0
      have c1 := hat.c1
      have c2 := hat.c2
      have c3 := hat.c3
      have c4 := hat.c4
      have HOK := Lib.hid hat.ok
      clear hat
      go_wp2_with fail
      refine (write_any v _ HOK.out HFK.out htr).mono ?_
      rintro e w3 ⟨rfl, hf3⟩
      have hw3 := hwr.trans hf3
      have ht3 := htr.fr hf3
      clear c0 c1 c2 c3 c4 hf3 hwr htr
      go_wp2_with fail
      go_roundw
      case rel => exact ⟨k + 1, by omega, by go_num, by rw [HS.out, S_append], hw3, ht3⟩
      case measure => simp [intOf]; omega
    · have hkk : vs.take k = vs := List.take_of_length_le (by omega)
      rw [hkk]
      clear hkk
      generalize hfl : vs.flatMap V.enc = fl at *
      have HFL := Lib.hid hfl
      clear hfl
      go_wp2_with fail
      rw [S_append]
      refine (open_any (fl ++ tail) wr).mono ?_
      rintro e w3 ⟨rfl, hrd3, hf3⟩
      have hw3 := (hwr.trans hf3).below
      have hsz := hwr.size
      have hrd3' : Rd 54 wr.heap.size ((vs.drop 0).flatMap V.enc ++ tail) false w3 := by rw [List.drop_zero, HFL.out]; exact hrd3
      clear hf3 hwr htr hrd3
      generalize wr.heap.size = a at *
      go_wp2_with fail
      go_loopw [9] (fun i wr => ∃ k : Nat, k ≤ vs.length ∧ i = .int .i64 k ∧ Rd 54 a ((vs.drop k).flatMap V.enc ++ tail) false wr ∧ Below w.heap.size w wr) (fun i _ => vs.length - (intOf i).toNat)
      case atStart => exact ⟨0, Nat.zero_le _, rfl, hrd3', hw3⟩
      case round =>
        obtain ⟨j, hj, rfl, hrdx, hwr⟩ := hrel
        clear hrd3' hw3
        by_cases hjl : j < vs.length
        · have hat0 := HA.out j hjl
          have hat := hat0.fr (.of_below hwr)
          have HFK := Lib.hid (HF.out vs[j] (List.getElem_mem hjl))
          have hdr : vs.drop j = vs[j] :: vs.drop (j + 1) := List.drop_eq_getElem_cons hjl
          have hrdy : Rd 54 a (vs[j].enc ++ ((vs.drop (j + 1)).flatMap V.enc ++ tail)) false wr := by
            rw [hdr, List.flatMap_cons, List.append_assoc] at hrdx; exact hrdx
          have hll : (vs[j].enc ++ ((vs.drop (j + 1)).flatMap V.enc ++ tail)).length ≤ 4294967296 := by
            have h1 : ((vs.drop j).flatMap V.enc).length ≤ fl.length := by
              rw [← HFL.out]
              conv => rhs; rw [← List.take_append_drop j vs, List.flatMap_append, List.length_append]
              omega
            rw [hdr, List.flatMap_cons, List.length_append] at h1
            simp only [List.length_append]; omega
          generalize hqq : (vs.drop (j + 1)).flatMap V.enc ++ tail = q at *
          have HQ := Lib.hid hqq
          clear hqq
          have HOK0 := Lib.hid hat0.ok
          generalize vs[j] = v at *
          have c0 := hat.c0
          have c1 := hat.c1
          have c2 := hat.c2
          have c3 := hat.c3
          have c4 := hat.c4
          have HRD := Lib.hid hrdy
          have HLL := Lib.hid hll
          clear hat hat0 hdr hrdx hrdy hll
          go_wp2_with fail
          refine (equal_any v a q w wr HOK0.out hwr hsz HFK.out HRD.out HLL.out).mono ?_
          rintro e w4 ⟨rfl, hrd4, hf4⟩
          have hw4 := hwr.trans (hf4.below hsz hwr.size)
          clear c0 c1 c2 c3 c4 hf4 hwr
          go_wp2_with fail
          go_roundw
          case rel => exact ⟨j + 1, by omega, by go_num, by rw [HQ.out]; exact hrd4, hw4⟩
          case measure => simp [intOf]; omega
        · have hrdy : Rd 54 a tail false wr := by
            rw [List.drop_of_length_le (by omega)] at hrdx; simpa using hrdx
          clear hrdx
          go_wp2_with fail
          refine (left_any hrdy).mono ?_
          rintro e w4 ⟨rfl, rfl⟩
          go_wp2_with fail
          refine (done_any hrdy).mono ?_
          rintro e w4 ⟨rfl, rfl⟩
          cases tail with
          | nil =>
            go_wp2_with fail
            refine (rest_any hrdy).mono ?_
            rintro e w5 ⟨rfl, hrd5, hf5⟩
            have hw5 := hwr.trans (hf5.below hsz hwr.size)
            go_wp2_with fail
            refine (done_any hrd5).mono ?_
            rintro e w6 ⟨rfl, rfl⟩
            go_wp2_with fail
            refine (left_any hrd5).mono ?_
            rintro e w6 ⟨rfl, rfl⟩
            go_wp2_with fail
            go_ret
            exact ⟨rfl, .of_below hw5⟩
          | cons d l =>
            go_wp2_with fail
            refine (rest_any hrdy).mono ?_
            rintro e w5 ⟨rfl, hrd5, hf5⟩
            have hw5 := hwr.trans (hf5.below hsz hwr.size)
            go_wp2_with fail
            refine (done_any hrd5).mono ?_
            rintro e w6 ⟨rfl, rfl⟩
            go_wp2_with fail
            refine (left_any hrd5).mono ?_
            rintro e w6 ⟨rfl, rfl⟩
            go_wp2_with fail
            go_ret
            exact ⟨rfl, .of_below hw5⟩

set_option maxHeartbeats 4000000 in
set_option maxRecDepth 100000 in
theorem back_out (v : Value) (vs : List V) (tail : List UInt8) (w : World) (h : IsVs w v vs) (hn : vs.length ≤ maxLen) (hl : tail.length ≤ 9223372036854775807) (hB : fewB vs = false ∨ (fewB vs = true ∧ 400 < tail.length)) (ht : Tab w) :
    Calls Tryd.prog 5 #[v, .string (S tail)] w fun e w' => e = .returned (.bool true) ∧ Fr w w' := by
  have HV := Lib.hid h
  clear h
  rcases hB with hB | ⟨hB, h4⟩
  all_goals
    go_enter Tryd.func5, Tryd.ntmps5
    go_wp2_with fail
    refine (small_any _ ht).mono ?_
    rintro e w1 ⟨rfl, hf1⟩
    go_wp2_with fail
    refine (few_any v vs _ (HV.out.fr hf1) hn).mono ?_
    rintro e w2 ⟨rfl, hf2⟩
    go_wp2_with fail
    go_ret
    exact ⟨rfl, hf1.trans hf2⟩

set_option maxHeartbeats 4000000 in
set_option maxRecDepth 100000 in
theorem back_none (ad : Option Addr) (c : Nat) (tail : List UInt8) (w : World) (hB : fewB [] = true) (ht4 : tail.length ≤ 400) (ht : Tab w) :
    Calls Tryd.prog 5 #[.slice ad 0 c, .string (S tail)] w fun e w' => e = .returned (.bool true) ∧ Fr w w' := by
  go_enter Tryd.func5, Tryd.ntmps5
  go_wp2_with fail
  refine (small_any _ ht).mono ?_
  rintro e w1 ⟨rfl, hf1⟩
  go_wp2_with fail
  refine (few_any _ [] _ (.inl ⟨rfl, _, _, rfl⟩) (by simp)).mono ?_
  rintro e w2 ⟨rfl, hf2⟩
  have hw2 := hf1.trans hf2
  clear hf1 hf2 ht
  go_wp2_with fail
  go_loopw [6, 7] (fun s i wr => i = .int .i64 0 ∧ s = .string (S []) ∧ wr = w2) (fun _ _ _ => 0)
  case atStart => exact ⟨rfl, rfl, rfl⟩
  case round =>
    obtain ⟨rfl, rfl, rfl⟩ := hrel
    go_wp2_with fail
    rw [S_append]
    refine (open_any ([] ++ tail) wr).mono ?_
    rintro e w3 ⟨rfl, hrd3, hf3⟩
    have hw3 := (hw2.trans hf3).below
    have hsz := hw2.size
    clear hf3 hw2
    generalize wr.heap.size = a at *
    go_wp2_with fail
    go_loopw [9] (fun i wr => i = .int .i64 0 ∧ wr = w3) (fun _ _ => 0)
    case atStart => exact ⟨rfl, rfl⟩
    case round =>
      obtain ⟨rfl, rfl⟩ := hrel
      have hrdy : Rd 54 a tail false wr := hrd3
      clear hrd3
      go_wp2_with fail
      refine (left_any hrdy).mono ?_
      rintro e w4 ⟨rfl, rfl⟩
      go_wp2_with fail
      refine (done_any hrdy).mono ?_
      rintro e w4 ⟨rfl, rfl⟩
      cases tail
      all_goals
        go_wp2_with fail
        refine (rest_any hrdy).mono ?_
        rintro e w5 ⟨rfl, hrd5, hf5⟩
        have hw5 := hw3.trans (hf5.below hsz hw3.size)
        go_wp2_with fail
        refine (done_any hrd5).mono ?_
        rintro e w6 ⟨rfl, rfl⟩
        go_wp2_with fail
        refine (left_any hrd5).mono ?_
        rintro e w6 ⟨rfl, rfl⟩
        go_wp2_with fail
        go_ret
        exact ⟨rfl, .of_below hw5⟩

theorem back_law (v : Value) (vs : List V) (tail : List UInt8) (w : World) (h : IsVs w v vs) (hn : vs.length ≤ maxLen) (hl : tail.length ≤ maxLen) (ht : Tab w) :
    Calls Tryd.prog 5 #[v, .string (S tail)] w fun e w' => e = .returned (.bool true) ∧ Fr w w' := by
  have hl' : tail.length ≤ 9223372036854775807 := hl
  cases hB : fewB vs with
  | false => exact back_out v vs tail w h hn hl' (.inl hB) ht
  | true =>
    by_cases h4 : tail.length ≤ 400
    · rcases h with ⟨rfl, a, c, rfl⟩ | ⟨b, o, c, rfl, hc⟩
      · exact back_none a c tail w hB h4 ht
      · exact back_at b o c vs tail w hc hn hB h4 ht
    · exact back_out v vs tail w h hn hl' (.inr ⟨hB, by omega⟩) ht
end Go.Proofs.YtjabpagfoclajaaDoor
