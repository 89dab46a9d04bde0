/-
  NameAlike: the law's walk, for every argument.
-/
import Derived.Test.YtfhbgfoebppbaaaNn
namespace Go.Proofs.Ytfhbgfoebppbaaa
open Go.RowKit

def frL : List Txt := [[48], [49], [49], [105], [114, 110]]
def toL : List Txt := [[111], [105], [108], [108], [109]]
theorem alike_at (a b : Txt) : ∀ (i : Nat) (h : i < 5), cf (a ++ (frL[i]'h) ++ b) (a ++ (toL[i]'h) ++ b) = true := by
  intro i h
  refine decide_eq_true ?_
  match i, h with
  | 0, _ => exact alike_one a b (by decide) (by decide) (by decide)
  | 1, _ => exact alike_one a b (by decide) (by decide) (by decide)
  | 2, _ => exact alike_one a b (by decide) (by decide) (by decide)
  | 3, _ => exact alike_one a b (by decide) (by decide) (by decide)
  | 4, _ => exact alike_rn a b
theorem fr_len : ∀ (i : Nat) (h : i < 5), (frL[i]'h).length ≤ 2 := by
  intro i h
  match i, h with
  | 0, _ | 1, _ | 2, _ | 3, _ | 4, _ => exact Nat.le_of_ble_eq_true rfl
theorem to_len : ∀ (i : Nat) (h : i < 5), (toL[i]'h).length ≤ 2 := by
  intro i h
  match i, h with
  | 0, _ | 1, _ | 2, _ | 3, _ | 4, _ => exact Nat.le_of_ble_eq_true rfl
theorem fr_at {w : World} {b : Nat} (h : w.heap[b]? = some (.cells #[.string ⟨#[48]⟩, .string ⟨#[49]⟩, .string ⟨#[49]⟩, .string ⟨#[105]⟩, .string ⟨#[114, 110]⟩] 9 (0, 0))) : ∀ (i : Nat) (hi : i < 5), w.cell? ⟨b, i, none⟩ = some (.string (S (frL[i]'hi))) := by
  intro i hi
  match i, hi with
  | 0, _ | 1, _ | 2, _ | 3, _ | 4, _ => exact cellOf h rfl
theorem to_at {w : World} {b : Nat} (h : w.heap[b]? = some (.cells #[.string ⟨#[111]⟩, .string ⟨#[105]⟩, .string ⟨#[108]⟩, .string ⟨#[108]⟩, .string ⟨#[109]⟩] 9 (0, 0))) : ∀ (i : Nat) (hi : i < 5), w.cell? ⟨b, i, none⟩ = some (.string (S (toL[i]'hi))) := by
  intro i hi
  match i, hi with
  | 0, _ | 1, _ | 2, _ | 3, _ | 4, _ => exact cellOf h rfl

set_option maxRecDepth 100000 in
set_option maxHeartbeats 4000000 in
theorem alike_short (a b c : Txt) (w : World) (hm : Mx w) (ha : a.length ≤ 200) (hb : b.length ≤ 200) (hc : c.length ≤ 200) :
    Calls Try.prog 5 #[.string (S a), .string (S b), .string (S c)] w fun e w' => e = .returned (.bool true) ∧ Fr w w' := by
  have d1 : decide ((200 : Int) < (a.length : Int)) = false := decide_eq_false (by omega)
  have d2 : decide ((200 : Int) < (b.length : Int)) = false := decide_eq_false (by omega)
  have d3 : decide ((200 : Int) < (c.length : Int)) = false := decide_eq_false (by omega)
  have la : a.length ≤ 1099511627776 := by omega
  have lb : b.length ≤ 1099511627776 := by omega
  have lc : c.length ≤ 1099511627776 := by omega
  have HAT := Lib.hid (alike_at a b)
  have HM := Lib.hid hm
  clear hm
  have faa := cf_refl a
  have fba := cf_comm b a
  have fac : cf a b = true → cf a c = cf b c := fun h => cf_trans h c
  generalize hbc : cf b c = q at *
  have HQ := Lib.hid fac
  have HS := Lib.hid (small_any w HM.out)
  clear fac
  go_enter Try.func5, Try.ntmps5
  go_upto_region 4 with (go_at_call 8; refine HS.out.mono ?_; rintro e w1 ⟨rfl, hf1⟩; have HF := Lib.hid hf1; clear hf1)
  cases hab : cf a b with
  | true =>
    have fac := HQ.out hab
    rw [hab] at fba
    go_upto_region 5 with (go_at_call 20; refine (conf_any _ _ _ (by assumption) (by assumption)).mono ?_; rintro e w2 ⟨rfl, hf2⟩; have HF := Lib.hid (HF.out.trans hf2); clear hf2; (first | rw [faa] | rw [hab] | rw [fba] | rw [fac] | rw [hbc]))
    go_upto_region 7 with fail
    have hA := (Fr.alloc (w2.alloc (.cells #[.string ⟨#[48]⟩, .string ⟨#[49]⟩, .string ⟨#[49]⟩, .string ⟨#[105]⟩, .string ⟨#[114, 110]⟩] 9)) (.cells #[.string ⟨#[111]⟩, .string ⟨#[105]⟩, .string ⟨#[108]⟩, .string ⟨#[108]⟩, .string ⟨#[109]⟩] 9)).heap (MapKept.heap_alloc w2 (.cells #[.string ⟨#[48]⟩, .string ⟨#[49]⟩, .string ⟨#[49]⟩, .string ⟨#[105]⟩, .string ⟨#[114, 110]⟩] 9)).1
    have hB := (MapKept.heap_alloc (w2.alloc (.cells #[.string ⟨#[48]⟩, .string ⟨#[49]⟩, .string ⟨#[49]⟩, .string ⟨#[105]⟩, .string ⟨#[114, 110]⟩] 9)) (.cells #[.string ⟨#[111]⟩, .string ⟨#[105]⟩, .string ⟨#[108]⟩, .string ⟨#[108]⟩, .string ⟨#[109]⟩] 9)).1
    rw [show (w2.alloc (.cells #[.string ⟨#[48]⟩, .string ⟨#[49]⟩, .string ⟨#[49]⟩, .string ⟨#[105]⟩, .string ⟨#[114, 110]⟩] 9)).heap.size = w2.heap.size + 1 from by simp] at hB
    have HFR := Lib.hid (fr_at hA)
    have HTO := Lib.hid (to_at hB)
    have HF3 := Lib.hid (HF.out.trans ((Fr.alloc w2 (.cells #[.string ⟨#[48]⟩, .string ⟨#[49]⟩, .string ⟨#[49]⟩, .string ⟨#[105]⟩, .string ⟨#[114, 110]⟩] 9)).trans (Fr.alloc _ (.cells #[.string ⟨#[111]⟩, .string ⟨#[105]⟩, .string ⟨#[108]⟩, .string ⟨#[108]⟩, .string ⟨#[109]⟩] 9))))
    clear hA hB
    generalize (w2.alloc (.cells #[.string ⟨#[48]⟩, .string ⟨#[49]⟩, .string ⟨#[49]⟩, .string ⟨#[105]⟩, .string ⟨#[114, 110]⟩] 9)).alloc (.cells #[.string ⟨#[111]⟩, .string ⟨#[105]⟩, .string ⟨#[108]⟩, .string ⟨#[108]⟩, .string ⟨#[109]⟩] 9) = w3 at *
    go_wp2_with fail
    go_loopw [11, 12, 13] (fun n _ _ wr => ∃ k : Nat, k ≤ 5 ∧ n = .int .i64 k ∧ Hid (Fr w3 wr)) (fun n _ _ _ => 5 - (intOf n).toNat)
    case atStart => exact ⟨0, Nat.zero_le _, rfl, Lib.hid (Fr.refl _)⟩
    case round =>
      obtain ⟨k, hk, rfl, hF⟩ := hrel
      by_cases hlt : k < 5
      · have c1 := hF.out.cell (HFR.out k hlt)
        have c2 := hF.out.cell (HTO.out k hlt)
        have h1 := fr_len k hlt
        have h2 := to_len k hlt
        have h3 := HAT.out k hlt
        rw [List.append_assoc, List.append_assoc] at h3
        generalize frL[k] = x at *
        generalize toL[k] = y at *
        have e1 := S_append a x
        have e2 := S_append (a ++ x) b
        have e3 := S_append a y
        have e4 := S_append (a ++ y) b
        have hl1 : (a ++ (x ++ b)).length ≤ 1099511627776 := by simp only [List.length_append]; omega
        have hl2 : (a ++ (y ++ b)).length ≤ 1099511627776 := by simp only [List.length_append]; omega
        have HK := Lib.hid h3
        clear h3
        go_wp2_with (go_at_call 20; refine (conf_any (a ++ (x ++ b)) (a ++ (y ++ b)) _ hl1 hl2).mono ?_; rintro e w4 ⟨rfl, hf4⟩; rw [HK.out]; have HF4 := Lib.hid (hF.out.trans hf4); clear hf4)
        go_roundw
        case rel => exact ⟨k + 1, by omega, by go_num, HF4⟩
        case measure => simp [intOf]; omega
      · obtain rfl : k = 5 := by omega
        go_wp2_with fail
        go_ret
        exact ⟨rfl, HF3.out.trans hF.out⟩
  | false =>
    rw [hab] at fba
    go_upto_region 5 with (go_at_call 20; refine (conf_any _ _ _ (by assumption) (by assumption)).mono ?_; rintro e w2 ⟨rfl, hf2⟩; have HF := Lib.hid (HF.out.trans hf2); clear hf2; (first | rw [faa] | rw [hab] | rw [fba]))
    go_upto_region 7 with fail
    have hA := (Fr.alloc (w2.alloc (.cells #[.string ⟨#[48]⟩, .string ⟨#[49]⟩, .string ⟨#[49]⟩, .string ⟨#[105]⟩, .string ⟨#[114, 110]⟩] 9)) (.cells #[.string ⟨#[111]⟩, .string ⟨#[105]⟩, .string ⟨#[108]⟩, .string ⟨#[108]⟩, .string ⟨#[109]⟩] 9)).heap (MapKept.heap_alloc w2 (.cells #[.string ⟨#[48]⟩, .string ⟨#[49]⟩, .string ⟨#[49]⟩, .string ⟨#[105]⟩, .string ⟨#[114, 110]⟩] 9)).1
    have hB := (MapKept.heap_alloc (w2.alloc (.cells #[.string ⟨#[48]⟩, .string ⟨#[49]⟩, .string ⟨#[49]⟩, .string ⟨#[105]⟩, .string ⟨#[114, 110]⟩] 9)) (.cells #[.string ⟨#[111]⟩, .string ⟨#[105]⟩, .string ⟨#[108]⟩, .string ⟨#[108]⟩, .string ⟨#[109]⟩] 9)).1
    rw [show (w2.alloc (.cells #[.string ⟨#[48]⟩, .string ⟨#[49]⟩, .string ⟨#[49]⟩, .string ⟨#[105]⟩, .string ⟨#[114, 110]⟩] 9)).heap.size = w2.heap.size + 1 from by simp] at hB
    have HFR := Lib.hid (fr_at hA)
    have HTO := Lib.hid (to_at hB)
    have HF3 := Lib.hid (HF.out.trans ((Fr.alloc w2 (.cells #[.string ⟨#[48]⟩, .string ⟨#[49]⟩, .string ⟨#[49]⟩, .string ⟨#[105]⟩, .string ⟨#[114, 110]⟩] 9)).trans (Fr.alloc _ (.cells #[.string ⟨#[111]⟩, .string ⟨#[105]⟩, .string ⟨#[108]⟩, .string ⟨#[108]⟩, .string ⟨#[109]⟩] 9))))
    clear hA hB
    generalize (w2.alloc (.cells #[.string ⟨#[48]⟩, .string ⟨#[49]⟩, .string ⟨#[49]⟩, .string ⟨#[105]⟩, .string ⟨#[114, 110]⟩] 9)).alloc (.cells #[.string ⟨#[111]⟩, .string ⟨#[105]⟩, .string ⟨#[108]⟩, .string ⟨#[108]⟩, .string ⟨#[109]⟩] 9) = w3 at *
    go_wp2_with fail
    go_loopw [11, 12, 13] (fun n _ _ wr => ∃ k : Nat, k ≤ 5 ∧ n = .int .i64 k ∧ Hid (Fr w3 wr)) (fun n _ _ _ => 5 - (intOf n).toNat)
    case atStart => exact ⟨0, Nat.zero_le _, rfl, Lib.hid (Fr.refl _)⟩
    case round =>
      obtain ⟨k, hk, rfl, hF⟩ := hrel
      by_cases hlt : k < 5
      · have c1 := hF.out.cell (HFR.out k hlt)
        have c2 := hF.out.cell (HTO.out k hlt)
        have h1 := fr_len k hlt
        have h2 := to_len k hlt
        have h3 := HAT.out k hlt
        rw [List.append_assoc, List.append_assoc] at h3
        generalize frL[k] = x at *
        generalize toL[k] = y at *
        have e1 := S_append a x
        have e2 := S_append (a ++ x) b
        have e3 := S_append a y
        have e4 := S_append (a ++ y) b
        have hl1 : (a ++ (x ++ b)).length ≤ 1099511627776 := by simp only [List.length_append]; omega
        have hl2 : (a ++ (y ++ b)).length ≤ 1099511627776 := by simp only [List.length_append]; omega
        have HK := Lib.hid h3
        clear h3
        go_wp2_with (go_at_call 20; refine (conf_any (a ++ (x ++ b)) (a ++ (y ++ b)) _ hl1 hl2).mono ?_; rintro e w4 ⟨rfl, hf4⟩; rw [HK.out]; have HF4 := Lib.hid (hF.out.trans hf4); clear hf4)
        go_roundw
        case rel => exact ⟨k + 1, by omega, by go_num, HF4⟩
        case measure => simp [intOf]; omega
      · obtain rfl : k = 5 := by omega
        go_wp2_with fail
        go_ret
        exact ⟨rfl, HF3.out.trans hF.out⟩
set_option maxRecDepth 100000 in
set_option maxHeartbeats 4000000 in
theorem alike_any (a b c : Txt) (w : World) (hm : Mx w) :
    Calls Try.prog 5 #[.string (S a), .string (S b), .string (S c)] w fun e w' => e = .returned (.bool true) ∧ Fr w w' := by
  have HS := Lib.hid (small_any w hm)
  have hd : ∀ n : Nat, n ≤ 200 → decide ((200 : Int) < (n : Int)) = false := fun n h => decide_eq_false (by omega)
  have hd' : ∀ n : Nat, ¬ n ≤ 200 → decide ((200 : Int) < (n : Int)) = true := fun n h => decide_eq_true (by omega)
  by_cases ha : a.length ≤ 200
  · by_cases hb : b.length ≤ 200
    · by_cases hc : c.length ≤ 200
      · exact alike_short a b c w hm ha hb hc
      · have d1 := hd _ ha
        have d2 := hd _ hb
        have d3 := hd' _ hc
        clear hd hd' hm ha hb hc
        go_enter Try.func5, Try.ntmps5
        go_wp2_with (go_at_call 8; refine HS.out.mono ?_; rintro e w1 ⟨rfl, hf1⟩)
        go_ret
        exact ⟨rfl, hf1⟩
    · have d1 := hd _ ha
      have d2 := hd' _ hb
      clear hd hd' hm ha hb
      go_enter Try.func5, Try.ntmps5
      go_wp2_with (go_at_call 8; refine HS.out.mono ?_; rintro e w1 ⟨rfl, hf1⟩)
      go_ret
      exact ⟨rfl, hf1⟩
  · have d1 := hd' _ ha
    clear hd hd' hm ha
    go_enter Try.func5, Try.ntmps5
    go_wp2_with (go_at_call 8; refine HS.out.mono ?_; rintro e w1 ⟨rfl, hf1⟩)
    go_ret
    exact ⟨rfl, hf1⟩
end Go.Proofs.Ytfhbgfoebppbaaa
