/-
  The laws' short and few.
-/
import Derived.Test.YtfhbgfoebppbaaaNl
namespace Go.Proofs.Ytfhbgfoebppbaaa
open Go.RowKit

structure Sh (l : List Txt) : Prop where
  len : l.length ≤ 40
  mem : ∀ t ∈ l, t.length ≤ 60
def shB (l : List Txt) : Bool := decide (l.length ≤ 40) && l.all fun t => decide (t.length ≤ 60)
theorem shB_sh {l : List Txt} (h : shB l = true) : Sh l := by
  unfold shB at h
  simp only [Bool.and_eq_true, decide_eq_true_eq, List.all_eq_true] at h
  exact ⟨h.1, h.2⟩
theorem shB_big {l : List Txt} (h : 40 < l.length) : shB l = false := by
  unfold shB
  rw [decide_eq_false (by omega)]
  rfl
theorem shB_long {l : List Txt} {k : Nat} (hk : k < l.length) (h : 60 < l[k].length) : shB l = false := by
  cases hb : shB l with
  | false => rfl
  | true => have := (shB_sh hb).mem _ (List.getElem_mem hk); omega
theorem shB_all {l : List Txt} (h : ∀ t ∈ l, t.length ≤ 60) : shB l = decide (l.length ≤ 40) := by
  unfold shB
  have : (l.all fun t => decide (t.length ≤ 60)) = true := List.all_eq_true.2 fun t ht => decide_eq_true (h t ht)
  rw [this, Bool.and_true]
theorem Sh.ok {l : List Txt} (h : Sh l) : Ok l := ⟨by have := h.len; omega, fun t ht => by have := h.mem t ht; omega⟩
structure Few (l : List Hd) : Prop where
  len : l.length ≤ 40
  mem : ∀ t ∈ l, t.1.length ≤ 60
def fwB (l : List Hd) : Bool := decide (l.length ≤ 40) && l.all fun t => decide (t.1.length ≤ 60)
theorem fwB_few {l : List Hd} (h : fwB l = true) : Few l := by
  unfold fwB at h
  simp only [Bool.and_eq_true, decide_eq_true_eq, List.all_eq_true] at h
  exact ⟨h.1, h.2⟩
theorem fwB_big {l : List Hd} (h : 40 < l.length) : fwB l = false := by
  unfold fwB
  rw [decide_eq_false (by omega)]
  rfl
theorem fwB_long {l : List Hd} {k : Nat} (hk : k < l.length) (h : 60 < l[k].1.length) : fwB l = false := by
  cases hb : fwB l with
  | false => rfl
  | true => have := (fwB_few hb).mem _ (List.getElem_mem hk); omega
theorem fwB_all {l : List Hd} (h : ∀ t ∈ l, t.1.length ≤ 60) : fwB l = decide (l.length ≤ 40) := by
  unfold fwB
  have : (l.all fun t => decide (t.1.length ≤ 60)) = true := List.all_eq_true.2 fun t ht => decide_eq_true (h t ht)
  rw [this, Bool.and_true]
theorem Few.ok {l : List Hd} (h : Few l) : HOk l := ⟨by have := h.len; omega, fun t ht => by have := h.mem t ht; omega⟩

set_option maxRecDepth 100000 in
set_option maxHeartbeats 1000000 in
theorem short_at (b o c : Nat) (l : List Txt) (w : World) (h : At w b o l) (hn : l.length ≤ maxLen) :
    Calls Try.prog 9 #[.slice (some ⟨b, o, none⟩) l.length c] w fun e w' => e = .returned (.bool (shB l)) ∧ w' = w := by
  have H := Lib.hid h
  unfold maxLen at hn
  clear h
  go_enter Try.func9, Try.ntmps9
  go_wp2_with fail
  go_loopw [3] (fun n wr => ∃ k : Nat, k ≤ l.length ∧ k ≤ 41 ∧ n = .int .i64 k ∧ Hid (∀ (i : Nat) (hi : i < l.length), i < k → l[i].length ≤ 60) ∧ wr = w) (fun n _ => l.length - (intOf n).toNat)
  case atStart => exact ⟨0, Nat.zero_le _, Nat.zero_le _, rfl, Lib.hid (fun i hi h => by omega), rfl⟩
  case round =>
    obtain ⟨k, hk, hk41, rfl, hI, rfl⟩ := hrel
    by_cases hlt : k < l.length
    · have d1 : decide ((k : Int) < (l.length : Int)) = true := decide_eq_true (by omega)
      by_cases h41 : k < 41
      · have d2 : decide ((k : Int) < 41) = true := decide_eq_true (by omega)
        have c1 := H.out k hlt
        have HN := Lib.hid (fun h : l[k].length ≤ 60 => show ∀ (i : Nat) (hi : i < l.length), i < k + 1 → l[i].length ≤ 60 from fun i hi hik => by
          rcases Nat.lt_or_ge i k with h1 | h1
          · exact hI.out i hi h1
          · obtain rfl : i = k := by omega
            exact h)
        have HLg := Lib.hid (fun h : 60 < l[k].length => shB_long hlt h)
        generalize l[k] = x at *
        by_cases hx : x.length ≤ 60
        · have d3 : decide ((60 : Int) < (x.length : Int)) = false := decide_eq_false (by omega)
          have HN2 := Lib.hid (HN.out hx)
          go_wp2_with fail
          go_roundw
          case rel => exact ⟨k + 1, by omega, by omega, by go_num, HN2, trivial⟩
          case measure => simp [intOf]; omega
        · have d3 : decide ((60 : Int) < (x.length : Int)) = true := decide_eq_true (by omega)
          go_wp2_with fail
          go_ret
          rw [HLg.out (by omega)]
          exact ⟨rfl, rfl⟩
      · have d2 : decide ((k : Int) < 41) = false := decide_eq_false (by omega)
        go_wp2_with fail
        have hbg := shB_big (l := l) (by omega)
        have d4 : decide ((l.length : Int) ≤ 40) = false := decide_eq_false (by omega)
        go_ret
        rw [hbg]
        exact ⟨by simpa using (by omega : (40 : Int) < (l.length : Int)), rfl⟩
    · have d1 : decide ((k : Int) < (l.length : Int)) = false := decide_eq_false (by omega)
      have HF := Lib.hid (show ∀ t ∈ l, t.length ≤ 60 from fun t ht => by
        obtain ⟨i, hi, rfl⟩ := List.getElem_of_mem ht
        exact hI.out i hi (by omega))
      go_wp2_with fail
      have hal : shB l = decide ((l.length : Int) ≤ 40) := by rw [shB_all HF.out, Bool.eq_iff_iff, decide_eq_true_eq, decide_eq_true_eq]; omega
      go_ret
      rw [hal]
      exact ⟨rfl, rfl⟩
set_option maxRecDepth 100000 in
theorem short_nil (a : Option Addr) (c : Nat) (w : World) :
    Calls Try.prog 9 #[.slice a 0 c] w fun e w' => e = .returned (.bool (shB [])) ∧ w' = w := by
  go_enter Try.func9, Try.ntmps9
  go_wp2_with fail
  go_loopw [3] (fun n wr => n = .int .i64 0 ∧ wr = w) (fun _ _ => 0)
  case atStart => exact ⟨rfl, rfl⟩
  case round =>
    obtain ⟨rfl, rfl⟩ := hrel
    go_wp2_with fail
    go_ret
    exact ⟨rfl, rfl⟩
theorem short_any (v : Value) (l : List Txt) (w : World) (h : Sl w v l) (hn : l.length ≤ maxLen) :
    Calls Try.prog 9 #[v] w fun e w' => e = .returned (.bool (shB l)) ∧ w' = w := by
  rcases h.cases with ⟨rfl, a, c, rfl⟩ | ⟨b, o, c, rfl, hc⟩
  · exact short_nil a c w
  · exact short_at b o c l w hc hn

set_option maxRecDepth 100000 in
set_option maxHeartbeats 1000000 in
theorem few_at (b o c : Nat) (l : List Hd) (w : World) (h : HAt w b o l) (hn : l.length ≤ maxLen) :
    Calls Try.prog 10 #[.slice (some ⟨b, o, none⟩) l.length c] w fun e w' => e = .returned (.bool (fwB l)) ∧ w' = w := by
  have H := Lib.hid h
  unfold maxLen at hn
  clear h
  go_enter Try.func10, Try.ntmps10
  go_wp2_with fail
  go_loopw [3] (fun n wr => ∃ k : Nat, k ≤ l.length ∧ k ≤ 41 ∧ n = .int .i64 k ∧ Hid (∀ (i : Nat) (hi : i < l.length), i < k → l[i].1.length ≤ 60) ∧ wr = w) (fun n _ => l.length - (intOf n).toNat)
  case atStart => exact ⟨0, Nat.zero_le _, Nat.zero_le _, rfl, Lib.hid (fun i hi h => by omega), rfl⟩
  case round =>
    obtain ⟨k, hk, hk41, rfl, hI, rfl⟩ := hrel
    by_cases hlt : k < l.length
    · have d1 : decide ((k : Int) < (l.length : Int)) = true := decide_eq_true (by omega)
      by_cases h41 : k < 41
      · have d2 : decide ((k : Int) < 41) = true := decide_eq_true (by omega)
        have c1 := (H.out k hlt).1
        have HN := Lib.hid (fun h : l[k].1.length ≤ 60 => show ∀ (i : Nat) (hi : i < l.length), i < k + 1 → l[i].1.length ≤ 60 from fun i hi hik => by
          rcases Nat.lt_or_ge i k with h1 | h1
          · exact hI.out i hi h1
          · obtain rfl : i = k := by omega
            exact h)
        have HLg := Lib.hid (fun h : 60 < l[k].1.length => fwB_long hlt h)
        generalize l[k].1 = x at *
        by_cases hx : x.length ≤ 60
        · have d3 : decide ((60 : Int) < (x.length : Int)) = false := decide_eq_false (by omega)
          have HN2 := Lib.hid (HN.out hx)
          go_wp2_with fail
          go_roundw
          case rel => exact ⟨k + 1, by omega, by omega, by go_num, HN2, trivial⟩
          case measure => simp [intOf]; omega
        · have d3 : decide ((60 : Int) < (x.length : Int)) = true := decide_eq_true (by omega)
          go_wp2_with fail
          go_ret
          rw [HLg.out (by omega)]
          exact ⟨rfl, rfl⟩
      · have d2 : decide ((k : Int) < 41) = false := decide_eq_false (by omega)
        go_wp2_with fail
        have hbg := fwB_big (l := l) (by omega)
        have d4 : decide ((l.length : Int) ≤ 40) = false := decide_eq_false (by omega)
        go_ret
        rw [hbg]
        exact ⟨by simpa using (by omega : (40 : Int) < (l.length : Int)), rfl⟩
    · have d1 : decide ((k : Int) < (l.length : Int)) = false := decide_eq_false (by omega)
      have HF := Lib.hid (show ∀ t ∈ l, t.1.length ≤ 60 from fun t ht => by
        obtain ⟨i, hi, rfl⟩ := List.getElem_of_mem ht
        exact hI.out i hi (by omega))
      go_wp2_with fail
      have hal : fwB l = decide ((l.length : Int) ≤ 40) := by rw [fwB_all HF.out, Bool.eq_iff_iff, decide_eq_true_eq, decide_eq_true_eq]; omega
      go_ret
      rw [hal]
      exact ⟨rfl, rfl⟩
set_option maxRecDepth 100000 in
theorem few_nil (a : Option Addr) (c : Nat) (w : World) :
    Calls Try.prog 10 #[.slice a 0 c] w fun e w' => e = .returned (.bool (fwB [])) ∧ w' = w := by
  go_enter Try.func10, Try.ntmps10
  go_wp2_with fail
  go_loopw [3] (fun n wr => n = .int .i64 0 ∧ wr = w) (fun _ _ => 0)
  case atStart => exact ⟨rfl, rfl⟩
  case round =>
    obtain ⟨rfl, rfl⟩ := hrel
    go_wp2_with fail
    go_ret
    exact ⟨rfl, rfl⟩
theorem few_any (v : Value) (l : List Hd) (w : World) (h : Hl w v l) (hn : l.length ≤ maxLen) :
    Calls Try.prog 10 #[v] w fun e w' => e = .returned (.bool (fwB l)) ∧ w' = w := by
  rcases h with ⟨rfl, a, c, rfl⟩ | ⟨b, o, c, rfl, hc⟩
  · exact few_nil a c w
  · exact few_at b o c l w hc hn
end Go.Proofs.Ytfhbgfoebppbaaa
