/-
  Contracts: a reader as a function of what is left; package claim: Key, isUpTo, limitsOf, Right.
-/
import Derived.Test.YtapdabebiinnnaaGreatDoorRdr2
import Derived.Test.YtapdabebiinnnaaGreatDoorCm
import Derived.Deep.RegionHeld3
import Derived.Deep.QuietTactic
import Derived.BigQuiet
namespace Go.Proofs.YtapdabebiinnnaaGreatDoor
open Go.RowKit

theorem Fr.withB {w w1 w2 : World} {b : Nat} (h : Fr w w1) (k : FrB b w1 w2) (hb : w.heap.size ≤ b) : Fr w w2 :=
  ⟨k.os.trans h.os, k.tape.trans h.tape, k.output.trans h.output, Nat.le_trans h.size k.size, fun i hi _ => by
    rw [k.block i (Nat.lt_of_lt_of_le hi h.size) (by simp; omega)]
    exact h.block i hi (by simp)⟩
set_option maxRecDepth 100000 in
theorem num59' : ¬ Wm.isNum 59 := by decide
theorem rNum_det {b : Nat} {r : Txt} {f : Bool} {w : World} (h : Rd 125 b r f w) (hr : r.length ≤ 9223372036854775807) :
    Calls Tryz.prog 74 #[.pointer (some ⟨b, 0, none⟩)] w fun e w' => e = .returned (.int .i64 (rdV (Wm.numE 59) 0 r)) ∧ Rd 125 b (rdR (Wm.numE 59) r) (rdF (Wm.numE 59) r f) w' ∧ FrB b w w' := by
  refine (rNum_any h hr).mono ?_
  rintro e w' ⟨hg, hf⟩
  rcases hg with ⟨v, r', hv, rfl, rfl, hrd⟩ | ⟨hn, rfl, hrd⟩
  · obtain ⟨e1, e2, e3⟩ := rd_good 0 (Wm.numE_pf num59') (r := r') hv f
    rw [e1, e2, e3]; exact ⟨rfl, hrd, hf⟩
  · obtain ⟨e1, e2, e3⟩ := rd_bad (E := Wm.numE 59) 0 hn f
    rw [e1, e2, e3]; exact ⟨rfl, hrd, hf⟩
set_option maxRecDepth 100000 in
theorem rText_det {b : Nat} {r : Txt} {f : Bool} {w : World} (h : Rd 125 b r f w) (hr : r.length ≤ 9223372036854775807) :
    Calls Tryz.prog 75 #[.pointer (some ⟨b, 0, none⟩)] w fun e w' => e = .returned (.string (S (rdV Wm.textE [] r))) ∧ Rd 125 b (rdR Wm.textE r) (rdF Wm.textE r f) w' ∧ FrB b w w' := by
  refine (rText_any h hr).mono ?_
  rintro e w' ⟨hg, hf⟩
  rcases hg with ⟨v, r', hv, rfl, rfl, hrd⟩ | ⟨hn, rfl, hrd⟩
  · obtain ⟨e1, e2, e3⟩ := rd_good [] Wm.textE_pf (r := r') hv f
    rw [e1, e2, e3]; exact ⟨rfl, hrd, hf⟩
  · obtain ⟨e1, e2, e3⟩ := rd_bad (E := Wm.textE) [] hn f
    rw [e1, e2, e3]; exact ⟨rfl, hrd, hf⟩

/-! ### Key -/
def keyV : Option Txt → Value
  | none => .tuple #[.string (S []), .bool false]
  | some k => .tuple #[.string (S k), .bool true]
set_option maxHeartbeats 400000 in
set_option maxRecDepth 100000 in
theorem key_any (s : Txt) (w : World) (hs : s.length ≤ 9223372036854775807) :
    Calls Tryz.prog 101 #[.string (S s)] w fun e w' => e = .returned (keyV (key s)) ∧ Fr w w' := by
  go_enter Tryz.func101, Tryz.ntmps101
  go_wp2_with fail
  refine (wopen_any s _).mono ?_
  rintro e w1 ⟨rfl, hrd1, hf1⟩
  have hb := Nat.le_refl w.heap.size
  generalize hB : w.heap.size = B at hrd1
  have HB := Lib.hid hB
  rw [hB] at hb
  go_wp2_with fail
  refine (rText_any hrd1 hs).mono ?_
  rintro e w2 ⟨hg, hf2⟩
  have hf := hf1.withB hf2 (Nat.le_of_eq HB.out)
  clear hf1 hf2 hrd1
  rcases hg with ⟨v, q, hv, he, rfl, hrd⟩ | ⟨hn, rfl, hrd⟩
  · have HK := Lib.hid (show key s = some v by rw [he]; exact key_eq q hv)
    clear hv he
    go_wp2_with fail
    refine (left_any hrd).mono ?_
    rintro e w3 ⟨rfl, rfl⟩
    by_cases hq : q = []
    · subst hq
      go_wp2_with fail
      refine (done_any hrd).mono ?_
      rintro e w3 ⟨rfl, rfl⟩
      go_wp2_with fail
      go_ret2
      exact ⟨by rw [HK.out]; rfl, hf⟩
    · have hq0 : 0 < q.length := List.length_pos_iff.2 hq
      have HQ := Lib.hid hq
      clear hq
      go_wp2_with fail
      go_ret2
      exact ⟨by rw [HK.out]; rfl, hf⟩
  · have HK := Lib.hid (show key s = none from key_none hn)
    clear hn
    go_wp2_with fail
    refine (left_any hrd).mono ?_
    rintro e w3 ⟨rfl, rfl⟩
    go_wp2_with fail
    refine (done_any hrd).mono ?_
    rintro e w3 ⟨rfl, rfl⟩
    go_wp2_with fail
    go_ret2
    exact ⟨by rw [HK.out]; rfl, hf⟩

/-! ### isUpTo, limitsOf -/
theorem upTo_yes (n m : Int) (w : World) (h0 : 0 ≤ n) (h1 : n ≤ m) :
    Calls Tryz.prog 100 #[.int .i64 n, .int .i64 m] w fun e w' => e = .returned (.bool true) ∧ w' = w := by
  go_enter Tryz.func100, Tryz.ntmps100
  go_wp2
  go_ret
  exact ⟨rfl, rfl⟩
set_option maxRecDepth 100000 in
theorem upTo_no (n m : Int) (w : World) (h : n < 0 ∨ m < n) :
    Calls Tryz.prog 100 #[.int .i64 n, .int .i64 m] w fun e w' => e = .returned (.bool false) ∧ w' = w := by
  by_cases h0 : 0 ≤ n
  · have h1 : ¬ (n ≤ m) := by omega
    go_enter Tryz.func100, Tryz.ntmps100
    go_wp2
    go_ret
    exact ⟨rfl, rfl⟩
  · go_enter Tryz.func100, Tryz.ntmps100
    go_wp2
    go_ret
    exact ⟨rfl, rfl⟩
/-- The limits, as a value. -/
def limV (a b d : Int) : Value := .agg #[.int .i64 a, .int .i64 b, .int .i64 d]
set_option maxHeartbeats 1000000 in
set_option maxRecDepth 100000 in
theorem limits_any (k : Int) (w : World) :
    Calls Tryz.prog 99 #[.int .i64 k] w fun e w' => e = .returned (limV (limN k) (limT k) (limS k)) ∧ Fr w w' := by
  by_cases k0 : k = 0
  · subst k0
    go_enter Tryz.func99, Tryz.ntmps99
    go_wp2
    refine bodyPost_ret (v := limV 199999 0 20000) (by simp [results, Tryz.results99, go_sem]; rfl) rfl ⟨rfl, ?_⟩
    exact Fr.alloc w _
  by_cases k1 : k = 1
  · subst k1
    go_enter Tryz.func99, Tryz.ntmps99
    go_wp2
    refine bodyPost_ret (v := limV 200000 1073741824 0) (by simp [results, Tryz.results99, go_sem]; rfl) rfl ⟨rfl, ?_⟩
    exact Fr.alloc w _
  by_cases k2 : k = 2
  · subst k2
    go_enter Tryz.func99, Tryz.ntmps99
    go_wp2
    refine bodyPost_ret (v := limV 200000 0 20000) (by simp [results, Tryz.results99, go_sem]; rfl) rfl ⟨rfl, ?_⟩
    exact Fr.alloc w _
  by_cases k3 : k = 3
  · subst k3
    go_enter Tryz.func99, Tryz.ntmps99
    go_wp2
    refine bodyPost_ret (v := limV 1073741824 0 20000) (by simp [results, Tryz.results99, go_sem]; rfl) rfl ⟨rfl, ?_⟩
    exact Fr.alloc w _
  by_cases k4 : k = 4
  · subst k4
    go_enter Tryz.func99, Tryz.ntmps99
    go_wp2
    refine bodyPost_ret (v := limV 1073741824 1073741824 20000) (by simp [results, Tryz.results99, go_sem]; rfl) rfl ⟨rfl, ?_⟩
    exact Fr.alloc w _
  have b0 : (k == 0) = false := beq_eq_false_iff_ne.2 k0
  have b1 : (k == 1) = false := beq_eq_false_iff_ne.2 k1
  have b2 : (k == 2) = false := beq_eq_false_iff_ne.2 k2
  have b3 : (k == 3) = false := beq_eq_false_iff_ne.2 k3
  have b4 : (k == 4) = false := beq_eq_false_iff_ne.2 k4
  have HN : Hid (limN k = -1 ∧ limT k = -1 ∧ limS k = -1) := Lib.hid (by unfold limN limT limS; simp [k0, k1, k2, k3, k4])
  rw [HN.out.1, HN.out.2.1, HN.out.2.2]
  clear k0 k1 k2 k3 k4
  go_enter Tryz.func99, Tryz.ntmps99
  go_wp2
  refine bodyPost_ret (v := limV (-1) (-1) (-1)) (by simp [results, Tryz.results99, go_sem]; rfl) rfl ⟨rfl, ?_⟩
  exact Fr.alloc w _

/-! ### Claims in memory -/
/-- A claim, as a value. -/
def C.v (c : C) : Value := .agg #[.int .i64 c.k, .int .i64 c.n, .int .i64 c.t, .string (S c.s)]
/-- A claim lies in block B. -/
def CAt (w : World) (B : Nat) (c : C) : Prop := w.cell? ⟨B, 0, none⟩ = some (.int .i64 c.k) ∧ w.cell? ⟨B, 1, none⟩ = some (.int .i64 c.n) ∧ w.cell? ⟨B, 2, none⟩ = some (.int .i64 c.t) ∧ w.cell? ⟨B, 3, none⟩ = some (.string (S c.s))
theorem CAt.fr {w w' : World} {B : Nat} {c : C} (h : CAt w B c) (hf : Fr w w') : CAt w' B c := ⟨hf.cell h.1, hf.cell h.2.1, hf.cell h.2.2.1, hf.cell h.2.2.2⟩
theorem CAt.new (w : World) (c : C) : CAt (w.alloc (.cells #[.int .i64 c.k, .int .i64 c.n, .int .i64 c.t, .string (S c.s)] 35)) w.heap.size c := by
  have h := heap_alloc_new w (.cells #[.int .i64 c.k, .int .i64 c.n, .int .i64 c.t, .string (S c.s)] 35)
  refine ⟨?_, ?_, ?_, ?_⟩ <;> (rw [Lib.cell_of_heap h]; rfl)
end Go.Proofs.YtapdabebiinnnaaGreatDoor
