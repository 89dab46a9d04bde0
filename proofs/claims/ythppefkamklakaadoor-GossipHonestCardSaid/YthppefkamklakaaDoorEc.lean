/-
  Gossip: Convict.
-/
import Derived.Test.YthppefkamklakaaDoorEad
namespace Go.Proofs.YthppefkamklakaaDoor
open Go.RowKit Go.MapKept Go.Maps Go.WideMaps Go.BigFrame

/-- What Convict returns for a ring. -/
noncomputable def convE (q : List Sd) (a b : Sg) : Int :=
  match holds q a && holds q b with
  | false => 18
  | true => match decide (a.1 = b.1) with
    | false => 22
    | true => match readC a.2.1, readC b.2.1 with
      | some c, some d => if contra c d then 0 else 19
      | _, _ => 2
theorem convE_no {q : List Sd} {a b : Sg} (h : (holds q a && holds q b) = false) : convE q a b = 18 := by unfold convE; rw [h]
theorem convE_key {q : List Sd} {a b : Sg} (h : (holds q a && holds q b) = true) (hk : a.1 ≠ b.1) : convE q a b = 22 := by unfold convE; rw [h, decide_eq_false hk]
theorem convE_at {q : List Sd} {a b : Sg} (h : (holds q a && holds q b) = true) (hk : a.1 = b.1) {c d : C} (hc : readC a.2.1 = some c) (hd : readC b.2.1 = some d) : convE q a b = if contra c d then 0 else 19 := by unfold convE; rw [h, decide_eq_true hk, hc, hd]

section
variable {w : World}
set_option maxHeartbeats 4000000 in
set_option maxRecDepth 100000 in
theorem convict_none (a b : Sg) (w : World) : Calls Tryd.prog 10 #[.pointer none, sgV a, sgV b] w fun e w' => e = .returned (.int .i64 1) ∧ Fr w w' := by
  have hf := (Fr.alloc w (.cells #[.int .i64 a.1, .string (S a.2.1), .int .i64 a.2.2] 37)).trans (Fr.alloc _ (.cells #[.int .i64 b.1, .string (S b.2.1), .int .i64 b.2.2] 37))
  unfold sgV
  go_enter Tryd.func10, Tryd.ntmps10
  go_wp2_with fail
  go_ret
  exact ⟨rfl, hf⟩
/-- Convict of two signatures that hold, have one key, and are of claims. -/
theorem convict_any (R : Nat) (q : List Sd) (a b : Sg) (w : World) (ha : a.2.1.length ≤ 9223372036854775807) (hb : b.2.1.length ≤ 9223372036854775807) {c d : C} (hc : readC a.2.1 = some c) (hd : readC b.2.1 = some d)
    (hv : ∀ w' s, Fr w w' → Calls Tryd.prog 24 #[.pointer (some ⟨R, 0, none⟩), sgV s] w' fun e w2 => e = .returned (.bool (holds q s)) ∧ Fr w' w2) :
    Calls Tryd.prog 10 #[.pointer (some ⟨R, 0, none⟩), sgV a, sgV b] w fun e w' => e = .returned (.int .i64 (convE q a b)) ∧ Fr w w' := by
  have HVA := Lib.hid (fun w' (hf : Fr w w') => hv w' a hf)
  have HVB := Lib.hid (fun w' (hf : Fr w w') => hv w' b hf)
  have HRA := Lib.hid (fun w' => read_any a.2.1 w' ha)
  have HRB := Lib.hid (fun w' => read_any b.2.1 w' hb)
  have HNO := Lib.hid (convE_no (q := q) (a := a) (b := b))
  have HKE := Lib.hid (convE_key (q := q) (a := a) (b := b))
  have HAT := Lib.hid (fun h hk => convE_at (q := q) (a := a) (b := b) h hk hc hd)
  rw [hc] at HRA
  rw [hd] at HRB
  have HOK := Lib.hid (And.intro (readC_some.1 hc).1 (readC_some.1 hd).1)
  have HF0 := Lib.hid ((Fr.alloc w (.cells #[.int .i64 a.1, .string (S a.2.1), .int .i64 a.2.2] 37)).trans (Fr.alloc _ (.cells #[.int .i64 b.1, .string (S b.2.1), .int .i64 b.2.2] 37)))
  have H0 := Lib.hid (((Has.here w).box 37 #[.int .i64 a.1, .string (S a.2.1), .int .i64 a.2.2]).box 37 #[.int .i64 b.1, .string (S b.2.1), .int .i64 b.2.2])
  have hsz : (w.alloc (.cells #[.int .i64 a.1, .string (S a.2.1), .int .i64 a.2.2] 37)).heap.size = w.heap.size + 1 := by simp
  rw [hsz] at H0
  obtain ⟨E, hE⟩ : ∃ E, E = convE q a b := ⟨_, rfl⟩
  rw [← hE] at HNO HKE HAT ⊢
  unfold sgV at HVA HVB ⊢
  obtain ⟨ak, at', am⟩ := a
  obtain ⟨bk, bt, bm⟩ := b
  simp only at *
  clear hv hE hsz hc hd
  go_enter Tryd.func10, Tryd.ntmps10
  go_upto_region 3 with fail
  obtain ⟨B, hB⟩ : ∃ B, B = w.heap.size := ⟨_, rfl⟩
  rw [← hB] at H0 ⊢
  clear hB
  generalize (w.alloc (.cells #[.int .i64 ak, .string (S at'), .int .i64 am] 37)).alloc (.cells #[.int .i64 bk, .string (S bt), .int .i64 bm] 37) = w1 at *
  have HC : Hid (∀ w', Fr w1 w' → (w'.cell? ⟨B, 0, none⟩ = some (.int .i64 ak) ∧ w'.cell? ⟨B, 1, none⟩ = some (.string (S at')) ∧ w'.cell? ⟨B, 2, none⟩ = some (.int .i64 am)) ∧ (w'.cell? ⟨B + 1, 0, none⟩ = some (.int .i64 bk) ∧ w'.cell? ⟨B + 1, 1, none⟩ = some (.string (S bt)) ∧ w'.cell? ⟨B + 1, 2, none⟩ = some (.int .i64 bm))) := Lib.hid fun w' hf => by
    have h1 := (H0.out.fr hf).boxed
    have h2 := (H0.out.fr hf).right.boxed
    exact ⟨⟨cellOf h2 rfl, cellOf h2 rfl, cellOf h2 rfl⟩, ⟨cellOf h1 rfl, cellOf h1 rfl, cellOf h1 rfl⟩⟩
  clear H0
  obtain ⟨⟨a0, a1, a2⟩, ⟨b0, b1, b2⟩⟩ := HC.out _ (Fr.refl _)
  obtain ⟨ha', hha⟩ : ∃ x, x = holds q (ak, at', am) := ⟨_, rfl⟩
  obtain ⟨hb', hhb⟩ : ∃ x, x = holds q (bk, bt, bm) := ⟨_, rfl⟩
  rw [← hha] at HVA HNO HKE HAT
  rw [← hhb] at HVB HNO HKE HAT
  clear hha hhb
  cases ha' with
  | false =>
    obtain rfl := HNO.out (by first | rfl | simp)
    clear b0 b1 b2
    go_wp2_with (go_at_call 24; refine (HVA.out _ HF0.out).mono ?_; rintro e w2 ⟨rfl, hf2⟩)
    go_ret
    exact ⟨rfl, HF0.out.trans hf2⟩
  | true =>
  cases hb' with
  | false =>
    obtain rfl := HNO.out (by first | rfl | simp)
    go_wp2_with (first
      | (go_at_call 24; have := HF2.out; refine (HVB.out _ (HF0.out.trans HF2.out)).mono ?_; rintro e w3 ⟨rfl, hf3⟩)
      | (go_at_call 24; refine (HVA.out _ HF0.out).mono ?_; rintro e w2 ⟨rfl, hf2⟩; obtain ⟨⟨a0, a1, a2⟩, ⟨b0, b1, b2⟩⟩ := HC.out _ hf2; have HF2 := Lib.hid hf2; clear hf2))
    go_ret
    exact ⟨rfl, HF0.out.trans (HF2.out.trans hf3)⟩
  | true =>
  go_upto_region 5 with (first
      | (go_at_call 24; have := HF2.out; refine (HVB.out _ (HF0.out.trans HF2.out)).mono ?_; rintro e w3 ⟨rfl, hf3⟩)
      | (go_at_call 24; refine (HVA.out _ HF0.out).mono ?_; rintro e w2 ⟨rfl, hf2⟩; obtain ⟨⟨a0, a1, a2⟩, ⟨b0, b1, b2⟩⟩ := HC.out _ hf2; have HF2 := Lib.hid hf2; clear hf2))
  have HF3 := Lib.hid (HF2.out.trans hf3)
  clear a0 a1 a2 b0 b1 b2 hf3 HF2 HVA HVB HNO
  obtain ⟨⟨a0, a1, a2⟩, ⟨b0, b1, b2⟩⟩ := HC.out _ HF3.out
  replace HKE := Lib.hid (HKE.out (by first | rfl | simp))
  replace HAT := Lib.hid (fun h => HAT.out (by first | rfl | simp) h)
  by_cases hk : ak = bk
  · replace HAT := Lib.hid (HAT.out hk)
    subst hk
    clear HKE
    unfold readV at HRA HRB
    have HCV : Hid (c.v = .agg #[.int .i64 c.k, .int .i64 c.n, .int .i64 c.t, .string (S c.s)]) := Lib.hid rfl
    have HDV : Hid (d.v = .agg #[.int .i64 d.k, .int .i64 d.n, .int .i64 d.t, .string (S d.s)]) := Lib.hid rfl
    have HCO := Lib.hid (fun w' => contra_any c d w' (ok_fits HOK.out.1) (ok_fits HOK.out.2))
    simp only [HCV.out] at HRA
    simp only [HDV.out] at HRB
    simp only [HCV.out, HDV.out] at HCO
    generalize contra c d = bc at *
    go_upto_region 7 with fail
    go_upto_region 8 with (go_at_call 25; refine (HRA.out _).mono ?_; rintro e w4 ⟨rfl, hf4⟩)
    have hf5 := hf4.trans (Fr.alloc w4 (.cells #[.int .i64 c.k, .int .i64 c.n, .int .i64 c.t, .string (S c.s)] 68))
    obtain ⟨x0, x1, x2, x3⟩ := CAt.new w4 c
    obtain ⟨X, hX⟩ : ∃ X, X = w4.heap.size := ⟨_, rfl⟩
    rw [← hX] at x0 x1 x2 x3 ⊢
    have HF5 := Lib.hid (HF3.out.trans hf5)
    clear hX hf4 hf5 a0 a1 a2 b0 b1 b2
    generalize w4.alloc (.cells #[.int .i64 c.k, .int .i64 c.n, .int .i64 c.t, .string (S c.s)] 68) = w5 at *
    obtain ⟨_, ⟨b0, b1, b2⟩⟩ := HC.out _ HF5.out
    go_upto_region 9 with (go_at_call 25; refine (HRB.out _).mono ?_; rintro e w6 ⟨rfl, hf6⟩)
    have hf7 := hf6.trans (Fr.alloc w6 (.cells #[.int .i64 d.k, .int .i64 d.n, .int .i64 d.t, .string (S d.s)] 68))
    obtain ⟨y0, y1, y2, y3⟩ := CAt.new w6 d
    obtain ⟨Y, hY⟩ : ∃ Y, Y = w6.heap.size := ⟨_, rfl⟩
    rw [← hY] at y0 y1 y2 y3 ⊢
    replace x0 := hf7.cell x0
    replace x1 := hf7.cell x1
    replace x2 := hf7.cell x2
    replace x3 := hf7.cell x3
    have HF7 := Lib.hid (HF5.out.trans hf7)
    clear hY hf6 hf7 b0 b1 b2 HF5
    generalize w6.alloc (.cells #[.int .i64 d.k, .int .i64 d.n, .int .i64 d.t, .string (S d.s)] 68) = w7 at *
    cases bc with
    | true =>
      obtain rfl := HAT.out.trans (if_pos rfl)
      go_wp2_with (go_at_call 26; refine (HCO.out _).mono ?_; rintro e w8 ⟨rfl, hf8⟩)
      go_ret
      exact ⟨rfl, HF0.out.trans (HF7.out.trans hf8)⟩
    | false =>
      obtain rfl := HAT.out.trans (if_neg (by decide))
      go_wp2_with (go_at_call 26; refine (HCO.out _).mono ?_; rintro e w8 ⟨rfl, hf8⟩)
      go_ret
      exact ⟨rfl, HF0.out.trans (HF7.out.trans hf8)⟩
  · obtain rfl := HKE.out hk
    go_wp2_with fail
    go_ret
    exact ⟨rfl, HF0.out.trans HF3.out⟩
end
end Go.Proofs.YthppefkamklakaaDoor
