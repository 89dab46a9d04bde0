/-
  Gossip: the law's small.
-/
import Derived.Test.YthppefkamklakaaDoorEg
import Derived.Test.YthppefkamklakaaDoorEc
namespace Go.Proofs.YthppefkamklakaaDoor
open Go.RowKit Go.MapKept Go.Maps Go.WideMaps

def tZ : Txt := [48, 59, 48, 59, 48, 59, 52, 58, 49, 58, 97, 44, 44]
def cZ : C := ⟨0, 0, 0, [49, 58, 97, 44]⟩
theorem okZ : okB cZ = true := (okB_iff _).2 ⟨by decide, by decide, by decide, by decide, by decide, .inr (by show (key [49, 58, 97, 44]).isSome = true; rw [key_a]; rfl)⟩
theorem rdZ : readC tZ = some cZ := readC_some.2 ⟨okZ, (textC1 0 0 0 [49, 58, 97, 44] (by decide) (by decide) (by decide) (by decide)).symm⟩
def gY : Sg := (3, tD, 1)
def gZ : Sg := (3, tZ, 2)
def q3 : List Sd := [(3, tA), (3, tD), (3, tZ)]
theorem clY : clm gY.2.1 = cD := readC_clm rdD'
theorem clZ : clm gZ.2.1 = cZ := readC_clm rdZ
theorem q3_nd : q3.Nodup := by decide
theorem gdA : Good q3 3 [] gA := ⟨by decide, rfl, ⟨cA, rdA, by decide⟩, by simp⟩
theorem gdZ : Good q3 3 [] gZ := ⟨by decide, rfl, ⟨cZ, rdZ, by decide⟩, by simp⟩
theorem gdY : Good q3 3 [] gY := ⟨by decide, rfl, ⟨cD, rdD', by decide⟩, by simp⟩
theorem lA : LOk q3 3 [gA] := gdA.add (LOk.nil _ _) (by simp)
theorem lZ : LOk q3 3 [gZ] := gdZ.add (LOk.nil _ _) (by simp)
theorem lY : LOk q3 3 [gY] := gdY.add (LOk.nil _ _) (by simp)
theorem coAZ : contra cA cZ = false := kinds_no (by decide)
theorem coZA : contra cZ cA = false := kinds_no (by decide)
theorem coDZ : contra cD cZ = false := kinds_no (by decide)
theorem coDA : contra cD cA = true := by rw [contra_11 okD okA rfl rfl]; decide
theorem coAA : contra cA cA = false := by rw [contra_11 okA okA rfl rfl]; decide
theorem coZZ : contra cZ cZ = false := by rw [contra_00 okZ okZ rfl rfl]; decide
theorem gdZA : Good q3 3 [gA] gZ := ⟨by decide, rfl, ⟨cZ, rdZ, by decide⟩, fun a ha => by rw [List.mem_singleton.1 ha, clA, clZ]; exact coAZ⟩
theorem gdAZ : Good q3 3 [gZ] gA := ⟨by decide, rfl, ⟨cA, rdA, by decide⟩, fun a ha => by rw [List.mem_singleton.1 ha, clA, clZ]; exact coZA⟩
theorem lAZ : LOk q3 3 [gA, gZ] := gdZA.add lA (by decide)
theorem lZA : LOk q3 3 [gZ, gA] := gdAZ.add lZ (by decide)
theorem fAZ : fa q3 3 [gA] [gZ] = [gA, gZ] := acl_new lA q3_nd gdZA (by decide)
theorem fZA : fa q3 3 [gZ] [gA] = [gZ, gA] := acl_new lZ q3_nd gdAZ (by decide)
theorem fAZ' : fa q3 3 [gA, gZ] [gZ, gA] = [gA, gZ] := by
  show acl q3 3 (acl q3 3 [gA, gZ] gZ) gA = _
  rw [acl_old lAZ q3_nd (fun _ => by decide), acl_old lAZ q3_nd (fun _ => by decide)]
theorem fZA' : fa q3 3 [gZ, gA] [gA, gZ] = [gZ, gA] := by
  show acl q3 3 (acl q3 3 [gZ, gA] gA) gZ = _
  rw [acl_old lZA q3_nd (fun _ => by decide), acl_old lZA q3_nd (fun _ => by decide)]
theorem clR_at {l : List Sg} {s : Sg} {c : C} (h : readC s.2.1 = some c) : clR l s = clO l c := by unfold clR; rw [h]
theorem clR_no {l : List Sg} {s : Sg} {c : C} (h : readC s.2.1 = some c) (ha : ∀ a ∈ l, contra (clm a.2.1) c = false) : clR l s = none := by
  rw [clR_at h]
  exact clO_none (List.any_eq_false.2 fun a h' => by simp [ha a h'])
theorem clYA : clR [gY] gA = some gY := by
  rw [clR_at (s := gA) rdA]
  exact clO_some (k := 0) (by decide) (by show contra (clm gY.2.1) cA = true; rw [clY]; exact coDA) (fun j _ h => absurd h (by omega))
theorem clYZ : clR [gY] gZ = none := clR_no rdZ fun a ha => by rw [List.mem_singleton.1 ha, clY]; exact coDZ
theorem mAY : mtC [gA] [gY] = some (gA, gY) := mtC_some (j := 0) (by decide) clYA (fun m _ h => absurd h (by omega))
theorem mZAY : mtC [gZ, gA] [gY] = some (gA, gY) := mtC_some (j := 1) (by decide) clYA (fun m _ h => by
  obtain rfl : m = 0 := by omega
  exact clYZ)
theorem mAZ : mtC [gA] [gZ] = none := mtC_none fun m hm => by
  obtain rfl : m = 0 := by simp at hm; omega
  exact clR_no rdA fun a ha => by rw [List.mem_singleton.1 ha, clZ]; exact coZA
theorem mAZZA : mtC [gA, gZ] [gZ, gA] = none := mtC_none fun m hm => by
  have h : m = 0 ∨ m = 1 := by simp at hm; omega
  rcases h with rfl | rfl
  · exact clR_no rdA fun a ha => by
      rcases List.mem_cons.1 ha with rfl | ha
      · rw [clZ]; exact coZA
      · rw [List.mem_singleton.1 ha, clA]; exact coAA
  · exact clR_no rdZ fun a ha => by
      rcases List.mem_cons.1 ha with rfl | ha
      · rw [clZ]; exact coZZ
      · rw [List.mem_singleton.1 ha, clA]; exact coAZ
/-- Three lists. -/
def F3 (a b c : List Sg) : Nat → List Sg
  | 0 => a
  | 1 => b
  | _ => c
theorem up0 (a b c l : List Sg) : up (F3 a b c) 0 l = F3 l b c := by
  funext i
  match i with
  | 0 => rfl
  | 1 => rfl
  | n + 2 => rfl
theorem up1 (a b c l : List Sg) : up (F3 a b c) 1 l = F3 a l c := by
  funext i
  match i with
  | 0 => rfl
  | 1 => rfl
  | n + 2 => rfl
theorem t3_up2 (R : Nat) (k : Int) (V0 V1 V2 : Nat) (H : Thing) (a b c l : List Sg) : T3 R k V0 V1 V2 H (up (F3 a b c) 2 l) = T3 R k V0 V1 V2 H (F3 a b l) := rfl
section
variable {W w : World} {R V0 V1 V2 : Nat} {U : Thing} {a b c : List Sg}
theorem vs3 : Vs W (T3 R 3 V0 V1 V2 (RingT R q3)) 3 (p3 V0 V1 V2) q3 3 := T3.vs (by decide) q3_nd (by decide) fun V l w U h hl hn s hs => vacc h hl q3_nd (by decide) hn s hs
/-- The views with their lists, and their ring. -/
noncomputable abbrev VT (R V0 V1 V2 : Nat) (a b c : List Sg) (U : Thing) : Thing := (T3 R 3 V0 V1 V2 (RingT R q3) (F3 a b c)).sep U
theorem gok3 (t : Txt) (m : Int) (ht : t.length ≤ 20) (hm : Wm.inInt m) : GOk (3, t, m) := ⟨show Wm.inInt 3 by decide, by show t.length ≤ _; omega, hm⟩
theorem sn_a (h : Has W w (VT R V0 V1 V2 [] [] [] U)) : Calls Tryd.prog 12 #[.pointer (some ⟨V0, 0, none⟩), .agg #[.int .i64 3, .string (S tA), .int .i64 0]] w fun e w' => e = .returned (.int .i64 0) ∧ Has W w' (VT R V0 V1 V2 [gA] [] [] U) := by
  refine (vs3.acc 0 (by decide) _ _ _ h (LOk.nil _ _) gA (gok3 tA 0 (by decide) (by decide))).mono ?_
  rintro e w' ⟨rfl, h'⟩
  refine ⟨by rw [show F3 [] [] [] 0 = [] from rfl, (aE_zero (LOk.nil _ _) q3_nd gA).2 gdA], ?_⟩
  rw [show F3 [] [] [] 0 = [] from rfl, acl_new (LOk.nil _ _) q3_nd gdA (by simp), up0] at h'
  exact h'
theorem sn_b (h : Has W w (VT R V0 V1 V2 [gA] [] [] U)) : Calls Tryd.prog 12 #[.pointer (some ⟨V1, 0, none⟩), .agg #[.int .i64 3, .string (S tZ), .int .i64 2]] w fun e w' => e = .returned (.int .i64 0) ∧ Has W w' (VT R V0 V1 V2 [gA] [gZ] [] U) := by
  refine (vs3.acc 1 (by decide) _ _ _ h (LOk.nil _ _) gZ (gok3 tZ 2 (by decide) (by decide))).mono ?_
  rintro e w' ⟨rfl, h'⟩
  refine ⟨by rw [show F3 [gA] [] [] 1 = [] from rfl, (aE_zero (LOk.nil _ _) q3_nd gZ).2 gdZ], ?_⟩
  rw [show F3 [gA] [] [] 1 = [] from rfl, acl_new (LOk.nil _ _) q3_nd gdZ (by simp), up1] at h'
  exact h'
theorem sn_c (h : Has W w (VT R V0 V1 V2 [gA] [gZ] [] U)) : Calls Tryd.prog 12 #[.pointer (some ⟨V2, 0, none⟩), .agg #[.int .i64 3, .string (S tD), .int .i64 1]] w fun e w' => e = .returned (.int .i64 0) ∧ Has W w' (VT R V0 V1 V2 [gA] [gZ] [gY] U) := by
  refine (vs3.acc 2 (by decide) _ _ _ h (LOk.nil _ _) gY (gok3 tD 1 (by decide) (by decide))).mono ?_
  rintro e w' ⟨rfl, h'⟩
  refine ⟨by rw [show F3 [gA] [gZ] [] 2 = [] from rfl, (aE_zero (LOk.nil _ _) q3_nd gY).2 gdY], ?_⟩
  rw [show F3 [gA] [gZ] [] 2 = [] from rfl, acl_new (LOk.nil _ _) q3_nd gdY (by simp), t3_up2] at h'
  exact h'
theorem sn_m1 (h : Has W w (VT R V0 V1 V2 [gA] [gZ] [gY] U)) : Calls Tryd.prog 16 #[.pointer (some ⟨V0, 0, none⟩), .pointer (some ⟨V2, 0, none⟩)] w fun e w' => e = .returned (.tuple #[.agg #[.int .i64 3, .string (S tA), .int .i64 0], .agg #[.int .i64 3, .string (S tD), .int .i64 1], .bool true]) ∧ Has W w' (VT R V0 V1 V2 [gA] [gZ] [gY] U) := by
  refine (meet_any vs3 (i := 0) (j := 2) (by decide) (by decide) h lA lY).mono ?_
  rintro e w' ⟨rfl, h'⟩
  have hm : mtC (F3 [gA] [gZ] [gY] 0) (F3 [gA] [gZ] [gY] 2) = some (gA, gY) := mAY
  rw [mtF_some hm] at h'
  exact ⟨by rw [hm]; rfl, h'⟩
theorem sn_m2 (h : Has W w (VT R V0 V1 V2 [gA] [gZ] [gY] U)) : Calls Tryd.prog 16 #[.pointer (some ⟨V0, 0, none⟩), .pointer (some ⟨V1, 0, none⟩)] w fun e w' => e = .returned (.tuple #[.agg #[.int .i64 0, .string (S []), .int .i64 0], .agg #[.int .i64 0, .string (S []), .int .i64 0], .bool false]) ∧ Has W w' (VT R V0 V1 V2 [gA, gZ] [gZ, gA] [gY] U) := by
  refine (meet_any vs3 (i := 0) (j := 1) (by decide) (by decide) h lA lZ).mono ?_
  rintro e w' ⟨rfl, h'⟩
  have hm : mtC (F3 [gA] [gZ] [gY] 0) (F3 [gA] [gZ] [gY] 1) = none := mAZ
  rw [mtF_none hm, show F3 [gA] [gZ] [gY] 0 = [gA] from rfl, show F3 [gA] [gZ] [gY] 1 = [gZ] from rfl, fAZ, up0, show F3 [gA, gZ] [gZ] [gY] 1 = [gZ] from rfl, fZA, up1] at h'
  exact ⟨by rw [hm]; rfl, h'⟩
theorem sn_sp (h : Has W w (VT R V0 V1 V2 [gA, gZ] [gZ, gA] [gY] U)) {v vo : Value} (hU : ∀ w', Has W w' U → PSl w' v 3 (p3 V0 V1 V2) ∧ OSl w' vo [(0, 1), (1, 2)]) :
    Calls Tryd.prog 13 #[v, vo] w fun e w' => e = .returned (.tuple #[.int .i64 1, .agg #[.int .i64 3, .string (S tA), .int .i64 0], .agg #[.int .i64 3, .string (S tD), .int .i64 1], .bool true]) ∧ Has W w' (VT R V0 V1 V2 [gA, gZ] [gZ, gA] [gY] U) := by
  have hf : ∀ i, i < 3 → LOk q3 3 (F3 [gA, gZ] [gZ, gA] [gY] i) := fun i hi => by
    match i, hi with
    | 0, _ => exact lAZ
    | 1, _ => exact lZA
    | 2, _ => exact lY
  refine (spread_any vs3 h hf (by decide) hU (by decide) (by decide)).mono ?_
  have h0 : sc q3 3 3 (F3 [gA, gZ] [gZ, gA] [gY]) [(0, 1), (1, 2)] 0 (by decide) = none := mAZZA
  have h1 : fs q3 3 3 (F3 [gA, gZ] [gZ, gA] [gY]) [(0, 1), (1, 2)] 1 = F3 [gA, gZ] [gZ, gA] [gY] := by
    rw [fs_succ q3 3 3 _ (show 0 < ([(0, 1), (1, 2)] : List (Int × Int)).length by decide)]
    show mtF q3 3 (F3 [gA, gZ] [gZ, gA] [gY]) 0 1 = _
    rw [mtF_none (show mtC (F3 [gA, gZ] [gZ, gA] [gY] 0) (F3 [gA, gZ] [gZ, gA] [gY] 1) = none from mAZZA), show F3 [gA, gZ] [gZ, gA] [gY] 0 = [gA, gZ] from rfl, show F3 [gA, gZ] [gZ, gA] [gY] 1 = [gZ, gA] from rfl, fAZ', up0, show F3 [gA, gZ] [gZ, gA] [gY] 1 = [gZ, gA] from rfl, fZA', up1]
  have h2 : sc q3 3 3 (F3 [gA, gZ] [gZ, gA] [gY]) [(0, 1), (1, 2)] 1 (by decide) = some (gA, gY) := by
    unfold sc
    rw [h1]
    exact mZAY
  rintro e w' (⟨j, hj, x, y, hn, hs, rfl, h'⟩ | ⟨hn, _, _⟩)
  · have hj' : j = 0 ∨ j = 1 := by simp at hj; omega
    rcases hj' with rfl | rfl
    · rw [h0] at hs; exact absurd hs (by simp)
    · rw [h2] at hs
      simp only [Option.some.injEq, Prod.mk.injEq] at hs
      obtain ⟨rfl, rfl⟩ := hs
      rw [h1] at h'
      exact ⟨rfl, h'⟩
  · rw [hn 1 (by decide)] at h2; exact absurd h2 (by simp)
theorem sn_v (h : Has W w (VT R V0 V1 V2 a b c U)) (w' : World) (s : Sg) (hf : Fr w w') : Calls Tryd.prog 24 #[.pointer (some ⟨R, 0, none⟩), sgV s] w' fun e w2 => e = .returned (.bool (holds q3 s)) ∧ Fr w' w2 :=
  Has.valid (((h.fr hf).map fun _ h => s3_open h).right.right.right) s (by decide)
theorem sn_x (h : Has W w (VT R V0 V1 V2 a b c U)) : Calls Tryd.prog 10 #[.pointer (some ⟨R, 0, none⟩), .agg #[.int .i64 3, .string (S tA), .int .i64 0], .agg #[.int .i64 3, .string (S tD), .int .i64 1]] w fun e w' => e = .returned (.int .i64 0) ∧ Fr w w' := by
  refine (convict_any R q3 gA gY w (by decide) (by decide) rdA rdD' (fun w' s hf => sn_v h w' s hf)).mono ?_
  rintro e w' ⟨rfl, hf⟩
  refine ⟨?_, hf⟩
  rw [convE_at (q := q3) (a := gA) (b := gY) (by decide) rfl rdA rdD', conAD]; rfl
theorem sn_y (h : Has W w (VT R V0 V1 V2 a b c U)) : Calls Tryd.prog 10 #[.pointer (some ⟨R, 0, none⟩), .agg #[.int .i64 3, .string (S tA), .int .i64 0], .agg #[.int .i64 3, .string (S tA), .int .i64 0]] w fun e w' => e = .returned (.int .i64 19) ∧ Fr w w' := by
  refine (convict_any R q3 gA gA w (by decide) (by decide) rdA rdA (fun w' s hf => sn_v h w' s hf)).mono ?_
  rintro e w' ⟨rfl, hf⟩
  refine ⟨?_, hf⟩
  rw [convE_at (q := q3) (a := gA) (b := gA) (by decide) rfl rdA rdA, coAA]; rfl
theorem sn_z (h : Has W w (VT R V0 V1 V2 a b c U)) : Calls Tryd.prog 10 #[.pointer (some ⟨R, 0, none⟩), .agg #[.int .i64 3, .string (S tA), .int .i64 0], .agg #[.int .i64 3, .string (S tD), .int .i64 2]] w fun e w' => e = .returned (.int .i64 18) ∧ Fr w w' := by
  refine (convict_any R q3 gA (3, tD, 2) w (by decide) (by decide) rdA rdD' (fun w' s hf => sn_v h w' s hf)).mono ?_
  rintro e w' ⟨rfl, hf⟩
  refine ⟨?_, hf⟩
  rw [convE_no (q := q3) (a := gA) (b := (3, tD, 2)) (by decide)]
end
end Go.Proofs.YthppefkamklakaaDoor
namespace Go.Proofs.YthppefkamklakaaDoor
open Go.RowKit Go.MapKept Go.Maps Go.WideMaps

section
variable {W w : World} {R : Nat} {U : Thing}
theorem sn_s1 (h : Has W w ((RingT R []).sep U)) : Calls Tryd.prog 14 #[.pointer (some ⟨R, 0, none⟩), .int .i64 3, .string ⟨#[49, 59, 50, 59, 55, 59, 48, 58, 44]⟩] w fun e w' => e = .returned (.agg #[.int .i64 3, .string (S tA), .int .i64 0]) ∧ Has W w' ((RingT R [(3, tA)]).sep U) := h.sign 3 tA (by decide) (by decide)
theorem sn_s2 (h : Has W w ((RingT R [(3, tA)]).sep U)) : Calls Tryd.prog 14 #[.pointer (some ⟨R, 0, none⟩), .int .i64 3, .string ⟨#[49, 59, 49, 59, 56, 59, 48, 58, 44]⟩] w fun e w' => e = .returned (.agg #[.int .i64 3, .string (S tD), .int .i64 1]) ∧ Has W w' ((RingT R [(3, tA), (3, tD)]).sep U) := h.sign 3 tD (by decide) (by decide)
theorem sn_s3 (h : Has W w ((RingT R [(3, tA), (3, tD)]).sep U)) : Calls Tryd.prog 14 #[.pointer (some ⟨R, 0, none⟩), .int .i64 3, .string ⟨#[48, 59, 48, 59, 48, 59, 52, 58, 49, 58, 97, 44, 44]⟩] w fun e w' => e = .returned (.agg #[.int .i64 3, .string (S tZ), .int .i64 2]) ∧ Has W w' ((RingT R q3).sep U) := h.sign 3 tZ (by decide) (by decide)
theorem sn_n (h : Has W w U) (R : Nat) : Calls Tryd.prog 15 #[.pointer (some ⟨R, 0, none⟩), .int .i64 3] w fun e w' => ∃ B, e = .returned (.pointer (some ⟨B, 0, none⟩)) ∧ Has W w' ((ViewT B R 3 [] vd0).sep U) := vnew_yes h R 3 (by decide)
/-- The cells of a box of three. -/
def Three (w : World) (X : Nat) (k : Int) (t : Txt) (m : Int) : Prop := w.cell? ⟨X, 0, none⟩ = some (.int .i64 k) ∧ w.cell? ⟨X, 1, none⟩ = some (.string (S t)) ∧ w.cell? ⟨X, 2, none⟩ = some (.int .i64 m)
abbrev SB3 (X : Nat) (k : Int) (t : Txt) (m : Int) : Thing := BoxT 37 X #[.int .i64 k, .string (S t), .int .i64 m]
theorem three_at {X : Nat} {k m : Int} {t : Txt} (h : Has W w ((SB3 X k t m).sep U)) : Three w X k t m := ⟨cellOf h.boxed rfl, cellOf h.boxed rfl, cellOf h.boxed rfl⟩
/-- Two boxes more, behind the views. -/
theorem two_boxes {T : Thing} {k m k' m' : Int} {t t' : Txt} (h : Has W w (T.sep U)) : Has W ((w.alloc (.cells #[.int .i64 k, .string (S t), .int .i64 m] 37)).alloc (.cells #[.int .i64 k', .string (S t'), .int .i64 m'] 37)) (T.sep ((SB3 w.heap.size k t m).sep ((SB3 (w.heap.size + 1) k' t' m').sep U))) := two_new h
end
set_option maxHeartbeats 4000000 in
set_option maxRecDepth 100000 in
theorem small_any (w : World) : Calls Tryd.prog 4 #[] w fun e w' => e = .returned (.bool true) ∧ Fr w w' := by
  go_enter Tryd.func4, Tryd.ntmps4
  go_upto_region 4 with (go_at_call 6; refine ((Has.here w).ring).mono ?_; rintro e w1 ⟨R, rfl, h1⟩)
  have H1 := Lib.hid h1
  clear h1
  go_upto_region 5 with (go_at_call 14; refine (sn_s1 H1.out).mono ?_; rintro e w2 ⟨rfl, h2⟩; have H2 := Lib.hid h2; clear h2)
  have H3 := Lib.hid ((H2.out.box 37 #[.int .i64 3, .string (S tA), .int .i64 0]).turn)
  obtain ⟨A, hA⟩ : ∃ A, A = w2.heap.size := ⟨_, rfl⟩
  rw [← hA] at H3 ⊢
  generalize w2.alloc (.cells #[.int .i64 3, .string (S tA), .int .i64 0] 37) = w3 at *
  clear hA H1 H2
  go_upto_region 6 with (go_at_call 14; refine (sn_s2 H3.out).mono ?_; rintro e w4 ⟨rfl, h4⟩; have H4 := Lib.hid h4; clear h4)
  have H5 := Lib.hid ((H4.out.box 37 #[.int .i64 3, .string (S tD), .int .i64 1]).turn)
  obtain ⟨B, hB⟩ : ∃ B, B = w4.heap.size := ⟨_, rfl⟩
  rw [← hB] at H5 ⊢
  generalize w4.alloc (.cells #[.int .i64 3, .string (S tD), .int .i64 1] 37) = w5 at *
  clear hB H3 H4
  go_upto_region 7 with (go_at_call 14; refine (sn_s3 H5.out).mono ?_; rintro e w6 ⟨rfl, h6⟩; have H6 := Lib.hid h6; clear h6)
  have H7 := Lib.hid ((H6.out.box 37 #[.int .i64 3, .string (S tZ), .int .i64 2]).turn)
  obtain ⟨C, hC⟩ : ∃ C, C = w6.heap.size := ⟨_, rfl⟩
  rw [← hC] at H7 ⊢
  generalize w6.alloc (.cells #[.int .i64 3, .string (S tZ), .int .i64 2] 37) = w7 at *
  clear hC H5 H6
  obtain ⟨U, hU⟩ : ∃ U : Thing, U = ((SB3 C 3 tZ 2).sep ((SB3 B 3 tD 1).sep ((SB3 A 3 tA 0).sep .emp))) := ⟨_, rfl⟩
  rw [← hU] at H7
  have HBX : Hid (∀ (w' : World), Has w w' U → Three w' A 3 tA 0 ∧ Three w' B 3 tD 1 ∧ Three w' C 3 tZ 2) := Lib.hid fun w' h => by
    rw [hU] at h
    exact ⟨three_at h.right.right, three_at h.right, three_at h⟩
  clear hU
  go_upto_region 8 with (go_at_call 15; refine (sn_n H7.out _).mono ?_; rintro e wa ⟨V0, rfl, ha⟩; have HA := Lib.hid ha; clear ha H7)
  go_upto_region 9 with (go_at_call 15; refine (sn_n HA.out _).mono ?_; rintro e wb ⟨V1, rfl, hb⟩; have HB := Lib.hid hb; clear hb HA)
  go_upto_region 12 with (go_at_call 15; refine (sn_n HB.out _).mono ?_; rintro e wc ⟨V2, rfl, hc⟩; have HC := Lib.hid hc; clear hc HB)
  have HD := Lib.hid (show Has w wc (VT R V0 V1 V2 [] [] [] U) from HC.out.map fun _ h => s3_shut (sep_under (sp3 h) fun _ h => sep_turn h))
  clear HC
  obtain ⟨⟨a0, a1, a2⟩, ⟨b0, b1, b2⟩, ⟨c0, c1, c2⟩⟩ := HBX.out _ HD.out.right
  go_upto_region 13 with (first
    | (go_at_call 12; refine (sn_c H2.out).mono ?_; rintro e w3' ⟨rfl, h3⟩; have H3 := Lib.hid h3; clear h3)
    | (go_at_call 12; refine (sn_b H1.out).mono ?_; rintro e w2' ⟨rfl, h2⟩; have H2 := Lib.hid h2; obtain ⟨⟨a0, a1, a2⟩, ⟨b0, b1, b2⟩, ⟨c0, c1, c2⟩⟩ := HBX.out _ h2.right; clear h2)
    | (go_at_call 12; refine (sn_a HD.out).mono ?_; rintro e w1' ⟨rfl, h1⟩; have H1 := Lib.hid h1; obtain ⟨⟨a0, a1, a2⟩, ⟨b0, b1, b2⟩, ⟨c0, c1, c2⟩⟩ := HBX.out _ h1.right; clear h1))
  clear a0 a1 a2 b0 b1 b2 c0 c1 c2 HD H1 H2
  go_upto_region 14 with (go_at_call 16; refine (sn_m1 H3.out).mono ?_; rintro e w4 ⟨rfl, h4⟩; have H4 := Lib.hid h4; clear h4)
  clear H3
  have H5 := Lib.hid (two_boxes (k := 3) (t := tA) (m := 0) (k' := 3) (t' := tD) (m' := 1) H4.out)
  obtain ⟨P, hP⟩ : ∃ P, P = w4.heap.size := ⟨_, rfl⟩
  rw [← hP] at H5 ⊢
  generalize (w4.alloc (.cells #[.int .i64 3, .string (S tA), .int .i64 0] 37)).alloc (.cells #[.int .i64 3, .string (S tD), .int .i64 1] 37) = w5 at *
  clear hP H4
  go_upto_region 15 with (go_at_call 16; refine (sn_m2 H5.out).mono ?_; rintro e w6 ⟨rfl, h6⟩; have H6 := Lib.hid h6; clear h6)
  have H7 := Lib.hid (H6.out.fr ((Fr.alloc w6 (.cells #[.int .i64 0, .string (S []), .int .i64 0] 37)).trans (Fr.alloc _ (.cells #[.int .i64 0, .string (S []), .int .i64 0] 37))))
  clear H5 H6
  generalize (w6.alloc (.cells #[.int .i64 0, .string (S []), .int .i64 0] 37)).alloc (.cells #[.int .i64 0, .string (S []), .int .i64 0] 37) = w7 at *
  have H8 := Lib.hid ((H7.out.box 43 #[.pointer (some ⟨V0, 0, none⟩), .pointer (some ⟨V1, 0, none⟩), .pointer (some ⟨V2, 0, none⟩)]).turn.box 53 #[.int .i64 0, .int .i64 1, .int .i64 1, .int .i64 2]).turn
  rw [show (w7.alloc (.cells #[.pointer (some ⟨V0, 0, none⟩), .pointer (some ⟨V1, 0, none⟩), .pointer (some ⟨V2, 0, none⟩)] 43)).heap.size = w7.heap.size + 1 by simp] at H8
  have HSP := Lib.hid (sn_sp H8.out (v := .slice (some ⟨w7.heap.size, 0, none⟩) 3 3) (vo := .slice (some ⟨w7.heap.size + 1, 0, none⟩) 2 2) (fun w' h => by
    have hy := h.boxed
    have hx := h.right.boxed
    refine ⟨⟨w7.heap.size, 0, 3, rfl, fun i hi => ?_⟩, .inr ⟨w7.heap.size + 1, 0, 2, rfl, fun i hi => ?_⟩⟩
    · match i, hi with
      | 0, _ => exact cellOf hx rfl
      | 1, _ => exact cellOf hx rfl
      | 2, _ => exact cellOf hx rfl
    · match i, hi with
      | 0, _ => exact ⟨cellOf hy rfl, cellOf hy rfl⟩
      | 1, _ => exact ⟨cellOf hy rfl, cellOf hy rfl⟩))
  clear H7
  go_upto_region 16 with (go_at_call 13; refine HSP.out.mono ?_; rintro e w9 ⟨rfl, h9⟩; have H9 := Lib.hid h9; clear h9)
  have H10 := Lib.hid (two_boxes (k := 3) (t := tA) (m := 0) (k' := 3) (t' := tD) (m' := 1) H9.out)
  obtain ⟨Q, hQ⟩ : ∃ Q, Q = w9.heap.size := ⟨_, rfl⟩
  rw [← hQ] at H10 ⊢
  generalize (w9.alloc (.cells #[.int .i64 3, .string (S tA), .int .i64 0] 37)).alloc (.cells #[.int .i64 3, .string (S tD), .int .i64 1] 37) = w10 at *
  clear hQ H8 HSP H9
  obtain ⟨U2, hU2⟩ : ∃ U2 : Thing, U2 = ((SB3 Q 3 tA 0).sep ((SB3 (Q + 1) 3 tD 1).sep ((BoxT 53 (w7.heap.size + 1) #[.int .i64 0, .int .i64 1, .int .i64 1, .int .i64 2]).sep ((BoxT 43 w7.heap.size #[.pointer (some ⟨V0, 0, none⟩), .pointer (some ⟨V1, 0, none⟩), .pointer (some ⟨V2, 0, none⟩)]).sep ((SB3 P 3 tA 0).sep ((SB3 (P + 1) 3 tD 1).sep U)))))) := ⟨_, rfl⟩
  have HB2 : Hid (∀ (w' : World), Has w w' U2 → Three w' Q 3 tA 0 ∧ Three w' (Q + 1) 3 tD 1 ∧ Three w' P 3 tA 0 ∧ Three w' (P + 1) 3 tD 1 ∧ Three w' A 3 tA 0 ∧ Three w' B 3 tD 1) := Lib.hid fun w' h => by
    rw [hU2] at h
    have hx := HBX.out _ h.right.right.right.right.right.right
    exact ⟨three_at h, three_at h.right, three_at h.right.right.right.right, three_at h.right.right.right.right.right, hx.1, hx.2.1⟩
  have HX := Lib.hid (show Has w w10 (VT R V0 V1 V2 [gA, gZ] [gZ, gA] [gY] U2) from by rw [hU2]; exact H10.out)
  clear hU2 H10 HBX
  obtain ⟨_, _, _, _, _, ⟨b0, b1, b2⟩⟩ := HB2.out _ HX.out.right
  go_upto_region 17 with fail
  have H11 := Lib.hid ((HX.out.box 37 #[.int .i64 3, .string (S tD), .int .i64 1]).turn)
  obtain ⟨D, hD⟩ : ∃ D, D = w10.heap.size := ⟨_, rfl⟩
  rw [← hD] at H11 ⊢
  generalize w10.alloc (.cells #[.int .i64 3, .string (S tD), .int .i64 1] 37) = w11 at *
  clear hD HX b0 b1 b2
  obtain ⟨_, _, _, _, _, ⟨b0, b1, b2⟩⟩ := HB2.out _ H11.out.right.right
  have hd := H11.out.right.boxed
  have d2 := cellOf hd (i := 2) (v := .int .i64 1) rfl
  have z2 := frozenOf hd 2
  have H12 := Lib.hid (show Has w (w11.setCell ⟨D, 2, none⟩ (.int .i64 2)) ((T3 R 3 V0 V1 V2 (RingT R q3) (F3 [gA, gZ] [gZ, gA] [gY])).sep ((SB3 D 3 tD 2).sep U2)) from (H11.out.turn.set 2 (.int .i64 2)).turn)
  clear hd
  go_upto_region 18 with fail
  clear b0 b1 b2 d2 z2 H11
  generalize w11.setCell ⟨D, 2, none⟩ (.int .i64 2) = w12 at *
  have HV := Lib.hid (fun (w' : World) (h : Has w w' ((T3 R 3 V0 V1 V2 (RingT R q3) (F3 [gA, gZ] [gZ, gA] [gY])).sep ((SB3 D 3 tD 2).sep U2))) => And.intro (vs3.claims 0 (by decide) _ _ _ h (show ([gA, gZ] : List Sg).length ≤ 100000 by decide)) (vs3.claims 1 (by decide) _ _ _ h (show ([gZ, gA] : List Sg).length ≤ 100000 by decide)))
  obtain ⟨⟨q0, q1, q2⟩, ⟨s0, s1, s2⟩, ⟨p0, p1, p2⟩, ⟨r0, r1, r2⟩, ⟨a0, a1, a2⟩, ⟨b0, b1, b2⟩⟩ := HB2.out _ H12.out.right.right
  go_upto_region 19 with (first
    | (go_at_call 17; have := H13.out; refine (HV.out _ H13.out).2.mono ?_; rintro e w14 ⟨v14, rfl, hv14, hf⟩; have H14 := Lib.hid (H13.out.fr hf); obtain ⟨g14, c14, rfl⟩ := row_form hv14; obtain ⟨⟨q0, q1, q2⟩, ⟨s0, s1, s2⟩, ⟨p0, p1, p2⟩, ⟨r0, r1, r2⟩, ⟨a0, a1, a2⟩, ⟨b0, b1, b2⟩⟩ := HB2.out _ H14.out.right.right; clear hf hv14)
    | (go_at_call 17; refine (HV.out _ H12.out).1.mono ?_; rintro e w13 ⟨v13, rfl, hv13, hf⟩; have H13 := Lib.hid (H12.out.fr hf); obtain ⟨g13, c13, rfl⟩ := row_form hv13; obtain ⟨⟨q0, q1, q2⟩, ⟨s0, s1, s2⟩, ⟨p0, p1, p2⟩, ⟨r0, r1, r2⟩, ⟨a0, a1, a2⟩, ⟨b0, b1, b2⟩⟩ := HB2.out _ H13.out.right.right; clear hf hv13))
  clear q0 q1 q2 s0 s1 s2 p0 p1 p2 r0 r1 r2 a0 a1 a2 b0 b1 b2 H12 H13 HV
  have HB3 : Hid (∀ (w' : World), Fr w14 w' → Three w' A 3 tA 0 ∧ Three w' B 3 tD 1 ∧ Three w' D 3 tD 2) := Lib.hid fun w' hf => by
    have h := H14.out.fr hf
    obtain ⟨_, _, _, _, ha, hb⟩ := HB2.out _ h.right.right
    exact ⟨ha, hb, three_at h.right⟩
  have HNIL : Hid (∀ w', Calls Tryd.prog 10 #[.pointer none, .agg #[.int .i64 3, .string (S tA), .int .i64 0], .agg #[.int .i64 3, .string (S tD), .int .i64 1]] w' fun e w2 => e = .returned (.int .i64 1) ∧ Fr w' w2) := Lib.hid fun w' => convict_none gA gY w'
  obtain ⟨⟨a0, a1, a2⟩, ⟨b0, b1, b2⟩, ⟨d0, d1, d2⟩⟩ := HB3.out _ (Fr.refl _)
  go_wp2_with (first
    | (go_at_call 10; have := HF3.out; refine (HNIL.out _).mono ?_; rintro e w18 ⟨rfl, hf⟩; have HF4 := Lib.hid (HF3.out.trans hf); clear hf)
    | (go_at_call 10; have := HF2.out; refine (sn_z (H14.out.fr HF2.out)).mono ?_; rintro e w17 ⟨rfl, hf⟩; have HF3 := Lib.hid (HF2.out.trans hf); obtain ⟨⟨a0, a1, a2⟩, ⟨b0, b1, b2⟩, ⟨d0, d1, d2⟩⟩ := HB3.out _ HF3.out; clear hf)
    | (go_at_call 10; have := HF1.out; refine (sn_y (H14.out.fr HF1.out)).mono ?_; rintro e w16 ⟨rfl, hf⟩; have HF2 := Lib.hid (HF1.out.trans hf); obtain ⟨⟨a0, a1, a2⟩, ⟨b0, b1, b2⟩, ⟨d0, d1, d2⟩⟩ := HB3.out _ HF2.out; clear hf)
    | (go_at_call 10; refine (sn_x H14.out).mono ?_; rintro e w15 ⟨rfl, hf⟩; have HF1 := Lib.hid hf; obtain ⟨⟨a0, a1, a2⟩, ⟨b0, b1, b2⟩, ⟨d0, d1, d2⟩⟩ := HB3.out _ hf; clear hf))
  go_ret
  exact ⟨rfl, H14.out.toFr.trans HF4.out⟩
end Go.Proofs.YthppefkamklakaaDoor
