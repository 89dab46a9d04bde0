/-
  View: Accept upon lists; the law's small.
-/
import Derived.Test.YtapdabebiinnnaaVp
namespace Go.Proofs.Ytapdabebiinnnaa
open Go.RowKit Go.MapKept Go.Maps Go.WideMaps

/-- The accepted claims behind one more, and what Accept returns. -/
noncomputable def acl (q : List Sd) (k : Int) (l : List Sg) (s : Sg) : List Sg := accL q k (vd l) l s
noncomputable def aE (q : List Sd) (k : Int) (l : List Sg) (s : Sg) : Int := accE q k (vd l) s
section
variable {q : List Sd} {k : Int} {l : List Sg}
theorem LOk.acl (h : LOk q k l) (hq : q.Nodup) (s : Sg) : LOk q k (Go.Proofs.Ytapdabebiinnnaa.acl q k l s) ∧ (Go.Proofs.Ytapdabebiinnnaa.acl q k l s).length ≤ l.length + 1 := ⟨(h.step hq s).1, (h.step hq s).2.2.1⟩
theorem aE_zero (h : LOk q k l) (hq : q.Nodup) (s : Sg) : aE q k l s = 0 ↔ Good q k l s := h.accE hq s
theorem acl_new (h : LOk q k l) (hq : q.Nodup) {s : Sg} (hg : Good q k l s) (hn : s ∉ l) : acl q k l s = l ++ [s] := by
  rcases (h.step hq s).2.2.2 with h1 | h1
  · exact h1.1
  · exact absurd (h1.2 hg) hn
theorem acl_old (h : LOk q k l) (hq : q.Nodup) {s : Sg} (hm : Good q k l s → s ∈ l) : acl q k l s = l := by
  rcases (h.step hq s).2.2.2 with h1 | h1
  · exact absurd (hm h1.2.1) h1.2.2
  · exact h1.1
theorem acl_bad (h : LOk q k l) (hq : q.Nodup) {s : Sg} (hm : ¬ Good q k l s) : acl q k l s = l := acl_old h hq fun h => absurd h hm
theorem aE_split (h : LOk q k l) (hq : q.Nodup) {s : Sg} (hh : holds q s = true) (hk : s.1 = k) {c : C} (hr : readC s.2.1 = some c) (hc : c.k ≤ 2) (hd : (l.any fun a => contra (clm a.2.1) c) = true) : aE q k l s = 21 :=
  (acc_split l hh hk hr hc (by rw [h.dny hq (readC_some.1 hr).1]; exact hd)).1
theorem vacc {W w : World} {B R : Nat} {U : Thing} (h : Has W w ((ViewT B R k l (vd l)).sep ((RingT R q).sep U))) (hl : LOk q k l) (hn : q.Nodup) (hq : q.length ≤ 1000000) (hll : l.length ≤ 100000) (s : Sg) (hs : GOk s) :
    Calls Try.prog 13 #[.pointer (some ⟨B, 0, none⟩), sgV s] w fun e w' => e = .returned (.int .i64 (aE q k l s)) ∧ Has W w' ((ViewT B R k (acl q k l s) (vd (acl q k l s))).sep ((RingT R q).sep U)) := by
  refine (vaccept h (hl.hdok hn hll) hq hll s hs).mono ?_
  rintro e w' ⟨rfl, h'⟩
  rw [(hl.step hn s).2.1] at h'
  exact ⟨rfl, h'⟩
end

/-! ### The examples -/
instance (n : Int) : Decidable (Wm.inInt n) := by unfold Wm.inInt; exact inferInstance
theorem dec1 (u : Nat) (h : u < 10) : Lib.itoa (u : Int) = [UInt8.ofNat (48 + u)] := by
  rw [Lib.itoa_nonneg, Lib.decDigits, dif_pos h]
theorem numE1 (u : Nat) (h : u < 10) : (Wm.numE 59).f (u : Int) = [UInt8.ofNat (48 + u), 59] := by rw [Wm.numE_f, dec1 u h]; rfl
theorem textC1 (k n t : Nat) (s : Txt) (hk : k < 10) (hn : n < 10) (ht : t < 10) (hs : s.length < 10) : textC ⟨k, n, t, s⟩ = [UInt8.ofNat (48 + k), 59, UInt8.ofNat (48 + n), 59, UInt8.ofNat (48 + t), 59, UInt8.ofNat (48 + s.length), 58] ++ s ++ [44] := by
  unfold textC
  rw [numE1 k hk, numE1 n hn, numE1 t ht, Wm.textE_f, dec1 _ hs]
  simp
theorem key_a (q : Txt) : key (49 :: 58 :: 97 :: 44 :: q) = some [97] := by
  have h := key_eq (k := [97]) q (show ([97] : Txt).length ≤ 9223372036854775807 by decide)
  rw [Wm.textE_f] at h
  simp only [List.length_cons, List.length_nil] at h
  rw [dec1 _ (by omega)] at h
  exact h
def tA : Txt := [49, 59, 50, 59, 55, 59, 48, 58, 44]
def tB : Txt := [48, 59, 48, 59, 48, 59, 53, 58, 49, 58, 97, 44, 120, 44]
def tC : Txt := [50, 59, 48, 59, 48, 59, 49, 58, 97, 44]
def tD : Txt := [49, 59, 49, 59, 56, 59, 48, 58, 44]
def cA : C := ⟨1, 2, 7, []⟩
def cB : C := ⟨0, 0, 0, [49, 58, 97, 44, 120]⟩
def cc : C := ⟨2, 0, 0, [97]⟩
def cD : C := ⟨1, 1, 8, []⟩
theorem okA : okB cA = true := (okB_iff _).2 ⟨by decide, by decide, by decide, by decide, by decide, .inl (by decide)⟩
theorem okBB : okB cB = true := (okB_iff _).2 ⟨by decide, by decide, by decide, by decide, by decide, .inr (by show (key [49, 58, 97, 44, 120]).isSome = true; rw [key_a]; rfl)⟩
theorem okCc : okB cc = true := (okB_iff _).2 ⟨by decide, by decide, by decide, by decide, by decide, .inl (by decide)⟩
theorem okD : okB cD = true := (okB_iff _).2 ⟨by decide, by decide, by decide, by decide, by decide, .inl (by decide)⟩
theorem rdA : readC tA = some cA := readC_some.2 ⟨okA, (textC1 1 2 7 [] (by decide) (by decide) (by decide) (by decide)).symm⟩
theorem rdBB : readC tB = some cB := readC_some.2 ⟨okBB, (textC1 0 0 0 [49, 58, 97, 44, 120] (by decide) (by decide) (by decide) (by decide)).symm⟩
theorem rdCc : readC tC = some cc := readC_some.2 ⟨okCc, (textC1 2 0 0 [97] (by decide) (by decide) (by decide) (by decide)).symm⟩
theorem rdD' : readC tD = some cD := readC_some.2 ⟨okD, (textC1 1 1 8 [] (by decide) (by decide) (by decide) (by decide)).symm⟩
def gA : Sg := (3, tA, 0)
def gB : Sg := (3, tB, 1)
def gC : Sg := (3, tC, 2)
def gD : Sg := (3, tD, 3)
def q4 : List Sd := [(3, tA), (3, tB), (3, tC), (3, tD)]
theorem clA : clm gA.2.1 = cA := readC_clm rdA
theorem clB : clm gB.2.1 = cB := readC_clm rdBB
theorem clC : clm gC.2.1 = cc := readC_clm rdCc
theorem q4_nd : q4.Nodup := by decide
theorem kinds_no {a b : C} (h : ¬ ((a.k = b.k ∧ a.k ≠ 2) ∨ (a.k = 0 ∧ b.k = 2) ∨ (a.k = 2 ∧ b.k = 0))) : contra a b = false := by
  cases hc : contra a b with
  | false => rfl
  | true => exact absurd (contra_kinds hc) h
theorem goodA : Good q4 3 [] gA := ⟨by decide, rfl, ⟨cA, rdA, by decide⟩, by simp⟩
theorem l1 : LOk q4 3 [gA] := goodA.add (LOk.nil _ _) (by simp)
theorem goodB : Good q4 3 [gA] gB := ⟨by decide, rfl, ⟨cB, rdBB, by decide⟩, fun a ha => by
  rw [List.mem_singleton.1 ha, clA, clB]; exact kinds_no (by decide)⟩
theorem l2 : LOk q4 3 [gA, gB] := goodB.add l1 (by decide)
theorem goodC : Good q4 3 [gA, gB] gC := ⟨by decide, rfl, ⟨cc, rdCc, by decide⟩, fun a ha => by
  rw [clC]
  rcases List.mem_cons.1 ha with rfl | ha
  · rw [clA]; exact kinds_no (by decide)
  · rw [List.mem_singleton.1 ha, clB, contra_02 okBB okCc rfl rfl]; decide⟩
theorem l3 : LOk q4 3 [gA, gB, gC] := goodC.add l2 (by decide)
theorem conAD : contra cA cD = true := by rw [contra_11 okA okD rfl rfl]; decide
theorem clash4 : clR [gA, gB, gC] gD = some gA := by
  have h : clR [gA, gB, gC] gD = clO [gA, gB, gC] cD := by unfold clR; rw [show readC gD.2.1 = some cD from rdD']
  rw [h]
  exact clO_some (k := 0) (by decide) (by show contra (clm gA.2.1) cD = true; rw [clA]; exact conAD) (fun j _ h => absurd h (by omega))
theorem e4 : aE q4 3 [gA, gB, gC] gD = 21 := aE_split l3 q4_nd (by decide) rfl rdD' (by decide) (by
  rw [List.any_cons, clA, conAD]; rfl)
theorem n4 : ¬ Good q4 3 [gA, gB, gC] gD := fun h => by
  have := (aE_zero l3 q4_nd gD).2 h
  rw [e4] at this; exact absurd this (by decide)
theorem goodA3 : Good q4 3 [gA, gB, gC] gA := ⟨by decide, rfl, ⟨cA, rdA, by decide⟩, fun a ha => l3.con a ha gA (by decide)⟩
theorem vd3 : vd [gA, gB, gC] = vst (vst (vst vd0 gA) gB) gC := rfl
theorem vd3_hd : (vd [gA, gB, gC]).hd = [cA] := by
  rw [vd_hd]
  unfold cs
  simp only [List.map_cons, List.map_nil, clA, clB, clC]
  unfold ld
  simp only [List.foldl_cons, List.foldl_nil]
  rw [lrn_1 (show cA.k = 1 from rfl), lrn_0 (show cB.k = 0 from rfl), lrn_2 (show cc.k = 2 from rfl)]
  rfl
theorem vd3_en (i : Int) : (vd [gA, gB, gC]).en i = if i = 0 then some [49, 58, 97, 44, 120] else none := by
  rw [vd_en]
  unfold cs
  simp only [List.map_cons, List.map_nil, clA, clB, clC]
  unfold ld
  simp only [List.foldl_cons, List.foldl_nil]
  rw [lrn_1 (show cA.k = 1 from rfl), lrn_0 (show cB.k = 0 from rfl), lrn_2 (show cc.k = 2 from rfl)]
  rfl
theorem vd3_ab (t : Txt) : (vd [gA, gB, gC]).ab t = if t = [97] then some 0 else none := by
  rw [vd_ab]
  unfold cs
  simp only [List.map_cons, List.map_nil, clA, clB, clC]
  unfold ld
  simp only [List.foldl_cons, List.foldl_nil]
  rw [lrn_1 (show cA.k = 1 from rfl), lrn_0 (show cB.k = 0 from rfl), lrn_2 (show cc.k = 2 from rfl)]
  rfl
theorem kn1 : knB (vd [gA, gB, gC]) 1 = true := knB_iff.2 fun i h0 h1 => by
  rw [vd3_en, if_pos (by omega)]; rfl
theorem kn2 : knB (vd [gA, gB, gC]) 2 = false := by
  cases h : knB (vd [gA, gB, gC]) 2 with
  | false => rfl
  | true =>
    have := knB_iff.1 h 1 (by decide) (by decide)
    rw [vd3_en, if_neg (by decide)] at this; exact absurd this (by decide)
theorem szN3 : szN (vd [gA, gB, gC]) = 2 := by unfold szN; rw [vd3_hd]; rfl
theorem szT3 : szT (vd [gA, gB, gC]) = 7 := by unfold szT; rw [vd3_hd]; rfl
theorem ag9 : agO (vd [gA, gB, gC]) 9 = 2 := by unfold agO; rw [szT3]; decide
theorem ag6 : agO (vd [gA, gB, gC]) 6 = -1 := by unfold agO; rw [szT3]; decide
/-- A view and its ring. -/
noncomputable abbrev VR (B R : Nat) (l : List Sg) (U : Thing) : Thing := (ViewT B R 3 l (vd l)).sep ((RingT R q4).sep U)
section
variable {W w : World} {B R : Nat} {U : Thing}
theorem sm_1 (h : Has W w (VR B R [] U)) : Calls Try.prog 13 #[.pointer (some ⟨B, 0, none⟩), .agg #[.int .i64 3, .string (S tA), .int .i64 0]] w fun e w' => e = .returned (.int .i64 0) ∧ Has W w' (VR B R [gA] U) := by
  refine (vacc h (LOk.nil _ _) q4_nd (by decide) (by decide) gA (show Wm.inInt gA.1 ∧ gA.2.1.length ≤ 9223372036854775807 ∧ Wm.inInt gA.2.2 by decide)).mono ?_
  rintro e w' ⟨rfl, h'⟩
  rw [(aE_zero (LOk.nil _ _) q4_nd gA).2 goodA]
  rw [acl_new (LOk.nil _ _) q4_nd goodA (by simp)] at h'
  exact ⟨rfl, h'⟩
theorem sm_2 (h : Has W w (VR B R [gA] U)) : Calls Try.prog 13 #[.pointer (some ⟨B, 0, none⟩), .agg #[.int .i64 3, .string (S tB), .int .i64 1]] w fun e w' => e = .returned (.int .i64 0) ∧ Has W w' (VR B R [gA, gB] U) := by
  refine (vacc h l1 q4_nd (by decide) (by decide) gB (show Wm.inInt gB.1 ∧ gB.2.1.length ≤ 9223372036854775807 ∧ Wm.inInt gB.2.2 by decide)).mono ?_
  rintro e w' ⟨rfl, h'⟩
  rw [(aE_zero l1 q4_nd gB).2 goodB]
  rw [acl_new l1 q4_nd goodB (by decide)] at h'
  exact ⟨rfl, h'⟩
theorem sm_3 (h : Has W w (VR B R [gA, gB] U)) : Calls Try.prog 13 #[.pointer (some ⟨B, 0, none⟩), .agg #[.int .i64 3, .string (S tC), .int .i64 2]] w fun e w' => e = .returned (.int .i64 0) ∧ Has W w' (VR B R [gA, gB, gC] U) := by
  refine (vacc h l2 q4_nd (by decide) (by decide) gC (show Wm.inInt gC.1 ∧ gC.2.1.length ≤ 9223372036854775807 ∧ Wm.inInt gC.2.2 by decide)).mono ?_
  rintro e w' ⟨rfl, h'⟩
  rw [(aE_zero l2 q4_nd gC).2 goodC]
  rw [acl_new l2 q4_nd goodC (by decide)] at h'
  exact ⟨rfl, h'⟩
theorem sm_4 (h : Has W w (VR B R [gA, gB, gC] U)) : Calls Try.prog 13 #[.pointer (some ⟨B, 0, none⟩), .agg #[.int .i64 3, .string (S tD), .int .i64 3]] w fun e w' => e = .returned (.int .i64 21) ∧ Has W w' (VR B R [gA, gB, gC] U) := by
  refine (vacc h l3 q4_nd (by decide) (by decide) gD (show Wm.inInt gD.1 ∧ gD.2.1.length ≤ 9223372036854775807 ∧ Wm.inInt gD.2.2 by decide)).mono ?_
  rintro e w' ⟨rfl, h'⟩
  rw [e4]
  rw [acl_bad l3 q4_nd n4] at h'
  exact ⟨rfl, h'⟩
theorem sm_5 (h : Has W w (VR B R [gA, gB, gC] U)) : Calls Try.prog 13 #[.pointer (some ⟨B, 0, none⟩), .agg #[.int .i64 3, .string (S tA), .int .i64 0]] w fun e w' => e = .returned (.int .i64 0) ∧ Has W w' (VR B R [gA, gB, gC] U) := by
  refine (vacc h l3 q4_nd (by decide) (by decide) gA (show Wm.inInt gA.1 ∧ gA.2.1.length ≤ 9223372036854775807 ∧ Wm.inInt gA.2.2 by decide)).mono ?_
  rintro e w' ⟨rfl, h'⟩
  rw [(aE_zero l3 q4_nd gA).2 goodA3]
  rw [acl_old l3 q4_nd (fun _ => by decide)] at h'
  exact ⟨rfl, h'⟩
theorem sm_size (h : Has W w (VR B R [gA, gB, gC] U)) : Calls Try.prog 9 #[.pointer (some ⟨B, 0, none⟩)] w fun e w' => e = .returned (.tuple #[.int .i64 2, .int .i64 7]) ∧ Fr w w' := by
  have := vsize h (by rw [vd3_hd]; decide)
  rw [szN3, szT3] at this; exact this
theorem sm_t0 (h : Has W w (VR B R [gA, gB, gC] U)) : Calls Try.prog 10 #[.pointer (some ⟨B, 0, none⟩), .int .i64 0] w fun e w' => e = .returned (.tuple #[.string ⟨#[49, 58, 97, 44, 120]⟩, .bool true]) ∧ w' = w := by
  have := vtext h 0 (by decide)
  rw [vd3_en, if_pos rfl] at this; exact this
theorem sm_t1 (h : Has W w (VR B R [gA, gB, gC] U)) : Calls Try.prog 10 #[.pointer (some ⟨B, 0, none⟩), .int .i64 1] w fun e w' => e = .returned (.tuple #[.string ⟨#[]⟩, .bool false]) ∧ w' = w := by
  have := vtext h 1 (by decide)
  rw [vd3_en, if_neg (by decide)] at this; exact this
theorem sm_a (h : Has W w (VR B R [gA, gB, gC] U)) : Calls Try.prog 11 #[.pointer (some ⟨B, 0, none⟩), .string ⟨#[97]⟩] w fun e w' => e = .returned (.tuple #[.int .i64 0, .bool true]) ∧ w' = w := by
  have := vabsent h [97] (by decide)
  rw [vd3_ab, if_pos rfl] at this; exact this
theorem sm_b (h : Has W w (VR B R [gA, gB, gC] U)) : Calls Try.prog 11 #[.pointer (some ⟨B, 0, none⟩), .string ⟨#[98]⟩] w fun e w' => e = .returned (.tuple #[.int .i64 0, .bool false]) ∧ w' = w := by
  have := vabsent h [98] (by decide)
  rw [vd3_ab, if_neg (by decide)] at this; exact this
theorem sm_c (h : Has W w (VR B R [gA, gB, gC] U)) : Calls Try.prog 17 #[.pointer (some ⟨B, 0, none⟩), .agg #[.int .i64 3, .string (S tD), .int .i64 3]] w fun e w' => e = .returned (.tuple #[.agg #[.int .i64 3, .string (S tA), .int .i64 0], .bool true]) ∧ Fr w w' := by
  have := vclash h l3 q4_nd (by decide) gD (by decide)
  rw [clash4] at this; exact this
theorem sm_g9 (h : Has W w (VR B R [gA, gB, gC] U)) : Calls Try.prog 15 #[.pointer (some ⟨B, 0, none⟩), .int .i64 9] w fun e w' => e = .returned (.int .i64 2) ∧ Fr w w' := by
  have := vage h (by rw [vd3_hd]; decide) 9 (by decide)
  rw [ag9] at this; exact this
theorem sm_g6 (h : Has W w (VR B R [gA, gB, gC] U)) : Calls Try.prog 15 #[.pointer (some ⟨B, 0, none⟩), .int .i64 6] w fun e w' => e = .returned (.int .i64 (-1)) ∧ Fr w w' := by
  have := vage h (by rw [vd3_hd]; decide) 6 (by decide)
  rw [ag6] at this; exact this
theorem sm_k1 (h : Has W w (VR B R [gA, gB, gC] U)) : Calls Try.prog 12 #[.pointer (some ⟨B, 0, none⟩), .int .i64 1] w fun e w' => e = .returned (.bool true) ∧ w' = w := by
  have := vknown h 1 (by decide)
  rw [kn1] at this; exact this
theorem sm_k2 (h : Has W w (VR B R [gA, gB, gC] U)) : Calls Try.prog 12 #[.pointer (some ⟨B, 0, none⟩), .int .i64 2] w fun e w' => e = .returned (.bool false) ∧ w' = w := by
  have := vknown h 2 (by decide)
  rw [kn2] at this; exact this
end
end Go.Proofs.Ytapdabebiinnnaa
