/-
  View: the law's small.
-/
import Derived.Test.YthppefkamklakaaDoorVl
import Derived.Test.YthppefkamklakaaDoorQb
import Derived.Deep.RegionHeldLaw
import Derived.Deep.AppendSrc
namespace Go.Proofs.YthppefkamklakaaDoor
open Go.RowKit Go.MapKept Go.Maps Go.WideMaps

/-- A Say: its key, its claim, its raw text, its change. -/
abbrev Sy := Int × C × Txt × Int
def Sy.ok (x : Sy) : Prop := Wm.inInt x.1 ∧ x.2.1.fits ∧ x.2.2.1.length ≤ 9223372036854775807 ∧ Wm.inInt x.2.2.2
noncomputable def wo (x : Sy) : Txt := if x.2.2.1 = [] then textR x.2.1 else x.2.2.1
noncomputable def sdOf (x : Sy) : Sd := (x.1, wo x)
def tn (s : Sg) (odd : Int) : Sg := if odd = 1 then (s.1, s.2.1, s.2.2 + 1) else if odd = 2 then (s.1, s.2.1 ++ [120], s.2.2) else if odd = 3 then (s.1 + 1, s.2.1, s.2.2) else s
def syV (x : Sy) : Value := .agg #[.int .i64 x.1, .int .i64 x.2.1.k, .int .i64 x.2.1.n, .int .i64 x.2.1.t, .string (S x.2.1.s), .string (S x.2.2.1), .int .i64 x.2.2.2]

/-! ### A slice of Says -/
structure SyIn (w : World) (b i : Nat) (x : Sy) : Prop where
  c0 : w.cell? ⟨b, i, none⟩ = some (.int .i64 x.1)
  c1 : w.cell? ⟨b, i + 1, none⟩ = some (.int .i64 x.2.1.k)
  c2 : w.cell? ⟨b, i + 2, none⟩ = some (.int .i64 x.2.1.n)
  c3 : w.cell? ⟨b, i + 3, none⟩ = some (.int .i64 x.2.1.t)
  c4 : w.cell? ⟨b, i + 4, none⟩ = some (.string (S x.2.1.s))
  c5 : w.cell? ⟨b, i + 5, none⟩ = some (.string (S x.2.2.1))
  c6 : w.cell? ⟨b, i + 6, none⟩ = some (.int .i64 x.2.2.2)
theorem SyIn.fr {w w' : World} {b i : Nat} {x : Sy} (h : SyIn w b i x) (hf : Fr w w') : SyIn w' b i x := ⟨hf.cell h.c0, hf.cell h.c1, hf.cell h.c2, hf.cell h.c3, hf.cell h.c4, hf.cell h.c5, hf.cell h.c6⟩
def SyAt (w : World) (b o : Nat) (l : List Sy) : Prop := ∀ (i : Nat) (h : i < l.length), SyIn w b (o + i * 7) l[i]
theorem SyAt.fr {w w' : World} {b o : Nat} {l : List Sy} (h : SyAt w b o l) (hf : Fr w w') : SyAt w' b o l := fun i hi => (h i hi).fr hf
def SySl (w : World) (v : Value) (l : List Sy) : Prop := (l = [] ∧ ∃ a c, v = .slice a 0 c) ∨ ∃ b o c, v = .slice (some ⟨b, o, none⟩) l.length c ∧ SyAt w b o l
theorem SySl.fr {w w' : World} {v : Value} {l : List Sy} (h : SySl w v l) (hf : Fr w w') : SySl w' v l := by
  rcases h with h | ⟨b, o, c, hv, hc⟩
  · exact .inl h
  · exact .inr ⟨b, o, c, hv, hc.fr hf⟩
theorem SySl.len {w : World} {v : Value} {l : List Sy} (h : SySl w v l) : ∃ a c, v = .slice a l.length c := by
  rcases h with ⟨rfl, a, c, rfl⟩ | ⟨b, o, c, rfl, _⟩
  · exact ⟨a, c, rfl⟩
  · exact ⟨_, _, rfl⟩
theorem SySl.get {w : World} {v : Value} {l : List Sy} (h : SySl w v l) (h0 : 0 < l.length) : ∃ b o c, v = .slice (some ⟨b, o, none⟩) l.length c ∧ SyAt w b o l := by
  rcases h with ⟨rfl, _⟩ | h
  · exact absurd h0 (by decide)
  · exact h
/-- What is known of the arguments. -/
def SArg (l : List Sy) : Prop := l.length ≤ 9223372036854775807 ∧ ∀ x ∈ l, x.ok
def FewY (l : List Sy) : Prop := l.length ≤ 20 ∧ ∀ x ∈ l, x.2.2.1.length ≤ 300 ∧ x.2.1.s.length ≤ 300
instance (l : List Sy) : Decidable (FewY l) := by unfold FewY; exact inferInstance
theorem wo_len {x : Sy} (h : x.2.2.1.length ≤ 300) : (wo x).length ≤ 20100 := by
  unfold wo
  split
  · unfold textR
    split
    · rename_i h1; exact textC_len h1
    · simp
  · omega
/-! ### Words, Turned -/
theorem S_x (t : Txt) : S t ++ ⟨#[120]⟩ = S (t ++ [120]) := S_append t [120]
end Go.Proofs.YthppefkamklakaaDoor
namespace Go.Proofs.YthppefkamklakaaDoor
open Go.RowKit Go.MapKept Go.Maps Go.WideMaps

/-- The signatures of the first Says, changed, and what the ring holds then. -/
noncomputable def sl (l : List Sy) : List Sg := l.map fun x => tn (zz (l.map sdOf) (sdOf x)) x.2.2.2
noncomputable def slk (l : List Sy) (k : Nat) : List Sg := (l.take k).map fun x => tn (zz (l.map sdOf) (sdOf x)) x.2.2.2
noncomputable def qs (l : List Sy) : List Sd := SL (l.map sdOf)
noncomputable def qk (l : List Sy) (k : Nat) : List Sd := SL ((l.map sdOf).take k)
theorem slk_len (l : List Sy) (k : Nat) (hk : k ≤ l.length) : (slk l k).length = k := by unfold slk; rw [List.length_map, List.length_take]; omega
theorem slk_all (l : List Sy) : slk l l.length = sl l := by unfold slk sl; rw [List.take_length]
theorem qk_all (l : List Sy) : qk l l.length = qs l := by unfold qk qs; rw [List.take_of_length_le (by simp)]
theorem slk_succ {l : List Sy} {k : Nat} (hk : k < l.length) : slk l (k + 1) = slk l k ++ [tn (signR (qk l k) (sdOf l[k])) l[k].2.2.2] := by
  unfold slk qk
  rw [List.take_succ_eq_append_getElem hk, List.map_append]
  have h := zz_now (l := l.map sdOf) (k := k) (by simpa using hk)
  rw [List.getElem_map] at h
  rw [h]; rfl
theorem qk_succ {l : List Sy} {k : Nat} (hk : k < l.length) : qk l (k + 1) = signL (qk l k) (sdOf l[k]) := by
  unfold qk
  rw [SL_take _ _ (by simpa using hk), List.getElem_map]
theorem qk_len (l : List Sy) (k : Nat) : (qk l k).length ≤ l.length := by have := SL_len_take (l.map sdOf) k; rw [List.length_map] at this; exact this
theorem signR_bounds (q : List Sd) (e : Sd) (hq : q.length ≤ 1000000) (he : e.2.length ≤ 1000000) : (0 ≤ (signR q e).1 ∧ (signR q e).1 ≤ 1000000000) ∧ (signR q e).2.1.length ≤ 1000000000 ∧ (0 ≤ (signR q e).2.2 ∧ (signR q e).2.2 ≤ 1000000000) := by
  unfold signR
  split
  · rename_i h
    have h1 := h.1
    have h2 := h.2
    have h3 := addN_le q e
    simp only
    omega
  · simp
end Go.Proofs.YthppefkamklakaaDoor
namespace Go.Proofs.YthppefkamklakaaDoor
open Go.RowKit Go.MapKept Go.Maps Go.WideMaps Go.BigFrame

/-- The first accepted claim that contradicts what a signature says. -/
noncomputable def clO (l : List Sg) (c : C) : Option Sg := l.find? fun a => contra (clm a.2.1) c
noncomputable def clR (l : List Sg) (s : Sg) : Option Sg := match readC s.2.1 with | none => none | some c => clO l c
def clV : Option Sg → Value
  | none => .tuple #[sgV (0, [], 0), .bool false]
  | some x => .tuple #[sgV x, .bool true]
theorem clO_none {l : List Sg} {c : C} (h : (l.any fun a => contra (clm a.2.1) c) = false) : clO l c = none := by
  unfold clO
  rw [List.find?_eq_none]
  rw [List.any_eq_false] at h
  exact h
theorem clO_some {l : List Sg} {c : C} {k : Nat} (hk : k < l.length) (h : contra (clm l[k].2.1) c = true) (h0 : ∀ (j : Nat) (h : j < l.length), j < k → contra (clm l[j].2.1) c = false) : clO l c = some l[k] := by
  unfold clO
  rw [List.find?_eq_some_iff_getElem]
  exact ⟨h, k, hk, rfl, fun j hj => by simpa using h0 j (by omega) hj⟩
theorem clO_end {l : List Sg} {c : C} (h : (l.any fun a => contra (clm a.2.1) c) = true) (h0 : ∀ (j : Nat) (h : j < l.length), contra (clm l[j].2.1) c = false) : False := by
  obtain ⟨a, ha, hc⟩ := List.any_eq_true.1 h
  obtain ⟨j, hj, rfl⟩ := List.getElem_of_mem ha
  rw [h0 j hj] at hc; exact absurd hc (by decide)
section
variable {W w : World} {B R : Nat} {k : Int} {l : List Sg} {q : List Sd} {U : Thing}
set_option maxHeartbeats 4000000 in
set_option maxRecDepth 100000 in
theorem vclash (h : Has W w ((ViewT B R k l (vd l)).sep U)) (hl : LOk q k l) (hq : q.Nodup) (hll : l.length ≤ 100000) (s : Sg) (hs : s.2.1.length ≤ 9223372036854775807) :
    Calls Tryd.prog 34 #[.pointer (some ⟨B, 0, none⟩), sgV s] w fun e w' => e = .returned (clV (clR l s)) ∧ Fr w w' := by
  obtain ⟨sk, st, sm⟩ := s
  simp only at hs
  have HRD := Lib.hid (fun w' => read_any st w' hs)
  have HZ := Lib.hid (show readC st = none → clR l (sk, st, sm) = none from fun h => by unfold clR; rw [h])
  have HC := Lib.hid (show ∀ c, readC st = some c → clR l (sk, st, sm) = clO l c ∧ okB c = true from fun c h => ⟨by unfold clR; rw [h], (readC_some.1 h).1⟩)
  generalize clR l (sk, st, sm) = o at *
  have HD := Lib.hid (fun c hc => hl.dny hq (c := c) hc)
  have HHD := Lib.hid (hl.hdok hq hll)
  have HLG := Lib.hid hl.log
  obtain ⟨D, hD⟩ : ∃ D, D = vd l := ⟨_, rfl⟩
  rw [← hD] at h HD HHD
  unfold sgV
  have H0 := Lib.hid ((h.box 37 #[.int .i64 sk, .string (S st), .int .i64 sm]).box 37 #[.int .i64 0, .string ⟨#[]⟩, .int .i64 0])
  have HF := Lib.hid ((((Has.here w).box 37 #[.int .i64 sk, .string (S st), .int .i64 sm]).box 37 #[.int .i64 0, .string ⟨#[]⟩, .int .i64 0]))
  have hsz : (w.alloc (.cells #[.int .i64 sk, .string (S st), .int .i64 sm] 37)).heap.size = w.heap.size + 1 := by simp
  rw [hsz] at H0 HF
  clear hD hl hq hsz h
  go_enter Tryd.func34, Tryd.ntmps34
  go_upto_region 1 with fail
  obtain ⟨T, hT⟩ : ∃ T, T = w.heap.size := ⟨_, rfl⟩
  rw [← hT] at H0 HF ⊢
  clear hT
  generalize (w.alloc (.cells #[.int .i64 sk, .string (S st), .int .i64 sm] 37)).alloc (.cells #[.int .i64 0, .string ⟨#[]⟩, .int .i64 0] 37) = w1 at *
  have HFIN : Hid (∀ (w' : World) (v0 v1 v2 : Value), Fr w1 w' → ∃ w4, w4 = ((w'.setCell ⟨T + 1, 0, none⟩ v0).setCell ⟨T + 1, 1, none⟩ v1).setCell ⟨T + 1, 2, none⟩ v2 ∧ Fr w w4 ∧ w4.cell? ⟨T + 1, 0, none⟩ = some v0 ∧ w4.cell? ⟨T + 1, 1, none⟩ = some v1 ∧ w4.cell? ⟨T + 1, 2, none⟩ = some v2) := Lib.hid fun w' v0 v1 v2 hf => by
    have h4 := (((HF.out.fr hf).set 0 v0).set 1 v1).set 2 v2
    exact ⟨_, rfl, h4.toFr, cellOf h4.boxed rfl, cellOf h4.boxed rfl, cellOf h4.boxed rfl⟩
  have HBX : Hid (∀ w', Fr w1 w' → w'.heap[T + 1]? = some (.cells #[.int .i64 0, .string ⟨#[]⟩, .int .i64 0] 37 (0, 0))) := Lib.hid fun w' hf => (HF.out.fr hf).boxed
  have HV : Hid (∀ w', Fr w1 w' → Has W w' ((ViewT B R k l D).sep U)) := Lib.hid fun w' hf => ((H0.out.fr hf).right).right
  have HS1 := Lib.hid (show w1.cell? ⟨T, 1, none⟩ = some (.string (S st)) from cellOf (H0.out.right).boxed rfl)
  have s1 := HS1.out
  clear H0 HF
  cases hr : readC st with
  | none =>
    obtain rfl := HZ.out hr
    rw [hr] at HRD
    unfold readV zeroC C.v at HRD
    clear HC HZ hr
    go_upto_region 2 with (go_at_call 25; refine (HRD.out _).mono ?_; rintro e w2 ⟨rfl, hf2⟩)
    have hf3 := hf2.trans (Fr.alloc w2 (.cells #[.int .i64 0, .int .i64 0, .int .i64 0, .string (S [])] 68))
    generalize w2.alloc (.cells #[.int .i64 0, .int .i64 0, .int .i64 0, .string (S [])] 68) = w3 at *
    have bx := HBX.out _ hf3
    have r0 : w3.cell? ⟨T + 1, 0, none⟩ = some (.int .i64 0) := cellOf bx rfl
    have r1 : w3.cell? ⟨T + 1, 1, none⟩ = some (.string ⟨#[]⟩) := cellOf bx rfl
    have r2 : w3.cell? ⟨T + 1, 2, none⟩ = some (.int .i64 0) := cellOf bx rfl
    have z0 := frozenOf bx 0
    have z1 := frozenOf bx 1
    have z2 := frozenOf bx 2
    obtain ⟨w4, hw4, hf4, d0, d1, d2⟩ := HFIN.out w3 (.int .i64 0) (.string ⟨#[]⟩) (.int .i64 0) hf3
    have HW4 := Lib.hid hw4
    clear bx s1 hw4
    go_wp2_with fail
    rw [← HW4.out]
    refine bodyPost_ret (v := clV none) (by simp [results, Tryd.results34, go_sem, d0, d1, d2]; rfl) rfl ⟨rfl, hf4⟩
  | some c =>
    obtain ⟨ho, hok⟩ := HC.out c hr
    have HO := Lib.hid ho
    rw [hr] at HRD
    have HOK := Lib.hid hok
    have HD1 := Lib.hid (HD.out c hok)
    unfold readV at HRD
    have HCV : Hid (c.v = .agg #[.int .i64 c.k, .int .i64 c.n, .int .i64 c.t, .string (S c.s)]) := Lib.hid rfl
    simp only [HCV.out] at HRD
    clear HC HZ hr hok HD ho
    go_upto_region 2 with (go_at_call 25; refine (HRD.out _).mono ?_; rintro e w2 ⟨rfl, hf2⟩)
    obtain ⟨x0, x1, x2, x3⟩ := CAt.new w2 c
    have HF3 := Lib.hid (hf2.trans (Fr.alloc w2 (.cells #[.int .i64 c.k, .int .i64 c.n, .int .i64 c.t, .string (S c.s)] 68)))
    obtain ⟨X, hX⟩ : ∃ X, X = w2.heap.size := ⟨_, rfl⟩
    rw [← hX] at x0 x1 x2 x3 ⊢
    clear hX hf2
    generalize w2.alloc (.cells #[.int .i64 c.k, .int .i64 c.n, .int .i64 c.t, .string (S c.s)] 68) = w3 at *
    have HVD := Lib.hid (vdenies (HV.out w3 HF3.out) HHD.out c HOK.out)
    rw [HCV.out] at HVD
    obtain ⟨b, hb⟩ : ∃ b, b = dny D c := ⟨_, rfl⟩
    rw [← hb] at HVD HD1
    clear hb s1
    cases b with
    | false =>
      go_upto_region 10 with (go_at_call 28; refine HVD.out.mono ?_; rintro e w5 ⟨rfl, hf5⟩)
      have bx := HBX.out _ (HF3.out.trans hf5)
      have r0 : w5.cell? ⟨T + 1, 0, none⟩ = some (.int .i64 0) := cellOf bx rfl
      have r1 : w5.cell? ⟨T + 1, 1, none⟩ = some (.string ⟨#[]⟩) := cellOf bx rfl
      have r2 : w5.cell? ⟨T + 1, 2, none⟩ = some (.int .i64 0) := cellOf bx rfl
      have z0 := frozenOf bx 0
      have z1 := frozenOf bx 1
      have z2 := frozenOf bx 2
      obtain ⟨w6, hw6, hf6, d0, d1, d2⟩ := HFIN.out w5 (.int .i64 0) (.string ⟨#[]⟩) (.int .i64 0) (HF3.out.trans hf5)
      have HW6 := Lib.hid hw6
      clear bx hw6
      go_wp2_with fail
      rw [← HW6.out]
      refine bodyPost_ret (v := clV none) (by simp [results, Tryd.results34, go_sem, d0, d1, d2]; rfl) rfl ⟨by rw [HO.out, clO_none HD1.out.symm], hf6⟩
    | true =>
      go_upto_region 3 with (go_at_call 28; refine HVD.out.mono ?_; rintro e w5 ⟨rfl, hf5⟩)
      have HF5 := Lib.hid (HF3.out.trans hf5)
      replace x0 := hf5.cell x0
      replace x1 := hf5.cell x1
      replace x2 := hf5.cell x2
      replace x3 := hf5.cell x3
      obtain ⟨p, hp⟩ := (HV.out w5 HF5.out).vopen
      have c2 : w5.cell? ⟨B, 2, none⟩ = some p.av := hp.cell 2 p.av rfl
      have HRW := Lib.hid hp.row
      have hl0 : 0 < l.length := by
        rcases Nat.eq_zero_or_pos l.length with h | h
        · rw [List.length_eq_zero_iff.1 h] at HD1; exact absurd HD1.out (by simp)
        · exact h
      obtain ⟨g, cap, hv, _, hcell⟩ := sg_at HRW.out rfl hl0
      have HCE := Lib.hid hcell
      rw [hv] at c2
      have HX0 := Lib.hid (show ∀ w', Fr w5 w' → w'.cell? ⟨X, 0, none⟩ = some (.int .i64 c.k) ∧ w'.cell? ⟨X, 1, none⟩ = some (.int .i64 c.n) ∧ w'.cell? ⟨X, 2, none⟩ = some (.int .i64 c.t) ∧ w'.cell? ⟨X, 3, none⟩ = some (.string (S c.s)) from fun w' hf => ⟨hf.cell x0, hf.cell x1, hf.cell x2, hf.cell x3⟩)
      clear hp hv hcell x0 x1 x2 x3 hf5 HF3 HVD HRD
      go_wp2_with fail
      go_loopw [30] (fun i wr => ∃ (j : Nat), j ≤ l.length ∧ i = .int .i64 j ∧ Hid (Fr w5 wr) ∧ Hid (∀ (m : Nat) (h : m < l.length), m < j → contra (clm l[m].2.1) c = false)) (fun i _ => l.length - (intOf i).toNat)
      case atStart => exact ⟨0, Nat.zero_le _, by go_num, Lib.hid (Fr.refl _), Lib.hid (fun m h h' => by omega)⟩
      case round =>
        obtain ⟨j, hj, rfl, HFR, HNO⟩ := hrel
        by_cases hlt : j < l.length
        · have hcj := (HCE.out j hlt).fr HFR.out
          have s0 := hcj.c0
          have s1 := hcj.c1
          have s2 := hcj.c2
          have HLJ := Lib.hid (HLG.out _ (List.getElem_mem hlt))
          have HSO := Lib.hid (fun h => clO_some (c := c) hlt h (fun m h h' => HNO.out m h h'))
          have HNX := Lib.hid (show contra (clm l[j].2.1) c = false → ∀ (m : Nat) (h : m < l.length), m < j + 1 → contra (clm l[m].2.1) c = false from fun hx m h h' => by
            rcases Nat.lt_or_ge m j with h1 | h1
            · exact HNO.out m h h1
            · obtain rfl : m = j := by omega
              exact hx)
          generalize l[j] = z at *
          obtain ⟨zk, zt, zm⟩ := z
          simp only at s0 s1 s2 HLJ HNX HSO
          obtain ⟨y, hy⟩ : ∃ y, y = clm zt := ⟨_, rfl⟩
          rw [← hy] at HLJ HNX HSO
          have hzl : zt.length ≤ 9223372036854775807 := by
            have h1 := (readC_some.1 HLJ.out.1)
            rw [h1.2]; have := textC_len h1.1; omega
          have HRD := Lib.hid (fun w' => read_any zt w' hzl)
          rw [HLJ.out.1] at HRD
          unfold readV at HRD
          have HYV : Hid (y.v = .agg #[.int .i64 y.k, .int .i64 y.n, .int .i64 y.t, .string (S y.s)]) := Lib.hid rfl
          simp only [HYV.out] at HRD
          have HCO := Lib.hid (fun w' => contra_any y c w' (ok_fits (readC_some.1 HLJ.out.1).1) (ok_fits HOK.out))
          simp only [HYV.out, HCV.out] at HCO
          clear hy hcj HNO HLJ hzl
          go_upto_region 6 with fail
          have HFX := Lib.hid (HFR.out.trans (Fr.alloc wr (.cells #[.int .i64 zk, .string (S zt), .int .i64 zm] 37)))
          have a1 : (wr.alloc (.cells #[.int .i64 zk, .string (S zt), .int .i64 zm] 37)).cell? ⟨wr.heap.size, 1, none⟩ = some (.string (S zt)) := cellOf (heap_alloc_new wr _) rfl
          have HA : Hid (∀ w', Fr (wr.alloc (.cells #[.int .i64 zk, .string (S zt), .int .i64 zm] 37)) w' → w'.cell? ⟨wr.heap.size, 0, none⟩ = some (.int .i64 zk) ∧ w'.cell? ⟨wr.heap.size, 1, none⟩ = some (.string (S zt)) ∧ w'.cell? ⟨wr.heap.size, 2, none⟩ = some (.int .i64 zm)) := Lib.hid fun w' hf =>
            ⟨hf.cell (cellOf (heap_alloc_new wr _) rfl), hf.cell (cellOf (heap_alloc_new wr _) rfl), hf.cell (cellOf (heap_alloc_new wr _) rfl)⟩
          obtain ⟨A, hA⟩ : ∃ A, A = wr.heap.size := ⟨_, rfl⟩
          rw [← hA] at a1 HA ⊢
          clear hA s0 s1 s2
          generalize wr.alloc (.cells #[.int .i64 zk, .string (S zt), .int .i64 zm] 37) = wa at *
          go_upto_region 7 with (go_at_call 25; refine (HRD.out _).mono ?_; rintro e wb ⟨rfl, hfb⟩)
          obtain ⟨y0, y1, y2, y3⟩ := CAt.new wb y
          have HFA := Lib.hid (hfb.trans (Fr.alloc wb (.cells #[.int .i64 y.k, .int .i64 y.n, .int .i64 y.t, .string (S y.s)] 68)))
          obtain ⟨Y, hY⟩ : ∃ Y, Y = wb.heap.size := ⟨_, rfl⟩
          rw [← hY] at y0 y1 y2 y3 ⊢
          clear hY hfb a1
          generalize wb.alloc (.cells #[.int .i64 y.k, .int .i64 y.n, .int .i64 y.t, .string (S y.s)] 68) = wc at *
          obtain ⟨x0, x1, x2, x3⟩ := HX0.out wc (HFX.out.trans HFA.out)
          generalize contra y c = bc at *
          cases bc with
          | true =>
            have HSO' := Lib.hid (HSO.out (by first | rfl | trivial))
            clear HSO HNX
            go_upto_region 8 with (go_at_call 26; refine (HCO.out _).mono ?_; rintro e wd ⟨rfl, hfd⟩)
            have HFD := Lib.hid (HFX.out.trans (HFA.out.trans hfd))
            obtain ⟨b0, b1, b2⟩ := HA.out wd (HFA.out.trans hfd)
            have bx := HBX.out _ (HF5.out.trans HFD.out)
            have r0 : wd.cell? ⟨T + 1, 0, none⟩ = some (.int .i64 0) := cellOf bx rfl
            have r1 : wd.cell? ⟨T + 1, 1, none⟩ = some (.string ⟨#[]⟩) := cellOf bx rfl
            have r2 : wd.cell? ⟨T + 1, 2, none⟩ = some (.int .i64 0) := cellOf bx rfl
            have z0 := frozenOf bx 0
            have z1 := frozenOf bx 1
            have z2 := frozenOf bx 2
            obtain ⟨w6, hw6, hf6, d0, d1, d2⟩ := HFIN.out wd (.int .i64 zk) (.string (S zt)) (.int .i64 zm) (HF5.out.trans HFD.out)
            have HW6 := Lib.hid hw6
            clear bx hw6 x0 x1 x2 x3 y0 y1 y2 y3
            go_wp2_with fail
            rw [← HW6.out]
            refine bodyPost_ret (v := clV (some (zk, zt, zm))) (by simp [results, Tryd.results34, go_sem, d0, d1, d2]; rfl) rfl ⟨by rw [HO.out, HSO'.out], hf6⟩
          | false =>
            have HNX' := Lib.hid (HNX.out (by first | rfl | trivial))
            clear HSO HNX
            go_wp2_with (go_at_call 26; refine (HCO.out _).mono ?_; rintro e wd ⟨rfl, hfd⟩)
            go_roundw
            case rel => exact ⟨j + 1, by omega, by go_num, Lib.hid (HFX.out.trans (HFA.out.trans hfd)), HNX'⟩
            case measure => simp [intOf]; omega
        · have := HCE
          exact (clO_end HD1.out.symm (fun m h => HNO.out m h (by omega))).elim
end
end Go.Proofs.YthppefkamklakaaDoor
namespace Go.Proofs.YthppefkamklakaaDoor
open Go.RowKit Go.MapKept Go.Maps Go.WideMaps

/-- The accepted claims behind one more, and what Accept returns. -/
noncomputable def acl (q : List Sd) (k : Int) (l : List Sg) (s : Sg) : List Sg := accL q k (vd l) l s
noncomputable def aE (q : List Sd) (k : Int) (l : List Sg) (s : Sg) : Int := accE q k (vd l) s
section
variable {q : List Sd} {k : Int} {l : List Sg}
theorem LOk.acl (h : LOk q k l) (hq : q.Nodup) (s : Sg) : LOk q k (Go.Proofs.YthppefkamklakaaDoor.acl q k l s) ∧ (Go.Proofs.YthppefkamklakaaDoor.acl q k l s).length ≤ l.length + 1 := ⟨(h.step hq s).1, (h.step hq s).2.2.1⟩
theorem aE_zero (h : LOk q k l) (hq : q.Nodup) (s : Sg) : aE q k l s = 0 ↔ Good q k l s := h.accE hq s
theorem acl_new (h : LOk q k l) (hq : q.Nodup) {s : Sg} (hg : Good q k l s) (hn : s ∉ l) : acl q k l s = l ++ [s] := by
  rcases (h.step hq s).2.2.2 with h1 | h1
  · exact h1.1
  · exact absurd (h1.2 hg) hn
theorem acl_old (h : LOk q k l) (hq : q.Nodup) {s : Sg} (hm : Good q k l s → s ∈ l) : acl q k l s = l := by
  rcases (h.step hq s).2.2.2 with h1 | h1
  · exact absurd (hm h1.2.1) h1.2.2
  · exact h1.1
theorem acl_bad (h : LOk q k l) (hq : q.Nodup) {s : Sg} (hm : ¬ Good q k l s) : acl q k l s = l := acl_old h hq fun h => absurd h hm
theorem aE_split (h : LOk q k l) (hq : q.Nodup) {s : Sg} (hh : holds q s = true) (hk : s.1 = k) {c : C} (hr : readC s.2.1 = some c) (hc : c.k ≤ 2) (hd : (l.any fun a => contra (clm a.2.1) c) = true) : aE q k l s = 21 :=
  (acc_split l hh hk hr hc (by rw [h.dny hq (readC_some.1 hr).1]; exact hd)).1
theorem vacc {W w : World} {B R : Nat} {U : Thing} (h : Has W w ((ViewT B R k l (vd l)).sep ((RingT R q).sep U))) (hl : LOk q k l) (hn : q.Nodup) (hq : q.length ≤ 1000000) (hll : l.length ≤ 100000) (s : Sg) (hs : GOk s) :
    Calls Tryd.prog 12 #[.pointer (some ⟨B, 0, none⟩), sgV s] w fun e w' => e = .returned (.int .i64 (aE q k l s)) ∧ Has W w' ((ViewT B R k (acl q k l s) (vd (acl q k l s))).sep ((RingT R q).sep U)) := by
  refine (vaccept h (hl.hdok hn hll) hq hll s hs).mono ?_
  rintro e w' ⟨rfl, h'⟩
  rw [(hl.step hn s).2.1] at h'
  exact ⟨rfl, h'⟩
end

/-! ### The examples -/
instance (n : Int) : Decidable (Wm.inInt n) := by unfold Wm.inInt; exact inferInstance
theorem dec1 (u : Nat) (h : u < 10) : Lib.itoa (u : Int) = [UInt8.ofNat (48 + u)] := by
  rw [Lib.itoa_nonneg, Lib.decDigits, dif_pos h]
theorem numE1 (u : Nat) (h : u < 10) : (Wm.numE 59).f (u : Int) = [UInt8.ofNat (48 + u), 59] := by rw [Wm.numE_f, dec1 u h]; rfl
theorem textC1 (k n t : Nat) (s : Txt) (hk : k < 10) (hn : n < 10) (ht : t < 10) (hs : s.length < 10) : textC ⟨k, n, t, s⟩ = [UInt8.ofNat (48 + k), 59, UInt8.ofNat (48 + n), 59, UInt8.ofNat (48 + t), 59, UInt8.ofNat (48 + s.length), 58] ++ s ++ [44] := by
  unfold textC
  rw [numE1 k hk, numE1 n hn, numE1 t ht, Wm.textE_f, dec1 _ hs]
  simp
theorem key_a (q : Txt) : key (49 :: 58 :: 97 :: 44 :: q) = some [97] := by
  have h := key_eq (k := [97]) q (show ([97] : Txt).length ≤ 9223372036854775807 by decide)
  rw [Wm.textE_f] at h
  simp only [List.length_cons, List.length_nil] at h
  rw [dec1 _ (by omega)] at h
  exact h
def tA : Txt := [49, 59, 50, 59, 55, 59, 48, 58, 44]
def tB : Txt := [48, 59, 48, 59, 48, 59, 53, 58, 49, 58, 97, 44, 120, 44]
def tC : Txt := [50, 59, 48, 59, 48, 59, 49, 58, 97, 44]
def tD : Txt := [49, 59, 49, 59, 56, 59, 48, 58, 44]
def cA : C := ⟨1, 2, 7, []⟩
def cB : C := ⟨0, 0, 0, [49, 58, 97, 44, 120]⟩
def cc : C := ⟨2, 0, 0, [97]⟩
def cD : C := ⟨1, 1, 8, []⟩
theorem okA : okB cA = true := (okB_iff _).2 ⟨by decide, by decide, by decide, by decide, by decide, .inl (by decide)⟩
theorem okBB : okB cB = true := (okB_iff _).2 ⟨by decide, by decide, by decide, by decide, by decide, .inr (by show (key [49, 58, 97, 44, 120]).isSome = true; rw [key_a]; rfl)⟩
theorem okCc : okB cc = true := (okB_iff _).2 ⟨by decide, by decide, by decide, by decide, by decide, .inl (by decide)⟩
theorem okD : okB cD = true := (okB_iff _).2 ⟨by decide, by decide, by decide, by decide, by decide, .inl (by decide)⟩
theorem rdA : readC tA = some cA := readC_some.2 ⟨okA, (textC1 1 2 7 [] (by decide) (by decide) (by decide) (by decide)).symm⟩
theorem rdBB : readC tB = some cB := readC_some.2 ⟨okBB, (textC1 0 0 0 [49, 58, 97, 44, 120] (by decide) (by decide) (by decide) (by decide)).symm⟩
theorem rdCc : readC tC = some cc := readC_some.2 ⟨okCc, (textC1 2 0 0 [97] (by decide) (by decide) (by decide) (by decide)).symm⟩
theorem rdD' : readC tD = some cD := readC_some.2 ⟨okD, (textC1 1 1 8 [] (by decide) (by decide) (by decide) (by decide)).symm⟩
def gA : Sg := (3, tA, 0)
def gB : Sg := (3, tB, 1)
def gC : Sg := (3, tC, 2)
def gD : Sg := (3, tD, 3)
def q4 : List Sd := [(3, tA), (3, tB), (3, tC), (3, tD)]
theorem clA : clm gA.2.1 = cA := readC_clm rdA
theorem clB : clm gB.2.1 = cB := readC_clm rdBB
theorem clC : clm gC.2.1 = cc := readC_clm rdCc
theorem q4_nd : q4.Nodup := by decide
theorem kinds_no {a b : C} (h : ¬ ((a.k = b.k ∧ a.k ≠ 2) ∨ (a.k = 0 ∧ b.k = 2) ∨ (a.k = 2 ∧ b.k = 0))) : contra a b = false := by
  cases hc : contra a b with
  | false => rfl
  | true => exact absurd (contra_kinds hc) h
theorem goodA : Good q4 3 [] gA := ⟨by decide, rfl, ⟨cA, rdA, by decide⟩, by simp⟩
theorem l1 : LOk q4 3 [gA] := goodA.add (LOk.nil _ _) (by simp)
theorem goodB : Good q4 3 [gA] gB := ⟨by decide, rfl, ⟨cB, rdBB, by decide⟩, fun a ha => by
  rw [List.mem_singleton.1 ha, clA, clB]; exact kinds_no (by decide)⟩
theorem l2 : LOk q4 3 [gA, gB] := goodB.add l1 (by decide)
theorem goodC : Good q4 3 [gA, gB] gC := ⟨by decide, rfl, ⟨cc, rdCc, by decide⟩, fun a ha => by
  rw [clC]
  rcases List.mem_cons.1 ha with rfl | ha
  · rw [clA]; exact kinds_no (by decide)
  · rw [List.mem_singleton.1 ha, clB, contra_02 okBB okCc rfl rfl]; decide⟩
theorem l3 : LOk q4 3 [gA, gB, gC] := goodC.add l2 (by decide)
theorem conAD : contra cA cD = true := by rw [contra_11 okA okD rfl rfl]; decide
theorem clash4 : clR [gA, gB, gC] gD = some gA := by
  have h : clR [gA, gB, gC] gD = clO [gA, gB, gC] cD := by unfold clR; rw [show readC gD.2.1 = some cD from rdD']
  rw [h]
  exact clO_some (k := 0) (by decide) (by show contra (clm gA.2.1) cD = true; rw [clA]; exact conAD) (fun j _ h => absurd h (by omega))
theorem e4 : aE q4 3 [gA, gB, gC] gD = 21 := aE_split l3 q4_nd (by decide) rfl rdD' (by decide) (by
  rw [List.any_cons, clA, conAD]; rfl)
theorem n4 : ¬ Good q4 3 [gA, gB, gC] gD := fun h => by
  have := (aE_zero l3 q4_nd gD).2 h
  rw [e4] at this; exact absurd this (by decide)
theorem goodA3 : Good q4 3 [gA, gB, gC] gA := ⟨by decide, rfl, ⟨cA, rdA, by decide⟩, fun a ha => l3.con a ha gA (by decide)⟩
theorem vd3 : vd [gA, gB, gC] = vst (vst (vst vd0 gA) gB) gC := rfl
theorem vd3_hd : (vd [gA, gB, gC]).hd = [cA] := by
  rw [vd_hd]
  unfold cs
  simp only [List.map_cons, List.map_nil, clA, clB, clC]
  unfold ld
  simp only [List.foldl_cons, List.foldl_nil]
  rw [lrn_1 (show cA.k = 1 from rfl), lrn_0 (show cB.k = 0 from rfl), lrn_2 (show cc.k = 2 from rfl)]
  rfl
theorem vd3_en (i : Int) : (vd [gA, gB, gC]).en i = if i = 0 then some [49, 58, 97, 44, 120] else none := by
  rw [vd_en]
  unfold cs
  simp only [List.map_cons, List.map_nil, clA, clB, clC]
  unfold ld
  simp only [List.foldl_cons, List.foldl_nil]
  rw [lrn_1 (show cA.k = 1 from rfl), lrn_0 (show cB.k = 0 from rfl), lrn_2 (show cc.k = 2 from rfl)]
  rfl
theorem vd3_ab (t : Txt) : (vd [gA, gB, gC]).ab t = if t = [97] then some 0 else none := by
  rw [vd_ab]
  unfold cs
  simp only [List.map_cons, List.map_nil, clA, clB, clC]
  unfold ld
  simp only [List.foldl_cons, List.foldl_nil]
  rw [lrn_1 (show cA.k = 1 from rfl), lrn_0 (show cB.k = 0 from rfl), lrn_2 (show cc.k = 2 from rfl)]
  rfl
theorem kn1 : knB (vd [gA, gB, gC]) 1 = true := knB_iff.2 fun i h0 h1 => by
  rw [vd3_en, if_pos (by omega)]; rfl
theorem kn2 : knB (vd [gA, gB, gC]) 2 = false := by
  cases h : knB (vd [gA, gB, gC]) 2 with
  | false => rfl
  | true =>
    have := knB_iff.1 h 1 (by decide) (by decide)
    rw [vd3_en, if_neg (by decide)] at this; exact absurd this (by decide)
theorem szN3 : szN (vd [gA, gB, gC]) = 2 := by unfold szN; rw [vd3_hd]; rfl
theorem szT3 : szT (vd [gA, gB, gC]) = 7 := by unfold szT; rw [vd3_hd]; rfl
theorem ag9 : agO (vd [gA, gB, gC]) 9 = 2 := by unfold agO; rw [szT3]; decide
theorem ag6 : agO (vd [gA, gB, gC]) 6 = -1 := by unfold agO; rw [szT3]; decide
/-- A view and its ring. -/
noncomputable abbrev VR (B R : Nat) (l : List Sg) (U : Thing) : Thing := (ViewT B R 3 l (vd l)).sep ((RingT R q4).sep U)
section
variable {W w : World} {B R : Nat} {U : Thing}
theorem sm_1 (h : Has W w (VR B R [] U)) : Calls Tryd.prog 12 #[.pointer (some ⟨B, 0, none⟩), .agg #[.int .i64 3, .string (S tA), .int .i64 0]] w fun e w' => e = .returned (.int .i64 0) ∧ Has W w' (VR B R [gA] U) := by
  refine (vacc h (LOk.nil _ _) q4_nd (by decide) (by decide) gA (show Wm.inInt gA.1 ∧ gA.2.1.length ≤ 9223372036854775807 ∧ Wm.inInt gA.2.2 by decide)).mono ?_
  rintro e w' ⟨rfl, h'⟩
  rw [(aE_zero (LOk.nil _ _) q4_nd gA).2 goodA]
  rw [acl_new (LOk.nil _ _) q4_nd goodA (by simp)] at h'
  exact ⟨rfl, h'⟩
theorem sm_2 (h : Has W w (VR B R [gA] U)) : Calls Tryd.prog 12 #[.pointer (some ⟨B, 0, none⟩), .agg #[.int .i64 3, .string (S tB), .int .i64 1]] w fun e w' => e = .returned (.int .i64 0) ∧ Has W w' (VR B R [gA, gB] U) := by
  refine (vacc h l1 q4_nd (by decide) (by decide) gB (show Wm.inInt gB.1 ∧ gB.2.1.length ≤ 9223372036854775807 ∧ Wm.inInt gB.2.2 by decide)).mono ?_
  rintro e w' ⟨rfl, h'⟩
  rw [(aE_zero l1 q4_nd gB).2 goodB]
  rw [acl_new l1 q4_nd goodB (by decide)] at h'
  exact ⟨rfl, h'⟩
theorem sm_3 (h : Has W w (VR B R [gA, gB] U)) : Calls Tryd.prog 12 #[.pointer (some ⟨B, 0, none⟩), .agg #[.int .i64 3, .string (S tC), .int .i64 2]] w fun e w' => e = .returned (.int .i64 0) ∧ Has W w' (VR B R [gA, gB, gC] U) := by
  refine (vacc h l2 q4_nd (by decide) (by decide) gC (show Wm.inInt gC.1 ∧ gC.2.1.length ≤ 9223372036854775807 ∧ Wm.inInt gC.2.2 by decide)).mono ?_
  rintro e w' ⟨rfl, h'⟩
  rw [(aE_zero l2 q4_nd gC).2 goodC]
  rw [acl_new l2 q4_nd goodC (by decide)] at h'
  exact ⟨rfl, h'⟩
theorem sm_4 (h : Has W w (VR B R [gA, gB, gC] U)) : Calls Tryd.prog 12 #[.pointer (some ⟨B, 0, none⟩), .agg #[.int .i64 3, .string (S tD), .int .i64 3]] w fun e w' => e = .returned (.int .i64 21) ∧ Has W w' (VR B R [gA, gB, gC] U) := by
  refine (vacc h l3 q4_nd (by decide) (by decide) gD (show Wm.inInt gD.1 ∧ gD.2.1.length ≤ 9223372036854775807 ∧ Wm.inInt gD.2.2 by decide)).mono ?_
  rintro e w' ⟨rfl, h'⟩
  rw [e4]
  rw [acl_bad l3 q4_nd n4] at h'
  exact ⟨rfl, h'⟩
theorem sm_5 (h : Has W w (VR B R [gA, gB, gC] U)) : Calls Tryd.prog 12 #[.pointer (some ⟨B, 0, none⟩), .agg #[.int .i64 3, .string (S tA), .int .i64 0]] w fun e w' => e = .returned (.int .i64 0) ∧ Has W w' (VR B R [gA, gB, gC] U) := by
  refine (vacc h l3 q4_nd (by decide) (by decide) gA (show Wm.inInt gA.1 ∧ gA.2.1.length ≤ 9223372036854775807 ∧ Wm.inInt gA.2.2 by decide)).mono ?_
  rintro e w' ⟨rfl, h'⟩
  rw [(aE_zero l3 q4_nd gA).2 goodA3]
  rw [acl_old l3 q4_nd (fun _ => by decide)] at h'
  exact ⟨rfl, h'⟩
theorem sm_c (h : Has W w (VR B R [gA, gB, gC] U)) : Calls Tryd.prog 34 #[.pointer (some ⟨B, 0, none⟩), .agg #[.int .i64 3, .string (S tD), .int .i64 3]] w fun e w' => e = .returned (.tuple #[.agg #[.int .i64 3, .string (S tA), .int .i64 0], .bool true]) ∧ Fr w w' := by
  have := vclash h l3 q4_nd (by decide) gD (by decide)
  rw [clash4] at this; exact this
end
end Go.Proofs.YthppefkamklakaaDoor
namespace Go.Proofs.YthppefkamklakaaDoor
open Go.RowKit Go.MapKept Go.Maps Go.WideMaps

section
variable {W w : World} {R : Nat} {U : Thing}
theorem sm_s1 (h : Has W w ((RingT R []).sep U)) : Calls Tryd.prog 14 #[.pointer (some ⟨R, 0, none⟩), .int .i64 3, .string ⟨#[49, 59, 50, 59, 55, 59, 48, 58, 44]⟩] w fun e w' => e = .returned (.agg #[.int .i64 3, .string (S tA), .int .i64 0]) ∧ Has W w' ((RingT R [(3, tA)]).sep U) := h.sign 3 tA (by decide) (by decide)
theorem sm_s2 (h : Has W w ((RingT R [(3, tA)]).sep U)) : Calls Tryd.prog 14 #[.pointer (some ⟨R, 0, none⟩), .int .i64 3, .string ⟨#[48, 59, 48, 59, 48, 59, 53, 58, 49, 58, 97, 44, 120, 44]⟩] w fun e w' => e = .returned (.agg #[.int .i64 3, .string (S tB), .int .i64 1]) ∧ Has W w' ((RingT R [(3, tA), (3, tB)]).sep U) := h.sign 3 tB (by decide) (by decide)
theorem sm_s3 (h : Has W w ((RingT R [(3, tA), (3, tB)]).sep U)) : Calls Tryd.prog 14 #[.pointer (some ⟨R, 0, none⟩), .int .i64 3, .string ⟨#[50, 59, 48, 59, 48, 59, 49, 58, 97, 44]⟩] w fun e w' => e = .returned (.agg #[.int .i64 3, .string (S tC), .int .i64 2]) ∧ Has W w' ((RingT R [(3, tA), (3, tB), (3, tC)]).sep U) := h.sign 3 tC (by decide) (by decide)
theorem sm_s4 (h : Has W w ((RingT R [(3, tA), (3, tB), (3, tC)]).sep U)) : Calls Tryd.prog 14 #[.pointer (some ⟨R, 0, none⟩), .int .i64 3, .string ⟨#[49, 59, 49, 59, 56, 59, 48, 58, 44]⟩] w fun e w' => e = .returned (.agg #[.int .i64 3, .string (S tD), .int .i64 3]) ∧ Has W w' ((RingT R q4).sep U) := h.sign 3 tD (by decide) (by decide)
theorem sm_n (h : Has W w ((RingT R q4).sep U)) : Calls Tryd.prog 15 #[.pointer (some ⟨R, 0, none⟩), .int .i64 3] w fun e w' => ∃ B, e = .returned (.pointer (some ⟨B, 0, none⟩)) ∧ Has W w' (VR B R [] U) := vnew_yes h R 3 (by decide)
end
end Go.Proofs.YthppefkamklakaaDoor
