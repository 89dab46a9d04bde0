/-
  may.
-/
import Derived.Test.YtddeblcoglhdnaaKi
namespace Go.Proofs.Ytddeblcoglhdnaa
open Go.RowKit Mb

theorem myE_arg {x y : Option Ft} {n : Nat} {reg : List Int} {f : Ft} {q : List Int} (h : rgt f = false) : myE x y n reg f q = 1 := by unfold myE; rw [if_pos h]
theorem myE_reg {x y : Option Ft} {n : Nat} {reg : List Int} {f : Ft} {q : List Int} (h : rgt f = true) (hk : f.kind = 3 ∨ f.kind = 7) : myE x y n reg f q = if anyR reg q = true then 0 else 22 := by
  unfold myE; rw [if_neg (by rw [h]; decide), if_pos hk]
theorem myE_own {x y : Option Ft} {n : Nat} {reg : List Int} {f : Ft} {q : List Int} (h : rgt f = true) (hk : ¬ (f.kind = 3 ∨ f.kind = 7)) (hx : x = none) (h5 : f.kind ≠ 5) : myE x y n reg f q = 24 := by
  unfold myE; rw [if_neg (by rw [h]; decide), if_neg hk, if_pos ⟨by rw [hx]; rfl, h5⟩]
def fwE (s d : Bool) : Int := match s, d with | true, _ => 0 | false, true => 0 | false, false => 23
theorem myE_few {x y : Option Ft} {n : Nat} {reg : List Int} {f : Ft} {q : List Int} (h : rgt f = true) (hk : ¬ (f.kind = 3 ∨ f.kind = 7)) (hx : ¬ (x.isNone = true ∧ f.kind ≠ 5)) :
    myE x y n reg f q = fwE (sgn (x.getD f) q) (dsg y n f q) := by
  unfold myE; rw [if_neg (by rw [h]; decide), if_neg hk, if_neg hx]
  cases sgn (x.getD f) q <;> cases dsg y n f q <;> simp [fwE]
set_option maxRecDepth 100000 in
set_option maxHeartbeats 2000000 in
theorem may_any (v1 v2 u : Value) (x y : Option Ft) (n : Nat) (M : Nat) (reg : List Int) (b o : Nat) (f : Ft) (q : List Int) (w : World) (h1 : Pt w v1 x) (h2 : Pt w v2 y) (hS : SetIs w M (fun t => decide (t ∈ reg))) (h : FtAt w b o f) (hb : FB f) (hu : Sl w u q) (hq : Ok q) :
    Calls Try.prog 31 #[.agg #[v1, v2], .int .i64 n, .map (some M), .pointer (some ⟨b, o, none⟩), u] w fun e w' => e = .returned (.int .i64 (myE x y n reg f q)) ∧ Fr w w' := by
  have HR := Lib.hid fun w' (hw : Fr w w') => right_any b o f w' (h.fr hw) hb
  have HO := Lib.hid fun w' (hw : Fr w w') => ownerSigns_any v1 v2 u x b o f q w' (h1.fr hw) h2.one (h.fr hw) hb (hu.fr hw) hq
  have HD := Lib.hid fun w' (hw : Fr w w') => delegationSigns_any v1 v2 u y n b o f q w' h1.one (h2.fr hw) (h.fr hw) (hu.fr hw) hq
  have HC := Lib.hid fun B w' (hw : Fr w w') (hB : w'.cell? ⟨B, 0, none⟩ = some (.map (some M))) => containsF_any u q B M (fun t => decide (t ∈ reg)) w' (hu.fr hw) hq hB (hS.fr hw)
  have hf : Fr w ((w.alloc (.cells #[v1, v2] 64)).alloc (.cells #[.map (some M)] 68)) := (Fr.alloc _ _).trans (Fr.alloc _ _)
  have HF := Lib.hid hf
  have c0 := hf.cell h.kind
  have hb1 := (MapKept.heap_alloc (w.alloc (.cells #[v1, v2] 64)) (.cells #[.map (some M)] 68)).1
  have hb0 := (Fr.alloc (w.alloc (.cells #[v1, v2] 64)) (.cells #[.map (some M)] 68)).heap (MapKept.heap_alloc w (.cells #[v1, v2] 64)).1
  have b0 := cellOf hb0 (i := 0) (v := v1) rfl
  have b1 := cellOf hb0 (i := 1) (v := v2) rfl
  have bm := cellOf hb1 (i := 0) (v := .map (some M)) rfl
  clear hb0 hb1 hf
  rw [show (w.alloc (.cells #[v1, v2] 64)).heap.size = w.heap.size + 1 by simp] at bm
  cases hr : rgt f with
  | false =>
    rw [myE_arg hr]
    rw [hr] at HR
    clear hr h1 h2 h hb hu hq hS HO HD HC
    go_enter Try.func31, Try.ntmps31
    go_upto_region 1 with fail
    generalize ((w.alloc (.cells #[v1, v2] 64)).alloc (.cells #[.map (some M)] 68)) = w0 at *
    go_wp2_with (go_at_call 36; refine (HR.out _ HF.out).mono ?_; rintro e w1 ⟨rfl, hf1⟩)
    go_ret
    exact ⟨rfl, HF.out.trans hf1⟩
  | true =>
    rw [hr] at HR
    by_cases hk : f.kind = 3 ∨ f.kind = 7
    · rw [myE_reg hr hk]
      unfold anyR
      generalize (q.any fun t => decide (t ∈ reg)) = r at *
      clear hr h1 h2 h hb hu hq hS HO HD
      rcases hk with hk | hk
      all_goals
        rw [hk] at c0
        clear hk
        cases r
        all_goals
          go_enter Try.func31, Try.ntmps31
          go_upto_region 1 with fail
          generalize ((w.alloc (.cells #[v1, v2] 64)).alloc (.cells #[.map (some M)] 68)) = w0 at *
          go_wp2_with (first
            | (go_at_call 36; refine (HR.out _ HF.out).mono ?_; rintro e w1 ⟨rfl, hf1⟩; have k0 := hf1.cell c0; have bn := hf1.cell bm; have HF1 := Lib.hid (HF.out.trans hf1); clear hf1)
            | (go_at_call 37; refine (HC.out _ _ HF1.out bn).mono ?_; rintro e w2 ⟨rfl, rfl⟩))
          go_ret
          exact ⟨rfl, HF1.out⟩
    · have e3 : (f.kind == 3) = false := by simp; omega
      have e7 : (f.kind == 7) = false := by simp; omega
      by_cases hx : x = none ∧ f.kind ≠ 5
      · have e5 : (f.kind != 5) = true := by simpa using hx.2
        rw [myE_own hr hk hx.1 hx.2]
        obtain ⟨rfl, _⟩ : v1 = .pointer none ∧ True := by
          rcases h1 with ⟨h1, _⟩ | ⟨_, _, g, _, h1, _⟩
          · exact ⟨h1, trivial⟩
          · rw [hx.1] at h1; cases h1
        clear hr h1 h2 h hb hu hq hS HO HD HC hx hk
        go_enter Try.func31, Try.ntmps31
        go_upto_region 1 with fail
        generalize ((w.alloc (.cells #[.pointer none, v2] 64)).alloc (.cells #[.map (some M)] 68)) = w0 at *
        go_wp2_with (go_at_call 36; refine (HR.out _ HF.out).mono ?_; rintro e w1 ⟨rfl, hf1⟩; have k0 := hf1.cell c0; have d0 := hf1.cell b0; have HF1 := Lib.hid (HF.out.trans hf1); clear hf1)
        go_ret
        exact ⟨rfl, HF1.out⟩
      · have hx2 : ¬ (x.isNone = true ∧ f.kind ≠ 5) := fun hh => hx ⟨by simpa using hh.1, hh.2⟩
        rw [myE_few hr hk hx2]
        have hp : (∃ p, v1 = .pointer (some p)) ∨ v1 = .pointer none ∧ f.kind = 5 := by
          rcases h1 with ⟨h1, h1'⟩ | ⟨b1, o1, g, h1, _⟩
          · exact .inr ⟨h1, Classical.byContradiction fun hh => hx ⟨h1', hh⟩⟩
          · exact .inl ⟨_, h1⟩
        generalize sgn (x.getD f) q = s at *
        generalize dsg y n f q = d at *
        clear hr h1 h2 h hb hu hq hS HC hx hk hx2
        rcases hp with ⟨p, rfl⟩ | ⟨rfl, hk5⟩
        · cases s with
          | true =>
            show Calls _ _ _ _ fun e w' => e = .returned (.int .i64 0) ∧ Fr w w'
            go_enter Try.func31, Try.ntmps31
            go_upto_region 1 with fail
            generalize ((w.alloc (.cells #[.pointer (some p), v2] 64)).alloc (.cells #[.map (some M)] 68)) = w0 at *
            go_wp2_with (first
              | (go_at_call 36; refine (HR.out _ HF.out).mono ?_; rintro e w1 ⟨rfl, hf1⟩; have k0 := hf1.cell c0; have d0 := hf1.cell b0; have d1 := hf1.cell b1; have HF1 := Lib.hid (HF.out.trans hf1); clear hf1)
              | (go_at_call 39; refine (HO.out _ HF1.out).mono ?_; rintro e w2 ⟨rfl, hf2⟩; have HF2 := Lib.hid (HF1.out.trans hf2); clear hf2))
            go_ret
            exact ⟨rfl, HF2.out⟩
          | false =>
            cases d
            case true =>
              show Calls _ _ _ _ fun e w' => e = .returned (.int .i64 0) ∧ Fr w w'
              go_enter Try.func31, Try.ntmps31
              go_upto_region 1 with fail
              generalize ((w.alloc (.cells #[.pointer (some p), v2] 64)).alloc (.cells #[.map (some M)] 68)) = w0 at *
              go_wp2_with (first
                | (go_at_call 36; refine (HR.out _ HF.out).mono ?_; rintro e w1 ⟨rfl, hf1⟩; have k0 := hf1.cell c0; have d0 := hf1.cell b0; have d1 := hf1.cell b1; have HF1 := Lib.hid (HF.out.trans hf1); clear hf1)
                | (go_at_call 39; refine (HO.out _ HF1.out).mono ?_; rintro e w2 ⟨rfl, hf2⟩; have q0 := hf2.cell d0; have q1 := hf2.cell d1; have HF2 := Lib.hid (HF1.out.trans hf2); clear hf2)
                | (go_at_call 40; refine (HD.out _ HF2.out).mono ?_; rintro e w3 ⟨rfl, hf3⟩; have HF3 := Lib.hid (HF2.out.trans hf3); clear hf3))
              go_ret
              exact ⟨rfl, HF3.out⟩
            case false =>
              show Calls _ _ _ _ fun e w' => e = .returned (.int .i64 23) ∧ Fr w w'
              go_enter Try.func31, Try.ntmps31
              go_upto_region 1 with fail
              generalize ((w.alloc (.cells #[.pointer (some p), v2] 64)).alloc (.cells #[.map (some M)] 68)) = w0 at *
              go_wp2_with (first
                | (go_at_call 36; refine (HR.out _ HF.out).mono ?_; rintro e w1 ⟨rfl, hf1⟩; have k0 := hf1.cell c0; have d0 := hf1.cell b0; have d1 := hf1.cell b1; have HF1 := Lib.hid (HF.out.trans hf1); clear hf1)
                | (go_at_call 39; refine (HO.out _ HF1.out).mono ?_; rintro e w2 ⟨rfl, hf2⟩; have q0 := hf2.cell d0; have q1 := hf2.cell d1; have HF2 := Lib.hid (HF1.out.trans hf2); clear hf2)
                | (go_at_call 40; refine (HD.out _ HF2.out).mono ?_; rintro e w3 ⟨rfl, hf3⟩; have HF3 := Lib.hid (HF2.out.trans hf3); clear hf3))
              go_ret
              exact ⟨rfl, HF3.out⟩
        · rw [hk5] at c0
          clear hk5 e3 e7
          cases s with
          | true =>
            show Calls _ _ _ _ fun e w' => e = .returned (.int .i64 0) ∧ Fr w w'
            go_enter Try.func31, Try.ntmps31
            go_upto_region 1 with fail
            generalize ((w.alloc (.cells #[.pointer none, v2] 64)).alloc (.cells #[.map (some M)] 68)) = w0 at *
            go_wp2_with (first
              | (go_at_call 36; refine (HR.out _ HF.out).mono ?_; rintro e w1 ⟨rfl, hf1⟩; have k0 := hf1.cell c0; have d0 := hf1.cell b0; have d1 := hf1.cell b1; have HF1 := Lib.hid (HF.out.trans hf1); clear hf1)
              | (go_at_call 39; refine (HO.out _ HF1.out).mono ?_; rintro e w2 ⟨rfl, hf2⟩; have HF2 := Lib.hid (HF1.out.trans hf2); clear hf2))
            go_ret
            exact ⟨rfl, HF2.out⟩
          | false =>
            cases d
            case true =>
              show Calls _ _ _ _ fun e w' => e = .returned (.int .i64 0) ∧ Fr w w'
              go_enter Try.func31, Try.ntmps31
              go_upto_region 1 with fail
              generalize ((w.alloc (.cells #[.pointer none, v2] 64)).alloc (.cells #[.map (some M)] 68)) = w0 at *
              go_wp2_with (first
                | (go_at_call 36; refine (HR.out _ HF.out).mono ?_; rintro e w1 ⟨rfl, hf1⟩; have k0 := hf1.cell c0; have d0 := hf1.cell b0; have d1 := hf1.cell b1; have HF1 := Lib.hid (HF.out.trans hf1); clear hf1)
                | (go_at_call 39; refine (HO.out _ HF1.out).mono ?_; rintro e w2 ⟨rfl, hf2⟩; have q0 := hf2.cell d0; have q1 := hf2.cell d1; have HF2 := Lib.hid (HF1.out.trans hf2); clear hf2)
                | (go_at_call 40; refine (HD.out _ HF2.out).mono ?_; rintro e w3 ⟨rfl, hf3⟩; have HF3 := Lib.hid (HF2.out.trans hf3); clear hf3))
              go_ret
              exact ⟨rfl, HF3.out⟩
            case false =>
              show Calls _ _ _ _ fun e w' => e = .returned (.int .i64 23) ∧ Fr w w'
              go_enter Try.func31, Try.ntmps31
              go_upto_region 1 with fail
              generalize ((w.alloc (.cells #[.pointer none, v2] 64)).alloc (.cells #[.map (some M)] 68)) = w0 at *
              go_wp2_with (first
                | (go_at_call 36; refine (HR.out _ HF.out).mono ?_; rintro e w1 ⟨rfl, hf1⟩; have k0 := hf1.cell c0; have d0 := hf1.cell b0; have d1 := hf1.cell b1; have HF1 := Lib.hid (HF.out.trans hf1); clear hf1)
                | (go_at_call 39; refine (HO.out _ HF1.out).mono ?_; rintro e w2 ⟨rfl, hf2⟩; have q0 := hf2.cell d0; have q1 := hf2.cell d1; have HF2 := Lib.hid (HF1.out.trans hf2); clear hf2)
                | (go_at_call 40; refine (HD.out _ HF2.out).mono ?_; rintro e w3 ⟨rfl, hf3⟩; have HF3 := Lib.hid (HF2.out.trans hf3); clear hf3))
              go_ret
              exact ⟨rfl, HF3.out⟩
end Go.Proofs.Ytddeblcoglhdnaa
