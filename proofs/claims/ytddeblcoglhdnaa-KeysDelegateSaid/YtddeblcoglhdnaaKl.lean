/-
  Clone of ints; Owner, Delegates, May.
-/
import Derived.Test.YtddeblcoglhdnaaKj
import Derived.Test.YtddeblcoglhdnaaKk
import Derived.OwnWalk
namespace Go.Proofs.Ytddeblcoglhdnaa
open Go.RowKit Mb Go.BigFrame

def CloneP (l : List Int) (w : World) (e : Ending) (w' : World) : Prop := ∃ v, e = .returned v ∧ Sl w' v l ∧ Fr w w'
theorem clone_any (v : Value) (l : List Int) (w : World) (h : Sl w v l) (hn : l.length ≤ 1000000) : Calls Try.prog 28 #[v] w (CloneP l w) := by
  rcases h.cases with ⟨rfl, a, c, rfl⟩ | ⟨b, o, c, rfl, hc⟩
  · cases a with
    | none =>
      refine (Try.slices_Clone_int_nil 0 c w).mono ?_
      rintro e w' ⟨rfl, rfl⟩
      exact ⟨_, rfl, Sl.nil _ _ _, Fr.refl _⟩
    | some ad =>
      refine (Try.slices_Clone_int_zero ad c w).mono ?_
      rintro e w' ⟨v', rfl, ho, _, hb⟩
      exact ⟨_, rfl, Sl.own (l := []) ho, Fr.of_below hb⟩
  · refine (Try.slices_Clone_int b o l.length c l w (Nat.le_refl _) (by omega) (fun j hj => ?_)).mono ?_
    · rw [hc j hj]; simp [List.getD, hj]
    · rintro e w' ⟨v', rfl, ho, _, hb⟩
      rw [List.take_length] at ho
      exact ⟨_, rfl, Sl.own (l := l) ho, Fr.of_below hb⟩

theorem stF0 (u v : Value) (w : World) : (Instr.field 64 (.agg #[u, v]) 0).run Try.prog w = .ok u w := by kernel_rfl
theorem stF1 (u v : Value) (w : World) : (Instr.field 64 (.agg #[u, v]) 1).run Try.prog w = .ok v w := by kernel_rfl
def kyO (x : Option Ft) : List Int := match x with | some f => f.keys | none => []
def ndO (x : Option Ft) : Int := match x with | some f => f.need | none => 0
def tlO (x : Option Ft) : Int := match x with | some f => f.til | none => 0
/-- What Owner returns. -/
def OwnP (x : Option Ft) (w : World) (e : Ending) (w' : World) : Prop := ∃ kv, e = .returned (.tuple #[kv, .int .i64 (ndO x), .bool x.isSome]) ∧ Sl w' kv (kyO x) ∧ Fr w w'
def DlgP (x : Option Ft) (w : World) (e : Ending) (w' : World) : Prop := ∃ kv, e = .returned (.tuple #[kv, .int .i64 (ndO x), .int .i64 (tlO x)]) ∧ Sl w' kv (kyO x) ∧ Fr w w'
set_option maxRecDepth 100000 in
set_option maxHeartbeats 1000000 in
theorem owner_any (v : Value) (l : List Ft) (n : Txt) (w : World) (h : FSl w v l) (hl : LB l) :
    Calls Try.prog 10 #[v, .string (S n)] w (OwnP (own l n) w) := by
  have HS := Lib.hid (standingOf_any v l n w h hl)
  clear h hl
  unfold StdP at HS
  generalize own l n = x at *
  have hq0 := stF0
  go_enter Try.func10, Try.ntmps10
  go_upto_region 2 with (go_at_call 27; refine HS.out.mono ?_; rintro e w1 ⟨u, v2, rfl, hu, hv, hf⟩)
  rcases hu with ⟨rfl, hx⟩ | ⟨b, o, f, rfl, hx, hat, hb⟩
  · have HX := Lib.hid hx
    clear hx hv
    go_wp2_with fail
    go_ret3
    rw [HX.out]
    exact ⟨_, rfl, Sl.nil _ _ _, hf⟩
  · have HX := Lib.hid hx
    have hat1 := hat.fr hf
    have c25 := hat1.need
    obtain ⟨kv, c24, hkv⟩ := hat1.keys
    have HC := Lib.hid fun w' (hw : Fr w1 w') => clone_any kv f.keys w' (hkv.fr hw) hb.keys.len
    have HF := Lib.hid hf
    clear hx hv hat hat1 hb hkv hf
    go_wp2_with fail
    go_region_held3 (fun w' => w'.cell? ⟨b, o + 24, none⟩ = some kv ∧ w'.cell? ⟨b, o + 25, none⟩ = some (.int .i64 f.need)) (first | exact hc2 | exact ⟨c24, c25⟩) ((go_at_call 28; refine (HC.out _ (by with_reducible exact Fr.drew _)).mono ?_; rintro e w2 ⟨kv2, rfl, hk2, hf2⟩; have hc2 := And.intro (Fr.cell (Fr.trans (Fr.drew _) hf2) c24) (Fr.cell (Fr.trans (Fr.drew _) hf2) c25); have HK := Lib.hid hk2; have HF2 := Lib.hid ((HF.out.trans (Fr.drew _)).trans hf2); clear hk2 hf2))
    all_goals
      go_wp2_with fail
      go_ret3
      rw [HX.out]
      exact ⟨_, rfl, HK.out, HF2.out⟩
set_option maxRecDepth 100000 in
set_option maxHeartbeats 1000000 in
theorem delegates_any (v : Value) (l : List Ft) (n : Txt) (w : World) (h : FSl w v l) (hl : LB l) :
    Calls Try.prog 12 #[v, .string (S n)] w (DlgP (dlg l n) w) := by
  have HS := Lib.hid (standingOf_any v l n w h hl)
  clear h hl
  unfold StdP at HS
  generalize dlg l n = x at *
  have hq0 := stF1
  go_enter Try.func12, Try.ntmps12
  go_upto_region 2 with (go_at_call 27; refine HS.out.mono ?_; rintro e w1 ⟨u, v2, rfl, hu, hv, hf⟩)
  rcases hv with ⟨rfl, hx⟩ | ⟨b, o, f, rfl, hx, hat, hb⟩
  · have HX := Lib.hid hx
    clear hx hu
    go_wp2_with fail
    go_ret3
    rw [HX.out]
    exact ⟨_, rfl, Sl.nil _ _ _, hf⟩
  · have HX := Lib.hid hx
    have hat1 := hat.fr hf
    have c25 := hat1.need
    have c26 := hat1.til
    obtain ⟨kv, c24, hkv⟩ := hat1.keys
    have HC := Lib.hid fun w' (hw : Fr w1 w') => clone_any kv f.keys w' (hkv.fr hw) hb.keys.len
    have HF := Lib.hid hf
    clear hx hu hat hat1 hb hkv hf
    go_wp2_with fail
    go_region_held3 (fun w' => w'.cell? ⟨b, o + 24, none⟩ = some kv ∧ w'.cell? ⟨b, o + 25, none⟩ = some (.int .i64 f.need) ∧ w'.cell? ⟨b, o + 26, none⟩ = some (.int .i64 f.til)) (first | exact hc2 | exact ⟨c24, c25, c26⟩) ((go_at_call 28; refine (HC.out _ (by with_reducible exact Fr.drew _)).mono ?_; rintro e w2 ⟨kv2, rfl, hk2, hf2⟩; have hc2 := And.intro (Fr.cell (Fr.trans (Fr.drew _) hf2) c24) (And.intro (Fr.cell (Fr.trans (Fr.drew _) hf2) c25) (Fr.cell (Fr.trans (Fr.drew _) hf2) c26)); have HK := Lib.hid hk2; have HF2 := Lib.hid ((HF.out.trans (Fr.drew _)).trans hf2); clear hk2 hf2))
    all_goals
      go_wp2_with fail
      go_ret3
      rw [HX.out]
      exact ⟨_, rfl, HK.out, HF2.out⟩

/-! ### May -/
set_option maxRecDepth 100000 in
set_option maxHeartbeats 1000000 in
theorem mayF_any (v r u : Value) (l : List Ft) (reg : List Int) (f : Ft) (q : List Int) (w : World) (h : FSl w v l) (hl : LB l) (hr : Sl w r reg) (hro : Ok reg) (hf : FtOk w f) (hb : FB f) (hu : Sl w u q) (hq : Ok q) :
    Calls Try.prog 21 #[v, r, f.v, u] w fun e w' => e = .returned (.int .i64 (may l reg f q)) ∧ Fr w w' := by
  have hA := FtAt.new hf 39
  have hw := Fr.alloc w (.cells f.cs.toArray 39)
  have HF0 := Lib.hid hw
  have HN := Lib.hid (nameOf_any _ 0 f _ hA)
  have HS := Lib.hid (standingOf_any v l (nm f) _ (h.fr hw) hl)
  have HT := Lib.hid fun w' (hf : Fr (w.alloc (.cells f.cs.toArray 39)) w') => set_any r reg w' (hr.fr (hw.trans hf)) hro
  have HM := Lib.hid fun v1 v2 M w' (hf : Fr (w.alloc (.cells f.cs.toArray 39)) w') (h1 : Pt w' v1 (own l (nm f))) (h2 : Pt w' v2 (dlg l (nm f))) (hs : SetIs w' M fun t => decide (t ∈ reg)) =>
    may_any v1 v2 u _ _ l.length M reg w.heap.size 0 f q w' h1 h2 hs (hA.fr hf) hb (hu.fr (hw.trans hf)) hq
  obtain ⟨av, ac, rfl⟩ := h.len
  unfold StdP at HS
  unfold may Ft.v
  generalize own l (nm f) = x at *
  generalize dlg l (nm f) = y at *
  clear h hl hr hro hf hb hu hq hA hw
  go_enter Try.func21, Try.ntmps21
  go_upto_region 1 with fail
  generalize (w.alloc (.cells f.cs.toArray 39)) = w0 at *
  go_wp2_with (first
    | (go_at_call 30; refine HN.out.mono ?_; rintro e w1 ⟨rfl, rfl⟩)
    | (go_at_call 27; refine HS.out.mono ?_; rintro e w2 ⟨v1, v2, rfl, hp1, hp2, hf2⟩; have HP1 := Lib.hid (hp1.fr hf2); have HP2 := Lib.hid (hp2.fr hf2); have HF2 := Lib.hid hf2; clear hp1 hp2 hf2)
    | (go_at_call 29; refine (HT.out _ HF2.out).mono ?_; rintro e w3 ⟨M, rfl, hs, _, hf3⟩; have HP3 := Lib.hid (HP1.out.fr hf3); have HP4 := Lib.hid (HP2.out.fr hf3); have HS3 := Lib.hid hs; have HF3 := Lib.hid (HF2.out.trans hf3); clear hs hf3)
    | (go_at_call 31; refine (HM.out _ _ _ _ HF3.out HP3.out HP4.out HS3.out).mono ?_; rintro e w4 ⟨rfl, hf4⟩))
  go_ret
  exact ⟨rfl, (HF0.out.trans HF3.out).trans hf4⟩
end Go.Proofs.Ytddeblcoglhdnaa
