/-
  The standing after one more fact; what a fact that was made here looks like (mkF); release.
-/
import Derived.Test.YtddeblcoglhdnaaKf
namespace Go.Proofs.Ytddeblcoglhdnaa
open Go.RowKit Mb

def AftP (x y : Option Ft) (f : Ft) (W w : World) (e : Ending) (w' : World) : Prop := ∃ u v, e = .returned (.agg #[u, v]) ∧ Pt W u (aft (x, y) f).1 ∧ Pt W v (aft (x, y) f).2 ∧ Fr w w'
theorem Pt.one {w : World} {v : Value} {x : Option Ft} (h : Pt w v x) : ∃ p, v = .pointer p := by
  rcases h with ⟨h, _⟩ | ⟨b, o, f, h, _⟩
  · exact ⟨_, h⟩
  · exact ⟨_, h⟩
set_option maxRecDepth 100000 in
theorem after_any (v1 v2 : Value) (x y : Option Ft) (b o : Nat) (f : Ft) (W w : World) (h1 : Pt W v1 x) (h2 : Pt W v2 y) (h : FtAt W b o f) (hb : FB f) (hW : Fr W w) :
    Calls Try.prog 32 #[.agg #[v1, v2], .pointer (some ⟨b, o, none⟩)] w (AftP x y f W w) := by
  have hf : Fr w ((w.alloc (.cells #[v1, v2] 64)).alloc (.cells #[.pointer none, .pointer none] 64)) := (Fr.alloc _ _).trans (Fr.alloc _ _)
  have c0 := (hW.trans hf).cell h.kind
  have HP := Lib.hid (show Pt W (.pointer (some ⟨b, o, none⟩)) (some f) from .inr ⟨b, o, f, rfl, rfl, h, hb⟩)
  have HX := Lib.hid h1
  have HY := Lib.hid h2
  obtain ⟨p1, rfl⟩ := h1.one
  obtain ⟨p2, rfl⟩ := h2.one
  by_cases h5 : f.kind = 5
  · have ha : aft (x, y) f = (some f, none) := by unfold aft; rw [if_pos h5]
    unfold AftP
    rw [ha]
    rw [h5] at c0
    clear h h1 h2 hW ha h5 hf
    go_enter Try.func32, Try.ntmps32
    go_wp2_with fail
    exact bodyPost_ret (v := .agg #[.pointer (some ⟨b, o, none⟩), .pointer none]) (by simp [results, Try.results32, go_sem]) rfl ⟨_, _, rfl, HP.out, Pt.none _, (Fr.alloc _ _).trans (Fr.alloc _ _)⟩
  have e5 : (f.kind == 5) = false := by simpa using h5
  by_cases h4 : f.kind = 4
  · have ha : aft (x, y) f = (some f, y) := by unfold aft; rw [if_neg h5, if_pos h4]
    unfold AftP
    rw [ha]
    rw [h4] at c0
    clear h h1 h2 hW ha h5 h4 hf e5
    go_enter Try.func32, Try.ntmps32
    go_wp2_with fail
    exact bodyPost_ret (v := .agg #[.pointer (some ⟨b, o, none⟩), .pointer p2]) (by simp [results, Try.results32, go_sem]) rfl ⟨_, _, rfl, HP.out, HY.out, (Fr.alloc _ _).trans (Fr.alloc _ _)⟩
  have e4 : (f.kind == 4) = false := by simpa using h4
  by_cases h6 : f.kind = 6
  · have ha : aft (x, y) f = (x, some f) := by unfold aft; rw [if_neg h5, if_neg h4, if_pos h6]
    unfold AftP
    rw [ha]
    rw [h6] at c0
    clear h h1 h2 hW ha h5 h4 h6 hf e5 e4
    go_enter Try.func32, Try.ntmps32
    go_wp2_with fail
    exact bodyPost_ret (v := .agg #[.pointer p1, .pointer (some ⟨b, o, none⟩)]) (by simp [results, Try.results32, go_sem]) rfl ⟨_, _, rfl, HX.out, HP.out, (Fr.alloc _ _).trans (Fr.alloc _ _)⟩
  have e6 : (f.kind == 6) = false := by simpa using h6
  have ha : aft (x, y) f = (x, y) := by unfold aft; rw [if_neg h5, if_neg h4, if_neg h6]
  unfold AftP
  rw [ha]
  clear h h1 h2 hW ha h5 h4 h6 hf
  go_enter Try.func32, Try.ntmps32
  go_wp2_with fail
  exact bodyPost_ret (v := .agg #[.pointer p1, .pointer p2]) (by simp [results, Try.results32, go_sem]) rfl ⟨_, _, rfl, HX.out, HY.out, (Fr.alloc _ _).trans (Fr.alloc _ _)⟩

/-- The cells of a fact that was written out. -/
def mkC (kind : Int) (name rname : Txt) (kv : Value) (need til : Int) : List Value :=
  [.int .i64 kind, .string (S name), .int .i64 0, .int .i64 0, .int .i64 0,
   .string (S rname), .int .i64 0, .int .i64 0, .int .i64 0, .string (S []), .slice none 0 0, .slice none 0 0, .slice none 0 0, .string (S []),
   .int .i64 0, .string (S []), .slice none 0 0, .string (S []), .int .i64 0, .int .i64 0, .string (S []), .string (S []), .slice none 0 0, .slice none 0 0,
   kv, .int .i64 need, .int .i64 til, .int .i64 0, .int .i64 0]
def mkF (kind : Int) (name rname : Txt) (keys : List Int) (kv : Value) (need til : Int) : Ft := ⟨kind, name, rname, [], keys, need, til, mkC kind name rname kv need til⟩
theorem Sl.one {w : World} {v : Value} {l : List Int} (h : Sl w v l) : v.oneCell' = true := by
  obtain ⟨a, c, rfl⟩ := h.len; rfl
theorem mkF_ok (kind : Int) (name rname : Txt) (keys : List Int) (kv : Value) (need til : Int) (w : World) (h : Sl w kv keys) : FtOk w (mkF kind name rname keys kv need til) where
  len := rfl
  one := by
    have h1 := h.one
    intro v hv
    simp only [mkF, mkC, List.mem_cons, List.not_mem_nil, or_false] at hv
    rcases hv with rfl | rfl | rfl | rfl | rfl | rfl | rfl | rfl | rfl | rfl | rfl | rfl | rfl | rfl | rfl | rfl | rfl | rfl | rfl | rfl | rfl | rfl | rfl | rfl | rfl | rfl | rfl | rfl | rfl <;> first | rfl | exact h1
  c0 := rfl
  c1 := rfl
  c5 := rfl
  c15 := rfl
  c24 := ⟨kv, rfl, h⟩
  c25 := rfl
  c26 := rfl
def relF (n : Txt) : Ft := mkF 0 [] n [] (.slice none 0 0) 0 0
theorem relF_ok (n : Txt) (w : World) : FtOk w (relF n) := mkF_ok _ _ _ _ _ _ _ w (Sl.nil w _ _)
/-! ### right -/
set_option maxRecDepth 100000 in
set_option maxHeartbeats 1000000 in
theorem right_any (b o : Nat) (f : Ft) (w : World) (h : FtAt w b o f) (hb : FB f) :
    Calls Try.prog 36 #[.pointer (some ⟨b, o, none⟩)] w fun e w' => e = .returned (.bool (rgt f)) ∧ Fr w w' := by
  have c0 := h.kind
  have c25 := h.need
  obtain ⟨kv, c24, hkv⟩ := h.keys
  have H1 := Lib.hid fun n => isSet_any kv f.keys (w.drewN n) (hkv.fr (Fr.drewN _ _)) hb.keys
  have hl := hb.keys.len
  obtain ⟨av, ac, rfl⟩ := hkv.len
  by_cases hk : f.kind = 4 ∨ f.kind = 5 ∨ f.kind = 6
  · have hr : rgt f = (isS f.keys && decide (1 ≤ f.need) && decide (f.need ≤ f.keys.length)) := by unfold rgt; rw [if_pos hk]
    rw [hr]
    clear h hb hkv hr
    by_cases h1 : 1 ≤ f.need
    · have d1 : decide (1 ≤ f.need) = true := decide_eq_true h1
      by_cases h2 : f.need ≤ f.keys.length
      · have d2 : decide (f.need ≤ f.keys.length) = true := decide_eq_true h2
        rw [d1, d2]
        generalize isS f.keys = s at *
        cases s
        all_goals
          rcases hk with hk | hk | hk
          all_goals
            rw [hk] at c0
            clear hk
            generalize f.need = nd at *
            generalize f.keys.length = m at *
            clear h1 h2
            go_enter Try.func36, Try.ntmps36
            go_wp2_with fail
            go_quiet ((go_at_call 41; refine Calls.quiet_of_same (H1.out _)))
            go_wp2_with fail
            go_ret
            exact ⟨rfl, Fr.drewN _ _⟩
      · have d2 : decide (f.need ≤ f.keys.length) = false := decide_eq_false h2
        rw [d1, d2]
        generalize isS f.keys = s at *
        cases s
        all_goals
          rcases hk with hk | hk | hk
          all_goals
            rw [hk] at c0
            clear hk
            generalize f.need = nd at *
            generalize f.keys.length = m at *
            clear h1 h2
            go_enter Try.func36, Try.ntmps36
            go_wp2_with fail
            go_quiet ((go_at_call 41; refine Calls.quiet_of_same (H1.out _)))
            go_wp2_with fail
            go_ret
            exact ⟨rfl, Fr.drewN _ _⟩
    · have d1 : decide (1 ≤ f.need) = false := decide_eq_false h1
      rw [d1, Bool.and_false, Bool.false_and]
      generalize isS f.keys = s at *
      cases s
      all_goals
        rcases hk with hk | hk | hk
        all_goals
          rw [hk] at c0
          clear hk
          generalize f.need = nd at *
          generalize f.keys.length = m at *
          clear h1
          go_enter Try.func36, Try.ntmps36
          go_wp2_with fail
          go_quiet ((go_at_call 41; refine Calls.quiet_of_same (H1.out _)))
          go_wp2_with fail
          go_ret
          exact ⟨rfl, Fr.drewN _ _⟩
  · have hr : rgt f = (decide (0 ≤ f.kind) && decide (f.kind < 8)) := by unfold rgt; rw [if_neg hk]
    have e4 : (f.kind == 4) = false := by simp; omega
    have e5 : (f.kind == 5) = false := by simp; omega
    have e6 : (f.kind == 6) = false := by simp; omega
    rw [hr]
    clear h hb hkv hr hk H1 c24 c25
    by_cases h1 : 0 ≤ f.kind
    · have d1 : decide (0 ≤ f.kind) = true := decide_eq_true h1
      rw [d1, Bool.true_and]
      generalize f.kind = k at *
      clear h1
      go_enter Try.func36, Try.ntmps36
      go_wp2_with fail
      go_ret
      exact ⟨rfl, Fr.refl _⟩
    · have d1 : decide (0 ≤ f.kind) = false := decide_eq_false h1
      rw [d1, Bool.false_and]
      generalize f.kind = k at *
      clear h1
      go_enter Try.func36, Try.ntmps36
      go_wp2_with fail
      go_ret
      exact ⟨rfl, Fr.refl _⟩
end Go.Proofs.Ytddeblcoglhdnaa
