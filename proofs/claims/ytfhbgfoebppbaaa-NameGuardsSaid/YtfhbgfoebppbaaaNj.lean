/-
  Drop.
-/
import Derived.Test.YtfhbgfoebppbaaaNi
namespace Go.Proofs.Ytfhbgfoebppbaaa
open Go.RowKit

theorem cells1 (w : World) (a : Value) (t : TypeId) : (w.alloc (.cells #[a] t)).cell? ⟨w.heap.size, 0, none⟩ = some a :=
  cellOf (MapKept.heap_alloc w (.cells #[a] t)).1 (i := 0) rfl
/-- What Drop returns. -/
def DropP (l : List Hd) (s : Txt) (u : Int) (w : World) (e : Ending) (w' : World) : Prop := ∃ v, e = .returned (.tuple #[v, .int .i64 (drE s u)]) ∧ Hl w' v (drp l s u) ∧ Fr w w'
theorem drp_no {l : List Hd} {s : Txt} {u : Int} (h : drE s u ≠ 0) : drp l s u = [] := by unfold drp; rw [if_neg h]
theorem drp_yes {l : List Hd} {s : Txt} {u : Int} (h : drE s u = 0) : drp l s u = upd l s u := by unfold drp; rw [if_pos h]
set_option maxHeartbeats 1000000 in
set_option maxRecDepth 100000 in
theorem drop_any (v : Value) (l : List Hd) (s : Txt) (u : Int) (w : World) (h : Hl w v l) (hl : HOk l) (hm : Mx w) (hs : s.length ≤ 1099511627776) (hu1 : -9223372036854775808 ≤ u) (hu2 : u ≤ 9223372036854775807) :
    Calls Try.prog 13 #[v, .string (S s), .int .i64 u] w (DropP l s u w) := by
  have hf0 := Fr.alloc w (.cells #[.string (S s)] 9)
  have hc0 := cells1 w (.string (S s)) 9
  have k1 := right_any s (w.alloc (.cells #[.string (S s)] 9)) (hm.fr hf0) hs
  have HH := Lib.hid (h.fr hf0)
  have HF0 := Lib.hid hf0
  clear h hm hf0
  by_cases a1 : okN s = false
  · have hd : drE s u = 12 := by unfold drE; rw [if_pos a1]
    have hp := drp_no (l := l) (s := s) (u := u) (by omega)
    rw [a1] at k1
    have K1 := Lib.hid k1
    clear k1
    unfold DropP
    rw [hd, hp]
    go_enter Try.func13, Try.ntmps13
    go_upto_region 1 with fail
    generalize (w.alloc (.cells #[.string (S s)] 9)) = w0 at *
    go_wp2_with (go_at_call 16; refine (K1.out).mono ?_; rintro e w' ⟨rfl, rfl⟩)
    go_ret2
    exact ⟨_, rfl, Hl.nil _ _ _, HF0.out⟩
  have a1' : okN s = true := by simpa using a1
  rw [a1'] at k1
  have K1 := Lib.hid k1
  clear k1
  by_cases a2 : u < 0
  · have hd : drE s u = 1 := by unfold drE; rw [if_neg a1, if_pos (.inl a2)]
    have hp := drp_no (l := l) (s := s) (u := u) (by omega)
    have b2 : decide (u < 0) = true := decide_eq_true a2
    unfold DropP
    rw [hd, hp]
    go_enter Try.func13, Try.ntmps13
    go_upto_region 1 with fail
    generalize (w.alloc (.cells #[.string (S s)] 9)) = w0 at *
    go_wp2_with (go_at_call 16; refine (K1.out).mono ?_; rintro e w' ⟨rfl, rfl⟩)
    go_ret2
    exact ⟨_, rfl, Hl.nil _ _ _, HF0.out⟩
  have b2 : decide (u < 0) = false := decide_eq_false a2
  by_cases a3 : 1073741824 < u
  · have hd : drE s u = 1 := by unfold drE; rw [if_neg a1, if_pos (.inr a3)]
    have hp := drp_no (l := l) (s := s) (u := u) (by omega)
    have b3 : decide (1073741824 < u) = true := decide_eq_true a3
    unfold DropP
    rw [hd, hp]
    go_enter Try.func13, Try.ntmps13
    go_upto_region 1 with fail
    generalize (w.alloc (.cells #[.string (S s)] 9)) = w0 at *
    go_wp2_with (go_at_call 16; refine (K1.out).mono ?_; rintro e w' ⟨rfl, rfl⟩)
    go_ret2
    exact ⟨_, rfl, Hl.nil _ _ _, HF0.out⟩
  have b3 : decide (1073741824 < u) = false := decide_eq_false a3
  have hd : drE s u = 0 := by unfold drE; rw [if_neg a1, if_neg (by omega)]
  have hp := drp_yes (l := l) (s := s) (u := u) hd
  unfold DropP
  rw [hd, hp]
  obtain ⟨i0, hi, hz0, hz1, hz2⟩ := info_parts infoHd
  have HIN := Lib.hid hi
  have hb := hl.len
  clear hd hp hi a2 a3 a1 a1' hl
  go_enter Try.func13, Try.ntmps13
  go_upto_region 1 with fail
  generalize (w.alloc (.cells #[.string (S s)] 9)) = w0 at *
  have HC0 := Lib.hid hc0
  go_wp2_with (go_at_call 16; refine (K1.out).mono ?_; rintro e w' ⟨rfl, rfl⟩)
  go_wp2_with (go_at_call 27; refine (clone_any v l _ HH.out hb).mono ?_; rintro e w1 ⟨v1, rfl, ho1, hf1⟩)
  have HO1 := Lib.hid ho1
  have HF1 := Lib.hid hf1
  obtain ⟨ra, rc, rfl⟩ := row_form ho1
  clear ho1 hf1 hc0
  rcases first_or l s with hx | ⟨k, hk, he, hbk⟩
  · have hup : upd l s u = l ++ [(s, u)] := upd_none u hx
    have HUP := Lib.hid hup
    clear hup
    go_wp2_with (first
      | (go_at_call 28; refine (index_none _ l s _ _ (Hl.own HO1.out rfl) (HF1.out.cell HC0.out) hb hx).mono ?_; rintro e w2 ⟨rfl, hf2⟩; have c2 := hf2.cell (HF1.out.cell HC0.out); have HO2 := Lib.hid (own_fr HO1.out hf2); have HF2 := Lib.hid (HF1.out.trans hf2); clear hf2)
      | (at_builtin; refine wpList_append_own _ rfl (.tmp 26) (.tmp 30) 23 rfl w'.heap.size 43 i0 (.agg #[.string (S []), .int .i64 0]) 2 24 Try.underlying23 HIN.out hz0 hz1 hz2 rfl (by decide) _ _ _ rfl (HO2.out.alloc _) ⟨w2.heap.size, 0, none⟩ 1 1 [.string (S s), .int .i64 u] rfl rfl (World.news_of_block (cs := #[.string (S s), .int .i64 u]) (t := 43) (fr := (0, 0)) (heap_alloc_new w2 _)) (by simp [Value.oneCell']) (by unfold maxLen; omega) (by omega) (by have := HF2.out.size; simp; omega) ?_; intro v3 w3 hown3 hgrow3 _))
    go_ret2
    refine ⟨v3, rfl, ?_, ?_⟩
    · rw [HUP.out]
      refine Hl.own (B := w'.heap.size) (n := l.length + 1) ?_ (by simp)
      rw [hdC_append]
      exact hown3
    · exact HF0.out.trans (Fr.growO (HF2.out.trans (Fr.alloc w2 _)) hgrow3 (fun k hk => (HO2.out.lt k hk).1))
  · have hup : upd l s u = l.set k (l[k].1, max l[k].2 u) := by rw [upd_at u k hk he hbk, he]
    have HUP := Lib.hid hup
    clear hup
    obtain ⟨g, cap, cur, hv, hB, hg, hat⟩ := row_at HO1.out rfl (by omega)
    cases hv
    have HG := Lib.hid hg
    have HAT := Lib.hid hat
    have HBB := Lib.hid hB
    have HC := Lib.hid (hat k hk)
    clear hg hat hB
    have HIX := Lib.hid (fun (w1' : World) h1 h2 => index_some (.slice (some ⟨g, 0, none⟩) l.length rc) l s w.heap.size w1' h1 h2 hb k hk he hbk)
    have hkl : (k : Int) < (l.length : Int) := by omega
    have hk63 : (k : Int) ≤ 1000000 := by omega
    clear he hbk
    obtain ⟨xk, hxk⟩ : ∃ x, x = l[k] := ⟨_, rfl⟩
    rw [← hxk] at HC HUP
    have HXK := Lib.hid hxk
    clear hxk
    obtain ⟨x, q⟩ := xk
    simp only at HC HUP
    have hneg : decide ((k : Int) < 0) = false := decide_eq_false (by omega)
    go_upto_region 9 with (go_at_call 28; refine (HIX.out _ (Hl.own HO1.out rfl) (HF1.out.cell HC0.out)).mono ?_; rintro e w2 ⟨rfl, hf2⟩)
    have c1 := hf2.cell HC.out.2
    have hg2 := hf2.heap HG.out
    have f1 := frozenOf hg2 (0 + k * 2 + 1)
    have HF2 := Lib.hid (HF1.out.trans hf2)
    have HG2 := Lib.hid hg2
    have HAT2 := Lib.hid (HAT.out.fr hf2)
    clear hg2 hf2
    rw [Nat.zero_add] at c1 f1
    go_wp2_with fail
    go_ret2
    have hset := HAt.set HG2.out HAT2.out k hk (max q u)
    rw [← HXK.out] at hset
    refine ⟨_, rfl, ?_, HF0.out.trans (Fr.set HF2.out HBB.out _ _)⟩
    rw [HUP.out]
    refine .inr ⟨g, 0, rc, ?_, hset⟩
    rw [List.length_set]
    rfl
end Go.Proofs.Ytfhbgfoebppbaaa
