/-
  The law's few and small.
-/
import Derived.Test.YtailbappdfbjoaaDoorBj
namespace Go.Proofs.YtailbappdfbjoaaDoor
open Go.RowKit Go.MapKept Go.Maps Go.WideMaps

/-! ### A slice of operations -/
def OAt (w : World) (b o : Nat) (l : List Op3) : Prop := ∀ (i : Nat) (h : i < l.length), w.cell? ⟨b, o + i * 3, none⟩ = some (.int .i64 l[i].1) ∧ w.cell? ⟨b, o + i * 3 + 1, none⟩ = some (.int .i64 l[i].2.1) ∧ w.cell? ⟨b, o + i * 3 + 2, none⟩ = some (.string (S l[i].2.2))
theorem OAt.fr {w w' : World} {b o : Nat} {l : List Op3} (h : OAt w b o l) (hf : Fr w w') : OAt w' b o l := fun i hi => ⟨hf.cell (h i hi).1, hf.cell (h i hi).2.1, hf.cell (h i hi).2.2⟩
def OSl (w : World) (v : Value) (l : List Op3) : Prop := (l = [] ∧ ∃ a c, v = .slice a 0 c) ∨ ∃ b o c, v = .slice (some ⟨b, o, none⟩) l.length c ∧ OAt w b o l
theorem OSl.fr {w w' : World} {v : Value} {l : List Op3} (h : OSl w v l) (hf : Fr w w') : OSl w' v l := by
  rcases h with h | ⟨b, o, c, hv, hc⟩
  · exact .inl h
  · exact .inr ⟨b, o, c, hv, hc.fr hf⟩
theorem OSl.len {w : World} {v : Value} {l : List Op3} (h : OSl w v l) : ∃ a c, v = .slice a l.length c := by
  rcases h with ⟨rfl, a, c, rfl⟩ | ⟨b, o, c, rfl, _⟩
  · exact ⟨a, c, rfl⟩
  · exact ⟨_, _, rfl⟩
theorem OSl.get {w : World} {v : Value} {l : List Op3} (h : OSl w v l) (h0 : 0 < l.length) : ∃ b o c, v = .slice (some ⟨b, o, none⟩) l.length c ∧ OAt w b o l := by
  rcases h with ⟨rfl, _⟩ | h
  · exact absurd h0 (by decide)
  · exact h
/-- What is known of the arguments. -/
def OArg (l : List Op3) : Prop := l.length ≤ 9223372036854775807 ∧ ∀ o ∈ l, o.ok
def FewO (l : List Op3) : Prop := l.length ≤ 25 ∧ ∀ o ∈ l, o.2.2.length ≤ 300
instance (l : List Op3) : Decidable (FewO l) := by unfold FewO; exact inferInstance
set_option maxRecDepth 100000 in
theorem fewO_at (b o c : Nat) (l : List Op3) (w : World) (hc : OAt w b o l) (hn : l.length ≤ 9223372036854775807) (hs : ∀ e ∈ l, e.2.2.length ≤ 9223372036854775807) :
    Calls Tryd.prog 8 #[.slice (some ⟨b, o, none⟩) l.length c] w fun e w' => e = .returned (.bool (decide (FewO l))) ∧ w' = w := by
  have HC := Lib.hid hc
  have HS := Lib.hid hs
  clear hc hs
  go_enter Tryd.func8, Tryd.ntmps8
  go_wp2_with fail
  go_loopw [3] (fun i wr => ∃ k : Nat, k ≤ l.length ∧ k ≤ 26 ∧ i = .int .i64 k ∧ wr = w ∧ Hid (∀ (j : Nat) (h : j < k) (h' : j < l.length), l[j].2.2.length ≤ 300)) (fun i _ => l.length - (intOf i).toNat)
  case atStart => exact ⟨0, Nat.zero_le _, by omega, rfl, rfl, Lib.hid (fun j h => by omega)⟩
  case round =>
    obtain ⟨k, hk, hk2, rfl, rfl, hA⟩ := hrel
    by_cases hlt : k < l.length
    · by_cases h41 : k < 26
      · have c1 := (HC.out k hlt).2.2
        have hsl := HS.out _ (List.getElem_mem hlt)
        by_cases hb : l[k].2.2.length ≤ 300
        · have HA := Lib.hid (show ∀ (j : Nat) (h : j < k + 1) (h' : j < l.length), l[j].2.2.length ≤ 300 from fun j h h' => by
            rcases Nat.lt_or_ge j k with hj | hj
            · exact hA.out j hj h'
            · obtain rfl : j = k := by omega
              exact hb)
          clear hA
          generalize l[k].2.2 = x at *
          go_wp2_with fail
          go_roundw
          case rel => exact ⟨k + 1, by omega, by omega, by go_num, trivial, HA⟩
          case measure => simp [intOf]; omega
        · have HD := Lib.hid (show decide (FewO l) = false from decide_eq_false (fun h => hb (h.2 _ (List.getElem_mem hlt))))
          clear hA
          generalize l[k].2.2 = x at *
          go_wp2_with fail
          go_ret
          exact ⟨by rw [HD.out]; rfl, rfl⟩
      · have HD := Lib.hid (show decide (FewO l) = false from decide_eq_false (fun h => by have := h.1; omega))
        clear hA
        go_wp2_with fail
        go_ret
        refine ⟨?_, rfl⟩
        rw [HD.out]
        have : ¬ ((l.length : Int) ≤ 25) := by omega
        simp [this]
    · have HD := Lib.hid (show decide (FewO l) = decide ((l.length : Int) ≤ 25) by
        rw [Bool.eq_iff_iff]
        simp only [decide_eq_true_eq]
        constructor
        · intro h; have := h.1; omega
        · intro h
          refine ⟨by omega, fun s hs => ?_⟩
          obtain ⟨j, hj, rfl⟩ := List.getElem_of_mem hs
          exact hA.out j (by omega) hj)
      clear hA
      go_wp2_with fail
      go_ret
      exact ⟨by rw [HD.out]; rfl, rfl⟩
set_option maxRecDepth 100000 in
theorem fewO_nil (a : Option Addr) (c : Nat) (w : World) :
    Calls Tryd.prog 8 #[.slice a 0 c] w fun e w' => e = .returned (.bool true) ∧ w' = w := by
  go_enter Tryd.func8, Tryd.ntmps8
  go_wp2_with fail
  go_loopw [3] (fun i wr => i = .int .i64 0 ∧ wr = w) (fun _ _ => 0)
  case atStart => exact ⟨rfl, rfl⟩
  case round =>
    obtain ⟨rfl, rfl⟩ := hrel
    go_wp2_with fail
    go_ret
    exact ⟨rfl, rfl⟩
theorem fewO_any {v : Value} {l : List Op3} (w : World) (h : OSl w v l) (ha : OArg l) :
    Calls Tryd.prog 8 #[v] w fun e w' => e = .returned (.bool (decide (FewO l))) ∧ w' = w := by
  rcases h with ⟨rfl, a, c, rfl⟩ | ⟨b, o, c, rfl, hc⟩
  · exact fewO_nil a c w
  · exact fewO_at b o c l w hc ha.1 fun e he => (ha.2 e he).2.2
theorem fewO_yes {v : Value} {l : List Op3} (w : World) (h : OSl w v l) (ha : OArg l) (hf : FewO l) :
    Calls Tryd.prog 8 #[v] w fun e w' => e = .returned (.bool true) ∧ w' = w :=
  (fewO_any w h ha).mono fun _ _ ⟨he, hw⟩ => ⟨by rw [he, decide_eq_true hf], hw⟩
theorem fewO_no {v : Value} {l : List Op3} (w : World) (h : OSl w v l) (ha : OArg l) (hf : ¬ FewO l) :
    Calls Tryd.prog 8 #[v] w fun e w' => e = .returned (.bool false) ∧ w' = w :=
  (fewO_any w h ha).mono fun _ _ ⟨he, hw⟩ => ⟨by rw [he, decide_eq_false hf], hw⟩

/-! ### Signing again, and what holds -/
theorem signL_old {q : List Sd} {e : Sd} (h : e ∈ q) : signL q e = q := by
  unfold signL
  split
  · exact addL_old h
  · rfl
theorem signL_mem {q : List Sd} {e : Sd} (h : IsKey e.1) : e ∈ signL q e := by
  unfold signL; rw [if_pos h]
  exact mem_addL.2 (.inr rfl)
theorem signL_cut (q : List Sd) (e : Sd) : ∃ m, signL q e = q ++ m := by
  unfold signL
  split
  · exact addL_cut q e
  · exact ⟨[], by simp⟩
theorem signR_again {q : List Sd} {e : Sd} (m : List Sd) : signR (signL q e ++ m) e = signR q e := by
  unfold signR
  by_cases h : IsKey e.1
  · rw [if_pos h, if_pos h]
    have h1 : pm 0 (signL q e) e = some (addN q e) := by
      unfold signL; rw [if_pos h]; exact addN_spec q e
    have h2 : pm 0 (signL q e ++ m) e = some (addN q e) := by rw [pm_pre (signL_mem h)]; exact h1
    rw [addN_old h2]
  · rw [if_neg h, if_neg h]
theorem holds_sign {q : List Sd} {e : Sd} (h : IsKey e.1) (m : List Sd) : holds (signL q e ++ m) (signR q e) = true := by
  unfold holds signR
  rw [if_pos h]
  refine decide_eq_true ⟨Int.natCast_nonneg _, ?_⟩
  have h1 : (signL q e)[addN q e]? = some e := by unfold signL; rw [if_pos h]; exact addN_get q e
  simp only [Int.toNat_natCast]
  rw [List.getElem?_append_left (List.getElem?_eq_some_iff.1 h1).1, h1]

/-! ### small -/
theorem tk (x : UInt8) : Wm.textE.f [x] = [49, 58, x, 44] := by
  rw [Wm.textE_f, show (([x] : Txt).length : Int) = ((1 : Nat) : Int) from rfl, Lib.itoa_nonneg, Lib.decDigits, dif_pos (by omega)]
  rfl
theorem ktk (x : UInt8) (r : Txt) : key ([49, 58, x, 44] ++ r) = some [x] := by
  rw [← tk x]
  exact key_eq r (show ([x] : Txt).length ≤ 9223372036854775807 by simp)
def eK : Txt := [49, 58, 107, 44, 118]
def eJ : Txt := [49, 58, 106, 44]
theorem key_eK : key eK = some [107] := ktk 107 [118]
theorem key_eJ : key eJ = some [106] := ktk 106 []
def s0 : BS := ⟨3, [], 0, -1⟩
def s1 : BS := ⟨3, [eK], 0, -1⟩
def s2 : BS := ⟨3, [eK], 1, 5⟩
def s3 : BS := ⟨3, [eK, eJ], 1, 5⟩
def s4 : BS := ⟨3, [eK, eJ], 2, 6⟩
theorem ap_1 : apS s0 eK = s1 ∧ apN s0 eK = 0 ∧ apE eK = 0 := ap_yes (s := s0) key_eK (by decide)
theorem ap_2 : apS s2 eJ = s3 ∧ apN s2 eJ = 1 ∧ apE eJ = 0 := ap_yes (s := s2) key_eJ (by decide)
theorem ks_1 : pm 0 (ks s1.es) [107] = some 0 := by
  show pm 0 [keyT eK] [107] = some 0
  rw [keyT_of key_eK]; rfl
theorem ab_1 : abE s1 [107] 0 = 0 ∧ abO s1 [107] 0 = some (3, textR ⟨2, 0, 0, [107]⟩) := ab_later (s := s1) (by decide) ks_1 (by decide)
theorem ab_2 : abE s1 [107] 1 = 5 ∧ abO s1 [107] 1 = none := ab_there (s := s1) (by decide) ks_1 (by decide)
theorem hd_1 : hdE s1 5 = 0 ∧ hdO s1 5 = some (3, textR ⟨1, 1, 5, []⟩) ∧ hdS s1 5 = s2 := hd_ok (s := s1) (by decide) (by decide)
theorem hd_2 : hdE s2 5 = 0 ∧ hdO s2 5 = some (3, textR ⟨1, 1, 5, []⟩) ∧ hdS s2 5 = s2 := hd_ok (s := s2) (by decide) (by decide)
theorem hd_3 : hdE s3 5 = 7 ∧ hdO s3 5 = none ∧ hdS s3 5 = s3 := hd_state (s := s3) (by decide) (by decide)
theorem hd_4 : hdE s3 6 = 0 ∧ hdO s3 6 = some (3, textR ⟨1, 2, 6, []⟩) ∧ hdS s3 6 = s4 := hd_ok (s := s3) (by decide) (by decide)
theorem ok_1 : s1.ok ∧ s2.ok ∧ s3.ok := by
  refine ⟨⟨by decide, ?_⟩, ⟨by decide, ?_⟩, ⟨by decide, ?_⟩⟩ <;> decide
end Go.Proofs.YtailbappdfbjoaaDoor
