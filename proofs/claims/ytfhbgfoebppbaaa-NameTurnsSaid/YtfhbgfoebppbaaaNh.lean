/-
  Held, slices.Contains, Free.
-/
import Derived.Test.YtfhbgfoebppbaaaNg
namespace Go.Proofs.Ytfhbgfoebppbaaa
open Go.RowKit

theorem hld_drop {l : List Hd} {k : Nat} (hk : k < l.length) (s : Txt) (now : Int) : hld (l.drop k) s now = ((decide (now < l[k].2) && cf l[k].1 s) || hld (l.drop (k + 1)) s now) := by
  rw [List.drop_eq_getElem_cons hk]
  unfold hld
  rw [List.any_cons]
theorem cells2 (w : World) (a b : Value) (t : TypeId) : (w.alloc (.cells #[a, b] t)).cell? ⟨w.heap.size, 0, none⟩ = some a ∧ (w.alloc (.cells #[a, b] t)).cell? ⟨w.heap.size, 1, none⟩ = some b := by
  have h := (MapKept.heap_alloc w (.cells #[a, b] t)).1
  exact ⟨cellOf h (i := 0) rfl, cellOf h (i := 1) rfl⟩
set_option maxRecDepth 100000 in
set_option maxHeartbeats 1000000 in
theorem held_at (b o c : Nat) (l : List Hd) (s : Txt) (now : Int) (w : World) (h : HAt w b o l) (hl : HOk l) (hs : s.length ≤ 1099511627776) :
    Calls Try.prog 22 #[.slice (some ⟨b, o, none⟩) l.length c, .string (S s), .int .i64 now] w fun e w' => e = .returned (.bool (hld l s now)) ∧ Fr w w' := by
  have H := Lib.hid h
  have HL := Lib.hid hl
  have hb := hl.len
  clear h hl
  go_enter Try.func22, Try.ntmps22
  go_wp2_with (go_at_call 18; refine (skel_any s _ hs).mono ?_; rintro e w1 ⟨rfl, hf1⟩; have HF := Lib.hid hf1; clear hf1)
  go_loopw [14, 9] (fun n _ wr => ∃ k : Nat, k ≤ l.length ∧ n = .int .i64 k ∧ Hid (hld l s now = hld (l.drop k) s now) ∧ Hid (Fr w wr)) (fun n _ _ => l.length - (intOf n).toNat)
  case atStart => exact ⟨0, Nat.zero_le _, rfl, Lib.hid rfl, HF⟩
  case round =>
    obtain ⟨k, hk, rfl, hE, hF⟩ := hrel
    by_cases hlt : k < l.length
    · have c1 := hF.out.cell (H.out k hlt).1
      have c2 := hF.out.cell (H.out k hlt).2
      have hx := HL.out.mem _ (List.getElem_mem hlt)
      have hd := hld_drop hlt s now
      unfold cf at hd
      have HD := Lib.hid (hE.out.trans hd)
      clear hE hd
      generalize l[k] = x at *
      obtain ⟨x, u⟩ := x
      simp only at c1 c2 hx HD
      have hA := Fr.alloc wr (.cells #[.string (S x), .int .i64 u] 43)
      have HA := Lib.hid (hF.out.trans hA)
      obtain ⟨d0, d1⟩ := cells2 wr (.string (S x)) (.int .i64 u) 43
      clear hA
      by_cases hn : now < u
      · have hn' : decide (now < u) = true := decide_eq_true hn
        by_cases hc : sk x = sk s
        · have hres : hld l s now = true := by have := HD.out; rw [decide_eq_true hc, hn'] at this; simpa using this
          have HR := Lib.hid hres
          have hcall := fun w => has_any x (sk s) w hx
          rw [decide_eq_true hc] at hcall
          have HC := Lib.hid hcall
          clear HD hres hcall hc hn
          go_wp2_with (go_at_call 26; refine (HC.out _).mono ?_; rintro e w2 ⟨rfl, rfl⟩)
          go_ret
          rw [HR.out]
          exact ⟨rfl, HA.out⟩
        · have hres : hld l s now = hld (l.drop (k + 1)) s now := by have := HD.out; rw [decide_eq_false hc] at this; simpa using this
          have HR := Lib.hid hres
          have hcall := fun w => has_any x (sk s) w hx
          rw [decide_eq_false hc] at hcall
          have HC := Lib.hid hcall
          clear HD hres hcall hc hn
          go_wp2_with (go_at_call 26; refine (HC.out _).mono ?_; rintro e w2 ⟨rfl, rfl⟩)
          go_roundw
          case rel => exact ⟨k + 1, by omega, by go_num, HR, HA⟩
          case measure => simp [intOf]; omega
      · have hn' : decide (now < u) = false := decide_eq_false hn
        have hres : hld l s now = hld (l.drop (k + 1)) s now := by have := HD.out; rw [hn'] at this; simpa using this
        have HR := Lib.hid hres
        clear HD hres hn
        go_wp2_with fail
        go_roundw
        case rel => exact ⟨k + 1, by omega, by go_num, HR, HA⟩
        case measure => simp [intOf]; omega
    · have hkl : k = l.length := by omega
      have hres : hld l s now = false := by have := hE.out; rw [hkl, List.drop_length] at this; exact this
      have HR := Lib.hid hres
      clear hE hres
      go_wp2_with fail
      go_ret
      rw [HR.out]
      exact ⟨rfl, hF.out⟩
set_option maxRecDepth 100000 in
theorem held_nil (a : Option Addr) (c : Nat) (s : Txt) (now : Int) (w : World) (hs : s.length ≤ 1099511627776) :
    Calls Try.prog 22 #[.slice a 0 c, .string (S s), .int .i64 now] w fun e w' => e = .returned (.bool (hld [] s now)) ∧ Fr w w' := by
  go_enter Try.func22, Try.ntmps22
  go_wp2_with (go_at_call 18; refine (skel_any s _ hs).mono ?_; rintro e w1 ⟨rfl, hf1⟩; have HF := Lib.hid hf1; clear hf1)
  go_loopw [14, 9] (fun n _ wr => n = .int .i64 0 ∧ wr = w1) (fun _ _ _ => 0)
  case atStart => exact ⟨rfl, rfl⟩
  case round =>
    obtain ⟨rfl, rfl⟩ := hrel
    go_wp2_with fail
    go_ret
    exact ⟨rfl, HF.out⟩
theorem held_any (v : Value) (l : List Hd) (s : Txt) (now : Int) (w : World) (h : Hl w v l) (hl : HOk l) (hs : s.length ≤ 1099511627776) :
    Calls Try.prog 22 #[v, .string (S s), .int .i64 now] w fun e w' => e = .returned (.bool (hld l s now)) ∧ Fr w w' := by
  rcases h with ⟨rfl, a, c, rfl⟩ | ⟨b, o, c, rfl, hc⟩
  · exact held_nil a c s now w hs
  · exact held_at b o c l s now w hc hl hs

theorem contains_any (v : Value) (l : List Txt) (s : Txt) (w : World) (h : Sl w v l) (hl : Ok l) :
    Calls Try.prog 38 #[v, .string (S s)] w fun e w' => e = .returned (.bool (decide (s ∈ l))) ∧ w' = w := by
  rcases h.cases with ⟨rfl, a, c, rfl⟩ | ⟨b, o, c, rfl, hc⟩
  · refine (Try.slices_Contains_string_empty a c (S s) w).mono ?_
    rintro e w' ⟨rfl, rfl⟩
    exact ⟨rfl, rfl⟩
  · have hlen := hl.len
    refine (Try.slices_Contains_string b o l.length c (l.map S) (S s) w (by simp) (by omega) (fun j hj => ?_)).mono ?_
    · have hj' : j < l.length := by simpa using hj
      rw [hc j hj']
      simp [List.getD, hj']
    · rintro e w' ⟨rfl, rfl⟩
      refine ⟨?_, rfl⟩
      have e1 : List.take l.length (l.map S) = l.map S := by rw [List.take_of_length_le]; simp
      rw [e1]
      congr 2
      rw [Bool.eq_iff_iff, Lib.containsS_iff, decide_eq_true_eq, List.mem_map]
      exact ⟨fun ⟨t, ht, he⟩ => by rw [← S_inj he]; exact ht, fun h => ⟨s, h, rfl⟩⟩

set_option maxRecDepth 100000 in
set_option maxHeartbeats 1000000 in
theorem free_any (v hv : Value) (l : List Txt) (h : List Hd) (s : Txt) (now : Int) (w : World) (hS : Sl w v l) (hl : Ok l) (hH : Hl w hv h) (hh : HOk h) (hm : Mx w) (hs : s.length ≤ 1099511627776) :
    Calls Try.prog 24 #[v, hv, .string (S s), .int .i64 now] w fun e w' => e = .returned (.int .i64 (fre l h s now)) ∧ Fr w w' := by
  have k1 := fun w hm => right_any s w hm hs
  have k2 := fun w hS => contains_any v l s w hS hl
  have k3 := fun w hS => guard_any v l s w hS hl hs
  have k4 := fun w hH => held_any hv h s now w hH hh hs
  have HM := Lib.hid hm
  have HS := Lib.hid hS
  have HH := Lib.hid hH
  clear hm hS hH
  by_cases a1 : okN s = false
  · have hf : fre l h s now = 12 := by unfold fre; rw [if_pos a1]
    rw [a1] at k1
    have K1 := Lib.hid k1
    clear k1 k2 k3 k4
    go_enter Try.func24, Try.ntmps24
    go_wp2_with (go_at_call 16; refine (K1.out _ HM.out).mono ?_; rintro e w' ⟨rfl, rfl⟩)
    go_ret
    rw [hf]
    exact ⟨rfl, Fr.refl _⟩
  have a1' : okN s = true := by simpa using a1
  rw [a1'] at k1
  have K1 := Lib.hid k1
  by_cases a2 : s ∈ l
  · have hf : fre l h s now = 5 := by unfold fre; rw [if_neg a1, if_pos a2]
    rw [decide_eq_true a2] at k2
    have K2 := Lib.hid k2
    clear k1 k2 k3 k4
    go_enter Try.func24, Try.ntmps24
    go_wp2_with (first | (go_at_call 16; refine (K1.out _ HM.out).mono ?_; rintro e w' ⟨rfl, rfl⟩) | (go_at_call 38; refine (K2.out _ HS.out).mono ?_; rintro e w' ⟨rfl, rfl⟩))
    go_ret
    rw [hf]
    exact ⟨rfl, Fr.refl _⟩
  rw [decide_eq_false a2] at k2
  have K2 := Lib.hid k2
  have K3 := Lib.hid k3
  unfold gdV at k3
  generalize hg : gd l s = g at *
  cases g with
  | some t =>
    have hf : fre l h s now = 27 := by unfold fre; rw [if_neg a1, if_neg a2, hg]; rfl
    have K3 := Lib.hid k3
    clear k1 k2 k3 k4
    go_enter Try.func24, Try.ntmps24
    go_wp2_with (first | (go_at_call 16; refine (K1.out _ HM.out).mono ?_; rintro e w' ⟨rfl, rfl⟩) | (go_at_call 38; refine (K2.out _ HS.out).mono ?_; rintro e w' ⟨rfl, rfl⟩) | (go_at_call 11; refine (K3.out _ HS.out).mono ?_; rintro e w2 ⟨rfl, hf2⟩))
    go_ret
    rw [hf]
    exact ⟨rfl, hf2⟩
  | none =>
    have K3 := Lib.hid k3
    have hg2 : (gd l s).isSome = false := by rw [hg]; rfl
    cases hb : hld h s now with
    | true =>
      have hf : fre l h s now = 31 := by unfold fre; rw [if_neg a1, if_neg a2, hg2, hb]; rfl
      rw [hb] at k4
      have K4 := Lib.hid k4
      clear k1 k2 k3 k4
      go_enter Try.func24, Try.ntmps24
      go_wp2_with (first | (go_at_call 16; refine (K1.out _ HM.out).mono ?_; rintro e w' ⟨rfl, rfl⟩) | (go_at_call 38; refine (K2.out _ HS.out).mono ?_; rintro e w' ⟨rfl, rfl⟩) | (go_at_call 11; refine (K3.out _ HS.out).mono ?_; rintro e w2 ⟨rfl, hf2⟩) | (go_at_call 22; refine (K4.out _ (HH.out.fr hf2)).mono ?_; rintro e w3 ⟨rfl, hf3⟩))
      go_ret
      rw [hf]
      exact ⟨rfl, hf2.trans hf3⟩
    | false =>
      have hf : fre l h s now = 0 := by unfold fre; rw [if_neg a1, if_neg a2, hg2, hb]; rfl
      rw [hb] at k4
      have K4 := Lib.hid k4
      clear k1 k2 k3 k4
      go_enter Try.func24, Try.ntmps24
      go_wp2_with (first | (go_at_call 16; refine (K1.out _ HM.out).mono ?_; rintro e w' ⟨rfl, rfl⟩) | (go_at_call 38; refine (K2.out _ HS.out).mono ?_; rintro e w' ⟨rfl, rfl⟩) | (go_at_call 11; refine (K3.out _ HS.out).mono ?_; rintro e w2 ⟨rfl, hf2⟩) | (go_at_call 22; refine (K4.out _ (HH.out.fr hf2)).mono ?_; rintro e w3 ⟨rfl, hf3⟩))
      go_ret
      rw [hf]
      exact ⟨rfl, hf2.trans hf3⟩
end Go.Proofs.Ytfhbgfoebppbaaa
