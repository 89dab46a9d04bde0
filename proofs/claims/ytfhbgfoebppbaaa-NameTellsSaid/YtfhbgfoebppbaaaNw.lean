/-
  The reference: Guard, Held, Free.
-/
import Derived.Test.YtfhbgfoebppbaaaNv
namespace Go.Proofs.Ytfhbgfoebppbaaa
open Go.RowKit

set_option maxRecDepth 100000 in
set_option maxHeartbeats 1000000 in
theorem rguard_at (b o c : Nat) (l : List Txt) (s : Txt) (w : World) (h : At w b o l) (hl : Ok l) (hs : s.length ≤ 1099511627776) :
    Calls Try.prog 12 #[.slice (some ⟨b, o, none⟩) l.length c, .string (S s)] w fun e w' => e = .returned (gdV (gd l s)) ∧ w' = w := by
  have H := Lib.hid h
  have HL := Lib.hid hl
  have hb := hl.len
  clear h hl
  go_enter Try.func12, Try.ntmps12
  go_wp2_with (go_at_call 19; refine (rskel_any s _ hs).mono ?_; rintro e w1 ⟨rfl, rfl⟩)
  go_loopw [7] (fun n wr => ∃ k : Nat, k ≤ l.length ∧ n = .int .i64 k ∧ Hid (gd l s = gd (l.drop k) s) ∧ wr = w1) (fun n _ => l.length - (intOf n).toNat)
  case atStart => exact ⟨0, Nat.zero_le _, rfl, Lib.hid rfl, rfl⟩
  case round =>
    obtain ⟨k, hk, rfl, hE, rfl⟩ := hrel
    by_cases hlt : k < l.length
    · have c1 := H.out k hlt
      have hx := HL.out.mem _ (List.getElem_mem hlt)
      have hd := gd_drop hlt s
      unfold cf at hd
      have HD := Lib.hid (hE.out.trans hd)
      clear hE hd
      generalize l[k] = x at *
      have HC := Lib.hid (fun w => rskel_any x w hx)
      by_cases hc : sk x = sk s
      · have hres : gd l s = some x := by have := HD.out; rwa [decide_eq_true hc] at this
        have HR := Lib.hid hres
        have e1 : (sk x == sk s) = true := by simpa using hc
        clear HD hres hc
        go_wp2_with (go_at_call 19; refine (HC.out _).mono ?_; rintro e w2 ⟨rfl, rfl⟩)
        go_ret2
        rw [HR.out]
        exact ⟨rfl, rfl⟩
      · have hres : gd l s = gd (l.drop (k + 1)) s := by have := HD.out; rwa [decide_eq_false hc] at this
        have HR := Lib.hid hres
        have e1 : (sk x == sk s) = false := by simpa using hc
        clear HD hres hc
        go_wp2_with (go_at_call 19; refine (HC.out _).mono ?_; rintro e w2 ⟨rfl, rfl⟩)
        go_roundw
        case rel => exact ⟨k + 1, by omega, by go_num, HR, trivial⟩
        case measure => simp [intOf]; omega
    · have hkl : k = l.length := by omega
      have hres : gd l s = none := by have := hE.out; rw [hkl, List.drop_length] at this; exact this
      have HR := Lib.hid hres
      clear hE hres
      go_wp2_with fail
      go_ret2
      rw [HR.out]
      exact ⟨rfl, rfl⟩
set_option maxRecDepth 100000 in
theorem rguard_nil (a : Option Addr) (c : Nat) (s : Txt) (w : World) (hs : s.length ≤ 1099511627776) :
    Calls Try.prog 12 #[.slice a 0 c, .string (S s)] w fun e w' => e = .returned (gdV (gd [] s)) ∧ w' = w := by
  go_enter Try.func12, Try.ntmps12
  go_wp2_with (go_at_call 19; refine (rskel_any s _ hs).mono ?_; rintro e w1 ⟨rfl, rfl⟩)
  go_loopw [7] (fun n wr => n = .int .i64 0 ∧ wr = w1) (fun _ _ => 0)
  case atStart => exact ⟨rfl, rfl⟩
  case round =>
    obtain ⟨rfl, rfl⟩ := hrel
    go_wp2_with fail
    go_ret2
    exact ⟨rfl, rfl⟩
theorem rguard_any (v : Value) (l : List Txt) (s : Txt) (w : World) (h : Sl w v l) (hl : Ok l) (hs : s.length ≤ 1099511627776) :
    Calls Try.prog 12 #[v, .string (S s)] w fun e w' => e = .returned (gdV (gd l s)) ∧ w' = w := by
  rcases h.cases with ⟨rfl, a, c, rfl⟩ | ⟨b, o, c, rfl, hc⟩
  · exact rguard_nil a c s w hs
  · exact rguard_at b o c l s w hc hl hs

set_option maxRecDepth 100000 in
set_option maxHeartbeats 1000000 in
theorem rheld_at (b o c : Nat) (l : List Hd) (s : Txt) (now : Int) (w : World) (h : HAt w b o l) (hl : HOk l) (hs : s.length ≤ 1099511627776) :
    Calls Try.prog 23 #[.slice (some ⟨b, o, none⟩) l.length c, .string (S s), .int .i64 now] w fun e w' => e = .returned (.bool (hld l s now)) ∧ w' = w := by
  have H := Lib.hid h
  have HL := Lib.hid hl
  have hb := hl.len
  clear h hl
  go_enter Try.func23, Try.ntmps23
  go_wp2_with (go_at_call 19; refine (rskel_any s _ hs).mono ?_; rintro e w1 ⟨rfl, rfl⟩)
  go_loopw [8] (fun n wr => ∃ k : Nat, k ≤ l.length ∧ n = .int .i64 k ∧ Hid (hld l s now = hld (l.drop k) s now) ∧ wr = w1) (fun n _ => l.length - (intOf n).toNat)
  case atStart => exact ⟨0, Nat.zero_le _, rfl, Lib.hid rfl, rfl⟩
  case round =>
    obtain ⟨k, hk, rfl, hE, rfl⟩ := hrel
    by_cases hlt : k < l.length
    · have c1 := (H.out k hlt).1
      have c2 := (H.out k hlt).2
      have hx := HL.out.mem _ (List.getElem_mem hlt)
      have hd := hld_drop hlt s now
      unfold cf at hd
      have HD := Lib.hid (hE.out.trans hd)
      clear hE hd
      generalize l[k] = x at *
      obtain ⟨x, u⟩ := x
      simp only at c1 c2 hx HD
      have HC := Lib.hid (fun w => rskel_any x w hx)
      by_cases hn : now < u
      · have hn' : decide (now < u) = true := decide_eq_true hn
        by_cases hc : sk x = sk s
        · have hres : hld l s now = true := by have := HD.out; rw [decide_eq_true hc, hn'] at this; simpa using this
          have HR := Lib.hid hres
          have e1 : (sk x == sk s) = true := by simpa using hc
          clear HD hres hc hn
          go_wp2_with (go_at_call 19; refine (HC.out _).mono ?_; rintro e w2 ⟨rfl, rfl⟩)
          go_ret
          rw [HR.out]
          exact ⟨rfl, rfl⟩
        · have hres : hld l s now = hld (l.drop (k + 1)) s now := by have := HD.out; rw [decide_eq_false hc] at this; simpa using this
          have HR := Lib.hid hres
          have e1 : (sk x == sk s) = false := by simpa using hc
          clear HD hres hc hn
          go_wp2_with (go_at_call 19; refine (HC.out _).mono ?_; rintro e w2 ⟨rfl, rfl⟩)
          go_roundw
          case rel => exact ⟨k + 1, by omega, by go_num, HR, trivial⟩
          case measure => simp [intOf]; omega
      · have hn' : decide (now < u) = false := decide_eq_false hn
        have hres : hld l s now = hld (l.drop (k + 1)) s now := by have := HD.out; rw [hn'] at this; simpa using this
        have HR := Lib.hid hres
        clear HD hres hn
        go_wp2_with fail
        go_roundw
        case rel => exact ⟨k + 1, by omega, by go_num, HR, trivial⟩
        case measure => simp [intOf]; omega
    · have hkl : k = l.length := by omega
      have hres : hld l s now = false := by have := hE.out; rw [hkl, List.drop_length] at this; exact this
      have HR := Lib.hid hres
      clear hE hres
      go_wp2_with fail
      go_ret
      rw [HR.out]
      exact ⟨rfl, rfl⟩
set_option maxRecDepth 100000 in
theorem rheld_nil (a : Option Addr) (c : Nat) (s : Txt) (now : Int) (w : World) (hs : s.length ≤ 1099511627776) :
    Calls Try.prog 23 #[.slice a 0 c, .string (S s), .int .i64 now] w fun e w' => e = .returned (.bool (hld [] s now)) ∧ w' = w := by
  go_enter Try.func23, Try.ntmps23
  go_wp2_with (go_at_call 19; refine (rskel_any s _ hs).mono ?_; rintro e w1 ⟨rfl, rfl⟩)
  go_loopw [8] (fun n wr => n = .int .i64 0 ∧ wr = w1) (fun _ _ => 0)
  case atStart => exact ⟨rfl, rfl⟩
  case round =>
    obtain ⟨rfl, rfl⟩ := hrel
    go_wp2_with fail
    go_ret
    exact ⟨rfl, rfl⟩
theorem rheld_any (v : Value) (l : List Hd) (s : Txt) (now : Int) (w : World) (h : Hl w v l) (hl : HOk l) (hs : s.length ≤ 1099511627776) :
    Calls Try.prog 23 #[v, .string (S s), .int .i64 now] w fun e w' => e = .returned (.bool (hld l s now)) ∧ w' = w := by
  rcases h with ⟨rfl, a, c, rfl⟩ | ⟨b, o, c, rfl, hc⟩
  · exact rheld_nil a c s now w hs
  · exact rheld_at b o c l s now w hc hl hs

set_option maxRecDepth 100000 in
set_option maxHeartbeats 4000000 in
theorem rfree_any (v hv : Value) (l : List Txt) (h : List Hd) (s : Txt) (now : Int) (w : World) (hS : Sl w v l) (hl : Ok l) (hH : Hl w hv h) (hh : HOk h) (hs : s.length ≤ 1099511627776) :
    Calls Try.prog 25 #[v, hv, .string (S s), .int .i64 now] w fun e w' => e = .returned (.int .i64 (fre l h s now)) ∧ w' = w := by
  have k1 := rright_any s w hs
  have k3 := rguard_any v l s w hS hl hs
  have k4 := rheld_any hv h s now w hH hh hs
  have HS := Lib.hid hS
  have hlen := hl.len
  obtain ⟨va, vc, hvv⟩ := hS.len
  clear hS hH hl hh
  subst hvv
  by_cases a1 : okN s = false
  · have hf : fre l h s now = 12 := by unfold fre; rw [if_pos a1]
    rw [a1] at k1
    have K1 := Lib.hid k1
    clear k1 k3 k4
    go_enter Try.func25, Try.ntmps25
    go_wp2_with (go_at_call 17; refine K1.out.mono ?_; rintro e w' ⟨rfl, rfl⟩)
    go_ret
    rw [hf]
    exact ⟨rfl, rfl⟩
  have a1' : okN s = true := by simpa using a1
  rw [a1'] at k1
  have K1 := Lib.hid k1
  have K3 := Lib.hid k3
  have K4 := Lib.hid k4
  clear k1 k3 k4
  go_enter Try.func25, Try.ntmps25
  go_wp2_with (go_at_call 17; refine K1.out.mono ?_; rintro e w' ⟨rfl, rfl⟩)
  clear K1
  go_loopw [9] (fun n wr => ∃ k : Nat, k ≤ l.length ∧ n = .int .i64 k ∧ Hid (∀ (j : Nat) (hj : j < l.length), j < k → l[j] ≠ s) ∧ wr = w') (fun n _ => l.length - (intOf n).toNat)
  case atStart => exact ⟨0, Nat.zero_le _, rfl, Lib.hid (fun j hj h => by omega), rfl⟩
  case round =>
    obtain ⟨k, hk, rfl, hI, rfl⟩ := hrel
    by_cases hlt : k < l.length
    · rcases HS.out.cases with ⟨h1, _⟩ | ⟨b, o, c, hv1, hA⟩
      · rw [h1] at hlt; simp at hlt
      · cases hv1
        have c1 := hA k hlt
        have HM := Lib.hid (fun e : l[k] = s => show s ∈ l from e ▸ List.getElem_mem hlt)
        have HN := Lib.hid (fun (e : l[k] ≠ s) => show ∀ (j : Nat) (hj : j < l.length), j < k + 1 → l[j] ≠ s from fun j hj hjk => by
          rcases Nat.lt_or_ge j k with h1 | h1
          · exact hI.out j hj h1
          · obtain rfl : j = k := by omega
            exact e)
        clear hA hI
        generalize l[k] = x at *
        by_cases hx : x = s
        · have hf : fre l h s now = 5 := by unfold fre; rw [if_neg a1, if_pos (HM.out hx)]
          have e1 : (x == s) = true := by simpa using hx
          have HF := Lib.hid hf
          clear hf hx
          go_wp2_with fail
          go_ret
          rw [HF.out]
          exact ⟨rfl, rfl⟩
        · have e1 : (x == s) = false := by simpa using hx
          have HN2 := Lib.hid (HN.out hx)
          go_wp2_with fail
          go_roundw
          case rel => exact ⟨k + 1, by omega, by go_num, HN2, trivial⟩
          case measure => simp [intOf]; omega
    · obtain rfl : k = l.length := by omega
      have a2 : s ∉ l := fun hm => by
        obtain ⟨j, hj, he⟩ := List.getElem_of_mem hm
        exact hI.out j hj hj he
      unfold gdV at K3
      clear hI
      cases hg : gd l s with
      | some t =>
        have hf : fre l h s now = 27 := by unfold fre; rw [if_neg a1, if_neg a2, hg]; rfl
        rw [hg] at K3
        have HF := Lib.hid hf
        clear hf a2
        go_wp2_with (go_at_call 12; refine K3.out.mono ?_; rintro e w2 ⟨rfl, rfl⟩)
        go_ret
        rw [HF.out]
        exact ⟨rfl, rfl⟩
      | none =>
        rw [hg] at K3
        have hg2 : (gd l s).isSome = false := by rw [hg]; rfl
        cases hb : hld h s now with
        | true =>
          have hf : fre l h s now = 31 := by unfold fre; rw [if_neg a1, if_neg a2, hg2, hb]; rfl
          rw [hb] at K4
          have HF := Lib.hid hf
          clear hf a2
          go_wp2_with (first | (go_at_call 12; refine K3.out.mono ?_; rintro e w2 ⟨rfl, rfl⟩) | (go_at_call 23; refine K4.out.mono ?_; rintro e w3 ⟨rfl, rfl⟩))
          go_ret
          rw [HF.out]
          exact ⟨rfl, rfl⟩
        | false =>
          have hf : fre l h s now = 0 := by unfold fre; rw [if_neg a1, if_neg a2, hg2, hb]; rfl
          rw [hb] at K4
          have HF := Lib.hid hf
          clear hf a2
          go_wp2_with (first | (go_at_call 12; refine K3.out.mono ?_; rintro e w2 ⟨rfl, rfl⟩) | (go_at_call 23; refine K4.out.mono ?_; rintro e w3 ⟨rfl, rfl⟩))
          go_ret
          rw [HF.out]
          exact ⟨rfl, rfl⟩
end Go.Proofs.Ytfhbgfoebppbaaa
