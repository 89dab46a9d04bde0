/-
  Slices of ints: Has, Count, Ints, only, isSet.
-/
import Derived.Test.YtddeblcoglhdnaaKa
namespace Go.Proofs.Ytddeblcoglhdnaa
open Go.RowKit

/-- The ints of a list lie from place o of block b on. -/
def At (w : World) (b o : Nat) (l : List Int) : Prop := ∀ (i : Nat) (h : i < l.length), w.cell? ⟨b, o + i, none⟩ = some (.int .i64 l[i])
theorem At.fr {w w' : World} {b o : Nat} {l : List Int} (h : At w b o l) (hf : Fr w w') : At w' b o l := fun i hi => hf.cell (h i hi)
/-- A slice of ints: empty, or ints at an address. -/
def Sl (w : World) (v : Value) (l : List Int) : Prop := (l = [] ∧ ∃ a c, v = .slice a 0 c) ∨ ∃ b o c, v = .slice (some ⟨b, o, none⟩) l.length c ∧ At w b o l ∧ l.length ≤ c
theorem Sl.fr {w w' : World} {v : Value} {l : List Int} (h : Sl w v l) (hf : Fr w w') : Sl w' v l := by
  rcases h with h | ⟨b, o, c, hv, hc, hl⟩
  · exact .inl h
  · exact .inr ⟨b, o, c, hv, hc.fr hf, hl⟩
theorem Sl.cases {w : World} {v : Value} {l : List Int} (h : Sl w v l) : (l = [] ∧ ∃ a c, v = .slice a 0 c) ∨ ∃ b o c, v = .slice (some ⟨b, o, none⟩) l.length c ∧ At w b o l := by
  rcases h with h | ⟨b, o, c, rfl, hc, _⟩
  · exact .inl h
  · exact .inr ⟨b, o, c, rfl, hc⟩
theorem Sl.len {w : World} {v : Value} {l : List Int} (h : Sl w v l) : ∃ a c, v = .slice a l.length c := by
  rcases h.cases with ⟨rfl, a, c, rfl⟩ | ⟨b, o, c, rfl, _⟩
  · exact ⟨a, c, rfl⟩
  · exact ⟨_, _, rfl⟩
theorem Sl.nil (w : World) (a : Option Addr) (c : Nat) : Sl w (.slice a 0 c) [] := .inl ⟨rfl, _, _, rfl⟩
def ints (l : List Int) : List Value := l.map fun x => Value.int .i64 x
theorem ints_len (l : List Int) : (ints l).length = l.length := by simp [ints]
theorem ints_app (l m : List Int) : ints (l ++ m) = ints l ++ ints m := by simp [ints]
theorem At.of {w : World} {b o : Nat} {l : List Int} (h : ∀ i x, (ints l)[i]? = some x → w.cell? ⟨b, o + i, none⟩ = some x) : At w b o l := fun i hi =>
  h i _ (by unfold ints; rw [List.getElem?_map, List.getElem?_eq_getElem hi]; rfl)
theorem Sl.own {B n : Nat} {w : World} {v : Value} {l : List Int} (h : w.ownsRow B 3 1 v n (ints l)) : Sl w v l := by
  have hl := h.1
  rw [ints_len] at hl
  rcases h.2 with ⟨rfl, hx⟩ | ⟨g, cap, cur, rfl, hB, hg, hn, _, hs, ht⟩
  · have h0 : l = [] := List.length_eq_zero_iff.1 (by omega)
    exact .inl ⟨h0, none, 0, rfl⟩
  · refine .inr ⟨g, 0, cap, by rw [hl, Nat.mul_one], .of fun i x hx => ?_, by omega⟩
    rw [Lib.cell_of_heap hg, Nat.zero_add]
    rw [← ht, List.getElem?_take] at hx
    split at hx
    · simpa using hx
    · cases hx
/-- What is asked of a list of numbers. -/
structure Ok (l : List Int) : Prop where
  len : l.length ≤ 1000000
  rng : ∀ x ∈ l, -9223372036854775808 ≤ x ∧ x ≤ 9223372036854775807
theorem Ok.get {l : List Int} (h : Ok l) {k : Nat} (hk : k < l.length) : -9223372036854775808 ≤ l[k] ∧ l[k] ≤ 9223372036854775807 := h.rng _ (List.getElem_mem hk)
theorem Ok.nil : Ok [] := ⟨by decide, by simp⟩

theorem mem_drop {l : List Int} {k : Nat} (hk : k < l.length) (x : Int) : decide (x ∈ l.drop k) = (decide (l[k] = x) || decide (x ∈ l.drop (k + 1))) := by
  rw [List.drop_eq_getElem_cons hk, Bool.eq_iff_iff]
  simp only [List.mem_cons, Bool.or_eq_true, decide_eq_true_eq]
  exact ⟨fun h => h.imp Eq.symm id, fun h => h.imp Eq.symm id⟩
set_option maxRecDepth 100000 in
set_option maxHeartbeats 1000000 in
theorem has_at (b o c : Nat) (l : List Int) (x : Int) (w : World) (h : At w b o l) (hl : l.length ≤ 1000000) :
    Calls Try.prog 35 #[.slice (some ⟨b, o, none⟩) l.length c, .int .i64 x] w fun e w' => e = .returned (.bool (decide (x ∈ l))) ∧ w' = w := by
  have H := Lib.hid h
  clear h
  go_enter Try.func35, Try.ntmps35
  go_wp2_with fail
  go_loopw [5] (fun n wr => ∃ k : Nat, k ≤ l.length ∧ n = .int .i64 k ∧ Hid (decide (x ∈ l) = decide (x ∈ l.drop k)) ∧ wr = w) (fun n _ => l.length - (intOf n).toNat)
  case atStart => exact ⟨0, Nat.zero_le _, rfl, Lib.hid rfl, rfl⟩
  case round =>
    obtain ⟨k, hk, rfl, hE, rfl⟩ := hrel
    by_cases hlt : k < l.length
    · have c1 := H.out k hlt
      have HD := Lib.hid (hE.out.trans (mem_drop hlt x))
      clear hE
      generalize l[k] = y at *
      by_cases hc : y = x
      · have HR := Lib.hid (show decide (x ∈ l) = true by have := HD.out; rw [decide_eq_true hc] at this; simpa using this)
        have hc' : (y == x) = true := by simpa using hc
        clear HD hc
        go_wp2_with fail
        go_ret
        rw [HR.out]
        exact ⟨rfl, rfl⟩
      · have HR := Lib.hid (show decide (x ∈ l) = decide (x ∈ l.drop (k + 1)) by have := HD.out; rw [decide_eq_false hc] at this; simpa using this)
        have hc' : (y == x) = false := by simpa using hc
        clear HD hc
        go_wp2_with fail
        go_roundw
        case rel => exact ⟨k + 1, by omega, by go_num, HR, trivial⟩
        case measure => simp [intOf]; omega
    · have hkl : k = l.length := by omega
      have HR := Lib.hid (show decide (x ∈ l) = false by have := hE.out; rw [hkl, List.drop_length] at this; simpa using this)
      clear hE
      go_wp2_with fail
      go_ret
      rw [HR.out]
      exact ⟨rfl, rfl⟩
set_option maxRecDepth 100000 in
theorem has_nil (a : Option Addr) (c : Nat) (x : Int) (w : World) :
    Calls Try.prog 35 #[.slice a 0 c, .int .i64 x] w fun e w' => e = .returned (.bool (decide (x ∈ ([] : List Int)))) ∧ w' = w := by
  go_enter Try.func35, Try.ntmps35
  go_wp2_with fail
  go_loopw [5] (fun n wr => n = .int .i64 0 ∧ wr = w) (fun _ _ => 0)
  case atStart => exact ⟨rfl, rfl⟩
  case round =>
    obtain ⟨rfl, rfl⟩ := hrel
    go_wp2_with fail
    go_ret
    exact ⟨by simp, rfl⟩
theorem has_any (v : Value) (l : List Int) (x : Int) (w : World) (h : Sl w v l) (hl : l.length ≤ 1000000) :
    Calls Try.prog 35 #[v, .int .i64 x] w fun e w' => e = .returned (.bool (decide (x ∈ l))) ∧ w' = w := by
  rcases h.cases with ⟨rfl, a, c, rfl⟩ | ⟨b, o, c, rfl, hc⟩
  · exact has_nil a c x w
  · exact has_at b o c l x w hc hl

theorem eq_drop {a b : List Int} (hl : a.length = b.length) {k : Nat} (hk : k < a.length) : decide (a.drop k = b.drop k) = (decide (a[k] = b[k]'(by omega)) && decide (a.drop (k + 1) = b.drop (k + 1))) := by
  rw [Bool.eq_iff_iff, Bool.and_eq_true, decide_eq_true_eq, decide_eq_true_eq, decide_eq_true_eq, List.drop_eq_getElem_cons hk, List.drop_eq_getElem_cons (by omega : k < b.length), List.cons_eq_cons]
/-- Ints of two slices. -/
theorem ints_any (v u : Value) (a b : List Int) (w : World) (ha : Sl w v a) (hb : Sl w u b) (hn : a.length ≤ 1000000) :
    Calls Try.prog 14 #[v, u] w fun e w' => e = .returned (.bool (decide (a = b))) ∧ Fr w w' := by
  obtain ⟨av, ac, rfl⟩ := ha.len
  obtain ⟨bv, bc, rfl⟩ := hb.len
  by_cases hl : a.length = b.length
  · have HA : Hid (∀ (k : Nat) (hk : k < a.length), ∃ g o, av = some ⟨g, o, none⟩ ∧ w.cell? ⟨g, o + k, none⟩ = some (.int .i64 a[k])) := Lib.hid fun k hk => by
      rcases ha.cases with ⟨rfl, _⟩ | ⟨g, o, c, hv, hc⟩
      · simp at hk
      · cases hv; exact ⟨g, o, rfl, hc k hk⟩
    have HB : Hid (∀ (k : Nat) (hk : k < b.length), ∃ g o, bv = some ⟨g, o, none⟩ ∧ w.cell? ⟨g, o + k, none⟩ = some (.int .i64 b[k])) := Lib.hid fun k hk => by
      rcases hb.cases with ⟨rfl, _⟩ | ⟨g, o, c, hv, hc⟩
      · simp at hk
      · cases hv; exact ⟨g, o, rfl, hc k hk⟩
    have HL := Lib.hid hl
    have h0 : ((a.length : Int) != (b.length : Int)) = false := by simp [hl]
    rw [← hl] at h0 ⊢
    clear ha hb hl
    go_enter Try.func14, Try.ntmps14
    go_wp2_with fail
    go_loopw [5] (fun n wr => ∃ k : Nat, k ≤ a.length ∧ n = .int .i64 k ∧ Hid (decide (a = b) = decide (a.drop k = b.drop k)) ∧ Hid (Fr w wr)) (fun n _ => a.length - (intOf n).toNat)
    case atStart => exact ⟨0, Nat.zero_le _, rfl, Lib.hid rfl, Lib.hid (Fr.refl _)⟩
    case round =>
      obtain ⟨k, hk, rfl, hE, hF⟩ := hrel
      by_cases hlt : k < a.length
      · obtain ⟨g1, o1, rfl, c1'⟩ := HA.out k hlt
        obtain ⟨g2, o2, rfl, c2'⟩ := HB.out k (by have := HL.out; omega)
        have c1 := hF.out.cell c1'
        have c2 := hF.out.cell c2'
        clear c1' c2'
        have HD := Lib.hid (hE.out.trans (eq_drop HL.out hlt))
        clear hE HA HB
        generalize a[k] = y at *
        generalize hz : b[k]'(by have := HL.out; omega) = z at *
        clear hz
        by_cases hc : y = z
        · have HR := Lib.hid (show decide (a = b) = decide (a.drop (k + 1) = b.drop (k + 1)) by have := HD.out; rw [decide_eq_true hc] at this; simpa using this)
          have hc' : (y != z) = false := by simpa using hc
          clear HD hc
          go_wp2_with fail
          go_quiet (fail)
          go_wp2_with fail
          go_roundw
          case rel => exact ⟨k + 1, by omega, by go_num, HR, Lib.hid (hF.out.trans (Fr.drewN _ _))⟩
          case measure => simp [intOf]; omega
        · have HR := Lib.hid (show decide (a = b) = false by have := HD.out; rw [decide_eq_false hc] at this; simpa using this)
          have hc' : (y != z) = true := by simpa using hc
          clear HD hc
          go_wp2_with fail
          go_quiet (fail)
          go_wp2_with fail
          go_ret
          rw [HR.out]
          exact ⟨rfl, hF.out.trans (Fr.drewN _ _)⟩
      · have hkl : k = a.length := by omega
        have HR := Lib.hid (show decide (a = b) = true by have := hE.out; rw [hkl, List.drop_length, HL.out, List.drop_length] at this; simpa using this)
        clear hE
        go_wp2_with fail
        go_ret
        rw [HR.out]
        exact ⟨rfl, hF.out⟩
  · have hd : decide (a = b) = false := by simp; rintro rfl; exact hl rfl
    have h0 : ((a.length : Int) != (b.length : Int)) = true := by simp; omega
    rw [hd]
    clear ha hb hl hd
    go_enter Try.func14, Try.ntmps14
    go_wp2_with fail
    go_ret
    exact ⟨rfl, Fr.refl _⟩

/-! ### only -/
theorem all_drop {l b : List Int} {k : Nat} (hk : k < l.length) : ((l.drop k).all fun x => decide (x ∈ b)) = (decide (l[k] ∈ b) && (l.drop (k + 1)).all fun x => decide (x ∈ b)) := by
  rw [List.drop_eq_getElem_cons hk, List.all_cons]
theorem only_any (v u : Value) (l b : List Int) (w : World) (hl : Sl w v l) (hb : Sl w u b) (hn : l.length ≤ 1000000) (hm : b.length ≤ 1000000) :
    Calls Try.prog 25 #[v, u] w fun e w' => e = .returned (.bool (l.all fun x => decide (x ∈ b))) ∧ w' = w := by
  obtain ⟨av, ac, rfl⟩ := hl.len
  have HA : Hid (∀ (k : Nat) (hk : k < l.length), ∃ g o, av = some ⟨g, o, none⟩ ∧ w.cell? ⟨g, o + k, none⟩ = some (.int .i64 l[k])) := Lib.hid fun k hk => by
    rcases hl.cases with ⟨rfl, _⟩ | ⟨g, o, c, hv, hc⟩
    · simp at hk
    · cases hv; exact ⟨g, o, rfl, hc k hk⟩
  have HC := Lib.hid fun x => has_any u b x w hb hm
  clear hl hb
  go_enter Try.func25, Try.ntmps25
  go_wp2_with fail
  go_loopw [5] (fun n wr => ∃ k : Nat, k ≤ l.length ∧ n = .int .i64 k ∧ Hid ((l.all fun x => decide (x ∈ b)) = (l.drop k).all fun x => decide (x ∈ b)) ∧ wr = w) (fun n _ => l.length - (intOf n).toNat)
  case atStart => exact ⟨0, Nat.zero_le _, rfl, Lib.hid rfl, rfl⟩
  case round =>
    obtain ⟨k, hk, rfl, hE, rfl⟩ := hrel
    by_cases hlt : k < l.length
    · obtain ⟨g1, o1, rfl, c1⟩ := HA.out k hlt
      have HD := Lib.hid (hE.out.trans (all_drop hlt))
      have HC2 := Lib.hid (HC.out l[k])
      clear hE HA HC
      generalize l[k] = y at *
      generalize decide (y ∈ b) = d at *
      cases d with
      | true =>
        have HR := Lib.hid (show (l.all fun x => decide (x ∈ b)) = (l.drop (k + 1)).all fun x => decide (x ∈ b) by have := HD.out; simpa only [Bool.true_and] using this)
        clear HD
        go_wp2_with (go_at_call 35; refine HC2.out.mono ?_; rintro e w2 ⟨rfl, rfl⟩)
        go_roundw
        case rel => exact ⟨k + 1, by omega, by go_num, HR, trivial⟩
        case measure => simp [intOf]; omega
      | false =>
        have HR := Lib.hid (show (l.all fun x => decide (x ∈ b)) = false by have := HD.out; simpa only [Bool.false_and] using this)
        clear HD
        go_wp2_with (go_at_call 35; refine HC2.out.mono ?_; rintro e w2 ⟨rfl, rfl⟩)
        go_ret
        rw [HR.out]
        exact ⟨rfl, rfl⟩
    · have hkl : k = l.length := by omega
      have HR := Lib.hid (show (l.all fun x => decide (x ∈ b)) = true by have := hE.out; rw [hkl, List.drop_length] at this; simpa using this)
      clear hE
      go_wp2_with fail
      go_ret
      rw [HR.out]
      exact ⟨rfl, rfl⟩

/-! ### isSet -/
set_option maxRecDepth 100000 in
set_option maxHeartbeats 1000000 in
theorem isSet_any (v : Value) (l : List Int) (w : World) (h : Sl w v l) (hl : Ok l) :
    Calls Try.prog 41 #[v] w fun e w' => e = .returned (.bool (isS l)) ∧ w' = w := by
  have HL := Lib.hid hl
  have hn := hl.len
  obtain ⟨av, ac, rfl⟩ := h.len
  by_cases h0 : l.length = 0
  · have hr : isS l = false := by unfold isS; simp [h0]
    have g0 : ((l.length : Int) == 0) = true := by simp [h0]
    rw [hr]
    clear h hl HL h0 hr
    go_enter Try.func41, Try.ntmps41
    go_wp2_with fail
    go_ret
    exact ⟨rfl, rfl⟩
  have g0 : ((l.length : Int) == 0) = false := by rw [beq_eq_false_iff_ne]; omega
  by_cases h12 : 12 < l.length
  · have hr : isS l = false := by unfold isS; rw [decide_eq_false (by omega : ¬ l.length ≤ 12)]; simp
    have g1 : decide ((12 : Int) < (l.length : Int)) = true := decide_eq_true (by omega)
    rw [hr]
    clear h hl HL h0 hr h12
    go_enter Try.func41, Try.ntmps41
    go_wp2_with fail
    go_ret
    exact ⟨rfl, rfl⟩
  have g1 : decide ((12 : Int) < (l.length : Int)) = false := decide_eq_false (by omega)
  have HR := Lib.hid (show isS l = asc (-1) (l.drop 0) by
    unfold isS
    rw [decide_eq_true (by omega : 0 < l.length), decide_eq_true (by omega : l.length ≤ 12)]
    simp)
  have HA : Hid (∀ (k : Nat) (hk : k < l.length), ∃ g o, av = some ⟨g, o, none⟩ ∧ w.cell? ⟨g, o + k, none⟩ = some (.int .i64 l[k])) := Lib.hid fun k hk => by
    rcases h.cases with ⟨rfl, _⟩ | ⟨g, o, c, hv, hc⟩
    · simp at hk
    · cases hv; exact ⟨g, o, rfl, hc k hk⟩
  clear h hl h0 h12
  go_enter Try.func41, Try.ntmps41
  go_wp2_with fail
  go_loopw [16, 3] (fun n la wr => ∃ (k : Nat) (a : Int), k ≤ l.length ∧ n = .int .i64 k ∧ la = .int .i64 a ∧ Hid (isS l = asc a (l.drop k)) ∧ wr = w) (fun n _ _ => l.length - (intOf n).toNat)
  case atStart => exact ⟨0, -1, Nat.zero_le _, rfl, rfl, HR, rfl⟩
  case round =>
    obtain ⟨k, a, hk, rfl, rfl, hE, rfl⟩ := hrel
    by_cases hlt : k < l.length
    · obtain ⟨g1, o1, rfl, c1⟩ := HA.out k hlt
      have HD := Lib.hid (show isS l = (decide (a < l[k]) && decide (l[k] < 200) && asc l[k] (l.drop (k + 1))) by
        have := hE.out; rw [List.drop_eq_getElem_cons hlt] at this; exact this)
      clear hE HA HR
      generalize l[k] = y at *
      by_cases hc : a < y
      · have k1 : decide (y ≤ a) = false := by simp; omega
        by_cases hd : y < 200
        · have k2 : decide ((200 : Int) ≤ y) = false := by simp; omega
          have HN := Lib.hid (show isS l = asc y (l.drop (k + 1)) by have := HD.out; rw [decide_eq_true hc, decide_eq_true hd] at this; simpa using this)
          clear HD hc hd
          go_wp2_with fail
          go_roundw
          case rel => exact ⟨k + 1, y, by omega, by go_num, rfl, HN, trivial⟩
          case measure => simp [intOf]; omega
        · have k2 : decide ((200 : Int) ≤ y) = true := by simp; omega
          have HN := Lib.hid (show isS l = false by have := HD.out; rw [decide_eq_true hc, decide_eq_false hd] at this; simpa using this)
          clear HD hc hd
          go_wp2_with fail
          go_ret
          rw [HN.out]
          exact ⟨rfl, rfl⟩
      · have k1 : decide (y ≤ a) = true := by simp; omega
        have HN := Lib.hid (show isS l = false by have := HD.out; rw [decide_eq_false hc] at this; simpa using this)
        clear HD hc
        go_wp2_with fail
        go_ret
        rw [HN.out]
        exact ⟨rfl, rfl⟩
    · have hkl : k = l.length := by omega
      have HN := Lib.hid (show isS l = true by have := hE.out; rw [hkl, List.drop_length] at this; exact this)
      clear hE
      go_wp2_with fail
      go_ret
      rw [HN.out]
      exact ⟨rfl, rfl⟩
end Go.Proofs.Ytddeblcoglhdnaa
