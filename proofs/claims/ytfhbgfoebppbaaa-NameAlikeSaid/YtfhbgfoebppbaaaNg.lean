/-
  Slices of names and of holds; Guard, Held, slices.Contains, Free.
-/
import Derived.Test.YtfhbgfoebppbaaaNf
namespace Go.Proofs.Ytfhbgfoebppbaaa
open Go.RowKit

/-- A list of strings as cells. -/
def strs (l : List Txt) : List Value := l.map fun z => Value.string (S z)
theorem strs_len (l : List Txt) : (strs l).length = l.length := by simp [strs]
theorem strs_app (l m : List Txt) : strs (l ++ m) = strs l ++ strs m := by simp [strs]
/-- The strings of a list lie from place o of block b on. -/
def At (w : World) (b o : Nat) (l : List Txt) : Prop := ∀ (i : Nat) (h : i < l.length), w.cell? ⟨b, o + i, none⟩ = some (.string (S l[i]))
theorem At.fr {w w' : World} {b o : Nat} {l : List Txt} (h : At w b o l) (hf : Fr w w') : At w' b o l := fun i hi => hf.cell (h i hi)
theorem At.of {w : World} {b o : Nat} {l : List Txt} (h : ∀ i x, (strs l)[i]? = some x → w.cell? ⟨b, o + i, none⟩ = some x) : At w b o l := fun i hi =>
  h i _ (by unfold strs; rw [List.getElem?_map, List.getElem?_eq_getElem hi]; rfl)
/-- A slice of strings: empty, or strings at an address. -/
def Sl (w : World) (v : Value) (l : List Txt) : Prop := (l = [] ∧ ∃ a c, v = .slice a 0 c) ∨ ∃ b o c, v = .slice (some ⟨b, o, none⟩) l.length c ∧ At w b o l ∧ l.length ≤ c
theorem Sl.fr {w w' : World} {v : Value} {l : List Txt} (h : Sl w v l) (hf : Fr w w') : Sl w' v l := by
  rcases h with h | ⟨b, o, c, hv, hc, hl⟩
  · exact .inl h
  · exact .inr ⟨b, o, c, hv, hc.fr hf, hl⟩
theorem Sl.cases {w : World} {v : Value} {l : List Txt} (h : Sl w v l) : (l = [] ∧ ∃ a c, v = .slice a 0 c) ∨ ∃ b o c, v = .slice (some ⟨b, o, none⟩) l.length c ∧ At w b o l := by
  rcases h with h | ⟨b, o, c, rfl, hc, _⟩
  · exact .inl h
  · exact .inr ⟨b, o, c, rfl, hc⟩
theorem Sl.len {w : World} {v : Value} {l : List Txt} (h : Sl w v l) : ∃ a c, v = .slice a l.length c := by
  rcases h.cases with ⟨rfl, a, c, rfl⟩ | ⟨b, o, c, rfl, _⟩
  · exact ⟨a, c, rfl⟩
  · exact ⟨_, _, rfl⟩
theorem Sl.nil (w : World) (a : Option Addr) (c : Nat) : Sl w (.slice a 0 c) [] := .inl ⟨rfl, _, _, rfl⟩
theorem Sl.own {B n : Nat} {w : World} {v : Value} {l : List Txt} (h : w.ownsRow B 9 1 v n (strs l)) : Sl w v l := by
  have hl := h.1
  rw [strs_len] at hl
  rcases h.2 with ⟨rfl, hx⟩ | ⟨g, cap, cur, rfl, hB, hg, hn, _, hs, ht⟩
  · have h0 : l = [] := List.length_eq_zero_iff.1 (by omega)
    exact .inl ⟨h0, none, 0, rfl⟩
  · refine .inr ⟨g, 0, cap, by rw [hl, Nat.mul_one], .of fun i x hx => ?_, by omega⟩
    rw [Lib.cell_of_heap hg, Nat.zero_add]
    rw [← ht, List.getElem?_take] at hx
    split at hx
    · simpa using hx
    · cases hx
/-- What is asked of a list of names. -/
structure Ok (l : List Txt) : Prop where
  len : l.length ≤ 1000000
  mem : ∀ t ∈ l, t.length ≤ 1099511627776

/-- The holds of a list lie from place o of block b on. -/
def HAt (w : World) (b o : Nat) (l : List Hd) : Prop := ∀ (i : Nat) (h : i < l.length), w.cell? ⟨b, o + i * 2, none⟩ = some (.string (S l[i].1)) ∧ w.cell? ⟨b, o + i * 2 + 1, none⟩ = some (.int .i64 l[i].2)
theorem HAt.fr {w w' : World} {b o : Nat} {l : List Hd} (h : HAt w b o l) (hf : Fr w w') : HAt w' b o l := fun i hi => ⟨hf.cell (h i hi).1, hf.cell (h i hi).2⟩
/-- A slice of holds: empty, or holds at an address. -/
def Hl (w : World) (v : Value) (l : List Hd) : Prop := (l = [] ∧ ∃ a c, v = .slice a 0 c) ∨ ∃ b o c, v = .slice (some ⟨b, o, none⟩) l.length c ∧ HAt w b o l
theorem Hl.fr {w w' : World} {v : Value} {l : List Hd} (h : Hl w v l) (hf : Fr w w') : Hl w' v l := by
  rcases h with h | ⟨b, o, c, hv, hc⟩
  · exact .inl h
  · exact .inr ⟨b, o, c, hv, hc.fr hf⟩
theorem Hl.len {w : World} {v : Value} {l : List Hd} (h : Hl w v l) : ∃ a c, v = .slice a l.length c := by
  rcases h with ⟨rfl, a, c, rfl⟩ | ⟨b, o, c, rfl, _⟩
  · exact ⟨a, c, rfl⟩
  · exact ⟨_, _, rfl⟩
theorem Hl.nil (w : World) (a : Option Addr) (c : Nat) : Hl w (.slice a 0 c) [] := .inl ⟨rfl, _, _, rfl⟩
structure HOk (l : List Hd) : Prop where
  len : l.length ≤ 1000000
  mem : ∀ t ∈ l, t.1.length ≤ 1099511627776

theorem gd_drop {l : List Txt} {k : Nat} (hk : k < l.length) (s : Txt) : gd (l.drop k) s = if cf l[k] s then some l[k] else gd (l.drop (k + 1)) s := by
  rw [List.drop_eq_getElem_cons hk]
  unfold gd
  rw [List.find?_cons]
  cases cf l[k] s <;> rfl
/-- What Guard returns. -/
def gdV (o : Option Txt) : Value := .tuple #[.string (S (o.getD [])), .bool o.isSome]
set_option maxRecDepth 100000 in
set_option maxHeartbeats 1000000 in
theorem guard_at (b o c : Nat) (l : List Txt) (s : Txt) (w : World) (h : At w b o l) (hl : Ok l) (hs : s.length ≤ 1099511627776) :
    Calls Try.prog 11 #[.slice (some ⟨b, o, none⟩) l.length c, .string (S s)] w fun e w' => e = .returned (gdV (gd l s)) ∧ Fr w w' := by
  have H := Lib.hid h
  have HL := Lib.hid hl
  have hb := hl.len
  clear h hl
  go_enter Try.func11, Try.ntmps11
  go_wp2_with (go_at_call 18; refine (skel_any s _ hs).mono ?_; rintro e w1 ⟨rfl, hf1⟩; have HF := Lib.hid hf1; clear hf1)
  go_loopw [13, 8] (fun n _ wr => ∃ k : Nat, k ≤ l.length ∧ n = .int .i64 k ∧ Hid (gd l s = gd (l.drop k) s) ∧ wr = w1) (fun n _ _ => l.length - (intOf n).toNat)
  case atStart => exact ⟨0, Nat.zero_le _, rfl, Lib.hid rfl, rfl⟩
  case round =>
    obtain ⟨k, hk, rfl, hE, rfl⟩ := hrel
    by_cases hlt : k < l.length
    · have c1 := HF.out.cell (H.out k hlt)
      have hx := HL.out.mem _ (List.getElem_mem hlt)
      have hd := gd_drop hlt s
      unfold cf at hd
      have HD := Lib.hid (hE.out.trans hd)
      clear hE hd
      generalize l[k] = x at *
      by_cases hc : sk x = sk s
      · have hres : gd l s = some x := by have := HD.out; rwa [decide_eq_true hc] at this
        have HR := Lib.hid hres
        have hcall := fun w => has_any x (sk s) w hx
        rw [decide_eq_true hc] at hcall
        have HC := Lib.hid hcall
        clear HD hres hcall hc
        go_wp2_with (go_at_call 26; refine (HC.out _).mono ?_; rintro e w2 ⟨rfl, rfl⟩)
        go_ret2
        rw [HR.out]
        exact ⟨rfl, HF.out⟩
      · have hres : gd l s = gd (l.drop (k + 1)) s := by have := HD.out; rwa [decide_eq_false hc] at this
        have HR := Lib.hid hres
        have hcall := fun w => has_any x (sk s) w hx
        rw [decide_eq_false hc] at hcall
        have HC := Lib.hid hcall
        clear HD hres hcall hc
        go_wp2_with (go_at_call 26; refine (HC.out _).mono ?_; rintro e w2 ⟨rfl, rfl⟩)
        go_roundw
        case rel => exact ⟨k + 1, by omega, by go_num, HR, trivial⟩
        case measure => simp [intOf]; omega
    · have hkl : k = l.length := by omega
      have hres : gd l s = none := by have := hE.out; rw [hkl, List.drop_length] at this; exact this
      have HR := Lib.hid hres
      clear hE hres
      go_wp2_with fail
      go_ret2
      rw [HR.out]
      exact ⟨rfl, HF.out⟩
set_option maxRecDepth 100000 in
theorem guard_nil (a : Option Addr) (c : Nat) (s : Txt) (w : World) (hs : s.length ≤ 1099511627776) :
    Calls Try.prog 11 #[.slice a 0 c, .string (S s)] w fun e w' => e = .returned (gdV (gd [] s)) ∧ Fr w w' := by
  go_enter Try.func11, Try.ntmps11
  go_wp2_with (go_at_call 18; refine (skel_any s _ hs).mono ?_; rintro e w1 ⟨rfl, hf1⟩; have HF := Lib.hid hf1; clear hf1)
  go_loopw [13, 8] (fun n _ wr => n = .int .i64 0 ∧ wr = w1) (fun _ _ _ => 0)
  case atStart => exact ⟨rfl, rfl⟩
  case round =>
    obtain ⟨rfl, rfl⟩ := hrel
    go_wp2_with fail
    go_ret2
    exact ⟨rfl, HF.out⟩
theorem guard_any (v : Value) (l : List Txt) (s : Txt) (w : World) (h : Sl w v l) (hl : Ok l) (hs : s.length ≤ 1099511627776) :
    Calls Try.prog 11 #[v, .string (S s)] w fun e w' => e = .returned (gdV (gd l s)) ∧ Fr w w' := by
  rcases h.cases with ⟨rfl, a, c, rfl⟩ | ⟨b, o, c, rfl, hc⟩
  · exact guard_nil a c s w hs
  · exact guard_at b o c l s w hc hl hs
end Go.Proofs.Ytfhbgfoebppbaaa
