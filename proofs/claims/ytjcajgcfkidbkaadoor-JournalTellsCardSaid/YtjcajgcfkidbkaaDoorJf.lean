/-
  The laws' helpers: the operations (OP), few and texts.
-/
import Derived.Test.YtjcajgcfkidbkaaDoorJs
namespace Go.Proofs.YtjcajgcfkidbkaaDoor
open Go.RowKit

/-- An operation, and the list that its slice reads as. -/
structure OP where
  k : Int
  str : ByteArray
  n : Int
  v : Value
  ks : List Int
def OP.l (a : OP) : List UInt8 := a.str.data.toList
/-- Element of a slice of operations. -/
structure OAt (w : World) (b o : Nat) (a : OP) : Prop where
  c0 : w.cell? ⟨b, o, none⟩ = some (.int .i64 a.k)
  c1 : w.cell? ⟨b, o + 1, none⟩ = some (.string a.str)
  c2 : w.cell? ⟨b, o + 2, none⟩ = some (.int .i64 a.n)
  c3 : w.cell? ⟨b, o + 3, none⟩ = some a.v
  ints : Ints w a.v a.ks
  n0 : -9223372036854775808 ≤ a.n
  n : a.n ≤ 9223372036854775807
theorem Ints.fr {w w' : World} {v : Value} {ks : List Int} (h : Ints w v ks) (hf : Fr w w') : Ints w' v ks := h.frame (fun _ _ _ hp => hf.block hp)
theorem OAt.fr {w w' : World} {b o : Nat} {a : OP} (h : OAt w b o a) (hf : Fr w w') : OAt w' b o a :=
  ⟨hf.cell h.c0, hf.cell h.c1, hf.cell h.c2, hf.cell h.c3, h.ints.fr hf, h.n0, h.n⟩
/-- A slice of operations. -/
def Opl (w : World) (v : Value) (l : List OP) : Prop :=
  (l = [] ∧ ∃ a c, v = .slice a 0 c) ∨ ∃ b o c, v = .slice (some ⟨b, o, none⟩) l.length c ∧ ∀ k (h : k < l.length), OAt w b (o + k * 4) l[k]
theorem Opl.form {W : World} {v : Value} {l : List OP} (h : Opl W v l) : ∃ a c, v = .slice a l.length c := by
  rcases h with ⟨rfl, a, c, rfl⟩ | ⟨b, o, c, rfl, _⟩
  · exact ⟨a, c, rfl⟩
  · exact ⟨_, c, rfl⟩
theorem Opl.get {W : World} {a : Option Addr} {n c : Nat} {l : List OP} (h : Opl W (.slice a n c) l) (k : Nat) (hk : k < l.length) : ∃ b o, a = some ⟨b, o, none⟩ ∧ OAt W b (o + k * 4) l[k] := by
  rcases h with ⟨rfl, _⟩ | ⟨b, o, c', e, h⟩
  · simp at hk
  · simp only [Value.slice.injEq] at e
    exact ⟨b, o, e.1, h k hk⟩
/-- Within the bounds of few. -/
def OP.few (a : OP) : Prop := a.l.length ≤ 200 ∧ a.ks.length ≤ 50
instance (a : OP) : Decidable a.few := by unfold OP.few; exact inferInstance
def fewB (l : List OP) : Bool := decide (l.length ≤ 25 ∧ ∀ a ∈ l, a.few)
theorem fewB_true {l : List OP} (h : fewB l = true) : l.length ≤ 25 ∧ ∀ a ∈ l, a.few := of_decide_eq_true h
theorem fewB_one {l : List OP} {a : OP} (hm : a ∈ l) (h : ¬ a.few) : fewB l = false := decide_eq_false (fun hh => h (hh.2 a hm))
theorem fewB_all {l : List OP} (h : ∀ a ∈ l, a.few) : decide (((l.length : Nat) : Int) ≤ 25) = fewB l := by
  unfold fewB
  by_cases c : l.length ≤ 25
  · rw [decide_eq_true (by omega), decide_eq_true ⟨c, h⟩]
  · rw [decide_eq_false (by omega), decide_eq_false (fun hh => c hh.1)]

set_option maxRecDepth 100000 in
theorem few_nil (a : Option Addr) (c : Nat) (w : World) :
    Calls Tryd.prog 9 #[.slice a 0 c] w fun e w' => e = .returned (.bool (fewB [])) ∧ Fr w w' := by
  go_enter Tryd.func9, Tryd.ntmps9
  go_wp2_with fail
  go_loopw [3] (fun i wr => i = .int .i64 0 ∧ Fr w wr) (fun _ _ => 0)
  case atStart => exact ⟨rfl, Fr.refl _⟩
  case round =>
    obtain ⟨rfl, hwr⟩ := hrel
    go_wp2_with fail
    go_ret
    exact ⟨rfl, hwr⟩

set_option maxHeartbeats 2000000 in
set_option maxRecDepth 100000 in
theorem few_at (b o c : Nat) (l : List OP) (w : World) (hm : l.length ≤ 9223372036854775807) (hat : ∀ (k : Nat) (h : k < l.length), OAt w b (o + k * 4) l[k]) :
    Calls Tryd.prog 9 #[.slice (some ⟨b, o, none⟩) l.length c] w fun e w' => e = .returned (.bool (fewB l)) ∧ Fr w w' := by
  have HA := Lib.hid hat
  clear hat
  go_enter Tryd.func9, Tryd.ntmps9
  go_wp2_with fail
  go_loopw [3] (fun i wr => ∃ (k : Nat), k ≤ l.length ∧ i = .int .i64 k ∧ (∀ (j : Nat) (h : j < l.length), j < k → l[j].few) ∧ Fr w wr) (fun i _ => l.length - (intOf i).toNat)
  case atStart => exact ⟨0, Nat.zero_le _, rfl, fun j _ h => absurd h (by omega), Fr.refl _⟩
  case round =>
    obtain ⟨k, hk, rfl, hfew, hwr⟩ := hrel
    have HF := Lib.hid hfew
    clear hfew
    by_cases hlt : k < l.length
    · have hat := (HA.out k hlt).fr hwr
      generalize hvv : l[k] = a at *
      have HV := Lib.hid hvv
      have HMEM : Hid (a ∈ l) := by rw [← hvv]; exact List.getElem_mem hlt
      clear hvv
      obtain ⟨ka, kc, hks⟩ := hat.ints.form
      have c2 := hat.c1
      have c4 := hat.c3
      rw [hks] at c4
      have hsz : a.str.size = a.l.length := by unfold OP.l; rw [Array.length_toList]; rfl
      obtain ⟨str, hstr⟩ : ∃ str, str = a.str := ⟨_, rfl⟩
      obtain ⟨sl, hsl⟩ : ∃ sl, sl = a.l.length := ⟨_, rfl⟩
      obtain ⟨kl, hkl⟩ : ∃ kl, kl = a.ks.length := ⟨_, rfl⟩
      rw [← hstr] at c2 hsz
      rw [← hsl] at hsz
      rw [← hkl] at c4
      have HSL := Lib.hid hsl
      have HKL := Lib.hid hkl
      clear hat hks hstr hsl hkl
      by_cases h1 : (sl : Int) > 200
      · have HNF := Lib.hid (fewB_one HMEM.out (fun hf => by have := hf.1; have := HSL.out; omega))
        go_wp2_with fail
        go_ret
        exact ⟨by rw [HNF.out]; rfl, hwr⟩
      by_cases h2 : (kl : Int) > 50
      · have HNF := Lib.hid (fewB_one HMEM.out (fun hf => by have := hf.2; have := HKL.out; omega))
        go_wp2_with fail
        go_ret
        exact ⟨by rw [HNF.out]; rfl, hwr⟩
      go_wp2_with fail
      go_roundw
      case rel =>
        refine ⟨k + 1, by omega, by go_num, fun j h hj => ?_, hwr⟩
        rcases Nat.lt_or_ge j k with h1 | h1
        · exact HF.out j h h1
        · obtain rfl : j = k := by omega
          rw [HV.out]
          have := HSL.out; have := HKL.out
          exact ⟨by omega, by omega⟩
      case measure => simp [intOf]; omega
    · have HALL : Hid (∀ v ∈ l, v.few) := fun v hv => by
        obtain ⟨j, hj, rfl⟩ := List.mem_iff_getElem.1 hv
        exact HF.out j hj (by omega)
      have HRES := Lib.hid (fewB_all HALL.out)
      go_wp2_with fail
      go_ret
      exact ⟨congrArg (fun b => Ending.returned (.bool b)) HRES.out, hwr⟩
set_option maxRecDepth 100000 in
theorem few_any (v : Value) (l : List OP) (w : World) (h : Opl w v l) (hm : l.length ≤ 9223372036854775807) :
    Calls Tryd.prog 9 #[v] w fun e w' => e = .returned (.bool (fewB l)) ∧ Fr w w' := by
  rcases h with ⟨rfl, a, c, rfl⟩ | ⟨b, o, c, rfl, h⟩
  · exact few_nil a c w
  · exact few_at b o c l w hm h

/-! ### texts -/
def textsB (l : List (List UInt8)) : Bool := decide (l.length ≤ 8 ∧ ∀ a ∈ l, a.length ≤ 200)
theorem textsB_true {l : List (List UInt8)} (h : textsB l = true) : l.length ≤ 8 ∧ ∀ a ∈ l, a.length ≤ 200 := of_decide_eq_true h
theorem textsB_one {l : List (List UInt8)} {a : List UInt8} (hm : a ∈ l) (h : ¬ a.length ≤ 200) : textsB l = false := decide_eq_false (fun hh => h (hh.2 a hm))
theorem textsB_all {l : List (List UInt8)} (h : ∀ a ∈ l, a.length ≤ 200) : decide (((l.length : Nat) : Int) ≤ 8) = textsB l := by
  unfold textsB
  by_cases c : l.length ≤ 8
  · rw [decide_eq_true (by omega), decide_eq_true ⟨c, h⟩]
  · rw [decide_eq_false (by omega), decide_eq_false (fun hh => c hh.1)]
set_option maxRecDepth 100000 in
theorem texts_nil (a : Option Addr) (c : Nat) (w : World) :
    Calls Tryd.prog 36 #[.slice a 0 c] w fun e w' => e = .returned (.bool (textsB [])) ∧ Fr w w' := by
  go_enter Tryd.func36, Tryd.ntmps36
  go_wp2_with fail
  go_loopw [3] (fun i wr => i = .int .i64 0 ∧ Fr w wr) (fun _ _ => 0)
  case atStart => exact ⟨rfl, Fr.refl _⟩
  case round =>
    obtain ⟨rfl, hwr⟩ := hrel
    go_wp2_with fail
    go_ret
    exact ⟨rfl, hwr⟩
set_option maxRecDepth 100000 in
theorem texts_at (b o c : Nat) (l : List (List UInt8)) (w : World) (hm : l.length ≤ 9223372036854775807) (hat : ∀ (k : Nat) (h : k < l.length), w.cell? ⟨b, o + k, none⟩ = some (.string (S l[k]))) :
    Calls Tryd.prog 36 #[.slice (some ⟨b, o, none⟩) l.length c] w fun e w' => e = .returned (.bool (textsB l)) ∧ Fr w w' := by
  have HA := Lib.hid hat
  clear hat
  go_enter Tryd.func36, Tryd.ntmps36
  go_wp2_with fail
  go_loopw [3] (fun i wr => ∃ (k : Nat), k ≤ l.length ∧ i = .int .i64 k ∧ (∀ (j : Nat) (h : j < l.length), j < k → l[j].length ≤ 200) ∧ Fr w wr) (fun i _ => l.length - (intOf i).toNat)
  case atStart => exact ⟨0, Nat.zero_le _, rfl, fun j _ h => absurd h (by omega), Fr.refl _⟩
  case round =>
    obtain ⟨k, hk, rfl, hfew, hwr⟩ := hrel
    have HF := Lib.hid hfew
    clear hfew
    by_cases hlt : k < l.length
    · have hat := hwr.cell (HA.out k hlt)
      generalize hvv : l[k] = a at *
      have HV := Lib.hid hvv
      have HMEM : Hid (a ∈ l) := by rw [← hvv]; exact List.getElem_mem hlt
      clear hvv
      by_cases h1 : (a.length : Int) > 200
      · have HNF := Lib.hid (textsB_one HMEM.out (by omega))
        go_wp2_with fail
        go_ret
        exact ⟨by rw [HNF.out]; rfl, hwr⟩
      go_wp2_with fail
      go_roundw
      case rel =>
        refine ⟨k + 1, by omega, by go_num, fun j h hj => ?_, hwr⟩
        rcases Nat.lt_or_ge j k with h1 | h1
        · exact HF.out j h h1
        · obtain rfl : j = k := by omega
          rw [HV.out]; omega
      case measure => simp [intOf]; omega
    · have HALL : Hid (∀ v ∈ l, v.length ≤ 200) := fun v hv => by
        obtain ⟨j, hj, rfl⟩ := List.mem_iff_getElem.1 hv
        exact HF.out j hj (by omega)
      have HRES := Lib.hid (textsB_all HALL.out)
      go_wp2_with fail
      go_ret
      exact ⟨congrArg (fun b => Ending.returned (.bool b)) HRES.out, hwr⟩
theorem sl_get {w : World} {v : Value} {l : List (List UInt8)} (h : IsSl w v (l.map fun z => .string (S z))) : (l = [] ∧ ∃ a c, v = .slice a 0 c) ∨ ∃ b o c, v = .slice (some ⟨b, o, none⟩) l.length c ∧ ∀ (k : Nat) (h : k < l.length), w.cell? ⟨b, o + k, none⟩ = some (.string (S l[k])) := by
  rcases h with ⟨h0, h1⟩ | ⟨b, o, c, rfl, h⟩
  · exact .inl ⟨by simpa using h0, h1⟩
  · exact .inr ⟨b, o, c, by rw [List.length_map], fun k hk => h k _ (by simp [hk])⟩
set_option maxRecDepth 100000 in
theorem texts_any (v : Value) (l : List (List UInt8)) (w : World) (h : IsSl w v (l.map fun z => .string (S z))) (hm : l.length ≤ 9223372036854775807) :
    Calls Tryd.prog 36 #[v] w fun e w' => e = .returned (.bool (textsB l)) ∧ Fr w w' := by
  rcases sl_get h with ⟨rfl, a, c, rfl⟩ | ⟨b, o, c, rfl, h2⟩
  · exact texts_nil a c w
  · exact texts_at b o c l w hm h2
end Go.Proofs.YtjcajgcfkidbkaaDoor
