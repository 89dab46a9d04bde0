/-
  The law's helper: few.
-/
import Derived.Test.YtpjoekjakjajcaaDo
namespace Go.Proofs.Ytpjoekjakjajcaa
open Go.RowKit

/-- Element k of a slice of acts. -/
structure At (w : World) (b o : Nat) (a : AC) : Prop where
  c0 : w.cell? ⟨b, o, none⟩ = some (.int .i64 a.k)
  c1 : w.cell? ⟨b, o + 1, none⟩ = some (.int .i64 a.f)
  c2 : w.cell? ⟨b, o + 2, none⟩ = some (.int .i64 a.n)
  c3 : w.cell? ⟨b, o + 3, none⟩ = some (.string a.str)
  c4 : w.cell? ⟨b, o + 4, none⟩ = some a.v
  ints : Ints w a.v a.ks
  n0 : -9223372036854775808 ≤ a.n
  n : a.n ≤ 9223372036854775807
  f0 : -9223372036854775808 ≤ a.f
  f : a.f ≤ 9223372036854775807
theorem Ints.fr {w w' : World} {v : Value} {ks : List Int} (h : Ints w v ks) (hf : Fr w w') : Ints w' v ks := h.frame (fun _ _ _ hp => hf.block hp)
theorem At.fr {w w' : World} {b o : Nat} {a : AC} (h : At w b o a) (hf : Fr w w') : At w' b o a :=
  ⟨hf.cell h.c0, hf.cell h.c1, hf.cell h.c2, hf.cell h.c3, hf.cell h.c4, h.ints.fr hf, h.n0, h.n, h.f0, h.f⟩
/-- A slice of acts. -/
def Acts (w : World) (v : Value) (l : List AC) : Prop :=
  (l = [] ∧ ∃ a c, v = .slice a 0 c) ∨ ∃ b o c, v = .slice (some ⟨b, o, none⟩) l.length c ∧ ∀ k (h : k < l.length), At w b (o + k * 5) l[k]
/-- Within the bounds of few. -/
def AC.few (a : AC) : Prop := a.l.length ≤ 300 ∧ a.ks.length ≤ 60 ∧ (a.n ≤ 3000 ∨ 16776916 ≤ a.n)
instance (a : AC) : Decidable a.few := by unfold AC.few; exact inferInstance
def fewB (l : List AC) : Bool := decide (l.length ≤ 40 ∧ ∀ a ∈ l, a.few)
theorem fewB_true {l : List AC} (h : fewB l = true) : l.length ≤ 40 ∧ ∀ a ∈ l, a.few := of_decide_eq_true h
theorem fewB_one {l : List AC} {a : AC} (hm : a ∈ l) (h : ¬ a.few) : fewB l = false := decide_eq_false (fun hh => h (hh.2 a hm))
theorem fewB_all {l : List AC} (h : ∀ a ∈ l, a.few) : decide (((l.length : Nat) : Int) ≤ 40) = fewB l := by
  unfold fewB
  by_cases c : l.length ≤ 40
  · rw [decide_eq_true (by omega), decide_eq_true ⟨c, h⟩]
  · rw [decide_eq_false (by omega), decide_eq_false (fun hh => c hh.1)]

theorem few_nil (a : Option Addr) (c : Nat) (w : World) :
    Calls Try.prog 9 #[.slice a 0 c] w fun e w' => e = .returned (.bool (fewB [])) ∧ Fr w w' := by
  go_enter Try.func9, Try.ntmps9
  go_wp2_with fail
  go_loopw [3] (fun i wr => i = .int .i64 0 ∧ Fr w wr) (fun _ _ => 0)
  case atStart => exact ⟨rfl, Fr.refl _⟩
  case round =>
    obtain ⟨rfl, hwr⟩ := hrel
    go_wp2_with fail
    go_ret
    exact ⟨rfl, hwr⟩

set_option maxHeartbeats 2000000 in
theorem few_at (b o c : Nat) (l : List AC) (w : World) (hm : l.length ≤ 9223372036854775807) (hat : ∀ (k : Nat) (h : k < l.length), At w b (o + k * 5) l[k]) :
    Calls Try.prog 9 #[.slice (some ⟨b, o, none⟩) l.length c] w fun e w' => e = .returned (.bool (fewB l)) ∧ Fr w w' := by
  have HA := Lib.hid hat
  clear hat
  go_enter Try.func9, Try.ntmps9
  go_wp2_with fail
  go_loopw [3] (fun i wr => ∃ (k : Nat), k ≤ l.length ∧ i = .int .i64 k ∧ (∀ (j : Nat) (h : j < l.length), j < k → l[j].few) ∧ Fr w wr) (fun i _ => l.length - (intOf i).toNat)
  case atStart => exact ⟨0, Nat.zero_le _, rfl, fun j _ h => absurd h (by omega), Fr.refl _⟩
  case round =>
    obtain ⟨k, hk, rfl, hfew, hwr⟩ := hrel
    have HF := Lib.hid hfew
    clear hfew
    by_cases hlt : k < l.length
    · have hat := (HA.out k hlt).fr hwr
      generalize hvv : l[k] = a at *
      have HV := Lib.hid hvv
      have HMEM : Hid (a ∈ l) := by rw [← hvv]; exact List.getElem_mem hlt
      clear hvv
      obtain ⟨ka, kc, hks⟩ := hat.ints.form
      have c2 := hat.c2
      have c3 := hat.c3
      have c4 := hat.c4
      rw [hks] at c4
      have hsz : a.str.size = a.l.length := by unfold AC.l; rw [Array.length_toList]; rfl
      obtain ⟨str, hstr⟩ : ∃ str, str = a.str := ⟨_, rfl⟩
      obtain ⟨sl, hsl⟩ : ∃ sl, sl = a.l.length := ⟨_, rfl⟩
      obtain ⟨kl, hkl⟩ : ∃ kl, kl = a.ks.length := ⟨_, rfl⟩
      obtain ⟨n, hn⟩ : ∃ n, n = a.n := ⟨_, rfl⟩
      rw [← hstr] at c3 hsz
      rw [← hsl] at hsz
      rw [← hkl] at c4
      rw [← hn] at c2
      have HSL := Lib.hid hsl
      have HKL := Lib.hid hkl
      have HN := Lib.hid hn
      clear hat hks hstr hsl hkl hn
      by_cases h1 : (sl : Int) > 300
      · have HNF := Lib.hid (fewB_one HMEM.out (fun hf => by have := hf.1; have := HSL.out; omega))

        go_wp2_with fail
        go_ret
        exact ⟨by rw [HNF.out]; rfl, hwr⟩
      by_cases h2 : (kl : Int) > 60
      · have HNF := Lib.hid (fewB_one HMEM.out (fun hf => by have := hf.2.1; have := HKL.out; omega))
        go_wp2_with fail
        go_ret
        exact ⟨by rw [HNF.out]; rfl, hwr⟩
      by_cases h3 : n > 3000
      · by_cases h4 : n < 16776916
        · have HNF := Lib.hid (fewB_one HMEM.out (fun hf => by have := hf.2.2; have := HN.out; omega))
          go_wp2_with fail
          go_ret
          exact ⟨by rw [HNF.out]; rfl, hwr⟩
        · go_wp2_with fail
          go_roundw
          case rel =>
            refine ⟨k + 1, by omega, by go_num, fun j h hj => ?_, hwr⟩
            rcases Nat.lt_or_ge j k with h1 | h1
            · exact HF.out j h h1
            · obtain rfl : j = k := by omega
              rw [HV.out]
              have := HSL.out; have := HKL.out; have := HN.out
              exact ⟨by omega, by omega, by omega⟩
          case measure => simp [intOf]; omega
      · go_wp2_with fail
        go_roundw
        case rel =>
          refine ⟨k + 1, by omega, by go_num, fun j h hj => ?_, hwr⟩
          rcases Nat.lt_or_ge j k with h1 | h1
          · exact HF.out j h h1
          · obtain rfl : j = k := by omega
            rw [HV.out]
            have := HSL.out; have := HKL.out; have := HN.out
            exact ⟨by omega, by omega, by omega⟩
        case measure => simp [intOf]; omega
    · have HALL : Hid (∀ v ∈ l, v.few) := fun v hv => by
        obtain ⟨j, hj, rfl⟩ := List.mem_iff_getElem.1 hv
        exact HF.out j hj (by omega)
      have HRES := Lib.hid (fewB_all HALL.out)
      go_wp2_with fail
      go_ret
      exact ⟨congrArg (fun b => Ending.returned (.bool b)) HRES.out, hwr⟩
theorem few_any (v : Value) (l : List AC) (w : World) (h : Acts w v l) (hm : l.length ≤ 9223372036854775807) :
    Calls Try.prog 9 #[v] w fun e w' => e = .returned (.bool (fewB l)) ∧ Fr w w' := by
  rcases h with ⟨rfl, a, c, rfl⟩ | ⟨b, o, c, rfl, h⟩
  · exact few_nil a c w
  · exact few_at b o c l w hm h
end Go.Proofs.Ytpjoekjakjajcaa
