/-
  Contracts: SameTexts at equal lists.
-/
import Derived.Test.YtjcajgcfkidbkaaDoorRdr2
import Derived.Deep.RegionHeld3
namespace Go.Proofs.YtjcajgcfkidbkaaDoor
open Go.RowKit

/-- A read at which the value is known to stand. -/
theorem Got.at {α : Type} {T b : Nat} {E : Wm.Enc α} {r q : List UInt8} {f : Bool} {x : α → Value} {z : Value} {e : Ending} {w' : World} {v : α} (h : Got T b E r f x z e w') (hE : E.Pf) (hv : E.dom v) (hr : r = E.f v ++ q) : e = .returned (x v) ∧ Rd T b q f w' := by
  rcases h with ⟨u, r', hu, he, rfl, hrd⟩ | ⟨hn, _, _⟩
  · obtain ⟨rfl, rfl⟩ := hE _ _ _ _ hv hu (hr ▸ he)
    exact ⟨rfl, hrd⟩
  · exact absurd hr (hn _ _ hv)
set_option maxHeartbeats 400000 in
set_option maxRecDepth 100000 in
theorem sameTexts_at (b o c b' o' c' : Nat) (xs : List (List UInt8)) (w : World) (h1 : ∀ i x, (xs.map (fun z => Value.string (S z)))[i]? = some x → w.cell? ⟨b, o + i, none⟩ = some x) (h2 : ∀ i x, (xs.map (fun z => Value.string (S z)))[i]? = some x → w.cell? ⟨b', o' + i, none⟩ = some x) (hn : xs.length ≤ 4611686018427387904) :
    Calls Tryd.prog 28 #[.slice (some ⟨b, o, none⟩) xs.length c, .slice (some ⟨b', o', none⟩) xs.length c'] w fun e w' => e = .returned (.bool true) ∧ Fr w w' := by
  have H1 := Lib.hid h1
  have H2 := Lib.hid h2
  clear h1 h2
  go_enter Tryd.func28, Tryd.ntmps28
  go_wp2_with fail
  go_loopw [5] (fun i wr => ∃ k : Nat, k ≤ xs.length ∧ i = .int .i64 k ∧ Fr w wr) (fun i _ => xs.length - (intOf i).toNat)
  case atStart => exact ⟨0, Nat.zero_le _, rfl, Fr.refl _⟩
  case round =>
    obtain ⟨k, hk, rfl, hwr⟩ := hrel
    by_cases hlt : k < xs.length
    · have c1 := hwr.cell (H1.out k (.string (S xs[k])) (by simp [hlt]))
      have c2 := hwr.cell (H2.out k (.string (S xs[k])) (by simp [hlt]))
      generalize xs[k] = x at *
      go_wp2_with fail
      go_quiet (fail)
      have hq := hwr.trans (Fr.drewN wr nq)
      generalize wr.drewN nq = w2 at *
      clear c1 c2 hwr
      go_wp2_with fail
      go_roundw
      case rel => exact ⟨k + 1, by omega, by go_num, hq⟩
      case measure => simp [intOf]; omega
    · go_wp2_with fail
      go_ret
      exact ⟨rfl, hwr⟩
set_option maxRecDepth 100000 in
theorem same_nil' (a a' : Option Addr) (c c' : Nat) (w : World) :
    Calls Tryd.prog 28 #[.slice a 0 c, .slice a' 0 c'] w fun e w' => e = .returned (.bool true) ∧ Fr w w' := by
  go_enter Tryd.func28, Tryd.ntmps28
  go_wp2_with fail
  go_loopw [5] (fun i wr => i = .int .i64 0 ∧ wr = w) (fun _ _ => 0)
  case atStart => exact ⟨rfl, rfl⟩
  case round =>
    obtain ⟨rfl, rfl⟩ := hrel
    go_wp2_with fail
    go_ret
    exact ⟨rfl, Fr.refl _⟩
set_option maxRecDepth 100000 in
theorem sameTexts_any (u v : Value) (xs : List (List UInt8)) (w : World) (h1 : IsSl w u (xs.map (fun z => Value.string (S z)))) (h2 : IsSl w v (xs.map (fun z => Value.string (S z)))) (hn : xs.length ≤ 4611686018427387904) :
    Calls Tryd.prog 28 #[u, v] w fun e w' => e = .returned (.bool true) ∧ Fr w w' := by
  rcases h1 with ⟨h0, a, c, rfl⟩ | ⟨b, o, c, rfl, hc⟩
  · obtain rfl : xs = [] := by simpa using h0
    obtain ⟨a', c', rfl⟩ := h2.len
    exact same_nil' a a' c c' w
  · rcases h2 with ⟨h0, a', c', rfl⟩ | ⟨b', o', c', rfl, hc'⟩
    · obtain rfl : xs = [] := by simpa using h0
      exact same_nil' _ a' c c' w
    · rw [List.length_map]
      exact sameTexts_at b o c b' o' c' xs w hc hc' hn
end Go.Proofs.YtjcajgcfkidbkaaDoor
