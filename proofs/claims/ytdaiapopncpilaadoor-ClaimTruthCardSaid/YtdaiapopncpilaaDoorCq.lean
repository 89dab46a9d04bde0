/-
  ClaimTruth, for all lists.
-/
import Derived.Test.YtdaiapopncpilaaDoorCz
namespace Go.Proofs.YtdaiapopncpilaaDoor
open Go.RowKit

set_option maxHeartbeats 1000000 in
set_option maxRecDepth 100000 in
theorem truth_not (ua : Option Addr) (uc : Nat) (va : Option Addr) (vc : Nat) (xa : Option Addr) (xc : Nat) (l g keys : Nat) (c : C) (w : World) (h : 8 < l ∨ 6 < g ∨ 6 < keys) (ht : Tab w) :
    Calls Tryd.prog 7 #[.slice ua l uc, .slice va g vc, .slice xa keys xc, c.v] w fun e w' => e = .returned (.bool true) ∧ Fr w w' := by
  have HF1 := Lib.hid (Fr.alloc w (.cells #[.int .i64 c.k, .int .i64 c.n, .int .i64 c.t, .string (S c.s)] 23))
  have HT1 := Lib.hid (ht.fr HF1.out)
  clear ht
  unfold C.v
  by_cases h1 : 8 < l
  · go_enter Tryd.func7, Tryd.ntmps7
    go_wp2_with fail
    refine (small_any _ HT1.out).mono ?_
    rintro e w2 ⟨rfl, hf2⟩
    go_wp2_with fail
    go_ret
    exact ⟨rfl, HF1.out.trans hf2⟩
  · by_cases h2 : 6 < g
    · go_enter Tryd.func7, Tryd.ntmps7
      go_wp2_with fail
      refine (small_any _ HT1.out).mono ?_
      rintro e w2 ⟨rfl, hf2⟩
      go_wp2_with fail
      go_ret
      exact ⟨rfl, HF1.out.trans hf2⟩
    · have h3 : 6 < keys := by omega
      go_enter Tryd.func7, Tryd.ntmps7
      go_wp2_with fail
      refine (small_any _ HT1.out).mono ?_
      rintro e w2 ⟨rfl, hf2⟩
      go_wp2_with fail
      go_ret
      exact ⟨rfl, HF1.out.trans hf2⟩
theorem truth_any (u v x : Value) (l : List Txt) (g : List UInt8) (keys : List Txt) (c : C) (w : World)
    (hu : IsSl w u (strs l)) (hv : IsSl w v (bys g)) (hx : IsSl w x (strs keys)) (_ : l.length ≤ maxLen) (_ : g.length ≤ maxLen) (_ : keys.length ≤ maxLen)
    (hs : ∀ z ∈ l, z.length ≤ maxLen) (hks : ∀ z ∈ keys, z.length ≤ maxLen) (hc : c.fits) (ht : Tab w) :
    Calls Tryd.prog 7 #[u, v, x, c.v] w fun e w' => e = .returned (.bool true) ∧ Fr w w' := by
  obtain ⟨ua, uc, rfl⟩ := hu.len
  obtain ⟨va, vc, rfl⟩ := hv.len
  obtain ⟨xa, xc, rfl⟩ := hx.len
  rw [strs_len] at hu hx
  rw [bys_len] at hv
  rw [strs_len, strs_len, bys_len]
  by_cases h : 8 < l.length ∨ 6 < g.length ∨ 6 < keys.length
  · exact truth_not ua uc va vc xa xc l.length g.length keys.length c w h ht
  · exact truth_few ua uc va vc xa xc l g keys c w hu hv hx (by omega) (by omega) (by omega) (fun z hz => by have := hs z hz; unfold maxLen at this; omega) (fun z hz => by have := hks z hz; unfold maxLen at this; omega) hc ht
end Go.Proofs.YtdaiapopncpilaaDoor
